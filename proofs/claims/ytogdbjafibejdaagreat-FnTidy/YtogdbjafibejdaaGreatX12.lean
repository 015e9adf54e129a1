/- A region that draws its order, and whose calls may make memory but write nothing that was there: one walk, in the order of the text. -/
import Derived.Test.YtogdbjafibejdaaGreatX0
import Derived.BigQuiet
import Derived.Test.YtogdbjafibejdaaGreatX9
import Derived.Test.YtogdbjafibejdaaGreatX11
import Derived.Test.YtogdbjafibejdaaGreatX10
namespace Go.Proofs.YtogdbjafibejdaaGreat
open Go.RowKit
set_option maxRecDepth 100000
set_option linter.unusedVariables false

/-- A world in which the blocks below B are as in w0. -/
def Wd (B : Nat) (w0 : World) : Type := { w : World // Below B w0 w }
def Wd.w {B : Nat} {w0 : World} (n : Wd B w0) : World := n.1
theorem Wd.below {B : Nat} {w0 : World} (n : Wd B w0) : Below B w0 n.w := n.2
theorem Wd.of {B : Nat} {w0 w : World} (h : ∃ n : Wd B w0, w = n.w) : Below B w0 w := by
  obtain ⟨n, rfl⟩ := h
  exact n.below
theorem Wd.any (B : Nat) (w0 : World) : Nonempty (Wd B w0) := ⟨⟨w0, Below.refl _ _⟩⟩

theorem wp_region_below {P : Program} {id : Nat} {Q : Exit → Act → World → Prop} {a : Act} {w w0 : World} {B : Nat} {l : List Oper} (hm : P.follows .mixedOrders = true) (hB : Region.lexB .any l.toArray = true)
    (hb : Below B w0 w) (h : wpQuiet P l.toArray (fun w' => ∃ n : Wd B w0, w' = n.w) (fun a' => ∀ w', (∃ n : Wd B w0, w' = n.w) → Q .normal a' w') l a) : (Code.region id l.toArray true).wp P Q a w :=
  wp_region_quiet (C := fun w' => ∃ n : Wd B w0, w' = n.w) hm hB ⟨⟨_, hb.trans (below_drewN 1)⟩, rfl⟩ (by simpa using h)

theorem quiet_below {P : Program} {f : FuncId} {args : Array Value} {B : Nat} {w0 : World} {n : Wd B w0} {v : Value}
    (h : Calls P f args n.w fun e w' => e = .returned v ∧ Below n.w.heap.size n.w w') (hB : B ≤ w0.heap.size) : Calls P f args n.w fun e w'' => e = .returned v ∧ ∃ m : Wd B w0, w'' = m.w :=
  h.mono fun _ _ ⟨he, hb⟩ => ⟨he, ⟨_, n.below.trans (hb.mono (Nat.le_trans hB n.below.size))⟩, rfl⟩
end Go.Proofs.YtogdbjafibejdaaGreat

/- Contracts of the laws' helpers on lists of attributes: held against each other, measured. -/
namespace Go.Proofs.YtogdbjafibejdaaGreat
open Go.RowKit
set_option maxRecDepth 100000
set_option linter.unusedVariables false

theorem toList_ne {a b : ByteArray} (h : a ≠ b) : (a.toList == b.toList) = false := by
  rw [beq_eq_false_iff_ne]
  exact fun e => h ((toList_eq_iff a b).mp e)

theorem pairCells_name (rs : List (ByteArray × ByteArray)) (k : Nat) (h : k < rs.length) : (pairCells rs).getD (k * 2) undef = .string rs[k].1 := by
  induction rs generalizing k with
  | nil => simp at h
  | cons r rs ih =>
    cases k with
    | zero => simp [pairCells]
    | succ k =>
      have := ih k (by simpa using h)
      have e : (k + 1) * 2 = k * 2 + 1 + 1 := by omega
      simp only [pairCells, List.flatMap_cons, List.cons_append, List.nil_append, e, List.getD_cons_succ, List.getElem_cons_succ] at this ⊢
      exact this
theorem pairCells_value (rs : List (ByteArray × ByteArray)) (k : Nat) (h : k < rs.length) : (pairCells rs).getD (k * 2 + 1) undef = .string rs[k].2 := by
  induction rs generalizing k with
  | nil => simp at h
  | cons r rs ih =>
    cases k with
    | zero => simp [pairCells]
    | succ k =>
      have := ih k (by simpa using h)
      have e : (k + 1) * 2 + 1 = k * 2 + 1 + 1 + 1 := by omega
      simp only [pairCells, List.flatMap_cons, List.cons_append, List.nil_append, e, List.getD_cons_succ, List.getElem_cons_succ] at this ⊢
      exact this

theorem eqAttr_any (a b : ByteArray × ByteArray) (w : World) : Calls Tryz.prog 201 #[.agg #[.string a.1, .string a.2], .agg #[.string b.1, .string b.2]] w fun e w' => e = .returned (.bool (decide (a = b))) ∧ Below w.heap.size w w' := by
  obtain ⟨an, ap⟩ := a
  obtain ⟨bn, bp⟩ := b
  simp only
  have b2 : Below w.heap.size w ((w.alloc (.cells #[.string an, .string ap] 115)).alloc (.cells #[.string bn, .string bp] 115)) := ((Below.refl _ _).alloc (Nat.le_refl _) _).alloc (by simp) _
  by_cases hn : an = bn
  · subst hn
    by_cases hp : ap = bp
    · subst hp
      go_enter Tryz.func201, Tryz.ntmps201
      go_wp2
      go_ret
      exact ⟨ret_bool (by simp), b2⟩
    · have hd := toList_ne hp
      go_enter Tryz.func201, Tryz.ntmps201
      go_wp2
      go_ret
      exact ⟨ret_bool (by simp [hp]), b2⟩
  · have hd := toList_ne hn
    go_enter Tryz.func201, Tryz.ntmps201
    go_wp2
    go_ret
    exact ⟨ret_bool (by simp [hn]), b2⟩

/-- A cell of a slice of pairs, by its number. -/
theorem Sv.pair {w : World} {v : Value} {rs : List (ByteArray × ByteArray)} (h : Sv 2 w v (pairCells rs)) : ∃ a cap, v = .slice a rs.length cap ∧ rs.length ≤ cap ∧ cap ≤ maxLen ∧
    ∀ k (hk : k < rs.length), ∃ b off, a = some ⟨b, off, none⟩ ∧ b < w.heap.size ∧ w.cell? ⟨b, off + k * 2, none⟩ = some (.string rs[k].1) ∧ w.cell? ⟨b, off + k * 2 + 1, none⟩ = some (.string rs[k].2) := by
  obtain ⟨a, len, cap, rfl, h1, h2, h3, h4, hc⟩ := h
  have hl := pairCells_len rs
  have hlen : len = rs.length := by omega
  subst hlen
  refine ⟨a, cap, rfl, h2, h3, fun k hk => ?_⟩
  obtain ⟨b, off, rfl, c0⟩ := hc (k * 2) (by omega)
  obtain ⟨b', off', e, c1⟩ := hc (k * 2 + 1) (by omega)
  injection e with e
  cases e
  rw [pairCells_name _ _ hk] at c0
  rw [pairCells_value _ _ hk] at c1
  have hlt : b < w.heap.size := by
    by_cases hlt : b < w.heap.size
    · exact hlt
    · exfalso; simp [World.cell?, Array.getElem?_eq_none (Nat.le_of_not_lt hlt)] at c0
  exact ⟨b, off, rfl, hlt, c0, c1⟩

set_option maxHeartbeats 2000000 in
set_option maxRecDepth 100000 in
theorem eqAttrS_any {va vb : Value} {rs qs : List (ByteArray × ByteArray)} {w : World} (ha : Sv 2 w va (pairCells rs)) (hb : Sv 2 w vb (pairCells qs)) (hn : rs.length ≤ 1099511627776) (hm : qs.length ≤ 1099511627776) :
    Calls Tryz.prog 178 #[va, vb] w fun e w' => e = .returned (.bool (decide (rs = qs))) ∧ Below w.heap.size w w' := by
  obtain ⟨a, ca, rfl, _, _, hca⟩ := ha.pair
  obtain ⟨b, cb, rfl, _, _, hcb⟩ := hb.pair
  clear ha hb
  by_cases hl : rs.length = qs.length
  · have hn2 : ((rs.length : Int) != (qs.length : Int)) = false := by simp [hl]
    go_enter Tryz.func178, Tryz.ntmps178
    go_wp2
    go_loopw [5] (fun i wr => ∃ k : Nat, k ≤ rs.length ∧ i = .int .i64 k ∧ rs.take k = qs.take k ∧ Below w.heap.size w wr) (fun i _ => rs.length - (intOf i).toNat)
    case atStart => exact ⟨0, Nat.zero_le _, rfl, rfl, Below.refl _ _⟩
    case round =>
      obtain ⟨k, hk, rfl, he, bel⟩ := hrel
      have HE := (show Hid _ from he)
      clear he
      by_cases hlt : k < rs.length
      · have hlt' : k < qs.length := by omega
        obtain ⟨b1, o1, rfl, l1, c1, c2⟩ := hca k hlt
        obtain ⟨b2, o2, rfl, l2, c3, c4⟩ := hcb k hlt'
        have g1 : ∀ n : Wd w.heap.size w, n.w.cell? ⟨b1, o1 + k * 2, none⟩ = some (.string rs[k].1) := fun n => (n.below.cell (p := ⟨b1, o1 + k * 2, none⟩) l1).trans c1
        have g2 : ∀ n : Wd w.heap.size w, n.w.cell? ⟨b1, o1 + k * 2 + 1, none⟩ = some (.string rs[k].2) := fun n => (n.below.cell (p := ⟨b1, o1 + k * 2 + 1, none⟩) l1).trans c2
        have g3 : ∀ n : Wd w.heap.size w, n.w.cell? ⟨b2, o2 + k * 2, none⟩ = some (.string qs[k].1) := fun n => (n.below.cell (p := ⟨b2, o2 + k * 2, none⟩) l2).trans c3
        have g4 : ∀ n : Wd w.heap.size w, n.w.cell? ⟨b2, o2 + k * 2 + 1, none⟩ = some (.string qs[k].2) := fun n => (n.below.cell (p := ⟨b2, o2 + k * 2 + 1, none⟩) l2).trans c4
        have HT : Hid (rs[k] = qs[k] → rs.take (k + 1) = qs.take (k + 1)) := fun e => by rw [List.take_succ_eq_append_getElem hlt, List.take_succ_eq_append_getElem hlt', HE.out, e]
        have HF : Hid (rs[k] ≠ qs[k] → rs ≠ qs) := fun e h => e (by subst h; rfl)
        obtain ⟨x, hx⟩ : ∃ x, x = rs[k] := ⟨_, rfl⟩
        obtain ⟨y, hy⟩ : ∃ y, y = qs[k] := ⟨_, rfl⟩
        rw [← hx] at g1 g2 HT HF
        rw [← hy] at g3 g4 HT HF
        clear hx hy c1 c2 c3 c4
        have cc := fun w => eqAttr_any x y w
        obtain ⟨p, hp⟩ : ∃ p, p = decide (x = y) := ⟨_, rfl⟩
        rw [← hp] at cc
        have CC := (show Hid _ from cc)
        have HP := (show Hid (p = decide (x = y)) from hp)
        clear cc hp
        have ne := Wd.any w.heap.size w
        go_wp2
        refine wp_region_below (by kernel_rfl) (by kernel_rfl) bel ?_
        repeat (go_big_quiet_step ((go_at_call 201; exact quiet_below (CC.out _) (Nat.le_refl _))))
        refine wpQuiet_nil ?_
        intro wq hq
        replace hq := Wd.of hq
        cases p
        · have hxy : Hid (x ≠ y) := (show x ≠ y by simpa using HP.out.symm)
          go_wp2
          go_ret
          exact ⟨ret_bool (by rw [decide_eq_false (HF.out hxy.out)]), hq⟩
        · have hxy : Hid (x = y) := (show x = y by simpa using HP.out.symm)
          go_wp2
          go_roundw
          case rel => exact ⟨k + 1, by omega, by go_num, HT.out hxy.out, hq⟩
          case measure => simp [intOf]; omega
      · have hke : k = rs.length := by omega
        have hab : rs = qs := by have := HE.out; rw [hke, List.take_length, hl, List.take_length] at this; exact this
        go_wp2
        go_ret
        exact ⟨ret_bool (by rw [decide_eq_true hab]), bel⟩
  · have hab : rs ≠ qs := fun e => hl (by rw [e])
    have hn2 : ((rs.length : Int) != (qs.length : Int)) = true := by simp; omega
    rw [decide_eq_false hab]
    go_enter Tryz.func178, Tryz.ntmps178
    go_wp2
    go_ret
    exact ⟨rfl, Below.refl _ _⟩

/-- What is left of a bound behind one pair: below 0, or the pair is no longer than it. -/
theorem szAttr_any (a : ByteArray × ByteArray) (l : Int) (w : World) (h0 : 0 ≤ l) (h1 : l ≤ 1099511627776) (ha : a.1.size ≤ maxLen) (hb : a.2.size ≤ maxLen) : Calls Tryz.prog 199 #[.agg #[.string a.1, .string a.2], .int .i64 l] w fun e w' =>
    ∃ r : Int, e = .returned (.int .i64 r) ∧ (r < 0 ∨ (0 ≤ r ∧ r ≤ l ∧ (a.1.size : Int) + a.2.size ≤ l)) ∧ Below w.heap.size w w' := by
  obtain ⟨an, ap⟩ := a
  simp only at ha hb ⊢
  have b2 : Below w.heap.size w (w.alloc (.cells #[.string an, .string ap] 197)) := (Below.refl _ _).alloc (Nat.le_refl _) _
  unfold maxLen at ha hb
  rcases (show l - an.size < 0 ∨ (0 ≤ l - an.size ∧ l - an.size - ap.size < 0) ∨ (0 ≤ l - an.size ∧ 0 ≤ l - an.size - ap.size) by omega) with h | ⟨h, h'⟩ | ⟨h, h'⟩
  · go_enter Tryz.func199, Tryz.ntmps199
    go_wp2
    go_ret
    exact ⟨_, rfl, .inl (by decide), b2⟩
  · go_enter Tryz.func199, Tryz.ntmps199
    go_wp2
    go_ret
    exact ⟨_, rfl, .inl (by decide), b2⟩
  · go_enter Tryz.func199, Tryz.ntmps199
    go_wp2
    go_ret
    exact ⟨_, rfl, .inr ⟨by omega, by omega, by omega⟩, b2⟩
end Go.Proofs.YtogdbjafibejdaaGreat

/- Contracts of the specification's functions of chapter 2 on one number. No condition. -/
namespace Go.Proofs.YtogdbjafibejdaaGreat
open Go.RowKit
set_option maxRecDepth 100000
set_option linter.unusedVariables false

theorem sblank_any (x : Int) (w : World) : Calls Tryz.prog 151 #[.int .i64 x] w fun e w' => e = .returned (.bool (isBlank x)) ∧ w' = w := by
  go_enter Tryz.func151, Tryz.ntmps151
  go_wp2
  all_goals
    go_ret
    exact ⟨ret_bool (by unfold isBlank; simp_all), rfl⟩

end Go.Proofs.YtogdbjafibejdaaGreat
