/- Slices of structs among the arguments, opened as rows of cells; and a slice of pairs of strings. -/
import Derived.Test.YtggfifchkecnjaaGreatDoorY14
import Derived.ChangeSlices
import Derived.ChangeArms
import Derived.Test.YtggfifchkecnjaaGreatDoorY16
import Derived.Test.YtggfifchkecnjaaGreatDoorY3
namespace Go.Proofs.YtggfifchkecnjaaGreatDoor
open Go.RowKit Go.ChangeShapes Go.WideShapes
set_option maxRecDepth 100000
set_option linter.unusedVariables false

def pairCells (rs : List (ByteArray × ByteArray)) : List Value := rs.flatMap fun r => [.string r.1, .string r.2]
theorem pairCells_len (rs : List (ByteArray × ByteArray)) : (pairCells rs).length = rs.length * 2 := by
  induction rs with
  | nil => rfl
  | cons r rs ih => simp only [pairCells, List.flatMap_cons, List.length_append, List.length_cons, List.length_nil] at ih ⊢; omega

section
variable {H : Type} {enc : TypeId × Value → H} {P : Program} {w : World} {base : Nat} {spare : Nat → Bool} {held : Bool}
end
end Go.Proofs.YtggfifchkecnjaaGreatDoor

/- Contracts of the specification's NameOk, at every string of at most 2^40 bytes. -/
namespace Go.Proofs.YtggfifchkecnjaaGreatDoor
open Go.RowKit
set_option maxRecDepth 100000
set_option linter.unusedVariables false

theorem l1Ok_any (s : ByteArray) (w : World) (hs : s.size ≤ 1099511627776) : Calls Tryz.prog 137 #[.string s] w fun e w' => e = .returned (.bool (utfOk (bs s))) ∧ Below w.heap.size w w' := by
  obtain ⟨cap, w1, hc, hk, hcap, hm, hb⟩ := conv_str s w (by unfold maxLen; omega)
  have hl := bs_len s
  have hsl := hk.sl (n := s.size) (cap := cap) (by omega) (by omega) hm
  have hu := sutfOk_any hsl (bs_byte s) (by omega)
  clear hk
  go_enter Tryz.func137, Tryz.ntmps137
  go_wp2_with fail
  go_at_call 149
  refine hu.mono ?_
  rintro e w2 ⟨rfl, b2⟩
  go_wp2
  go_ret
  exact ⟨rfl, hb.trans (b2.mono hb.size)⟩

end Go.Proofs.YtggfifchkecnjaaGreatDoor

/- The law on append, said of slices of any values, several cells an element, that the call itself made. No condition. -/
namespace Go.Proofs.YtggfifchkecnjaaGreatDoor
open Go.RowKit
set_option maxRecDepth 100000
set_option linter.unusedVariables false

theorem wpList_appV {P : Program} (w : World) {ops : Array Oper} {rest : List Oper} {o : Oper} {a : Act} {Q : Exit → Act → World → Prop} (hgd : o.guard = none)
    (s x : Operand) (t : TypeId) (ho : o.op = Op.call { callee := Callee.builtin Builtin.append, args := #[s, x], argTypes := #[t, t] }) (B : Nat) (e : TypeId) (i : TypeInfo)
    (z : Value) (size bytes : Nat) (ht : P.underlying t = some (TypeDesc.slice e)) (hi : P.info? e = some i) (hz : i.zero = some z) (hsize : i.size = size) (hby : i.bytes = bytes)
    (hzs : z.cells.size = size) (hpos : 0 < size) (v u : Value) (n m : Nat) (xs ys : List Value) (hs : a.eval s = v) (hx : a.eval x = u) (hown : w.ownsRow B e size v n xs) (hu : Sv size w u ys) (hm : ys.length = m * size)
    (h1 : ∀ y ∈ ys, y.oneCell' = true) (hb : (n + m) * bytes ≤ 140737488355328) (h63 : n + m ≤ maxLen) (hbase : B ≤ w.heap.size)
    (h : ∀ (v' : Value) (w' : World), w'.ownsRow B e size v' (n + m) (xs ++ ys) → w.grownBy w' v.ownBlock → wpList P ops Q rest (a.put o.dst v') w') :
    wpList P ops Q (o :: rest) a w := by
  obtain ⟨ao, len, cap, rfl, hl, hlc, hcm, hnone, hc⟩ := hu
  have hlm : len = m := Nat.eq_of_mul_eq_mul_right hpos (hl.symm.trans hm)
  subst hlm
  cases ao with
  | none =>
    have hc0 := hnone rfl
    subst hc0
    have hl0 : len = 0 := by omega
    subst hl0
    have hy : ys = [] := List.length_eq_zero_iff.mp (by omega)
    subst hy
    refine wpList_append_own_none hgd s x t ho B e i size ht hi v n _ hs hown hx (h v w ?_ (World.grownBy.refl _ _))
    rw [List.append_nil]; exact hown
  | some ad =>
    refine wpList_append_own w hgd s x t ho B e i z size bytes ht hi hz hsize hby hzs hpos v n _ hs hown ad len cap ys hx hl ?_ h1 h63 hb hbase ?_
    · intro j y hy
      have hj : j < ys.length := by
        by_cases hj : j < ys.length
        · exact hj
        · rw [List.getElem?_eq_none (Nat.le_of_not_lt hj)] at hy; cases hy
      obtain ⟨b, off, e, c⟩ := hc j hj
      cases e
      have e2 : ys.getD j undef = y := by rw [List.getD_eq_getElem?_getD, hy]; rfl
      rw [e2] at c
      rw [← c]
      by_cases h0 : j = 0
      · subst h0; simp [Addr.add]
      · simp [Addr.add, h0]
    · intro v' w' ho' hg' _
      exact h v' w' ho' hg'
theorem empty_row (w : World) (B : Nat) (e : TypeId) (size : Nat) (hB : B ≤ w.heap.size) : (w.alloc (.cells #[] e)).ownsRow B e size (.slice (some ⟨w.heap.size, 0, none⟩) 0 0) 0 [] := by
  refine ⟨by simp, .inr ⟨w.heap.size, 0, #[], rfl, hB, heap_alloc_new _ _, Nat.le_refl _, Nat.zero_le _, by simp, by simp⟩⟩
end Go.Proofs.YtggfifchkecnjaaGreatDoor

/- What a reference takes is just what it tells: of plain lists. -/
namespace Go.Proofs.YtggfifchkecnjaaGreatDoor
open Go.RowKit
set_option maxRecDepth 100000
set_option linter.unusedVariables false

theorem pointOk_refNumber (x : Int) : pointOk (refNumber x) = true ∧ refNumber x ≠ 0 := by
  unfold refNumber
  by_cases h : x = 0 ∨ pointOk x = false
  · rw [if_pos h]; decide
  · rw [if_neg h]
    by_cases h1 : 128 ≤ x ∧ x ≤ 159
    · rw [inB_yes h1.1 h1.2, if_pos rfl]
      have hk : (x - 128).toNat < 32 := by omega
      generalize (x - 128).toNat = k at hk
      have : ∀ k : Fin 32, pointOk (oldPoints.getD k.1 0) = true ∧ oldPoints.getD k.1 0 ≠ 0 := by decide
      exact this ⟨k, hk⟩
    · rw [inB_no (by omega), if_neg (by decide)]
      refine ⟨?_, fun e => h (.inl e)⟩
      rcases hp : pointOk x with _ | _
      · exact absurd (.inr hp) h
      · rfl

theorem digs_eq {b : Int} {l : List Int} {m : Nat} (h : ∀ k, k < m → 0 ≤ digitOf (l.getD k (-1)) b) (he : digitOf (l.getD m (-1)) b < 0) : digs b l = (List.range m).map fun k => digitOf (l.getD k (-1)) b := by
  induction m generalizing l with
  | zero =>
    cases l with
    | nil => rfl
    | cons c cs => unfold digs; rw [if_neg (by simp at he; omega)]; rfl
  | succ m ih =>
    cases l with
    | nil => have := h 0 (by omega); have := digitOf_neg b; simp at *; omega
    | cons c cs =>
      have h0 := h 0 (by omega)
      unfold digs
      rw [if_pos (by simpa using h0), List.range_succ_eq_map, List.map_cons, List.map_map]
      have e := ih (l := cs) (fun k hk => by have := h (k + 1) (by omega); simpa using this) (by simpa using he)
      rw [e]
      simp [Function.comp_def]

def cut (xs : List Int) (n : Nat) : List Int := xs.take n ++ [32]
theorem cut_lt {xs : List Int} {n j : Nat} (hn : n ≤ xs.length) (hj : j < n) : atL (cut xs n) j = atL xs j := by
  have h1 : j < (xs.take n).length := by simp; omega
  simp only [atL, cut, List.getD_eq_getElem?_getD]
  rw [List.getElem?_append_left h1, List.getElem?_take_of_lt hj]
theorem cut_at {xs : List Int} {n : Nat} (hn : n ≤ xs.length) : atL (cut xs n) n = 32 := by
  have h1 : (xs.take n).length = n := by simp; omega
  simp only [atL, cut, List.getD_eq_getElem?_getD]
  rw [List.getElem?_append_right (by omega), h1, Nat.sub_self]
  rfl
theorem drop_getD (xs : List Int) (f k : Nat) : (xs.drop f).getD k (-1) = atL xs (f + k) := by simp [atL, List.getD_eq_getElem?_getD, List.getElem?_drop]
theorem atL_lt {xs : List Int} {j : Nat} (h : atL xs j ≠ -1) : j < xs.length := by
  by_cases hj : j < xs.length
  · exact hj
  · exact absurd (atL_out (by omega)) h

theorem refDigits_cut {xs : List Int} {b : Int} (hb : b = 10 ∨ b = 16) {f n : Nat} {x : Int} (h : refDigits xs b f = (x, (n : Int))) (h0 : 0 < n) : f < n ∧ n ≤ xs.length ∧ refDigits (cut xs n) b f = (x, (n : Int)) := by
  unfold refDigits at h
  simp only at h
  by_cases hd : digs b (xs.drop f) = []
  · rw [if_pos hd] at h
    have := (Prod.mk.inj h).2
    omega
  · rw [if_neg hd] at h
    obtain ⟨hx, hn⟩ := Prod.mk.inj h
    have hlen : 0 < (digs b (xs.drop f)).length := List.length_pos_iff.mpr hd
    obtain ⟨m, hm⟩ : ∃ m, m = (digs b (xs.drop f)).length := ⟨_, rfl⟩
    have hdl := digs_le b (xs.drop f)
    rw [List.length_drop] at hdl
    have hat : ∀ k, k < m → 0 ≤ digitOf (atL xs (f + k)) b := fun k hk => by have := (digs_at b (xs.drop f) k (by omega)).2; rw [drop_getD] at this; exact this
    have hend := digs_end b (xs.drop f)
    rw [drop_getD, ← hm] at hend
    rw [← hm] at hn hlen hdl
    have hfm : f + m ≤ xs.length := by omega
    have hnn : n = f + m + (if atL xs (f + m) = 59 then 1 else 0) := by omega
    have hnle : n ≤ xs.length := by
      rw [hnn]
      by_cases h59 : atL xs (f + m) = 59
      · rw [if_pos h59]
        have := atL_lt (xs := xs) (j := f + m) (by rw [h59]; decide)
        omega
      · rw [if_neg h59]; omega
    have hfmn : f + m ≤ n := by omega
    refine ⟨by omega, hnle, ?_⟩
    have hat2 : ∀ k, k < m → atL (cut xs n) (f + k) = atL xs (f + k) := fun k hk => cut_lt hnle (by omega)
    have hend2 : digitOf (atL (cut xs n) (f + m)) b < 0 ∧ (atL (cut xs n) (f + m) = 59 ↔ atL xs (f + m) = 59) := by
      by_cases h59 : atL xs (f + m) = 59
      · rw [if_pos h59] at hnn
        rw [cut_lt hnle (by omega)]
        exact ⟨hend, Iff.rfl⟩
      · rw [if_neg h59] at hnn
        have e : f + m = n := by omega
        rw [e, cut_at hnle]
        refine ⟨?_, ?_⟩
        · rcases hb with rfl | rfl <;> decide
        · rw [← e]; exact ⟨fun h => absurd h (by decide), fun h => absurd h h59⟩
    have d1 := digs_eq (b := b) (l := xs.drop f) (m := m) (fun k hk => by rw [drop_getD]; exact hat k hk) (by rw [drop_getD]; exact hend)
    have d2 := digs_eq (b := b) (l := (cut xs n).drop f) (m := m) (fun k hk => by rw [drop_getD, hat2 k hk]; exact hat k hk) (by rw [drop_getD]; exact hend2.1)
    have e12 : digs b ((cut xs n).drop f) = digs b (xs.drop f) := by
      rw [d1, d2]
      apply List.map_congr_left
      intro k hk
      rw [drop_getD, drop_getD, hat2 k (List.mem_range.mp hk)]
    unfold refDigits
    simp only
    rw [e12, if_neg hd, ← hm, hx]
    congr 1
    by_cases h59 : atL xs (f + m) = 59
    · rw [if_pos (hend2.2.mpr h59)]; rw [if_pos h59] at hnn; rw [hnn]
    · rw [if_neg (fun e => h59 (hend2.2.mp e))]; rw [if_neg h59] at hnn; rw [hnn]
end Go.Proofs.YtggfifchkecnjaaGreatDoor

/- The contract of the specification's Refs. -/
namespace Go.Proofs.YtggfifchkecnjaaGreatDoor
open Go.RowKit
set_option maxRecDepth 100000
set_option linter.unusedVariables false

def RefsAt (w : World) (g : Nat) : Prop := ∀ k (hk : k < refList.length), w.cell? ⟨g, k * 2, none⟩ = some (.string refList[k].1) ∧ w.cell? ⟨g, k * 2 + 1, none⟩ = some (.int .i64 refList[k].2)
theorem RefsAt.lt {w : World} {g : Nat} (h : RefsAt w g) : g < w.heap.size := by
  by_cases hl : g < w.heap.size
  · exact hl
  · have := (h 0 (by decide)).1
    simp [World.cell?, Array.getElem?_eq_none (Nat.le_of_not_lt hl)] at this
theorem RefsAt.below {w w' : World} {g : Nat} (h : RefsAt w g) (hb : Below w.heap.size w w') : RefsAt w' g := fun k hk =>
  ⟨(hb.cell (p := ⟨g, k * 2, none⟩) h.lt).trans (h k hk).1, (hb.cell (p := ⟨g, k * 2 + 1, none⟩) h.lt).trans (h k hk).2⟩
theorem RefsAt.same {w w' : World} {g : Nat} (h : RefsAt w g) (e : w'.heap[g]? = w.heap[g]?) : RefsAt w' g := fun k hk => by
  have := h k hk
  simp only [World.cell?, e] at this ⊢
  exact this
theorem RefsAt.set {w : World} {g b k : Nat} {u : Value} (h : RefsAt w g) (hne : g ≠ b) : RefsAt (w.setCell ⟨b, k, none⟩ u) g :=
  h.same (Below.heap_setCell w _ u g hne)
theorem RefsAt.of {w : World} {g : Nat} {cur : Array Value} {t : TypeId} {fr : Nat × Nat} (h : w.heap[g]? = some (.cells cur t fr)) (hc : cur.toList = refCells refList) : RefsAt w g := fun k hk => by
  have at' : ∀ i, i < (refCells refList).length → w.cell? ⟨g, i, none⟩ = some ((refCells refList).getD i undef) := fun i hi => by
    have : cur.toList[i]? = some ((refCells refList).getD i undef) := by rw [hc]; simp [List.getD_eq_getElem?_getD, hi]
    simp only [World.cell?, h]
    simpa using this
  have hl := refCells_len refList
  exact ⟨by rw [at' (k * 2) (by omega), refCells_name _ _ hk], by rw [at' (k * 2 + 1) (by omega), refCells_point _ _ hk]⟩

set_option maxHeartbeats 4000000 in
set_option maxRecDepth 100000 in
theorem srefs_any (w : World) : Calls Tryz.prog 80 #[] w fun e w' => e = .returned (.slice (some ⟨w.heap.size, 0, none⟩) 24 24) ∧ RefsAt w' w.heap.size ∧ Below w.heap.size w w' := by
  go_enter Tryz.func80, Tryz.ntmps80
  go_wp2
  go_ret
  exact ⟨rfl, RefsAt.of (heap_alloc_new _ _) (by kernel_rfl), (Below.refl _ _).alloc (Nat.le_refl _) _⟩
end Go.Proofs.YtggfifchkecnjaaGreatDoor

/- The contract of the specification's reading of a reference by number. -/
namespace Go.Proofs.YtggfifchkecnjaaGreatDoor
open Go.RowKit
set_option maxRecDepth 100000
set_option linter.unusedVariables false

set_option maxHeartbeats 4000000 in
set_option maxRecDepth 100000 in
theorem l3Number_dec {v : Value} {xs : List Int} {w : World} (h : Sl .i64 w v xs) (f : Nat) (hn : xs.length ≤ 1099511627776) (hf : f ≤ 1099511627776) (n1 : atL xs f ≠ 120) (n2 : atL xs f ≠ 88) :
    Calls Tryz.prog 79 #[v, .int .i64 f] w fun e w' => e = .returned (.tuple #[.int .i64 (refDigits xs 10 f).1, .int .i64 (refDigits xs 10 f).2]) ∧ Below w.heap.size w w' := by
  have c0 := l3At_any h f hn
  obtain ⟨c, hc⟩ : ∃ c, c = atL xs f := ⟨_, rfl⟩
  rw [← hc] at c0 n1 n2
  clear hc
  have e1 : (c == 120) = false := by simpa using n1
  have e2 : (c == 88) = false := by simpa using n2
  clear n1 n2
  go_enter Tryz.func79, Tryz.ntmps79
  go_wp2_with fail
  go_at_call 78
  refine c0.mono ?_
  rintro e w1 ⟨rfl, rfl⟩
  go_wp2_with fail
  go_at_call 78
  refine c0.mono ?_
  rintro e w1 ⟨rfl, rfl⟩
  clear c0
  go_wp2
  go_loop [1, 8, 9] (fun i u n => ∃ k m : Nat, k ≤ (digs 10 (xs.drop f)).length ∧ m = f + k ∧ i = .int .i64 m ∧ u = .int .i64 (digVal 10 ((digs 10 (xs.drop f)).take k)).1 ∧ n = .int .i64 (digVal 10 ((digs 10 (xs.drop f)).take k)).2) (fun i _ _ => f + (digs 10 (xs.drop f)).length - (intOf i).toNat)
  case atStart => exact ⟨0, f, Nat.zero_le _, rfl, rfl, rfl, rfl⟩
  case round =>
    obtain ⟨k, m, hk, hm, rfl, rfl, rfl⟩ := hrel
    have hdl := digs_le 10 (xs.drop f)
    rw [List.length_drop] at hdl
    have hpos := digVal_ok (b := 10) (by simp) (xs.drop f) k
    have hcnt : (digVal 10 ((digs 10 (xs.drop f)).take k)).2 ≤ 0 + ((digs 10 (xs.drop f)).take k).length := digVal_count _ (0, 0)
    have hlt' : ((digs 10 (xs.drop f)).take k).length ≤ xs.length := by simp; omega
    obtain ⟨p, hp⟩ : ∃ p, p = digVal 10 ((digs 10 (xs.drop f)).take k) := ⟨_, rfl⟩
    rw [← hp] at hpos hcnt
    have hat : (xs.drop f).getD k (-1) = atL xs m := by rw [hm]; simp [atL, List.getD_eq_getElem?_getD, List.getElem?_drop]
    have c1 := fun w (h : Sl .i64 w v xs) => l3At_any h m hn
    by_cases hlt : k < (digs 10 (xs.drop f)).length
    · have hd := digs_at 10 (xs.drop f) k hlt
      have hle := digitOf_le (atL xs m) 10 (by simp)
      have hstep := digVal_succ 10 (digs 10 (xs.drop f)) k hlt
      rw [hat] at hd
      rw [← hp, hd.1] at hstep
      obtain ⟨d, hdd⟩ : ∃ d, d = digitOf (atL xs m) 10 := ⟨_, rfl⟩
      have c2 := fun w => sdigit_any (atL xs m) 10 w
      obtain ⟨c, hc⟩ : ∃ c, c = atL xs m := ⟨_, rfl⟩
      rw [← hdd] at hd hle hstep c2
      rw [← hc] at c1 c2
      have C1 := (show Hid _ from c1)
      have C2 := (show Hid _ from c2)
      have HS := (show Hid _ from hstep)
      have HK : Hid (k + 1 ≤ (digs 10 (xs.drop f)).length) := hlt
      have HM : Hid (m = f + k) := hm
      have d0 := hd.2
      have hmb : m ≤ 2199023255552 := by omega
      obtain ⟨px, pn⟩ := p
      simp only at hpos hcnt
      have HP := (show Hid _ from hp)
      clear c1 c2 hstep hm hd hdd hc hlt hat hp
      rw [← HP.out]
      simp only
      go_wp2_with fail
      go_at_call 78
      refine (C1.out _ h).mono ?_
      rintro e w1 ⟨rfl, rfl⟩
      go_wp2_with fail
      go_at_call 82
      refine (C2.out _).mono ?_
      rintro e w1 ⟨rfl, rfl⟩
      go_wp2_with fail
      go_at_call 78
      refine (C1.out _ h).mono ?_
      rintro e w1 ⟨rfl, rfl⟩
      go_wp2_with fail
      go_at_call 82
      refine (C2.out _).mono ?_
      rintro e w1 ⟨rfl, rfl⟩
      rcases (show (0 < pn) ∨ (pn = 0 ∧ 0 < d) ∨ (pn = 0 ∧ d = 0) by omega) with hc | ⟨rfl, hc⟩ | ⟨rfl, rfl⟩
      · by_cases h7 : pn + 1 ≤ 7
        · go_wp2
          go_round
          case rel => exact ⟨k + 1, m + 1, HK.out, by rw [HM.out]; omega, by go_num, by rw [HS.out, digStep_inc (.inl hc) h7], by rw [HS.out, digStep_inc (.inl hc) h7]; go_num⟩
          case measure => have := HM.out; have := HK.out; simp [intOf]; omega
        · go_wp2
          go_round
          case rel => exact ⟨k + 1, m + 1, HK.out, by rw [HM.out]; omega, by go_num, by rw [HS.out, digStep_over (.inl hc) h7], by rw [HS.out, digStep_over (.inl hc) h7]; go_num⟩
          case measure => have := HM.out; have := HK.out; simp [intOf]; omega
      · go_wp2
        go_round
        case rel => exact ⟨k + 1, m + 1, HK.out, by rw [HM.out]; omega, by go_num, by rw [HS.out, digStep_inc (.inr hc) (by omega)], by rw [HS.out, digStep_inc (.inr hc) (by omega)]; go_num⟩
        case measure => have := HM.out; have := HK.out; simp [intOf]; omega
      · go_wp2
        go_round
        case rel => exact ⟨k + 1, m + 1, HK.out, by rw [HM.out]; omega, by go_num, by rw [HS.out, digStep_nought]; go_num, by rw [HS.out, digStep_nought]; go_num⟩
        case measure => have := HM.out; have := HK.out; simp [intOf]; omega
    · have hkk : k = (digs 10 (xs.drop f)).length := by omega
      have hend := digs_end 10 (xs.drop f)
      have c2 := fun w => sdigit_any (atL xs m) 10 w
      rw [← hkk, hat] at hend
      rw [hkk, List.take_length] at hp
      have hmb : m ≤ 2199023255552 := by omega
      have hres : refDigits xs 10 f = if k = 0 then (0, 0) else (refNumber (if 7 < p.2 then 1114112 else p.1), ((m + (if atL xs m = 59 then 1 else 0) : Nat) : Int)) := by
        unfold refDigits
        simp only
        rw [← hp, ← hkk, ← hm]
        by_cases h0 : k = 0
        · rw [if_pos h0, if_pos (List.length_eq_zero_iff.mp (by omega))]
        · rw [if_neg h0, if_neg (fun e => h0 (by rw [hkk, e]; rfl))]
      have HR := (show Hid _ from hres)
      have hp' : digVal 10 ((digs 10 (xs.drop f)).take k) = p := by rw [hkk, List.take_length]; exact hp.symm
      rw [hp']
      obtain ⟨px, pn⟩ := p
      simp only at hpos hcnt HR ⊢
      obtain ⟨d, hdd⟩ : ∃ d, d = digitOf (atL xs m) 10 := ⟨_, rfl⟩
      rw [← hdd] at hend c2
      obtain ⟨c, hc⟩ : ∃ c, c = atL xs m := ⟨_, rfl⟩
      rw [← hc] at c1 c2 HR
      have C1 := (show Hid _ from c1)
      have C2 := (show Hid _ from c2)
      have HM : Hid (m = f + k) := hm
      clear c1 c2 hm hdd hc hlt hat hp hp' hres hkk
      go_wp2_with fail
      go_at_call 78
      refine (C1.out _ h).mono ?_
      rintro e w1 ⟨rfl, rfl⟩
      go_wp2_with fail
      go_at_call 82
      refine (C2.out _).mono ?_
      rintro e w1 ⟨rfl, rfl⟩
      by_cases hk0 : k = 0
      · have hmf : m = f := by have := HM.out; omega
        subst hmf
        have HR2 := HR.out
        rw [if_pos hk0] at HR2
        have HR3 := (show Hid _ from HR2)
        clear HR2
        go_wp2
        go_ret2
        exact ⟨by rw [HR3.out]; rfl, Below.refl _ _⟩
      · have hmf : ((m : Int) == (f : Int)) = false := by have := HM.out; simp; omega
        have HR2 := HR.out
        rw [if_neg hk0] at HR2
        have HR3 := (show Hid _ from HR2)
        clear HR2 HR
        by_cases h7 : 7 < pn
        all_goals by_cases h59 : c = 59
        · subst h59
          have E : Hid (refDigits xs 10 f = (refNumber 1114112, ((m + 1 : Nat) : Int))) := by show _ = _; rw [HR3.out, if_pos h7, if_pos rfl]
          go_wp2_with fail
          go_at_call 78
          refine (C1.out _ h).mono ?_
          rintro e w1 ⟨rfl, rfl⟩
          go_wp2_with fail
          go_at_call 124
          refine (srefNumber_any _ _).mono ?_
          rintro e w2 ⟨rfl, b2⟩
          go_wp2
          go_ret2
          exact ⟨by rw [E.out]; simp, b2⟩
        · have e59 : (c == 59) = false := by simpa using h59
          have E : Hid (refDigits xs 10 f = (refNumber 1114112, ((m : Nat) : Int))) := by show _ = _; rw [HR3.out, if_pos h7, if_neg h59]; rfl
          go_wp2_with fail
          go_at_call 78
          refine (C1.out _ h).mono ?_
          rintro e w1 ⟨rfl, rfl⟩
          go_wp2_with fail
          go_at_call 124
          refine (srefNumber_any _ _).mono ?_
          rintro e w2 ⟨rfl, b2⟩
          go_wp2
          go_ret2
          exact ⟨by rw [E.out]; simp, b2⟩
        · subst h59
          have E : Hid (refDigits xs 10 f = (refNumber px, ((m + 1 : Nat) : Int))) := by show _ = _; rw [HR3.out, if_neg h7, if_pos rfl]
          go_wp2_with fail
          go_at_call 78
          refine (C1.out _ h).mono ?_
          rintro e w1 ⟨rfl, rfl⟩
          go_wp2_with fail
          go_at_call 124
          refine (srefNumber_any _ _).mono ?_
          rintro e w2 ⟨rfl, b2⟩
          go_wp2
          go_ret2
          exact ⟨by rw [E.out]; simp, b2⟩
        · have e59 : (c == 59) = false := by simpa using h59
          have E : Hid (refDigits xs 10 f = (refNumber px, ((m : Nat) : Int))) := by show _ = _; rw [HR3.out, if_neg h7, if_neg h59]; rfl
          go_wp2_with fail
          go_at_call 78
          refine (C1.out _ h).mono ?_
          rintro e w1 ⟨rfl, rfl⟩
          go_wp2_with fail
          go_at_call 124
          refine (srefNumber_any _ _).mono ?_
          rintro e w2 ⟨rfl, b2⟩
          go_wp2
          go_ret2
          exact ⟨by rw [E.out]; simp, b2⟩

set_option maxHeartbeats 4000000 in
set_option maxRecDepth 100000 in
theorem l3Number_hex {v : Value} {xs : List Int} {w : World} (h : Sl .i64 w v xs) (g f : Nat) (hg : f = g + 1) (hn : xs.length ≤ 1099511627776) (hf : f ≤ 1099511627776) (n1 : atL xs g = 120 ∨ atL xs g = 88) :
    Calls Tryz.prog 79 #[v, .int .i64 g] w fun e w' => e = .returned (.tuple #[.int .i64 (refDigits xs 16 f).1, .int .i64 (refDigits xs 16 f).2]) ∧ Below w.heap.size w w' := by
  have c0 := l3At_any h g hn
  obtain ⟨c, hc⟩ : ∃ c, c = atL xs g := ⟨_, rfl⟩
  rw [← hc] at c0 n1
  clear hc
  have hgf : (g : Int) + 1 = (f : Int) := by omega
  clear hg
  rcases n1 with rfl | rfl
  all_goals
    go_enter Tryz.func79, Tryz.ntmps79
    go_wp2_with fail
    go_at_call 78
    refine c0.mono ?_
    rintro e w1 ⟨rfl, rfl⟩
    try (go_wp2_with fail; go_at_call 78; refine c0.mono ?_; rintro e w1 ⟨rfl, rfl⟩)
    clear c0
    go_wp2
    clear hgf
    go_loop [1, 8, 9] (fun i u n => ∃ k m : Nat, k ≤ (digs 16 (xs.drop f)).length ∧ m = f + k ∧ i = .int .i64 m ∧ u = .int .i64 (digVal 16 ((digs 16 (xs.drop f)).take k)).1 ∧ n = .int .i64 (digVal 16 ((digs 16 (xs.drop f)).take k)).2) (fun i _ _ => f + (digs 16 (xs.drop f)).length - (intOf i).toNat)
    case atStart => exact ⟨0, f, Nat.zero_le _, rfl, rfl, rfl, rfl⟩
    case round =>
      obtain ⟨k, m, hk, hm, rfl, rfl, rfl⟩ := hrel
      have hdl := digs_le 16 (xs.drop f)
      rw [List.length_drop] at hdl
      have hpos := digVal_ok (b := 16) (by simp) (xs.drop f) k
      have hcnt : (digVal 16 ((digs 16 (xs.drop f)).take k)).2 ≤ 0 + ((digs 16 (xs.drop f)).take k).length := digVal_count _ (0, 0)
      have hlt' : ((digs 16 (xs.drop f)).take k).length ≤ xs.length := by simp; omega
      obtain ⟨p, hp⟩ : ∃ p, p = digVal 16 ((digs 16 (xs.drop f)).take k) := ⟨_, rfl⟩
      rw [← hp] at hpos hcnt
      have hat : (xs.drop f).getD k (-1) = atL xs m := by rw [hm]; simp [atL, List.getD_eq_getElem?_getD, List.getElem?_drop]
      have c1 := fun w (h : Sl .i64 w v xs) => l3At_any h m hn
      by_cases hlt : k < (digs 16 (xs.drop f)).length
      · have hd := digs_at 16 (xs.drop f) k hlt
        have hle := digitOf_le (atL xs m) 16 (by simp)
        have hstep := digVal_succ 16 (digs 16 (xs.drop f)) k hlt
        rw [hat] at hd
        rw [← hp, hd.1] at hstep
        obtain ⟨d, hdd⟩ : ∃ d, d = digitOf (atL xs m) 16 := ⟨_, rfl⟩
        have c2 := fun w => sdigit_any (atL xs m) 16 w
        obtain ⟨c, hc⟩ : ∃ c, c = atL xs m := ⟨_, rfl⟩
        rw [← hdd] at hd hle hstep c2
        rw [← hc] at c1 c2
        have C1 := (show Hid _ from c1)
        have C2 := (show Hid _ from c2)
        have HS := (show Hid _ from hstep)
        have HK : Hid (k + 1 ≤ (digs 16 (xs.drop f)).length) := hlt
        have HM : Hid (m = f + k) := hm
        have d0 := hd.2
        have hmb : m ≤ 2199023255552 := by omega
        obtain ⟨px, pn⟩ := p
        simp only at hpos hcnt
        have HP := (show Hid _ from hp)
        clear c1 c2 hstep hm hd hdd hc hlt hat hp
        rw [← HP.out]
        simp only
        go_wp2_with fail
        go_at_call 78
        refine (C1.out _ h).mono ?_
        rintro e w1 ⟨rfl, rfl⟩
        go_wp2_with fail
        go_at_call 82
        refine (C2.out _).mono ?_
        rintro e w1 ⟨rfl, rfl⟩
        go_wp2_with fail
        go_at_call 78
        refine (C1.out _ h).mono ?_
        rintro e w1 ⟨rfl, rfl⟩
        go_wp2_with fail
        go_at_call 82
        refine (C2.out _).mono ?_
        rintro e w1 ⟨rfl, rfl⟩
        rcases (show (0 < pn) ∨ (pn = 0 ∧ 0 < d) ∨ (pn = 0 ∧ d = 0) by omega) with hc | ⟨rfl, hc⟩ | ⟨rfl, rfl⟩
        · by_cases h7 : pn + 1 ≤ 7
          · go_wp2
            go_round
            case rel => exact ⟨k + 1, m + 1, HK.out, by rw [HM.out]; omega, by go_num, by rw [HS.out, digStep_inc (.inl hc) h7], by rw [HS.out, digStep_inc (.inl hc) h7]; go_num⟩
            case measure => have := HM.out; have := HK.out; simp [intOf]; omega
          · go_wp2
            go_round
            case rel => exact ⟨k + 1, m + 1, HK.out, by rw [HM.out]; omega, by go_num, by rw [HS.out, digStep_over (.inl hc) h7], by rw [HS.out, digStep_over (.inl hc) h7]; go_num⟩
            case measure => have := HM.out; have := HK.out; simp [intOf]; omega
        · go_wp2
          go_round
          case rel => exact ⟨k + 1, m + 1, HK.out, by rw [HM.out]; omega, by go_num, by rw [HS.out, digStep_inc (.inr hc) (by omega)], by rw [HS.out, digStep_inc (.inr hc) (by omega)]; go_num⟩
          case measure => have := HM.out; have := HK.out; simp [intOf]; omega
        · go_wp2
          go_round
          case rel => exact ⟨k + 1, m + 1, HK.out, by rw [HM.out]; omega, by go_num, by rw [HS.out, digStep_nought]; go_num, by rw [HS.out, digStep_nought]; go_num⟩
          case measure => have := HM.out; have := HK.out; simp [intOf]; omega
      · have hkk : k = (digs 16 (xs.drop f)).length := by omega
        have hend := digs_end 16 (xs.drop f)
        have c2 := fun w => sdigit_any (atL xs m) 16 w
        rw [← hkk, hat] at hend
        rw [hkk, List.take_length] at hp
        have hmb : m ≤ 2199023255552 := by omega
        have hres : refDigits xs 16 f = if k = 0 then (0, 0) else (refNumber (if 7 < p.2 then 1114112 else p.1), ((m + (if atL xs m = 59 then 1 else 0) : Nat) : Int)) := by
          unfold refDigits
          simp only
          rw [← hp, ← hkk, ← hm]
          by_cases h0 : k = 0
          · rw [if_pos h0, if_pos (List.length_eq_zero_iff.mp (by omega))]
          · rw [if_neg h0, if_neg (fun e => h0 (by rw [hkk, e]; rfl))]
        have HR := (show Hid _ from hres)
        have hp' : digVal 16 ((digs 16 (xs.drop f)).take k) = p := by rw [hkk, List.take_length]; exact hp.symm
        rw [hp']
        obtain ⟨px, pn⟩ := p
        simp only at hpos hcnt HR ⊢
        obtain ⟨d, hdd⟩ : ∃ d, d = digitOf (atL xs m) 16 := ⟨_, rfl⟩
        rw [← hdd] at hend c2
        obtain ⟨c, hc⟩ : ∃ c, c = atL xs m := ⟨_, rfl⟩
        rw [← hc] at c1 c2 HR
        have C1 := (show Hid _ from c1)
        have C2 := (show Hid _ from c2)
        have HM : Hid (m = f + k) := hm
        clear c1 c2 hm hdd hc hlt hat hp hp' hres hkk
        go_wp2_with fail
        go_at_call 78
        refine (C1.out _ h).mono ?_
        rintro e w1 ⟨rfl, rfl⟩
        go_wp2_with fail
        go_at_call 82
        refine (C2.out _).mono ?_
        rintro e w1 ⟨rfl, rfl⟩
        by_cases hk0 : k = 0
        · have hmf : m = f := by have := HM.out; omega
          subst hmf
          have HR2 := HR.out
          rw [if_pos hk0] at HR2
          have HR3 := (show Hid _ from HR2)
          clear HR2
          go_wp2
          go_ret2
          exact ⟨by rw [HR3.out]; rfl, Below.refl _ _⟩
        · have hmf : ((m : Int) == (f : Int)) = false := by have := HM.out; simp; omega
          have HR2 := HR.out
          rw [if_neg hk0] at HR2
          have HR3 := (show Hid _ from HR2)
          clear HR2 HR
          by_cases h7 : 7 < pn
          all_goals by_cases h59 : c = 59
          · subst h59
            have E : Hid (refDigits xs 16 f = (refNumber 1114112, ((m + 1 : Nat) : Int))) := by show _ = _; rw [HR3.out, if_pos h7, if_pos rfl]
            go_wp2_with fail
            go_at_call 78
            refine (C1.out _ h).mono ?_
            rintro e w1 ⟨rfl, rfl⟩
            go_wp2_with fail
            go_at_call 124
            refine (srefNumber_any _ _).mono ?_
            rintro e w2 ⟨rfl, b2⟩
            go_wp2
            go_ret2
            exact ⟨by rw [E.out]; simp, b2⟩
          · have e59 : (c == 59) = false := by simpa using h59
            have E : Hid (refDigits xs 16 f = (refNumber 1114112, ((m : Nat) : Int))) := by show _ = _; rw [HR3.out, if_pos h7, if_neg h59]; rfl
            go_wp2_with fail
            go_at_call 78
            refine (C1.out _ h).mono ?_
            rintro e w1 ⟨rfl, rfl⟩
            go_wp2_with fail
            go_at_call 124
            refine (srefNumber_any _ _).mono ?_
            rintro e w2 ⟨rfl, b2⟩
            go_wp2
            go_ret2
            exact ⟨by rw [E.out]; simp, b2⟩
          · subst h59
            have E : Hid (refDigits xs 16 f = (refNumber px, ((m + 1 : Nat) : Int))) := by show _ = _; rw [HR3.out, if_neg h7, if_pos rfl]
            go_wp2_with fail
            go_at_call 78
            refine (C1.out _ h).mono ?_
            rintro e w1 ⟨rfl, rfl⟩
            go_wp2_with fail
            go_at_call 124
            refine (srefNumber_any _ _).mono ?_
            rintro e w2 ⟨rfl, b2⟩
            go_wp2
            go_ret2
            exact ⟨by rw [E.out]; simp, b2⟩
          · have e59 : (c == 59) = false := by simpa using h59
            have E : Hid (refDigits xs 16 f = (refNumber px, ((m : Nat) : Int))) := by show _ = _; rw [HR3.out, if_neg h7, if_neg h59]; rfl
            go_wp2_with fail
            go_at_call 78
            refine (C1.out _ h).mono ?_
            rintro e w1 ⟨rfl, rfl⟩
            go_wp2_with fail
            go_at_call 124
            refine (srefNumber_any _ _).mono ?_
            rintro e w2 ⟨rfl, b2⟩
            go_wp2
            go_ret2
            exact ⟨by rw [E.out]; simp, b2⟩

theorem l3Number_any {v : Value} {xs : List Int} {w : World} (h : Sl .i64 w v xs) (k : Nat) (hn : xs.length ≤ 1099511627776) (hk : k < 1099511627776) :
    Calls Tryz.prog 79 #[v, .int .i64 k] w fun e w' => e = .returned (.tuple #[.int .i64 (refNum xs k).1, .int .i64 (refNum xs k).2]) ∧ Below w.heap.size w w' := by
  by_cases hx : atL xs k = 120 ∨ atL xs k = 88
  · have e : refNum xs k = refDigits xs 16 (k + 1) := by unfold refNum; rw [if_pos hx]
    rw [e]
    exact l3Number_hex h k (k + 1) rfl hn (by omega) hx
  · have e : refNum xs k = refDigits xs 10 k := by unfold refNum; rw [if_neg hx]
    rw [e]
    exact l3Number_dec h k hn (by omega) (fun e => hx (.inl e)) (fun e => hx (.inr e))
end Go.Proofs.YtggfifchkecnjaaGreatDoor

/- The contract of the specification's question whether a text stands at a place. -/
namespace Go.Proofs.YtggfifchkecnjaaGreatDoor
open Go.RowKit
set_option maxRecDepth 100000
set_option linter.unusedVariables false

theorem stands_no {xs nm : List Int} {k i : Nat} (h : i < nm.length) (e : atL xs (k + i) ≠ nm.getD i 0) : stands xs k nm = false := by
  unfold stands
  rw [List.all_eq_false]
  exact ⟨i, List.mem_range.mpr h, by simpa using e⟩
theorem stands_yes {xs nm : List Int} {k : Nat} (h : ∀ i, i < nm.length → atL xs (k + i) = nm.getD i 0) : stands xs k nm = true := by
  unfold stands
  rw [List.all_eq_true]
  intro i hi
  simpa using h i (List.mem_range.mp hi)

set_option maxRecDepth 100000 in
theorem l3Stands_any {v : Value} {xs : List Int} {w : World} (h : Sl .i64 w v xs) (k : Nat) (s : ByteArray) (hn : xs.length ≤ 1099511627776) (hk : k ≤ 1099511627776) (hs : s.size ≤ 1099511627776) :
    Calls Tryz.prog 81 #[v, .int .i64 k, .string s] w fun e w' => e = .returned (.bool (stands xs k (bs s))) ∧ ∃ n, w' = w.drewN n := by
  have hl := bs_len s
  go_enter Tryz.func81, Tryz.ntmps81
  go_wp2
  go_loopw [7] (fun i wr => ∃ j : Nat, j ≤ s.size ∧ i = .int .i64 j ∧ (∀ t, t < j → atL xs (k + t) = (bs s).getD t 0) ∧ ∃ n, wr = w.drewN n) (fun i _ => s.size - (intOf i).toNat)
  case atStart => exact ⟨0, Nat.zero_le _, rfl, fun t ht => absurd ht (by omega), 0, rfl⟩
  case round =>
    obtain ⟨j, hj, rfl, hall, hw⟩ := hrel
    have h' : Sl .i64 wr v xs := by obtain ⟨n, rfl⟩ := hw; exact h.below (below_drewN n)
    have HW := (show Hid (∃ n, wr = w.drewN n) from hw)
    clear hw
    have HA := (show Hid _ from hall)
    clear hall
    by_cases hlt : j < s.size
    · have hat := bs_at s j hlt
      have hbk := bs_bound s j
      obtain ⟨m, hm⟩ : ∃ m : Nat, m = k + j := ⟨_, rfl⟩
      have hme : (k : Int) + (j : Int) = (m : Int) := by omega
      have c1 := fun n => l3At_any (h'.below (below_drewN n)) m hn
      have HN : Hid (atL xs m ≠ (bs s).getD j 0 → stands xs k (bs s) = false) := fun e => stands_no (i := j) (by omega) (by rw [← hm]; exact e)
      have HY : Hid (atL xs m = (bs s).getD j 0 → ∀ t, t < j + 1 → atL xs (k + t) = (bs s).getD t 0) := fun e t ht => by
        by_cases htj : t = j
        · subst htj; rw [← hm]; exact e
        · exact HA.out t (by omega)
      obtain ⟨x, hx⟩ : ∃ x, x = (bs s).getD j 0 := ⟨_, rfl⟩
      obtain ⟨c, hc⟩ : ∃ c, c = atL xs m := ⟨_, rfl⟩
      rw [← hx] at hat hbk HN HY
      rw [← hc] at c1 HN HY
      have hwx : IntKind.i64.wrap x = x := wrap_byte hbk.1 hbk.2
      have C1 := (show Hid _ from c1)
      clear c1 hx hc hm
      by_cases hcx : c = x
      · subst hcx
        go_wp2
        go_quiet ((go_at_call 78; refine Calls.quiet_of_same (C1.out _)))
        go_wp2
        go_roundw
        case rel => exact ⟨j + 1, by omega, by go_num, HY.out (by simp), by obtain ⟨n, hn⟩ := HW.out; exact ⟨n + nq, by rw [hn, World.drewN_drewN]⟩⟩
        case measure => simp [intOf]; omega
      · have e : (c != x) = true := by simpa using hcx
        go_wp2
        go_quiet ((go_at_call 78; refine Calls.quiet_of_same (C1.out _)))
        go_wp2
        go_ret
        exact ⟨ret_bool (HN.out hcx).symm, by obtain ⟨n, hn⟩ := HW.out; exact ⟨n + nq, by rw [hn, World.drewN_drewN]⟩⟩
    · go_wp2
      go_ret
      exact ⟨ret_bool (by rw [stands_yes (fun i hi => HA.out i (by omega))]), HW.out⟩
end Go.Proofs.YtggfifchkecnjaaGreatDoor
