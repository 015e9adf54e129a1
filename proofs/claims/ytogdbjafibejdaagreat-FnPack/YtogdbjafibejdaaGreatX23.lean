/- append in a region that draws its order, onto the call's own row, of whatever slice. No condition. -/
import Derived.Test.YtogdbjafibejdaaGreatX17
import Derived.Test.YtogdbjafibejdaaGreatX20
import Derived.Deep.RegionLaw
import Derived.Deep.Cut
import Derived.Laws.AppendOwnNone
import Derived.Test.YtogdbjafibejdaaGreatX21
namespace Go.Proofs.YtogdbjafibejdaaGreat
open Go.RowKit
set_option maxRecDepth 100000
set_option linter.unusedVariables false

theorem step_appS {P : Program} {ops : Array Oper} {o : Oper} {a : Act} {w : World} {K : Act → World → Prop} {Q : Exit → Act → World → Prop} {E : Prop}
    (hg : o.guard = none) (s x : Operand) (t : TypeId) (hop : o.op = Op.call { callee := Callee.builtin Builtin.append, args := #[s, x], argTypes := #[t, t] })
    (B : Nat) (e : TypeId) (i : TypeInfo) (z : Value) (size bytes : Nat) (h1 : P.underlying t = some (.slice e)) (h2 : P.info? e = some i) (h3 : i.zero = some z) (h4 : i.size = size) (h5 : i.bytes = bytes) (h6 : z.cells.size = size) (h7 : 0 < size)
    (v : Value) (n : Nat) (xs : List Value) (hs : a.eval s = v) (hown : w.ownsRow B e size v n xs)
    (u : Value) (m : Nat) (news : List Value) (hx : a.eval x = u) (hu : Sv size w u news) (hm : news.length = m * size) (h1c : ∀ u ∈ news, u.oneCell' = true)
    (b1 : n + m ≤ maxLen) (b2 : (n + m) * bytes ≤ 140737488355328) (hB : B ≤ w.heap.size)
    (hK : ∀ v' w', w'.ownsRow B e size v' (n + m) (xs ++ news) → w.grownBy w' v.ownBlock → K (a.put o.dst v') w') :
    if Region.wanted o (yielded ops a.tmps) = true then Oper.wp P o a w K Q else E := by
  have hw : Region.wanted o (yielded ops a.tmps) = true := by simp [Region.wanted, hg]
  rw [if_pos hw]
  obtain ⟨ao, len, cap, rfl, hl, hlc, hcm, hnone, hc⟩ := hu
  have hlm : len = m := Nat.eq_of_mul_eq_mul_right h7 (hl.symm.trans hm)
  subst hlm
  cases ao with
  | none =>
    have hc0 := hnone rfl
    subst hc0
    have hl0 : len = 0 := by omega
    subst hl0
    have hy : news = [] := List.length_eq_zero_iff.mp (by omega)
    subst hy
    have hrun := run_append_owned_none (P := P) (w := w) B t o.type e i size h1 h2 v n xs hown
    unfold Oper.wp
    simp [execOp, hop, resolve, invoke, builtin, hs, hx, hrun, Result.andThen]
    exact hK v w (by rw [List.append_nil]; exact hown) (World.grownBy.refl _ _)
  | some ad =>
    refine wp_append_own w s x t hop B e i z size bytes h1 h2 h3 h4 h5 h6 h7 v n xs hs hown ad len cap news hx hl ?_ h1c b1 b2 hB fun v' w' o1 o2 _ => hK v' w' o1 o2
    intro j y hy
    have hj : j < news.length := by
      by_cases hj : j < news.length
      · exact hj
      · rw [List.getElem?_eq_none (Nat.le_of_not_lt hj)] at hy; cases hy
    obtain ⟨b, off, e, c⟩ := hc j hj
    cases e
    have e2 : news.getD j undef = y := by rw [List.getD_eq_getElem?_getD, hy]; rfl
    rw [e2] at c
    rw [← c]
    by_cases h0 : j = 0
    · subst h0; simp [Addr.add]
    · simp [Addr.add, h0]
end Go.Proofs.YtogdbjafibejdaaGreat

/- Contracts of the specification's AttrsSame and AttrAdd. -/
namespace Go.Proofs.YtogdbjafibejdaaGreat
open Go.RowKit
set_option maxRecDepth 100000
set_option linter.unusedVariables false

theorem pair_oneCell (rs : List (ByteArray × ByteArray)) : ∀ y ∈ pairCells rs, y.oneCell' = true := by
  intro y hy
  unfold pairCells at hy
  obtain ⟨r, _, hr⟩ := List.mem_flatMap.mp hy
  simp at hr
  rcases hr with rfl | rfl <;> rfl
theorem pairCells_app (rs qs : List (ByteArray × ByteArray)) : pairCells rs ++ pairCells qs = pairCells (rs ++ qs) := by unfold pairCells; rw [List.flatMap_append]

theorem grown_cell {w w' : World} {g b k : Nat} (h : w.grownBy w' (some g)) (hne : b ≠ g) (hb : b < w.heap.size) : w'.cell? ⟨b, k, none⟩ = w.cell? ⟨b, k, none⟩ := by
  simp only [World.cell?, h.block b hb (fun e => hne (Option.some.inj e))]
theorem attrAdd_no {rs : List (ByteArray × ByteArray)} {p : ByteArray × ByteArray} (h : ((attrOf rs p.1).2 || decide (20 ≤ rs.length) || !attrOk p) = true) : attrAdd rs p = rs := by unfold attrAdd; rw [if_pos h]
theorem attrAdd_yes {rs : List (ByteArray × ByteArray)} {p : ByteArray × ByteArray} (h : ((attrOf rs p.1).2 || decide (20 ≤ rs.length) || !attrOk p) = false) : attrAdd rs p = rs ++ [p] := by unfold attrAdd; rw [if_neg (by rw [h]; decide)]

set_option maxHeartbeats 2000000 in
set_option maxRecDepth 100000 in
theorem sattrAdd_any {v : Value} {rs : List (ByteArray × ByteArray)} {w : World} (h : Sv 2 w v (pairCells rs)) (p : ByteArray × ByteArray) (hn : rs.length ≤ 1048576) (h1 : p.1.size ≤ 1099511627776) (h2 : p.2.size ≤ 1099511627776) :
    Calls Tryz.prog 198 #[v, .agg #[.string p.1, .string p.2]] w fun e w' => ∃ v', e = .returned v' ∧ w'.ownsRow w.heap.size 115 2 v' (attrAdd rs p).length (pairCells (attrAdd rs p)) ∧ Below w.heap.size w w' := by
  obtain ⟨i0, hi, hz0, hz1, hz2⟩ := info_parts Tryz.infoA
  have hlen := pairCells_len rs
  have H := (show Hid (Sv 2 w v (pairCells rs)) from h)
  obtain ⟨a, ca, rfl, _, _, _⟩ := h.pair
  clear h
  obtain ⟨pn, pv⟩ := p
  simp only at h1 h2 ⊢
  obtain ⟨wb, hwb⟩ : ∃ wb, wb = w.alloc (.cells #[.string pn, .string pv] 115) := ⟨_, rfl⟩
  have bb : Below w.heap.size w wb := by rw [hwb]; exact (Below.refl _ _).alloc (Nat.le_refl _) _
  have cb0 : wb.cell? ⟨w.heap.size, 0, none⟩ = some (.string pn) := by rw [hwb]; simp
  have cb1 : wb.cell? ⟨w.heap.size, 1, none⟩ = some (.string pv) := by rw [hwb]; simp
  have hbs : wb.heap.size = w.heap.size + 1 := by rw [hwb]; simp
  have oe := empty_row wb w.heap.size 115 2 (by omega)
  have be : Below wb.heap.size wb (wb.alloc (.cells #[] 115)) := (Below.refl _ _).alloc (Nat.le_refl _) _
  have hsv := (H.out.below bb).below be
  rw [hbs, hwb] at oe
  rw [hwb] at hsv
  go_enter Tryz.func198, Tryz.ntmps198
  go_wp2_with (at_builtin; refine wpList_appV _ rfl (.tmp 8) (.tmp 9) 33 rfl w.heap.size 115 i0 _ 2 32 Tryz.underlying33 hi hz0 hz1 hz2 rfl (by decide) _ _ 0 rs.length [] (pairCells rs) rfl rfl oe hsv hlen (pair_oneCell rs) (by omega) (by unfold maxLen; omega) (by simp <;> omega) ?_; intro v1 w1 o1 g1; rw [List.nil_append, Nat.zero_add] at o1; have cn := (grown_cell (b := w.heap.size) (k := 0) g1 (by simp) (by simp; omega)).trans (by simp : _ = some (Value.string pn)); have cv := (grown_cell (b := w.heap.size) (k := 1) g1 (by simp) (by simp; omega)).trans (by simp : _ = some (Value.string pv)))
  have b1 : Below w.heap.size w w1 := (((Below.refl _ w).alloc (Nat.le_refl _) _).alloc (by simp) _).grown g1 (by simp; omega) (fun j hj => by have e : some (w.heap.size + 1) = some j := hj; injection e with e; omega)
  have HO := (show Hid (w1.ownsRow w.heap.size 115 2 v1 rs.length (pairCells rs)) from o1)
  have cof := sattrOf_any (H.out.below b1) pn (by omega)
  have CL := (show Hid (∀ w, Calls Tryz.prog 152 #[.agg #[.string pn, .string pv]] w fun e w' => e = .returned (.bool (attrOk (pn, pv))) ∧ Below w.heap.size w w') from fun w => l4Attr_any (pn, pv) w h1 h2)
  have HNO := (show Hid (((attrOf rs pn).2 || decide (20 ≤ rs.length) || !attrOk (pn, pv)) = true → attrAdd rs (pn, pv) = rs) from fun h => attrAdd_no (p := (pn, pv)) h)
  have HYES := (show Hid (((attrOf rs pn).2 || decide (20 ≤ rs.length) || !attrOk (pn, pv)) = false → attrAdd rs (pn, pv) = rs ++ [(pn, pv)]) from fun h => attrAdd_yes (p := (pn, pv)) h)
  obtain ⟨r, hr⟩ : ∃ r, r = attrOf rs pn := ⟨_, rfl⟩
  obtain ⟨ok, hok⟩ : ∃ ok, ok = attrOk (pn, pv) := ⟨_, rfl⟩
  rw [← hr] at cof HNO HYES
  rw [← hok] at CL HNO HYES
  obtain ⟨ov, has⟩ := r
  simp only at HNO HYES cof
  clear hr hok o1 oe hsv be bb cb0 cb1 hbs hwb H g1
  refine cof.mono ?_
  rintro e w1 ⟨rfl, rfl⟩
  clear cof
  cases has
  · by_cases h20 : 20 ≤ rs.length
    · have HA := (show Hid _ from HNO.out (by simp [h20]))
      clear HNO HYES CL
      go_wp2
      go_ret
      exact ⟨_, rfl, by rw [HA.out]; exact HO.out, b1⟩
    · cases ok
      · have HA := (show Hid _ from HNO.out (by simp))
        clear HNO HYES
        go_wp2_with fail
        go_at_call 152
        refine (CL.out _).mono ?_
        rintro e w2 ⟨rfl, b2⟩
        have o2 := ownsRow_below HO.out b2
        replace b2 := b1.trans (b2.mono b1.size)
        go_wp2
        go_ret
        exact ⟨_, rfl, by rw [HA.out]; exact o2, b2⟩
      · have HA := (show Hid _ from HYES.out (by simp; omega))
        clear HNO HYES
        go_wp2_with fail
        go_at_call 152
        refine (CL.out _).mono ?_
        rintro e w2 ⟨rfl, b2⟩
        have hlt : w.heap.size < w1.heap.size := by
          by_cases hl : w.heap.size < w1.heap.size
          · exact hl
          · exfalso; simp [World.cell?, Array.getElem?_eq_none (Nat.le_of_not_lt hl)] at cn
        have cn2 : w2.cell? ⟨w.heap.size, 0, none⟩ = some (.string pn) := (b2.cell (p := ⟨w.heap.size, 0, none⟩) hlt).trans cn
        have cv2 : w2.cell? ⟨w.heap.size, 1, none⟩ = some (.string pv) := (b2.cell (p := ⟨w.heap.size, 1, none⟩) hlt).trans cv
        have o2 := ownsRow_below HO.out b2
        replace b2 := b1.trans (b2.mono b1.size)
        have hb2 := b2.size
        have o3 := ownsRow_below o2 ((Below.refl _ w2).alloc (Nat.le_refl _) (.cells #[.string pn, .string pv] 115))
        have hone : Sv 2 (w2.alloc (.cells #[.string pn, .string pv] 115)) (.slice (some ⟨w2.heap.size, 0, none⟩) 1 1) (pairCells [(pn, pv)]) :=
          sv_of_own (World.ownsRow_lit (base := w2.heap.size) (e := 115) (size := 2) w2 #[.string pn, .string pv] 1 (Nat.le_refl _) (by unfold maxLen; omega) rfl)
        clear HO CL cn cv
        go_wp2_with (at_builtin; refine wpList_appV _ rfl (.tmp 30) (.tmp 32) 33 rfl w.heap.size 115 i0 _ 2 32 Tryz.underlying33 hi hz0 hz1 hz2 rfl (by decide) _ _ rs.length 1 (pairCells rs) (pairCells [(pn, pv)]) rfl rfl o3 hone rfl (pair_oneCell _) (by omega) (by unfold maxLen; omega) (by simp <;> omega) ?_; intro v4 w4 o4 g4; rw [pairCells_app] at o4)
        go_ret
        refine ⟨_, rfl, ?_, (b2.alloc hb2 _).grown g4 (by simp; omega) (fun j hj => (o3.lt j hj).1)⟩
        rw [HA.out, List.length_append, List.length_singleton]; exact o4
  · have HA := (show Hid _ from HNO.out (by simp))
    clear HNO HYES CL
    go_wp2
    go_ret
    exact ⟨_, rfl, by rw [HA.out]; exact HO.out, b1⟩
end Go.Proofs.YtogdbjafibejdaaGreat

/- Contracts of the program's textOk and attrOk. -/
namespace Go.Proofs.YtogdbjafibejdaaGreat
open Go.RowKit
set_option maxRecDepth 100000
set_option linter.unusedVariables false

theorem textOk_any (s : ByteArray) (w : World) (hs : s.size ≤ 1099511627776) : Calls Tryz.prog 112 #[.string s] w fun e w' => e = .returned (.bool (utfOk (bs s))) ∧ Below w.heap.size w w' := by
  obtain ⟨cap, w1, hc, hk, hcap, hm, hb⟩ := conv_str s w (by unfold maxLen; omega)
  have hl := bs_len s
  have hsl := hk.sl (n := s.size) (cap := cap) (by omega) (by omega) hm
  have hu := iutfOk_any hsl (bs_byte s) (by omega)
  clear hk
  go_enter Tryz.func112, Tryz.ntmps112
  go_wp2_with fail
  go_at_call 153
  refine hu.mono ?_
  rintro e w2 ⟨rfl, b2⟩
  go_wp2
  go_ret
  exact ⟨rfl, hb.trans (b2.mono hb.size)⟩

theorem attrOk_eq (n v : ByteArray) : attrOk (n, v) = (inB n.size 1 60 && utfOk (bs n) && utfOk (bs v)) := by
  unfold attrOk
  simp only
  by_cases hv : v.size ≤ 3000
  · rw [decide_eq_true hv, Bool.and_true]
  · rw [decide_eq_false hv, utfOk_no (xs := bs v) (by rw [bs_len]; exact hv)]; simp

set_option maxHeartbeats 1000000 in
set_option maxRecDepth 100000 in
theorem iattrOk_any (n v : ByteArray) (w : World) (h1 : n.size ≤ 1099511627776) (h2 : v.size ≤ 1099511627776) :
    Calls Tryz.prog 157 #[.agg #[.string n, .string v]] w fun e w' => e = .returned (.bool (attrOk (n, v))) ∧ Below w.heap.size w w' := by
  rw [attrOk_eq]
  have c2 := fun w => textOk_any n w h1
  have c3 := fun w => textOk_any v w h2
  have b1 : Below w.heap.size w (w.alloc (.cells #[.string n, .string v] 115)) := (Below.refl _ _).alloc (Nat.le_refl _) _
  obtain ⟨q2, e2⟩ : ∃ q, q = utfOk (bs n) := ⟨_, rfl⟩
  obtain ⟨q3, e3⟩ : ∃ q, q = utfOk (bs v) := ⟨_, rfl⟩
  rw [← e2] at c2 ⊢
  rw [← e3] at c3 ⊢
  have C2 := (show Hid _ from c2)
  have C3 := (show Hid _ from c3)
  clear c2 c3 e2 e3
  by_cases hn : 1 ≤ n.size ∧ n.size ≤ 60
  · rw [inB_yes (by omega) (by omega), Bool.true_and]
    obtain ⟨n1, n2⟩ := hn
    cases q2
    · go_enter Tryz.func157, Tryz.ntmps157
      go_wp2_with fail
      go_at_call 112
      refine (C2.out _).mono ?_
      rintro e w2 ⟨rfl, b2⟩
      replace b2 := b1.trans (b2.mono b1.size)
      go_wp2
      go_ret
      exact ⟨ret_bool (by simp), b2⟩
    · go_enter Tryz.func157, Tryz.ntmps157
      go_wp2_with fail
      go_at_call 112
      refine (C2.out _).mono ?_
      rintro e w2 ⟨rfl, b2⟩
      have d1 : w2.cell? ⟨w.heap.size, 1, none⟩ = some (.string v) := by
        rw [b2.cell (p := ⟨w.heap.size, 1, none⟩) (by simp)]
        simp
      replace b2 := b1.trans (b2.mono b1.size)
      go_wp2_with fail
      go_at_call 112
      refine (C3.out _).mono ?_
      rintro e w3 ⟨rfl, b3⟩
      replace b3 := b2.trans (b3.mono b2.size)
      go_wp2
      go_ret
      exact ⟨ret_bool (by simp), b3⟩
  · rw [inB_no (by omega), Bool.false_and, Bool.false_and]
    by_cases n1 : n.size < 1
    · have n0 : n.size = 0 := by omega
      go_enter Tryz.func157, Tryz.ntmps157
      go_wp2
      go_ret
      exact ⟨ret_bool (by simp), b1⟩
    · have n2 : 60 < n.size := by omega
      go_enter Tryz.func157, Tryz.ntmps157
      go_wp2
      go_ret
      exact ⟨ret_bool (by simp), b1⟩
end Go.Proofs.YtogdbjafibejdaaGreat

/- What stands below a node, in plain words. No condition. -/
namespace Go.Proofs.YtogdbjafibejdaaGreat
open Go.RowKit
set_option maxRecDepth 100000
set_option linter.unusedVariables false

def down (ns : List PNode) : Nat → Nat → List Int
  | 0, _ => []
  | f + 1, k => (k : Int) :: (kidsOf ns k).flatMap fun x => down ns f x.toNat
def deepOk (ns : List PNode) : Nat → Nat → Prop
  | 0, _ => False
  | f + 1, k => k < ns.length ∧ ∀ x ∈ kidsOf ns k, 0 ≤ x ∧ deepOk ns f x.toNat
end Go.Proofs.YtogdbjafibejdaaGreat
