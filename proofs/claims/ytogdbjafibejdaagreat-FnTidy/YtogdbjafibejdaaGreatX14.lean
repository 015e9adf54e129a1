/- Contracts of the laws' copies and measures of a list of attributes. -/
import Derived.Test.YtogdbjafibejdaaGreatX12
import Derived.OwnWalk
import Derived.Test.YtogdbjafibejdaaGreatX13
import Derived.Test.YtogdbjafibejdaaGreatX9
namespace Go.Proofs.YtogdbjafibejdaaGreat
open Go.RowKit
set_option maxRecDepth 100000
set_option linter.unusedVariables false

theorem toAttr_any (a : ByteArray × ByteArray) (w : World) : Calls Tryz.prog 200 #[.agg #[.string a.1, .string a.2]] w fun e w' => e = .returned (.agg #[.string a.1, .string a.2]) ∧ Below w.heap.size w w' := by
  obtain ⟨an, ap⟩ := a
  simp only
  go_enter Tryz.func200, Tryz.ntmps200
  go_wp2
  refine bodyPost_ret (v := .agg #[.string an, .string ap]) (by simp [results, Tryz.results200, go_sem]) rfl ⟨rfl, ?_⟩
  exact (((Below.refl _ _).alloc (Nat.le_refl _) _).alloc (by simp) _).alloc (by simp; omega) _

set_option maxHeartbeats 1000000 in
set_option maxRecDepth 100000 in
theorem szAttrS_any {v : Value} {rs : List (ByteArray × ByteArray)} {w : World} (h : Sv 2 w v (pairCells rs)) (hs : ∀ p ∈ rs, p.1.size ≤ maxLen ∧ p.2.size ≤ maxLen) (l : Int) (h0 : 0 ≤ l) (h1 : l ≤ 1099511627776) :
    Calls Tryz.prog 174 #[v, .int .i64 l] w fun e w' => ∃ r : Int, e = .returned (.int .i64 r) ∧ (r < 0 ∨ (0 ≤ r ∧ r ≤ l ∧ (rs.length : Int) ≤ l ∧ ∀ p ∈ rs, (p.1.size : Int) + p.2.size ≤ l)) ∧ Below w.heap.size w w' := by
  obtain ⟨a, ca, rfl, hc1, hc2, hca⟩ := h.pair
  have HS := (show Hid (∀ p ∈ rs, p.1.size ≤ maxLen ∧ p.2.size ≤ maxLen) from hs)
  clear hs h
  unfold maxLen at hc2
  by_cases hl : l - rs.length < 0
  · go_enter Tryz.func174, Tryz.ntmps174
    go_wp2
    go_ret
    exact ⟨_, rfl, .inl (by decide), Below.refl _ _⟩
  · have hl2 : 0 ≤ l - rs.length := by omega
    go_enter Tryz.func174, Tryz.ntmps174
    go_wp2
    go_loopw [1, 5] (fun q i wr => ∃ (k : Nat) (r : Int), k ≤ rs.length ∧ i = .int .i64 k ∧ q = .int .i64 r ∧ 0 ≤ r ∧ r ≤ l ∧ (∀ p ∈ rs.take k, (p.1.size : Int) + p.2.size ≤ l) ∧ Below w.heap.size w wr) (fun _ i _ => rs.length - (intOf i).toNat)
    case atStart => exact ⟨0, _, Nat.zero_le _, rfl, rfl, hl2, by omega, fun p hp => by simp at hp, Below.refl _ _⟩
    case round =>
      obtain ⟨k, r, hk, rfl, rfl, hr0, hr1, hall, bel⟩ := hrel
      have HA := (show Hid (∀ p ∈ rs.take k, (p.1.size : Int) + p.2.size ≤ l) from hall)
      clear hall
      by_cases hlt : k < rs.length
      · obtain ⟨b1, o1, rfl, l1, c1, c2⟩ := hca k hlt
        have d1 : wr.cell? ⟨b1, o1 + k * 2, none⟩ = some (.string rs[k].1) := (bel.cell (p := ⟨b1, o1 + k * 2, none⟩) l1).trans c1
        have d2 : wr.cell? ⟨b1, o1 + k * 2 + 1, none⟩ = some (.string rs[k].2) := (bel.cell (p := ⟨b1, o1 + k * 2 + 1, none⟩) l1).trans c2
        have hsz := HS.out rs[k] (List.getElem_mem hlt)
        have HT : Hid ((rs[k].1.size : Int) + rs[k].2.size ≤ l → ∀ p ∈ rs.take (k + 1), (p.1.size : Int) + p.2.size ≤ l) := fun hp p hp' => by
          rw [List.take_succ_eq_append_getElem hlt] at hp'
          rcases List.mem_append.mp hp' with h | h
          · exact HA.out p h
          · rw [List.mem_singleton.mp h]; exact hp
        obtain ⟨x, hx⟩ : ∃ x, x = rs[k] := ⟨_, rfl⟩
        rw [← hx] at d1 d2 hsz HT
        clear hx c1 c2
        have CC := (show Hid (∀ w, Calls Tryz.prog 199 #[.agg #[.string x.1, .string x.2], .int .i64 r] w fun e w' => ∃ q : Int, e = .returned (.int .i64 q) ∧ (q < 0 ∨ (0 ≤ q ∧ q ≤ r ∧ (x.1.size : Int) + x.2.size ≤ r)) ∧ Below w.heap.size w w') from fun w => szAttr_any x r w hr0 (by omega) hsz.1 hsz.2)
        clear hsz
        go_wp2_with fail
        go_at_call 199
        refine (CC.out _).mono ?_
        rintro e w2 ⟨q, rfl, hq, b2⟩
        replace b2 := bel.trans (b2.mono bel.size)
        clear d1 d2
        rcases hq with hq | ⟨hq0, hq1, hq2⟩
        · go_wp2
          go_ret
          exact ⟨_, rfl, .inl (by decide), b2⟩
        · go_wp2
          go_roundw
          case rel => exact ⟨k + 1, _, by omega, by go_num, rfl, hq0, by omega, HT.out (by omega), b2⟩
          case measure => simp [intOf]; omega
      · have hke : k = rs.length := by omega
        have hall : ∀ p ∈ rs, (p.1.size : Int) + p.2.size ≤ l := by have := HA.out; rw [hke, List.take_length] at this; exact this
        have HL := (show Hid _ from hall)
        clear hall
        go_wp2
        go_ret
        exact ⟨_, rfl, .inr ⟨hr0, hr1, by omega, HL.out⟩, bel⟩

theorem Tryz.infoA : (Tryz.prog.info? 115).map (fun i => (i.zero, i.size, i.bytes)) = some (some (.agg #[.string ⟨#[]⟩, .string ⟨#[]⟩]), 2, 32) := by kernel_rfl

theorem pair_take_set {cs : List Value} {rs : List (ByteArray × ByteArray)} {k : Nat} (hk : k < rs.length) (hl : cs.length = rs.length * 2) (h : cs.take (k * 2) = pairCells (rs.take k)) :
    ((cs.set (k * 2) (.string rs[k].1)).set (k * 2 + 1) (.string rs[k].2)).take ((k + 1) * 2) = pairCells (rs.take (k + 1)) := by
  have e1 : pairCells (rs.take (k + 1)) = pairCells (rs.take k) ++ [.string rs[k].1, .string rs[k].2] := by
    rw [List.take_succ_eq_append_getElem hk]
    unfold pairCells
    rw [List.flatMap_append]
    rfl
  rw [e1, ← h]
  apply List.ext_getElem?
  intro i
  have e2 : (k + 1) * 2 = k * 2 + 2 := by omega
  by_cases hi : i < k * 2
  · rw [List.getElem?_take_of_lt (by omega), List.getElem?_set_ne (by omega), List.getElem?_set_ne (by omega), List.getElem?_append_left (by simp; omega), List.getElem?_take_of_lt hi]
  · have hlt : (cs.take (k * 2)).length = k * 2 := by simp; omega
    rw [List.getElem?_append_right (by omega), hlt]
    by_cases h0 : i = k * 2
    · subst h0
      rw [List.getElem?_take_of_lt (by omega), List.getElem?_set_ne (by omega), List.getElem?_set_self (by omega)]
      simp
    · by_cases h1 : i = k * 2 + 1
      · subst h1
        rw [List.getElem?_take_of_lt (by omega), List.getElem?_set_self (by rw [List.length_set]; omega)]
        simp
      · rw [List.getElem?_eq_none (by simp; omega), List.getElem?_eq_none (by simp; omega)]

set_option maxHeartbeats 2000000 in
set_option maxRecDepth 100000 in
theorem toAttrS_any {v : Value} {rs : List (ByteArray × ByteArray)} {w : World} (h : Sv 2 w v (pairCells rs)) (hn : rs.length ≤ 1048576) :
    Calls Tryz.prog 176 #[v] w fun e w' => ∃ v', e = .returned v' ∧ w'.ownsRow w.heap.size 115 2 v' rs.length (pairCells rs) ∧ Below w.heap.size w w' := by
  obtain ⟨a, ca, rfl, _, _, hca⟩ := h.pair
  clear h
  obtain ⟨i0, hi, hz0, hz1, hz2⟩ := info_parts Tryz.infoA
  go_enter Tryz.func176, Tryz.ntmps176
  go_wp2_with (at_make; refine wpList_make_full _ rfl (.tmp 6) (.tmp 6) 33 rfl w.heap.size 115 i0 _ 2 Tryz.underlying33 hi hz0 hz1 .i64 .i64 _ _ rs.length rfl rfl rfl rfl (by rw [hz2]; omega) (by unfold maxLen; omega) (Nat.le_refl _) ?_; intro w1 o1 g1)
  have b1 : Below w.heap.size w w1 := (Below.refl _ _).grown g1 (Nat.le_refl _) (fun k hk => by cases hk)
  go_loopw [4] (fun i wr => ∃ (k : Nat) (cs : List Value), k ≤ rs.length ∧ i = .int .i64 k ∧ wr.ownsRow w.heap.size 115 2 (.slice (some ⟨w.heap.size, 0, none⟩) rs.length rs.length) rs.length cs ∧ cs.take (k * 2) = pairCells (rs.take k) ∧ Below w.heap.size w wr) (fun i _ => rs.length - (intOf i).toNat)
  case atStart => exact ⟨0, _, Nat.zero_le _, rfl, o1, by simp [pairCells], b1⟩
  case round =>
    clear o1 g1 b1
    obtain ⟨k, cs, hk, rfl, own, htk, bel⟩ := hrel
    have hcl : cs.length = rs.length * 2 := own.1
    by_cases hlt : k < rs.length
    · obtain ⟨b1, o1, rfl, l1, c1, c2⟩ := hca k hlt
      have d1 : wr.cell? ⟨b1, o1 + k * 2, none⟩ = some (.string rs[k].1) := (bel.cell (p := ⟨b1, o1 + k * 2, none⟩) l1).trans c1
      have d2 : wr.cell? ⟨b1, o1 + k * 2 + 1, none⟩ = some (.string rs[k].2) := (bel.cell (p := ⟨b1, o1 + k * 2 + 1, none⟩) l1).trans c2
      have HTS := (show Hid _ from pair_take_set hlt hcl htk)
      obtain ⟨x, hx⟩ : ∃ x, x = rs[k] := ⟨_, rfl⟩
      rw [← hx] at d1 d2 HTS
      have OW := (show Hid (wr.ownsRow w.heap.size 115 2 (.slice (some ⟨w.heap.size, 0, none⟩) rs.length rs.length) rs.length cs) from own)
      clear hx c1 c2 htk own
      go_wp2_with fail
      go_at_call 200
      refine (toAttr_any x _).mono ?_
      rintro e w2 ⟨rfl, b2⟩
      have o2 : w2.ownsRow w.heap.size 115 2 (.slice (some ⟨w.heap.size, 0, none⟩) rs.length rs.length) rs.length cs := by
        obtain ⟨a1, a2 | ⟨g', c', cu', e1, e2, e3, e4⟩⟩ := OW.out
        · cases a2.1
        · cases e1
          exact ⟨a1, .inr ⟨_, _, cu', rfl, e2, by rw [b2.block _ (lt_of_block e3)]; exact e3, e4⟩⟩
      replace b2 := bel.trans (b2.mono bel.size)
      obtain ⟨z1, hc1⟩ : ∃ z, w2.cell? ⟨w.heap.size, k * 2, none⟩ = some z := by
        rw [o2.cellAt (k * 2) (by omega)]; exact ⟨_, List.getElem?_eq_getElem (by omega)⟩
      have f1 := o2.frozenAt (k * 2)
      obtain ⟨z2, hc2⟩ : ∃ z, w2.cell? ⟨w.heap.size, k * 2 + 1, none⟩ = some z := by
        rw [o2.cellAt (k * 2 + 1) (by omega)]; exact ⟨_, List.getElem?_eq_getElem (by omega)⟩
      have f2 := o2.frozenAt (k * 2 + 1)
      have s1 := o2.stored (k * 2) (.string x.1)
      have s2 := s1.1.stored (k * 2 + 1) (.string x.2)
      have S2 := (show Hid _ from s2)
      clear s1 s2 o2 d1 d2
      go_wp2
      go_roundw
      case rel => exact ⟨k + 1, _, by omega, by go_num, S2.out.1, HTS.out, (b2.setCell (Nat.le_refl _) _).setCell (Nat.le_refl _) _⟩
      case measure => simp [intOf]; omega
    · have hke : k = rs.length := by omega
      have hcs : cs = pairCells rs := by rw [hke, List.take_length, ← hcl, List.take_length] at htk; exact htk
      subst hcs
      go_wp2
      go_ret
      exact ⟨_, rfl, own, bel⟩
end Go.Proofs.YtogdbjafibejdaaGreat

/- Contracts of the specification's AttrsSame and AttrAdd. -/
namespace Go.Proofs.YtogdbjafibejdaaGreat
open Go.RowKit
set_option maxRecDepth 100000
set_option linter.unusedVariables false

theorem pair_oneCell (rs : List (ByteArray × ByteArray)) : ∀ y ∈ pairCells rs, y.oneCell' = true := by
  intro y hy
  unfold pairCells at hy
  obtain ⟨r, _, hr⟩ := List.mem_flatMap.mp hy
  simp at hr
  rcases hr with rfl | rfl <;> rfl
theorem pairCells_app (rs qs : List (ByteArray × ByteArray)) : pairCells rs ++ pairCells qs = pairCells (rs ++ qs) := by unfold pairCells; rw [List.flatMap_append]

theorem attrsSame_len {a b : List (ByteArray × ByteArray)} (h : a.length ≠ b.length) : attrsSame a b = false := by unfold attrsSame; rw [decide_eq_false h]; rfl
theorem attrsSame_no {a b : List (ByteArray × ByteArray)} {k : Nat} (hk : k < a.length) (h : attrOf b a[k].1 ≠ (a[k].2, true)) : attrsSame a b = false := by
  unfold attrsSame
  rw [Bool.and_eq_false_iff]
  right
  rw [List.all_eq_false]
  exact ⟨a[k], List.getElem_mem hk, by simpa using h⟩
theorem attrsSame_yes {a b : List (ByteArray × ByteArray)} (hl : a.length = b.length) (h : ∀ k (hk : k < a.length), attrOf b a[k].1 = (a[k].2, true)) : attrsSame a b = true := by
  unfold attrsSame
  rw [decide_eq_true hl, Bool.true_and, List.all_eq_true]
  intro p hp
  obtain ⟨k, hk, rfl⟩ := List.getElem_of_mem hp
  simpa using h k hk

theorem grown_cell {w w' : World} {g b k : Nat} (h : w.grownBy w' (some g)) (hne : b ≠ g) (hb : b < w.heap.size) : w'.cell? ⟨b, k, none⟩ = w.cell? ⟨b, k, none⟩ := by
  simp only [World.cell?, h.block b hb (fun e => hne (Option.some.inj e))]
theorem attrAdd_no {rs : List (ByteArray × ByteArray)} {p : ByteArray × ByteArray} (h : ((attrOf rs p.1).2 || decide (20 ≤ rs.length) || !attrOk p) = true) : attrAdd rs p = rs := by unfold attrAdd; rw [if_pos h]
theorem attrAdd_yes {rs : List (ByteArray × ByteArray)} {p : ByteArray × ByteArray} (h : ((attrOf rs p.1).2 || decide (20 ≤ rs.length) || !attrOk p) = false) : attrAdd rs p = rs ++ [p] := by unfold attrAdd; rw [if_neg (by rw [h]; decide)]

set_option maxHeartbeats 2000000 in
set_option maxRecDepth 100000 in
theorem sattrAdd_any {v : Value} {rs : List (ByteArray × ByteArray)} {w : World} (h : Sv 2 w v (pairCells rs)) (p : ByteArray × ByteArray) (hn : rs.length ≤ 1048576) (h1 : p.1.size ≤ 1099511627776) (h2 : p.2.size ≤ 1099511627776) :
    Calls Tryz.prog 198 #[v, .agg #[.string p.1, .string p.2]] w fun e w' => ∃ v', e = .returned v' ∧ w'.ownsRow w.heap.size 115 2 v' (attrAdd rs p).length (pairCells (attrAdd rs p)) ∧ Below w.heap.size w w' := by
  obtain ⟨i0, hi, hz0, hz1, hz2⟩ := info_parts Tryz.infoA
  have hlen := pairCells_len rs
  have H := (show Hid (Sv 2 w v (pairCells rs)) from h)
  obtain ⟨a, ca, rfl, _, _, _⟩ := h.pair
  clear h
  obtain ⟨pn, pv⟩ := p
  simp only at h1 h2 ⊢
  obtain ⟨wb, hwb⟩ : ∃ wb, wb = w.alloc (.cells #[.string pn, .string pv] 115) := ⟨_, rfl⟩
  have bb : Below w.heap.size w wb := by rw [hwb]; exact (Below.refl _ _).alloc (Nat.le_refl _) _
  have cb0 : wb.cell? ⟨w.heap.size, 0, none⟩ = some (.string pn) := by rw [hwb]; simp
  have cb1 : wb.cell? ⟨w.heap.size, 1, none⟩ = some (.string pv) := by rw [hwb]; simp
  have hbs : wb.heap.size = w.heap.size + 1 := by rw [hwb]; simp
  have oe := empty_row wb w.heap.size 115 2 (by omega)
  have be : Below wb.heap.size wb (wb.alloc (.cells #[] 115)) := (Below.refl _ _).alloc (Nat.le_refl _) _
  have hsv := (H.out.below bb).below be
  rw [hbs, hwb] at oe
  rw [hwb] at hsv
  go_enter Tryz.func198, Tryz.ntmps198
  go_wp2_with (at_builtin; refine wpList_appV _ rfl (.tmp 8) (.tmp 9) 33 rfl w.heap.size 115 i0 _ 2 32 Tryz.underlying33 hi hz0 hz1 hz2 rfl (by decide) _ _ 0 rs.length [] (pairCells rs) rfl rfl oe hsv hlen (pair_oneCell rs) (by omega) (by unfold maxLen; omega) (by simp <;> omega) ?_; intro v1 w1 o1 g1; rw [List.nil_append, Nat.zero_add] at o1; have cn := (grown_cell (b := w.heap.size) (k := 0) g1 (by simp) (by simp; omega)).trans (by simp : _ = some (Value.string pn)); have cv := (grown_cell (b := w.heap.size) (k := 1) g1 (by simp) (by simp; omega)).trans (by simp : _ = some (Value.string pv)))
  have b1 : Below w.heap.size w w1 := (((Below.refl _ w).alloc (Nat.le_refl _) _).alloc (by simp) _).grown g1 (by simp; omega) (fun j hj => by have e : some (w.heap.size + 1) = some j := hj; injection e with e; omega)
  have HO := (show Hid (w1.ownsRow w.heap.size 115 2 v1 rs.length (pairCells rs)) from o1)
  have cof := sattrOf_any (H.out.below b1) pn (by omega)
  have CL := (show Hid (∀ w, Calls Tryz.prog 152 #[.agg #[.string pn, .string pv]] w fun e w' => e = .returned (.bool (attrOk (pn, pv))) ∧ Below w.heap.size w w') from fun w => l4Attr_any (pn, pv) w h1 h2)
  have HNO := (show Hid (((attrOf rs pn).2 || decide (20 ≤ rs.length) || !attrOk (pn, pv)) = true → attrAdd rs (pn, pv) = rs) from fun h => attrAdd_no (p := (pn, pv)) h)
  have HYES := (show Hid (((attrOf rs pn).2 || decide (20 ≤ rs.length) || !attrOk (pn, pv)) = false → attrAdd rs (pn, pv) = rs ++ [(pn, pv)]) from fun h => attrAdd_yes (p := (pn, pv)) h)
  obtain ⟨r, hr⟩ : ∃ r, r = attrOf rs pn := ⟨_, rfl⟩
  obtain ⟨ok, hok⟩ : ∃ ok, ok = attrOk (pn, pv) := ⟨_, rfl⟩
  rw [← hr] at cof HNO HYES
  rw [← hok] at CL HNO HYES
  obtain ⟨ov, has⟩ := r
  simp only at HNO HYES cof
  clear hr hok o1 oe hsv be bb cb0 cb1 hbs hwb H g1
  refine cof.mono ?_
  rintro e w1 ⟨rfl, rfl⟩
  clear cof
  cases has
  · by_cases h20 : 20 ≤ rs.length
    · have HA := (show Hid _ from HNO.out (by simp [h20]))
      clear HNO HYES CL
      go_wp2
      go_ret
      exact ⟨_, rfl, by rw [HA.out]; exact HO.out, b1⟩
    · cases ok
      · have HA := (show Hid _ from HNO.out (by simp))
        clear HNO HYES
        go_wp2_with fail
        go_at_call 152
        refine (CL.out _).mono ?_
        rintro e w2 ⟨rfl, b2⟩
        have o2 := ownsRow_below HO.out b2
        replace b2 := b1.trans (b2.mono b1.size)
        go_wp2
        go_ret
        exact ⟨_, rfl, by rw [HA.out]; exact o2, b2⟩
      · have HA := (show Hid _ from HYES.out (by simp; omega))
        clear HNO HYES
        go_wp2_with fail
        go_at_call 152
        refine (CL.out _).mono ?_
        rintro e w2 ⟨rfl, b2⟩
        have hlt : w.heap.size < w1.heap.size := by
          by_cases hl : w.heap.size < w1.heap.size
          · exact hl
          · exfalso; simp [World.cell?, Array.getElem?_eq_none (Nat.le_of_not_lt hl)] at cn
        have cn2 : w2.cell? ⟨w.heap.size, 0, none⟩ = some (.string pn) := (b2.cell (p := ⟨w.heap.size, 0, none⟩) hlt).trans cn
        have cv2 : w2.cell? ⟨w.heap.size, 1, none⟩ = some (.string pv) := (b2.cell (p := ⟨w.heap.size, 1, none⟩) hlt).trans cv
        have o2 := ownsRow_below HO.out b2
        replace b2 := b1.trans (b2.mono b1.size)
        have hb2 := b2.size
        have o3 := ownsRow_below o2 ((Below.refl _ w2).alloc (Nat.le_refl _) (.cells #[.string pn, .string pv] 115))
        have hone : Sv 2 (w2.alloc (.cells #[.string pn, .string pv] 115)) (.slice (some ⟨w2.heap.size, 0, none⟩) 1 1) (pairCells [(pn, pv)]) :=
          sv_of_own (World.ownsRow_lit (base := w2.heap.size) (e := 115) (size := 2) w2 #[.string pn, .string pv] 1 (Nat.le_refl _) (by unfold maxLen; omega) rfl)
        clear HO CL cn cv
        go_wp2_with (at_builtin; refine wpList_appV _ rfl (.tmp 30) (.tmp 32) 33 rfl w.heap.size 115 i0 _ 2 32 Tryz.underlying33 hi hz0 hz1 hz2 rfl (by decide) _ _ rs.length 1 (pairCells rs) (pairCells [(pn, pv)]) rfl rfl o3 hone rfl (pair_oneCell _) (by omega) (by unfold maxLen; omega) (by simp <;> omega) ?_; intro v4 w4 o4 g4; rw [pairCells_app] at o4)
        go_ret
        refine ⟨_, rfl, ?_, (b2.alloc hb2 _).grown g4 (by simp; omega) (fun j hj => (o3.lt j hj).1)⟩
        rw [HA.out, List.length_append, List.length_singleton]; exact o4
  · have HA := (show Hid _ from HNO.out (by simp))
    clear HNO HYES CL
    go_wp2
    go_ret
    exact ⟨_, rfl, by rw [HA.out]; exact HO.out, b1⟩
end Go.Proofs.YtogdbjafibejdaaGreat

/- The exact laws of AttrsOk, AttrOf and AttrsSame, walked from contracts of the program's functions. -/
namespace Go.Proofs.YtogdbjafibejdaaGreat
open Go.RowKit
set_option maxRecDepth 100000
set_option linter.unusedVariables false

/-- Every text of a list is short. -/
def Short (rs : List (ByteArray × ByteArray)) : Prop := rs.length ≤ 1048576 ∧ ∀ p ∈ rs, p.1.size ≤ 1099511627776 ∧ p.2.size ≤ 1099511627776

/-- What is asked of the program's functions. -/
def AttrsOkOk : Prop := ∀ (v : Value) (rs : List (ByteArray × ByteArray)) (w : World), Sv 2 w v (pairCells rs) → Short rs → Calls Tryz.prog 111 #[v] w fun e w' => e = .returned (.bool (attrsOk rs)) ∧ Below w.heap.size w w'
def AttrOfOk : Prop := ∀ (v : Value) (rs : List (ByteArray × ByteArray)) (nm : ByteArray) (w : World), Sv 2 w v (pairCells rs) → Short rs → nm.size ≤ 1099511627776 → Calls Tryz.prog 156 #[v, .string nm] w fun e w' => e = .returned (.tuple #[.string (attrOf rs nm).1, .bool (attrOf rs nm).2]) ∧ Below w.heap.size w w'
theorem short_of {rs : List (ByteArray × ByteArray)} {l r : Int} (hl : l ≤ 1048576) (h : (rs.length : Int) ≤ l ∧ ∀ p ∈ rs, (p.1.size : Int) + p.2.size ≤ l) : Short rs :=
  ⟨by have := h.1; omega, fun p hp => by have := h.2 p hp; omega⟩

end Go.Proofs.YtogdbjafibejdaaGreat

/- Contracts of the laws' marks of a list of attributes. -/
namespace Go.Proofs.YtogdbjafibejdaaGreat
open Go.RowKit
set_option maxRecDepth 100000
set_option linter.unusedVariables false

/-- The marks that are laid over a list of pairs, from k on. -/
def markPairs (k : Int) (n : Nat) : List (ByteArray × ByteArray) := (List.range n).map fun i : Nat => (mt (k + 2 * (i : Int)), mt (k + 2 * (i : Int) + 1))
theorem markPairs_len (k : Int) (n : Nat) : (markPairs k n).length = n := by simp [markPairs]
theorem markPairs_at (k : Int) (n i : Nat) (h : i < (markPairs k n).length) : (markPairs k n)[i] = (mt (k + 2 * (i : Int)), mt (k + 2 * (i : Int) + 1)) := by simp [markPairs]
theorem markPairs_succ (k : Int) (rs : List (ByteArray × ByteArray)) (i : Nat) (h : i < rs.length) :
    (markPairs k i ++ rs.drop i).set i (mt (k + 2 * (i : Int)), mt (k + 2 * (i : Int) + 1)) = markPairs k (i + 1) ++ rs.drop (i + 1) := by
  rw [List.set_append_right _ _ (by rw [markPairs_len]; exact Nat.le_refl _), markPairs_len, Nat.sub_self, List.drop_eq_getElem_cons h, List.set_cons_zero]
  simp [markPairs, List.range_succ]

theorem pairCells_set (ls : List (ByteArray × ByteArray)) (j : Nat) (a p : ByteArray) (h : j < ls.length) : ((pairCells ls).set (j * 2) (.string a)).set (j * 2 + 1) (.string p) = pairCells (ls.set j (a, p)) := by
  induction ls generalizing j with
  | nil => simp at h
  | cons r rs ih =>
    cases j with
    | zero => simp [pairCells]
    | succ j =>
      have e := ih j (by simpa using h)
      have e1 : (j + 1) * 2 = j * 2 + 1 + 1 := by omega
      have e2 : (j + 1) * 2 + 1 = j * 2 + 1 + 1 + 1 := by omega
      simp only [pairCells, List.flatMap_cons, List.cons_append, List.nil_append, e1, List.set_cons_succ] at e ⊢
      rw [e]

set_option maxHeartbeats 2000000 in
set_option maxRecDepth 100000 in
theorem markAttrS_any {B : Nat} {v : Value} {rs : List (ByteArray × ByteArray)} {w : World} (h : w.ownsRow B 115 2 v rs.length (pairCells rs)) (k0 : Int) (h0 : 0 ≤ k0) (hk : k0 ≤ 4000000) (hn : rs.length ≤ 4000000) :
    Calls Tryz.prog 147 #[v, .int .i64 k0] w fun e w' => e = .returned (.int .i64 (k0 + 2 * rs.length)) ∧ w'.ownsRow B 115 2 v rs.length (pairCells (markPairs k0 rs.length)) ∧ w.grownBy w' v.ownBlock := by
  have h' := h
  obtain ⟨hl, ⟨hv, hz⟩ | ⟨g, cap, cur, hv, hB, hh, hn', hm, hz, ht⟩⟩ := h'
  · subst hv
    have hr : rs = [] := List.length_eq_zero_iff.mp hz
    subst hr
    go_enter Tryz.func147, Tryz.ntmps147
    go_wp2
    go_loop [1, 5] (fun q i => i = .int .i64 0 ∧ q = .int .i64 k0) (fun _ _ => 0)
    case atStart => exact ⟨rfl, rfl⟩
    case round =>
      obtain ⟨rfl, rfl⟩ := hrel
      go_wp2
      go_ret
      exact ⟨ret_int (by simp), h, World.grownBy.refl _ _⟩
  · subst hv
    clear hh ht hz hl
    go_enter Tryz.func147, Tryz.ntmps147
    go_wp2
    go_loopw [1, 5] (fun q i wr => ∃ k : Nat, k ≤ rs.length ∧ i = .int .i64 k ∧ q = .int .i64 (k0 + 2 * k) ∧ wr.ownsRow B 115 2 (.slice (some ⟨g, 0, none⟩) rs.length cap) rs.length (pairCells (markPairs k0 k ++ rs.drop k)) ∧ w.grownBy wr (some g)) (fun _ i _ => rs.length - (intOf i).toNat)
    case atStart => exact ⟨0, Nat.zero_le _, rfl, by go_num, h, World.grownBy.refl _ _⟩
    case round =>
      clear h
      obtain ⟨k, hk', rfl, rfl, hown, hgr⟩ := hrel
      by_cases hlt : k < rs.length
      · have HO := (show Hid _ from hown)
        have HG := (show Hid _ from hgr)
        clear hown hgr
        go_wp2_with fail
        go_at_call 146
        refine (markText_any _ _ (by omega)).mono ?_
        rintro e w2 ⟨rfl, b2⟩
        have hlen : (markPairs k0 k ++ rs.drop k).length = rs.length := by simp [markPairs_len]; omega
        have o2 : w2.ownsRow B 115 2 (.slice (some ⟨g, 0, none⟩) rs.length cap) rs.length (pairCells (markPairs k0 k ++ rs.drop k)) := by
          obtain ⟨a1, a2 | ⟨g', c', cu', e1, e2, e3, e4⟩⟩ := HO.out
          · cases a2.1
          · cases e1
            exact ⟨a1, .inr ⟨g, cap, cu', rfl, e2, by rw [b2.block g (lt_of_block e3)]; exact e3, e4⟩⟩
        have hl2 := pairCells_len (markPairs k0 k ++ rs.drop k)
        obtain ⟨z1, hc1⟩ : ∃ z, w2.cell? ⟨g, k * 2, none⟩ = some z := by
          rw [o2.cellAt (k * 2) (by omega)]; exact ⟨_, List.getElem?_eq_getElem (by omega)⟩
        have f1 := o2.frozenAt (k * 2)
        have s1 := o2.stored (k * 2) (.string (mt (k0 + 2 * k)))
        have S1 := (show Hid _ from s1)
        clear s1 o2
        go_wp2_with fail
        go_at_call 146
        refine (markText_any _ _ (by omega)).mono ?_
        rintro e w3 ⟨rfl, b3⟩
        have o3 : w3.ownsRow B 115 2 (.slice (some ⟨g, 0, none⟩) rs.length cap) rs.length ((pairCells (markPairs k0 k ++ rs.drop k)).set (k * 2) (.string (mt (k0 + 2 * k)))) := by
          obtain ⟨a1, a2 | ⟨g', c', cu', e1, e2, e3, e4⟩⟩ := S1.out.1
          · cases a2.1
          · cases e1
            exact ⟨a1, .inr ⟨g, cap, cu', rfl, e2, by rw [b3.block g (lt_of_block e3)]; exact e3, e4⟩⟩
        obtain ⟨z2, hc2⟩ : ∃ z, w3.cell? ⟨g, k * 2 + 1, none⟩ = some z := by
          rw [o3.cellAt (k * 2 + 1) (by omega)]; exact ⟨_, List.getElem?_eq_getElem (by rw [List.length_set]; omega)⟩
        have f2 := o3.frozenAt (k * 2 + 1)
        have s2 := o3.stored (k * 2 + 1) (.string (mt (k0 + 2 * k + 1)))
        rw [pairCells_set _ _ _ _ (by omega), markPairs_succ k0 rs k hlt] at s2
        have S2 := (show Hid _ from s2)
        clear s2 o3
        go_wp2
        go_roundw
        case rel => exact ⟨k + 1, by omega, by go_num, by go_num, S2.out.1, grown_trans (grown_below (grown_trans (grown_below HG.out b2) S1.out.2) b3) S2.out.2⟩
        case measure => simp [intOf]; omega
      · go_wp2
        go_ret
        have hke : k = rs.length := by omega
        rw [hke, List.drop_length, List.append_nil] at hown
        exact ⟨ret_int (by rw [hke]), hown, hgr⟩

set_option maxHeartbeats 2000000 in
set_option maxRecDepth 100000 in
theorem heldAttrS_any {v : Value} {n : Nat} {w : World} (k0 : Int) (h : Sv 2 w v (pairCells (markPairs k0 n))) (h0 : 0 ≤ k0) (hk : k0 ≤ 4000000) (hn : n ≤ 4000000) :
    Calls Tryz.prog 149 #[v, .int .i64 k0] w fun e w' => e = .returned (.int .i64 (k0 + 2 * n)) ∧ Below w.heap.size w w' := by
  obtain ⟨a, ca, rfl, _, _, hca⟩ := h.pair
  have hlen := markPairs_len k0 n
  rw [hlen]
  go_enter Tryz.func149, Tryz.ntmps149
  go_wp2
  go_loopw [1, 5] (fun q i wr => ∃ k : Nat, k ≤ n ∧ i = .int .i64 k ∧ q = .int .i64 (k0 + 2 * k) ∧ Below w.heap.size w wr) (fun _ i _ => n - (intOf i).toNat)
  case atStart => exact ⟨0, Nat.zero_le _, rfl, by go_num, Below.refl _ _⟩
  case round =>
    obtain ⟨k, hk', rfl, rfl, bel⟩ := hrel
    by_cases hlt : k < n
    · obtain ⟨b1, o1, rfl, l1, c1, c2⟩ := hca k (by omega)
      rw [markPairs_at] at c1 c2
      simp only at c1 c2
      have g1 : ∀ m : Wd w.heap.size w, m.w.cell? ⟨b1, o1 + k * 2, none⟩ = some (.string (mt (k0 + 2 * k))) := fun m => (m.below.cell (p := ⟨b1, o1 + k * 2, none⟩) l1).trans c1
      have g2 : ∀ m : Wd w.heap.size w, m.w.cell? ⟨b1, o1 + k * 2 + 1, none⟩ = some (.string (mt (k0 + 2 * k + 1))) := fun m => (m.below.cell (p := ⟨b1, o1 + k * 2 + 1, none⟩) l1).trans c2
      have CC := (show Hid (∀ w, Calls Tryz.prog 146 #[.int .i64 (k0 + 2 * k)] w fun e w' => e = .returned (.string (mt (k0 + 2 * k))) ∧ Below w.heap.size w w') from fun w => markText_any _ _ (by omega))
      have CD := (show Hid (∀ w, Calls Tryz.prog 146 #[.int .i64 (k0 + 2 * k + 1)] w fun e w' => e = .returned (.string (mt (k0 + 2 * k + 1))) ∧ Below w.heap.size w w') from fun w => markText_any _ _ (by omega))
      have ne := Wd.any w.heap.size w
      clear c1 c2 hca
      go_wp2
      refine wp_region_below (by kernel_rfl) (by kernel_rfl) bel ?_
      repeat (go_big_quiet_step ((go_at_call 146; exact quiet_below (CC.out _) (Nat.le_refl _))))
      refine wpQuiet_nil ?_
      intro wq hq
      replace hq := Wd.of hq
      go_wp2
      refine wp_region_below (by kernel_rfl) (by kernel_rfl) hq ?_
      repeat (go_big_quiet_step ((go_at_call 146; exact quiet_below (CD.out _) (Nat.le_refl _))))
      refine wpQuiet_nil ?_
      intro wq2 hq2
      replace hq2 := Wd.of hq2
      go_wp2
      go_roundw
      case rel => exact ⟨k + 1, by omega, by go_num, by go_num, hq2⟩
      case measure => simp [intOf]; omega
    · have hke : k = n := by omega
      go_wp2
      go_ret
      exact ⟨ret_int (by rw [hke]), bel⟩
end Go.Proofs.YtogdbjafibejdaaGreat

/- What the exact law of AttrAdd asks of the program's function, and rows of values that are apart. -/
namespace Go.Proofs.YtogdbjafibejdaaGreat
open Go.RowKit
set_option maxRecDepth 100000
set_option linter.unusedVariables false

theorem row_ne {B size size' n n' : Nat} {e e' : TypeId} {w w' : World} {v v' : Value} {xs ys : List Value} (h : w.ownsRow B e size v n xs) (h' : w'.ownsRow w.heap.size e' size' v' n' ys) :
    ∀ k j, v.ownBlock = some k → v'.ownBlock = some j → k ≠ j := fun k j hk hj => by
  have a := (World.ownsRow.lt h k hk).2
  have b := (World.ownsRow.lt h' j hj).1
  omega
theorem row_kept {B size n : Nat} {e : TypeId} {w w' : World} {v v1 : Value} {xs : List Value} (h : w.ownsRow B e size v n xs) (hg : w.grownBy w' v1.ownBlock)
    (hne : ∀ k j, v.ownBlock = some k → v1.ownBlock = some j → k ≠ j) : w'.ownsRow B e size v n xs := by
  by_cases h0 : v.ownBlock = none
  · exact World.ownsRow.kept h hg (.inl h0)
  · obtain ⟨k, hk⟩ := Option.ne_none_iff_exists'.mp h0
    by_cases h1 : v1.ownBlock = none
    · exact World.ownsRow.kept h hg (.inr (by rw [h1]; exact h0))
    · obtain ⟨j, hj⟩ := Option.ne_none_iff_exists'.mp h1
      exact World.ownsRow.kept h hg (.inr (by rw [hk, hj]; intro e; exact hne k j hk hj (Option.some.inj e)))
theorem row_base {B B' size n : Nat} {e : TypeId} {w : World} {v : Value} {xs : List Value} (h : w.ownsRow B e size v n xs) (hB : B' ≤ B) : w.ownsRow B' e size v n xs := by
  obtain ⟨hl, hv | ⟨g, cap, cur, hv, hb, r⟩⟩ := h
  · exact ⟨hl, .inl hv⟩
  · exact ⟨hl, .inr ⟨g, cap, cur, hv, Nat.le_trans hB hb, r⟩⟩

theorem attrAdd_len (rs : List (ByteArray × ByteArray)) (p : ByteArray × ByteArray) : (attrAdd rs p).length ≤ rs.length + 1 := by unfold attrAdd; split <;> simp
end Go.Proofs.YtogdbjafibejdaaGreat

/- The draws of attributes. -/
namespace Go.Proofs.YtogdbjafibejdaaGreat
open Go.RowKit
set_option maxRecDepth 100000
set_option linter.unusedVariables false

theorem drawText_any {w0 : World} {g : Nat} {v : Value} {xs : List Int} {w : World} (h : Cur w0 g v xs w) (hb : ∀ x ∈ xs, 0 ≤ x ∧ x ≤ 255) :
    Calls Tryz.prog 172 #[.pointer (some ⟨g, 0, none⟩)] w fun e w' => ∃ s : ByteArray, e = .returned (.string s) ∧ s.size ≤ 5 ∧ Cur w0 g v xs w' ∧ w.grownBy w' (some g) := by
  have HB : Hid (∀ x ∈ xs, 0 ≤ x ∧ x ≤ 255) := hb
  clear hb
  go_enter Tryz.func172, Tryz.ntmps172
  go_wp2_with fail
  go_at_call 66
  refine (pickS_any h HB.out [⟨#[]⟩, ⟨#[97]⟩, ⟨#[120, 32, 121]⟩, ⟨#[195, 169]⟩, ⟨#[60, 98, 62]⟩, ⟨#[34]⟩, ⟨#[38]⟩, ⟨#[194, 160, 122]⟩, ⟨#[49]⟩] (by simp) (by simp) _ rfl 9 rfl).mono ?_
  rintro e w1 ⟨t, rfl, ht, k1, g1⟩
  have hts : t.size ≤ 5 := by
    have : ∀ t ∈ ([⟨#[]⟩, ⟨#[97]⟩, ⟨#[120, 32, 121]⟩, ⟨#[195, 169]⟩, ⟨#[60, 98, 62]⟩, ⟨#[34]⟩, ⟨#[38]⟩, ⟨#[194, 160, 122]⟩, ⟨#[49]⟩] : List ByteArray), t.size ≤ 5 := by decide
    exact this t ht
  go_wp2
  go_ret
  exact ⟨t, rfl, hts, k1, g1⟩

theorem some_pairs (w : World) (cs : Array Value) (qs : List (ByteArray × ByteArray)) (m : Nat) (hm : m = qs.length) (hc : cs.toList = pairCells qs) (hb : m ≤ 1000) : Sv 2 (w.alloc (.cells cs 115)) (.slice (some ⟨w.heap.size, 0, none⟩) m m) (pairCells qs) := by
  subst hm
  refine ⟨some ⟨w.heap.size, 0, none⟩, qs.length, qs.length, rfl, pairCells_len qs, Nat.le_refl _, by unfold maxLen; omega, (fun e => by cases e), fun i hi => ⟨w.heap.size, 0, rfl, ?_⟩⟩
  have e : cs[i]? = some ((pairCells qs).getD i undef) := by
    have : cs.toList[i]? = some ((pairCells qs).getD i undef) := by rw [hc]; simp [List.getD_eq_getElem?_getD, hi]
    simpa using this
  simp only [World.cell?, heap_alloc_new, Nat.zero_add]
  simpa using e

theorem own1b (w : World) (x : Int) : Own w.heap.size 5 .u8 (w.alloc (.cells #[.int .u8 x] 5)) (.slice (some ⟨w.heap.size, 0, none⟩) 1 1) [x] :=
  World.ownsRow_lit w #[.int .u8 x] 1 (Nat.le_refl _) (by unfold maxLen; omega) rfl

theorem row_past {B size n g : Nat} {e : TypeId} {w w' : World} {v : Value} {xs : List Value} (h : w.ownsRow B e size v n xs) (hg : w.grownBy w' (some g)) (hB : g < B) : w'.ownsRow B e size v n xs := by
  by_cases h0 : v.ownBlock = none
  · exact World.ownsRow.kept h hg (.inl h0)
  · obtain ⟨k, hk⟩ := Option.ne_none_iff_exists'.mp h0
    exact World.ownsRow.kept h hg (.inr (by rw [hk]; intro e; injection e with e; have := (World.ownsRow.lt h k hk).1; omega))

set_option maxHeartbeats 4000000 in
set_option maxRecDepth 100000 in
theorem drawAttrs_any {w0 : World} {g : Nat} {v : Value} {xs : List Int} {w : World} (h : Cur w0 g v xs w) (hb : ∀ x ∈ xs, 0 ≤ x ∧ x ≤ 255) :
    Calls Tryz.prog 171 #[.pointer (some ⟨g, 0, none⟩)] w fun e w' => ∃ (v' : Value) (rs : List (ByteArray × ByteArray)), e = .returned v' ∧ w'.ownsRow w.heap.size 115 2 v' rs.length (pairCells rs) ∧ rs.length ≤ 40 ∧ (∀ p ∈ rs, p.1.size ≤ 3001 ∧ p.2.size ≤ 3001) ∧ Cur w0 g v xs w' ∧ w.grownBy w' (some g) := by
  have HB : Hid (∀ x ∈ xs, 0 ≤ x ∧ x ≤ 255) := hb
  clear hb
  have hgw := h.lt
  obtain ⟨i0, hi, hz0, hz1, hz2⟩ := info_parts Tryz.infoA
  have o0 := empty_row w w.heap.size 115 2 (Nat.le_refl _)
  have k0 := h.below ((Below.refl _ _).alloc (Nat.le_refl _) (.cells #[] 115))
  have g0 : w.grownBy (w.alloc (.cells #[] 115)) (some g) := World.grownBy_alloc _ _ _
  go_enter Tryz.func171, Tryz.ntmps171
  go_wp2
  go_loopw [3, 4] (fun u i wr => ∃ (j : Nat) (rs : List (ByteArray × ByteArray)), j ≤ 4 ∧ i = .int .i64 j ∧ wr.ownsRow w.heap.size 115 2 u rs.length (pairCells rs) ∧ rs.length ≤ j ∧ (∀ p ∈ rs, p.1.size ≤ 3001 ∧ p.2.size ≤ 3001) ∧ Cur w0 g v xs wr ∧ w.grownBy wr (some g)) (fun _ i _ => 4 - (intOf i).toNat)
  case atStart => exact ⟨0, [], by omega, rfl, o0, by simp, (fun p hp => by cases hp), k0, g0⟩
  case round =>
    clear o0 k0 g0
    obtain ⟨j, rs, hj, rfl, own, hl, hz, cur, gr⟩ := hrel
    have HZ := (show Hid (∀ p ∈ rs, p.1.size ≤ 3001 ∧ p.2.size ≤ 3001) from hz)
    clear hz
    obtain ⟨au, cu, rfl, _, _, _⟩ := (sv_of_own own).pair
    go_wp2_with fail
    go_at_call 68
    refine (below_any _ (by omega) cur HB.out).mono ?_
    rintro e w1 ⟨n, rfl, n0, n1, n2, k1, g1⟩
    replace n1 := n1 (by omega)
    replace own := row_past own g1 hgw
    replace g1 := grown_trans gr g1
    clear n2 cur gr
    by_cases hlt : (j : Int) < n
    · go_wp2_with fail
      go_at_call 66
      refine (pickS_any k1 HB.out [⟨#[105, 100]⟩, ⟨#[99, 108, 97, 115, 115]⟩, ⟨#[120]⟩, ⟨#[61, 121]⟩, ⟨#[195, 169]⟩] (by simp) (by simp) _ rfl 5 rfl).mono ?_
      rintro e w2 ⟨t, rfl, ht, k2, g2⟩
      have hts : t.size ≤ 5 := by
        have : ∀ t ∈ ([⟨#[105, 100]⟩, ⟨#[99, 108, 97, 115, 115]⟩, ⟨#[120]⟩, ⟨#[61, 121]⟩, ⟨#[195, 169]⟩] : List ByteArray), t.size ≤ 5 := by decide
        exact this t ht
      replace own := row_past own g2 hgw
      replace g2 := grown_trans g1 g2
      clear ht k1 g1
      go_wp2_with fail
      go_at_call 172
      refine (drawText_any k2 HB.out).mono ?_
      rintro e w3 ⟨t3, rfl, ht3, k3, g3⟩
      replace own := row_past own g3 hgw
      replace g3 := grown_trans g2 g3
      clear k2 g2
      go_wp2_with fail
      go_at_call 198
      refine (sattrAdd_any (sv_of_own own) (t, t3) (by omega) (by simp only; omega) (by simp only; omega)).mono ?_
      rintro e w4 ⟨v4, rfl, o4, b4⟩
      have hsz : ∀ p ∈ attrAdd rs (t, t3), p.1.size ≤ 3001 ∧ p.2.size ≤ 3001 := fun p hp => by
        unfold attrAdd at hp
        split at hp
        · exact HZ.out p hp
        · rcases List.mem_append.mp hp with hp | hp
          · exact HZ.out p hp
          · simp only [List.mem_singleton] at hp
            subst hp
            simp only
            omega
      have hal := attrAdd_len rs (t, t3)
      have HSZ := (show Hid _ from hsz)
      have G4 := (show Hid _ from grown_below g3 b4)
      have K4 := (show Hid _ from k3.below b4)
      have O4 := (show Hid (w4.ownsRow w.heap.size 115 2 v4 (attrAdd rs (t, t3)).length (pairCells (attrAdd rs (t, t3)))) from row_base o4 (by have := g3.size; omega))
      clear hsz o4 own HZ
      go_wp2
      go_roundw
      case rel => exact ⟨j + 1, _, by omega, by go_num, O4.out, by omega, HSZ.out, K4.out, G4.out⟩
      case measure => simp [intOf]; omega
    · go_wp2_with fail
      go_at_call 68
      refine (below_any _ (by omega) k1 HB.out).mono ?_
      rintro e w2 ⟨m, rfl, m0, m1, m2, k2, g2⟩
      replace own := row_past own g2 hgw
      replace g2 := grown_trans g1 g2
      clear m2 k1 g1
      by_cases h0 : m = 0
      · subst h0
        have ow := ownsRow_below own ((Below.refl _ w2).alloc (Nat.le_refl _) (.cells #[.string ⟨#[105, 100]⟩, .string ⟨#[]⟩, .string ⟨#[105, 100]⟩, .string ⟨#[]⟩] 115))
        go_wp2_with (at_builtin; refine wpList_appV _ rfl _ _ 33 rfl w.heap.size 115 i0 _ 2 32 Tryz.underlying33 hi hz0 hz1 hz2 rfl (by decide) _ _ rs.length 2 _ (pairCells [(⟨#[105, 100]⟩, ⟨#[]⟩), (⟨#[105, 100]⟩, ⟨#[]⟩)]) rfl rfl ow (some_pairs _ _ _ 2 rfl rfl (by omega)) (pairCells_len _) (pair_oneCell _) (by omega) (by unfold maxLen; omega) (by have := g2.size; simp; omega) ?_; intro v4 w4 o4 g4; rw [pairCells_app] at o4)
        have gsz := g2.size
        have g5 : w.grownBy w4 (some g) := grown_past (grown_past g2 (World.grownBy_alloc w2 _ none) (fun j hj => by cases hj)) g4 (fun j hj => (World.ownsRow.lt own j hj).1)
        have k5 : Cur w0 g v xs w4 := (k2.below ((Below.refl _ _).alloc (Nat.le_refl _) _)).kept g4 (fun e => by have := (World.ownsRow.lt own g e).1; omega) (fun j hj => by have := (World.ownsRow.lt own j hj).1; have := h.1; omega)
        have this : ∀ p ∈ ([(⟨#[105, 100]⟩, ⟨#[]⟩), (⟨#[105, 100]⟩, ⟨#[]⟩)] : List (ByteArray × ByteArray)), p.1.size ≤ 3001 ∧ p.2.size ≤ 3001 := by decide
        go_wp2
        go_ret
        exact ⟨_, rs ++ [(⟨#[105, 100]⟩, ⟨#[]⟩), (⟨#[105, 100]⟩, ⟨#[]⟩)], rfl, by rw [List.length_append]; exact o4, by simp; omega, (fun p hp => by
          rcases List.mem_append.mp hp with hp | hp
          · exact HZ.out p hp
          · exact this p hp), k5, g5⟩
      by_cases h1 : m = 1
      · subst h1
        go_wp2
        go_loopw [3, 5] (fun u i wr => ∃ (q : Nat) (ps : List (ByteArray × ByteArray)), q ≤ 21 ∧ i = .int .i64 q ∧ wr.ownsRow w.heap.size 115 2 u ps.length (pairCells ps) ∧ ps.length ≤ j + q ∧ (∀ p ∈ ps, p.1.size ≤ 3001 ∧ p.2.size ≤ 3001) ∧ Cur w0 g v xs wr ∧ w.grownBy wr (some g)) (fun _ i _ => 21 - (intOf i).toNat)
        case atStart => exact ⟨0, rs, by omega, rfl, own, by omega, HZ.out, k2, g2⟩
        case round =>
          clear own k2 g2
          obtain ⟨q, ps, hq, rfl, own, hl2, hz2', cur, gr⟩ := hrel
          have HZ2 := (show Hid (∀ p ∈ ps, p.1.size ≤ 3001 ∧ p.2.size ≤ 3001) from hz2')
          clear hz2'
          obtain ⟨ap, cp, rfl, _, _, _⟩ := (sv_of_own own).pair
          by_cases hlt2 : q < 21
          · have hwq : IntKind.u8.wrap (97 + (q : Int)) = 97 + (q : Int) := by unfold IntKind.wrap; simp [IntKind.bits, IntKind.signed]; omega
            have hcv := conv_sl (own1b wr (97 + (q : Int))).sl
            have ba := ((Below.refl _ wr).alloc (Nat.le_refl _) (.cells #[.int .u8 (97 + (q : Int))] 5)).alloc (by simp) (.cells #[.string (strOf [97 + (q : Int)]), .string ⟨#[]⟩] 115)
            have ow := ownsRow_below own ba
            have gsz := gr.size
            have sp := some_pairs (wr.alloc (.cells #[.int .u8 (97 + (q : Int))] 5)) #[.string (strOf [97 + (q : Int)]), .string ⟨#[]⟩] [(strOf [97 + (q : Int)], ⟨#[]⟩)] 1 rfl rfl (by omega)
            rw [show (wr.alloc (.cells #[.int .u8 (97 + (q : Int))] 5)).heap.size = wr.heap.size + 1 by simp] at sp
            go_wp2_with (at_builtin; refine wpList_appV _ rfl _ _ 33 rfl w.heap.size 115 i0 _ 2 32 Tryz.underlying33 hi hz0 hz1 hz2 rfl (by decide) _ _ ps.length 1 _ (pairCells [(strOf [97 + (q : Int)], ⟨#[]⟩)]) rfl rfl ow sp (pairCells_len _) (pair_oneCell _) (by omega) (by unfold maxLen; omega) (by simp; omega) ?_; intro v4 w4 o4 g4; rw [pairCells_app] at o4)
            have g5 : w.grownBy w4 (some g) := grown_past (grown_below gr ba) g4 (fun j hj => (World.ownsRow.lt own j hj).1)
            have k5 : Cur w0 g v xs w4 := (cur.below ba).kept g4 (fun e => by have := (World.ownsRow.lt own g e).1; omega) (fun j hj => by have := (World.ownsRow.lt own j hj).1; have := h.1; omega)
            have O4 := (show Hid _ from o4)
            clear o4 hcv ow sp
            go_wp2
            go_roundw
            case rel => exact ⟨q + 1, ps ++ [(strOf [97 + (q : Int)], ⟨#[]⟩)], by omega, by go_num, by rw [List.length_append]; exact O4.out, by simp; omega, (fun p hp => by
              rcases List.mem_append.mp hp with hp | hp
              · exact HZ2.out p hp
              · simp only [List.mem_singleton] at hp
                subst hp
                simp only [strOf_size, List.length_singleton]
                exact ⟨by omega, by decide⟩), k5, g5⟩
            case measure => simp [intOf]; omega
          · go_wp2
            go_ret
            exact ⟨_, ps, rfl, own, by omega, HZ2.out, cur, gr⟩
      by_cases h2 : m = 2
      · subst h2
        go_wp2_with fail
        go_at_call 68
        refine (below_any _ (by omega) k2 HB.out).mono ?_
        rintro e w3 ⟨d, rfl, d0, d1, d2, k3, g3⟩
        replace d1 := d1 (by omega)
        replace own := row_past own g3 hgw
        replace g3 := grown_trans g2 g3
        clear d2 k2 g2
        obtain ⟨N, hN⟩ : ∃ N : Nat, (3000 : Int) + d = N := ⟨(3000 + d).toNat, by omega⟩
        have hNb : N ≤ 3001 := by omega
        have gsz := g3.size
        obtain ⟨ib, hib, hb0, hb1, hb2⟩ := info_parts Tryz.infoB
        go_wp2_with (first
          | (at_make; refine wpList_mkn _ rfl _ _ 22 rfl 5 ib .u8 Tryz.underlying22 hib hb0 hb1 _ _ N rfl rfl rfl rfl (by rw [hb2]; omega) (by unfold maxLen; omega) ?_; intro wm om bm; have hcv := conv_sl om.sl; have ow := ownsRow_below (ownsRow_below own bm) ((Below.refl _ wm).alloc (Nat.le_refl _) (.cells #[.string ⟨#[118]⟩, .string (strOf (List.replicate N 0))] 115)); have bms := bm.size)
          | (at_builtin; refine wpList_appV _ rfl _ _ 33 rfl w.heap.size 115 i0 _ 2 32 Tryz.underlying33 hi hz0 hz1 hz2 rfl (by decide) _ _ rs.length 1 _ (pairCells [(⟨#[118]⟩, strOf (List.replicate N 0))]) rfl rfl ow (some_pairs _ _ _ 1 rfl rfl (by omega)) (pairCells_len _) (pair_oneCell _) (by omega) (by unfold maxLen; omega) (by simp; omega) ?_; intro v4 w4 o4 g4; rw [pairCells_app] at o4))
        have g5 : w.grownBy w4 (some g) := grown_past (grown_past (grown_below g3 bm) (World.grownBy_alloc wm _ none) (fun j hj => by cases hj)) g4 (fun j hj => (World.ownsRow.lt own j hj).1)
        have k5 : Cur w0 g v xs w4 := ((k3.below bm).below ((Below.refl _ _).alloc (Nat.le_refl _) _)).kept g4 (fun e => by have := (World.ownsRow.lt own g e).1; omega) (fun j hj => by have := (World.ownsRow.lt own j hj).1; have := h.1; omega)
        go_wp2
        go_ret
        exact ⟨_, rs ++ [(⟨#[118]⟩, strOf (List.replicate N 0))], rfl, by rw [List.length_append]; exact o4, by simp; omega, (fun p hp => by
          rcases List.mem_append.mp hp with hp | hp
          · exact HZ.out p hp
          · simp only [List.mem_singleton] at hp
            subst hp
            simp only [strOf_size, List.length_replicate]
            exact ⟨by decide, hNb⟩), k5, g5⟩
      by_cases h3 : m = 3
      · subst h3
        have ow := ownsRow_below own ((Below.refl _ w2).alloc (Nat.le_refl _) (.cells #[.string ⟨#[117]⟩, .string ⟨#[255]⟩] 115))
        go_wp2_with (at_builtin; refine wpList_appV _ rfl _ _ 33 rfl w.heap.size 115 i0 _ 2 32 Tryz.underlying33 hi hz0 hz1 hz2 rfl (by decide) _ _ rs.length 1 _ (pairCells [(⟨#[117]⟩, ⟨#[255]⟩)]) rfl rfl ow (some_pairs _ _ _ 1 rfl rfl (by omega)) (pairCells_len _) (pair_oneCell _) (by omega) (by unfold maxLen; omega) (by have := g2.size; simp; omega) ?_; intro v4 w4 o4 g4; rw [pairCells_app] at o4)
        have gsz := g2.size
        have g5 : w.grownBy w4 (some g) := grown_past (grown_past g2 (World.grownBy_alloc w2 _ none) (fun j hj => by cases hj)) g4 (fun j hj => (World.ownsRow.lt own j hj).1)
        have k5 : Cur w0 g v xs w4 := (k2.below ((Below.refl _ _).alloc (Nat.le_refl _) _)).kept g4 (fun e => by have := (World.ownsRow.lt own g e).1; omega) (fun j hj => by have := (World.ownsRow.lt own j hj).1; have := h.1; omega)
        have this : ∀ p ∈ ([(⟨#[117]⟩, ⟨#[255]⟩)] : List (ByteArray × ByteArray)), p.1.size ≤ 3001 ∧ p.2.size ≤ 3001 := by decide
        go_wp2
        go_ret
        exact ⟨_, rs ++ [(⟨#[117]⟩, ⟨#[255]⟩)], rfl, by rw [List.length_append]; exact o4, by simp; omega, (fun p hp => by
          rcases List.mem_append.mp hp with hp | hp
          · exact HZ.out p hp
          · exact this p hp), k5, g5⟩
      · have e0 : (m == 0) = false := by simpa using h0
        have e1 : (m == 1) = false := by simpa using h1
        have e2 : (m == 2) = false := by simpa using h2
        have e3 : (m == 3) = false := by simpa using h3
        go_wp2
        go_ret
        exact ⟨_, rs, rfl, own, by omega, HZ.out, k2, g2⟩
end Go.Proofs.YtogdbjafibejdaaGreat
