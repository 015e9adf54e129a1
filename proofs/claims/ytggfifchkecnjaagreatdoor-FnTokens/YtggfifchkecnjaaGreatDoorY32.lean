/- The program's cutter: what is taken up to a point. No condition. -/
import Derived.Test.YtggfifchkecnjaaGreatDoorY30
import Derived.Deep.RegionHeld3
import Derived.Deep.CutRange
import Derived.Test.YtggfifchkecnjaaGreatDoorY31
import Derived.Test.YtggfifchkecnjaaGreatDoorY24
namespace Go.Proofs.YtggfifchkecnjaaGreatDoor
open Go.RowKit
set_option maxRecDepth 100000
set_option linter.unusedVariables false

theorem part_sl {K : IntKind} {w : World} {a : Option Addr} {xs : List Int} {ca i j : Nat} (h : Sl K w (.slice a xs.length ca) xs) (hi : i ≤ j) (hj : j ≤ xs.length) (hc : ¬ ca = i) : Sl K w (.slice (Option.map (fun x => x.add i) a) (j - i) (ca - i)) (sub xs i j) := by
  obtain ⟨a', ca', e, h1, h2, h3, hcell⟩ := h
  cases e
  have hl : (sub xs i j).length = j - i := sub_len hj
  refine ⟨_, ca - i, by rw [hl], by rw [hl]; omega, by omega, ?_, fun k hk => ?_⟩
  · intro e
    have : a = none := by cases a <;> simp_all
    have := h3 this
    omega
  · rw [hl] at hk
    obtain ⟨b, off, rfl, c⟩ := hcell (i + k) (by omega)
    have ead : (⟨b, off, none⟩ : Addr).add i = ⟨b, off + i, none⟩ := by
      by_cases h0 : i = 0
      · subst h0; simp [Addr.add]
      · simp [Addr.add, h0]
    refine ⟨b, off + i, by simp [ead], ?_⟩
    rw [sub_at (by omega) hj, Nat.add_assoc]
    exact c
theorem part_sl0 {K : IntKind} {w : World} (a : Option Addr) (ca : Nat) {xs : List Int} {i j : Nat} (hj : j ≤ i) : Sl K w (.slice a 0 0) (sub xs i j) := by
  rw [sub_nil xs hj]; exact ⟨a, 0, rfl, Nat.le_refl _, by unfold maxLen; omega, fun _ => rfl, fun j hj => absurd hj (Nat.not_lt_zero _)⟩

set_option maxHeartbeats 4000000 in
theorem takeUpTo_any {p : Int → Bool} {f : Nat} (hcall : ∀ args w, (callFunc f args).run Tryz.prog w = .ok (.enter f args) w) (hf : ∀ x w, Calls Tryz.prog f #[.int .i64 x] w fun e w' => e = .returned (.bool (p x)) ∧ Below w.heap.size w w')
    {w0 : World} {g : Nat} {v : Value} {xs : List Int} {i : Nat} {w : World} (h : Cut w0 g v xs i w) (hy : ∀ y ∈ xs, 0 ≤ y) (s : ByteArray) :
    Calls Tryz.prog 115 #[cutVal v g s, .func (.func f) #[] #[]] w fun e w' => ∃ v', e = .returned v' ∧ (∀ W j, Cut w0 g v xs j W → Sl .i64 W v' (sub xs i (upTo p xs i))) ∧ Cut w0 g v xs (upTo p xs i) w' ∧ w.grownBy w' (some g) := by
  have hil := h.2.2.2.1.2
  have hule : upTo p xs i ≤ xs.length := upTo_le hil
  have hge := upTo_ge p xs i
  obtain ⟨a, ca, rfl, hca, hcm, _, _⟩ := h.sl
  have hcb := cb_new (s := s) h
  obtain ⟨w1, hw1⟩ : ∃ z, z = w.alloc (.cells #[.slice a xs.length ca, .pointer (some ⟨g, 0, none⟩), .string s] 47) := ⟨_, rfl⟩
  rw [← hw1] at hcb
  have HCB := (show Hid (CB w0 g (.slice a xs.length ca) xs s w i w1) from hcb)
  have HY := (show Hid (∀ y ∈ xs, 0 ≤ y) from hy)
  have HFF := (show Hid _ from hf)
  clear hcb h hy hf
  obtain ⟨c0, c1, c2⟩ := HCB.out.cells
  obtain ⟨cg, fg⟩ := HCB.out.cut.cell
  unfold cutVal
  go_enter Tryz.func115, Tryz.ntmps115
  go_upto_region 1 with fail
  rw [← hw1]
  clear hw1
  go_wp2_with fail
  go_at_call 108
  refine (ahead_cb HCB.out 0 0 rfl (by omega)).mono ?_
  rintro e w2 ⟨rfl, b2⟩
  rw [Nat.add_zero]
  have cb2 := (show Hid (CB w0 g (.slice a xs.length ca) xs s w i w2) from HCB.out.below b2)
  clear HCB b2 c0 c1 c2 cg fg
  go_wp2
  go_loopw [6] (fun u wr => ∃ k : Nat, i ≤ k ∧ k ≤ upTo p xs i ∧ u = .int .i64 (atL xs k) ∧ Hid (CB w0 g (.slice a xs.length ca) xs s w k wr)) (fun _ wr => xs.length - plc wr g)
  case atStart => exact ⟨i, Nat.le_refl _, hge, rfl, cb2⟩
  case round =>
    clear cb2
    obtain ⟨k, hk0, hk1, rfl, cb⟩ := hrel
    have MP := (show Hid (plc wr g = k) from cb.out.plc)
    have FIN : k = upTo p xs i → Hid (∀ w', Below wr.heap.size wr w' → Cut w0 g (.slice a xs.length ca) xs (upTo p xs i) w' ∧ w.grownBy w' (some g)) := fun e => (show _ from fun w' b => by
      have c := cb.out.below b
      rw [← e]
      exact ⟨c.cut, c.gro⟩)
    by_cases hkl : k < xs.length
    · obtain ⟨x, hx⟩ : ∃ x, x = atL xs k := ⟨_, rfl⟩
      have hx0 : 0 ≤ x := by
        rw [hx, atL_in hkl]
        have e : xs.getD k 0 = xs[k] := by simp [List.getD_eq_getElem?_getD, hkl]
        rw [e]; exact HY.out _ (List.getElem_mem hkl)
      have hne : (x != -1) = true := by simp; omega
      have cf := HFF.out x wr
      have HX := (show Hid (x = atL xs k) from hx)
      rw [← hx]
      rcases hp : p x with _ | _
      · have hk : k + 1 ≤ upTo p xs i := upTo_more hk0 hk1 hkl (by rw [← hx]; exact hp)
        rw [hp] at cf
        clear hp hx FIN
        go_wp2_with fail
        refine cf.mono ?_
        rintro e w3 ⟨rfl, b3⟩
        have cb3 := (show Hid _ from cb.out.below b3)
        clear cf cb b3
        obtain ⟨c0, c1, c2⟩ := cb3.out.cells
        go_wp2_with fail
        go_at_call 110
        refine (move_cb cb3.out 1 1 rfl (by omega)).mono ?_
        rintro e w4 ⟨rfl, cb4⟩
        have CB4 := (show Hid _ from cb4)
        clear cb3 c0 c1 c2 cb4
        obtain ⟨c0, c1, c2⟩ := CB4.out.cells
        go_wp2_with fail
        go_at_call 108
        refine (ahead_cb CB4.out 0 0 rfl (by omega)).mono ?_
        rintro e w5 ⟨rfl, b5⟩
        rw [Nat.add_zero]
        have CB5 := (show Hid _ from CB4.out.below b5)
        clear CB4 b5 c0 c1 c2
        go_wp2
        go_roundw
        case rel => exact ⟨k + 1, by omega, hk, rfl, CB5⟩
        case measure => rw [CB5.out.plc, MP.out]; omega
      · have hk := upTo_here hk0 hk1 hkl (by rw [← hx]; exact hp)
        have FN := FIN hk
        rw [hp] at cf
        have PT : Hid (∀ w' j, Cut w0 g (.slice a xs.length ca) xs j w' → (¬ ca = i → Sl .i64 w' (.slice (Option.map (fun x => x.add i) a) (k - i) (ca - i)) (sub xs i (upTo p xs i))) ∧ (ca = i → Sl .i64 w' (.slice a 0 0) (sub xs i (upTo p xs i)))) := (show _ from fun w' j b => by
          have c := b.sl
          rw [← hk]
          exact ⟨fun hc => part_sl c hk0 (by omega) hc, fun hc => part_sl0 a ca (by omega)⟩)
        clear hp hx FIN hk
        go_wp2_with fail
        refine cf.mono ?_
        rintro e w3 ⟨rfl, b3⟩
        have cb3 := (show Hid _ from cb.out.below b3)
        have B3 := (show Hid _ from b3)
        clear cf cb b3
        obtain ⟨c0, c1, c2⟩ := cb3.out.cells
        have cg := cb3.out.cut.cell.1
        have z0 : w3.drew.cell? ⟨w.heap.size, 0, none⟩ = some (.slice a xs.length ca) ∧ w3.drew.cell? ⟨w.heap.size, 1, none⟩ = some (.pointer (some ⟨g, 0, none⟩)) ∧ w3.drew.cell? ⟨g, 0, none⟩ = some (.int .i64 k) := ⟨c0, c1, cg⟩
        go_upto_region 6 with fail
        have hb1 : (i : Int) ≤ (k : Int) := by omega
        have hb2 : (k : Int) ≤ (ca : Int) := by omega
        by_cases hci : ca = i
        · have hki : k = i := by omega
          go_region_held3 (fun w' => w'.cell? ⟨w.heap.size, 0, none⟩ = some (.slice a xs.length ca) ∧ w'.cell? ⟨w.heap.size, 1, none⟩ = some (.pointer (some ⟨g, 0, none⟩)) ∧ w'.cell? ⟨g, 0, none⟩ = some (.int .i64 k)) (with_reducible exact z0) (fail)
          go_wp2
          go_ret
          exact ⟨_, rfl, fun W j b => (PT.out W j b).2 hci, (FN.out _ (B3.out.trans (below_drewN 1))).1, (FN.out _ (B3.out.trans (below_drewN 1))).2⟩
        · go_region_held3 (fun w' => w'.cell? ⟨w.heap.size, 0, none⟩ = some (.slice a xs.length ca) ∧ w'.cell? ⟨w.heap.size, 1, none⟩ = some (.pointer (some ⟨g, 0, none⟩)) ∧ w'.cell? ⟨g, 0, none⟩ = some (.int .i64 k)) (with_reducible exact z0) (fail)
          go_wp2
          go_ret
          exact ⟨_, rfl, fun W j b => (PT.out W j b).1 hci, (FN.out _ (B3.out.trans (below_drewN 1))).1, (FN.out _ (B3.out.trans (below_drewN 1))).2⟩
    · have hk := upTo_last hk0 hk1 (by omega)
      have FN := FIN hk
      have PT : Hid (∀ w' j, Cut w0 g (.slice a xs.length ca) xs j w' → (¬ ca = i → Sl .i64 w' (.slice (Option.map (fun x => x.add i) a) (k - i) (ca - i)) (sub xs i (upTo p xs i))) ∧ (ca = i → Sl .i64 w' (.slice a 0 0) (sub xs i (upTo p xs i)))) := (show _ from fun w' j b => by
        have c := b.sl
        rw [← hk]
        exact ⟨fun hc => part_sl c hk0 (by omega) hc, fun hc => part_sl0 a ca (by omega)⟩)
      rw [atL_out (show xs.length ≤ k by omega)]
      clear FIN hk
      obtain ⟨c0, c1, c2⟩ := cb.out.cells
      have cg := cb.out.cut.cell.1
      have z0 : wr.drew.cell? ⟨w.heap.size, 0, none⟩ = some (.slice a xs.length ca) ∧ wr.drew.cell? ⟨w.heap.size, 1, none⟩ = some (.pointer (some ⟨g, 0, none⟩)) ∧ wr.drew.cell? ⟨g, 0, none⟩ = some (.int .i64 k) := ⟨c0, c1, cg⟩
      go_upto_region 6 with fail
      have hb1 : (i : Int) ≤ (k : Int) := by omega
      have hb2 : (k : Int) ≤ (ca : Int) := by omega
      by_cases hci : ca = i
      · have hki : k = i := by omega
        go_region_held3 (fun w' => w'.cell? ⟨w.heap.size, 0, none⟩ = some (.slice a xs.length ca) ∧ w'.cell? ⟨w.heap.size, 1, none⟩ = some (.pointer (some ⟨g, 0, none⟩)) ∧ w'.cell? ⟨g, 0, none⟩ = some (.int .i64 k)) (with_reducible exact z0) (fail)
        go_wp2
        go_ret
        exact ⟨_, rfl, fun W j b => (PT.out W j b).2 hci, (FN.out _ (below_drewN 1)).1, (FN.out _ (below_drewN 1)).2⟩
      · go_region_held3 (fun w' => w'.cell? ⟨w.heap.size, 0, none⟩ = some (.slice a xs.length ca) ∧ w'.cell? ⟨w.heap.size, 1, none⟩ = some (.pointer (some ⟨g, 0, none⟩)) ∧ w'.cell? ⟨g, 0, none⟩ = some (.int .i64 k)) (with_reducible exact z0) (fail)
        go_wp2
        go_ret
        exact ⟨_, rfl, fun W j b => (PT.out W j b).1 hci, (FN.out _ (below_drewN 1)).1, (FN.out _ (below_drewN 1)).2⟩
end Go.Proofs.YtggfifchkecnjaaGreatDoor

/- Tokens, plain: places behind attributes and tags; sizes. No condition. -/
namespace Go.Proofs.YtggfifchkecnjaaGreatDoor
open Go.RowKit
set_option maxRecDepth 100000
set_option linter.unusedVariables false

theorem lowOf_size {ys : List Int} (hl : ys.length ≤ 3000) (i j : Nat) : (lowOf ys i j).size ≤ 12000 := by
  unfold lowOf
  rw [strOf_size]
  have h1 := puts_len ((sub ys i j).map lowerOf)
  have h2 := sub_few (i := i) (j := j) hl
  rw [List.length_map] at h1
  omega
theorem txtOf_size {ys : List Int} (hl : ys.length ≤ 3000) (i j : Nat) : (txtOf ys i j).size ≤ 12000 := by
  unfold txtOf
  rw [strOf_size]
  have h1 := puts_len (sub ys i j)
  have h2 := sub_few (i := i) (j := j) hl
  omega
theorem past_le {ys : List Int} {i : Nat} (h : i ≤ ys.length) : i ≤ past ys i ∧ past ys i ≤ ys.length := by unfold past; split <;> omega
theorem skip_le {ys : List Int} {i : Nat} (h : i ≤ ys.length) : i ≤ skipB ys i ∧ skipB ys i ≤ ys.length := ⟨upTo_ge _ _ _, upTo_le h⟩
theorem valM_le {ys : List Int} (hl : ys.length ≤ 3000) {i : Nat} (h : i ≤ ys.length) : i ≤ (valM ys i).2 ∧ (valM ys i).2 ≤ ys.length ∧ (valM ys i).1.size ≤ 12000 := by
  unfold valM
  by_cases hq : atL ys i = 34 ∨ atL ys i = 39
  · rw [if_pos hq]
    have hi : i < ys.length := by
      by_cases hi : i < ys.length
      · exact hi
      · rw [atL_out (by omega)] at hq; omega
    obtain ⟨h1, h2⟩ := val_end (ends_quote hq) hl ys.length (i + 1) (by omega) hi
    unfold valV at h1 h2
    have h3 := upTo_ge (fun x => x == atL ys i) ys (i + 1)
    have h4 := upTo_le (p := fun x => x == atL ys i) (ys := ys) (i := i + 1) hi
    have h5 := past_le (ys := ys) (i := (valF (fun x => x == atL ys i) ys ys.length (i + 1)).2) (by omega)
    have h6 := puts_len (valF (fun x => x == atL ys i) ys ys.length (i + 1)).1
    simp only
    rw [strOf_size]
    omega
  · rw [if_neg hq]
    obtain ⟨h1, h2⟩ := val_end ends_word hl ys.length i (by omega) h
    unfold valV at h1 h2
    have h3 := upTo_ge endWord ys i
    have h4 := upTo_le (p := endWord) (ys := ys) (i := i) h
    have h6 := puts_len (valF endWord ys ys.length i).1
    simp only
    rw [strOf_size]
    omega
theorem attrM_le {ys : List Int} (hl : ys.length ≤ 3000) {i : Nat} (h : i < ys.length) : i < (attrM ys i).2 ∧ (attrM ys i).2 ≤ ys.length ∧ (attrM ys i).1.1.size ≤ 12000 ∧ (attrM ys i).1.2.size ≤ 12000 := by
  have h1 := upTo_ge endAttr ys (i + 1)
  have h2 := upTo_le (p := endAttr) (ys := ys) (i := i + 1) h
  obtain ⟨h3, h4⟩ := skip_le h2
  unfold attrM
  simp only
  by_cases h61 : atL ys (skipB ys (upTo endAttr ys (i + 1))) = 61
  · rw [if_pos h61]
    have hj : skipB ys (upTo endAttr ys (i + 1)) < ys.length := by
      by_cases hj : skipB ys (upTo endAttr ys (i + 1)) < ys.length
      · exact hj
      · rw [atL_out (by omega)] at h61; omega
    obtain ⟨h5, h6⟩ := skip_le (ys := ys) (i := skipB ys (upTo endAttr ys (i + 1)) + 1) hj
    obtain ⟨h7, h8, h9⟩ := valM_le hl h6
    exact ⟨by show i < (valM ys _).2; omega, h8, lowOf_size hl _ _, h9⟩
  · rw [if_neg h61]
    exact ⟨by show i < skipB ys _; omega, h4, lowOf_size hl _ _, Nat.zero_le _⟩
def Few (rs : List (ByteArray × ByteArray)) : Prop := rs.length ≤ 20 ∧ ∀ p ∈ rs, p.1.size ≤ 12000 ∧ p.2.size ≤ 12000
theorem few_nil : Few [] := ⟨by simp, fun p h => by cases h⟩
theorem few_add {rs : List (ByteArray × ByteArray)} (h : Few rs) {p : ByteArray × ByteArray} (h1 : p.1.size ≤ 12000) (h2 : p.2.size ≤ 12000) : Few (attrAdd rs p) := by
  unfold attrAdd
  split
  · exact h
  · rename_i hc
    refine ⟨?_, fun q hq => ?_⟩
    · rw [List.length_append, List.length_singleton]
      simp only [Bool.or_eq_true, decide_eq_true_eq, not_or] at hc
      omega
    · rcases List.mem_append.mp hq with hq | hq
      · exact h.2 q hq
      · rw [List.mem_singleton] at hq
        subst hq; exact ⟨h1, h2⟩
theorem tag_fuel {ys : List Int} (hl : ys.length ≤ 3000) : ∀ (f f' k : Nat) (rs : List (ByteArray × ByteArray)), ys.length - k < f → ys.length - k < f' → tagF ys f k rs = tagF ys f' k rs := by
  intro f
  induction f with
  | zero => intro f' k rs h1 h2; omega
  | succ f ih =>
    intro f' k rs h1 h2
    cases f' with
    | zero => omega
    | succ f' =>
      rw [tagF, tagF]
      by_cases hk : ys.length ≤ k
      · rw [if_pos hk, if_pos hk]
      · rw [if_neg hk, if_neg hk]
        by_cases h62 : atL ys k = 62
        · rw [if_pos h62, if_pos h62]
        · rw [if_neg h62, if_neg h62]
          by_cases h47 : atL ys k = 47 ∧ atL ys (k + 1) = 62
          · rw [if_pos h47, if_pos h47]
          · rw [if_neg h47, if_neg h47]
            by_cases he : endTag (atL ys k) = true
            · rw [if_pos he, if_pos he]; exact ih f' _ _ (by omega) (by omega)
            · rw [if_neg he, if_neg he]
              have := attrM_le hl (show k < ys.length by omega)
              exact ih f' _ _ (by omega) (by omega)
def tagV (ys : List Int) (k : Nat) (rs : List (ByteArray × ByteArray)) : Option (List (ByteArray × ByteArray) × Bool × Nat) := tagF ys (ys.length + 1) k rs
theorem tag_out {ys : List Int} {k : Nat} {rs : List (ByteArray × ByteArray)} (h : ys.length ≤ k) : tagV ys k rs = none := by unfold tagV; rw [tagF, if_pos h]
theorem tag_gr {ys : List Int} {k : Nat} {rs : List (ByteArray × ByteArray)} (h : k < ys.length) (h62 : atL ys k = 62) : tagV ys k rs = some (rs, false, k + 1) := by unfold tagV; rw [tagF, if_neg (by omega), if_pos h62]
theorem tag_self {ys : List Int} {k : Nat} {rs : List (ByteArray × ByteArray)} (h : k < ys.length) (h47 : atL ys k = 47) (h62 : atL ys (k + 1) = 62) : tagV ys k rs = some (rs, true, k + 2) := by unfold tagV; rw [tagF, if_neg (by omega), if_neg (by omega), if_pos ⟨h47, h62⟩]
theorem tag_skip {ys : List Int} (hl : ys.length ≤ 3000) {k : Nat} {rs : List (ByteArray × ByteArray)} (h : k < ys.length) (h1 : atL ys k ≠ 62) (h2 : ¬ (atL ys k = 47 ∧ atL ys (k + 1) = 62)) (he : endTag (atL ys k) = true) : tagV ys k rs = tagV ys (k + 1) rs := by
  unfold tagV
  rw [tag_fuel hl (ys.length + 1) (ys.length) (k + 1) rs (by omega) (by omega)]
  conv => lhs; rw [tagF, if_neg (by omega), if_neg h1, if_neg h2, if_pos he]
theorem tag_attr {ys : List Int} (hl : ys.length ≤ 3000) {k : Nat} {rs : List (ByteArray × ByteArray)} (h : k < ys.length) (h1 : atL ys k ≠ 62) (he : endTag (atL ys k) = false) : tagV ys k rs = tagV ys (attrM ys k).2 (attrAdd rs (attrM ys k).1) := by
  have ha := attrM_le hl h
  unfold tagV
  rw [tag_fuel hl (ys.length + 1) (ys.length) (attrM ys k).2 _ (by omega) (by omega)]
  have h2 : ¬ (atL ys k = 47 ∧ atL ys (k + 1) = 62) := by
    rintro ⟨h47, _⟩
    rw [h47] at he
    exact absurd he (by decide)
  conv => lhs; rw [tagF, if_neg (by omega), if_neg h1, if_neg h2, if_neg (by rw [he]; decide)]
theorem tag_tells {ys : List Int} (hl : ys.length ≤ 3000) : ∀ (d k : Nat) (rs : List (ByteArray × ByteArray)), ys.length - k ≤ d → Few rs → ∀ r, tagV ys k rs = some r → k < r.2.2 ∧ r.2.2 ≤ ys.length ∧ Few r.1 := by
  intro d
  induction d with
  | zero => intro k rs h1 _ r h; rw [tag_out (by omega)] at h; cases h
  | succ d ih =>
    intro k rs h1 hf r h
    by_cases hk : k < ys.length
    · by_cases h62 : atL ys k = 62
      · rw [tag_gr hk h62] at h; cases h; exact ⟨by simp, hk, hf⟩
      · by_cases h47 : atL ys k = 47 ∧ atL ys (k + 1) = 62
        · rw [tag_self hk h47.1 h47.2] at h; cases h
          have : k + 1 < ys.length := by
            by_cases hh : k + 1 < ys.length
            · exact hh
            · have := h47.2; rw [atL_out (by omega)] at this; omega
          exact ⟨by simp, by simp; omega, hf⟩
        · cases he : endTag (atL ys k)
          · rw [tag_attr hl hk h62 he] at h
            have ha := attrM_le hl hk
            obtain ⟨i1, i2, i3⟩ := ih _ _ (by omega) (few_add hf ha.2.2.1 ha.2.2.2) r h
            exact ⟨by omega, i2, i3⟩
          · rw [tag_skip hl hk h62 h47 he] at h
            obtain ⟨i1, i2, i3⟩ := ih _ _ (by omega) hf r h
            exact ⟨by omega, i2, i3⟩
    · rw [tag_out (by omega)] at h; cases h
end Go.Proofs.YtggfifchkecnjaaGreatDoor

/- The program's cutter: a text that stands ahead, and is taken. No condition. -/
namespace Go.Proofs.YtggfifchkecnjaaGreatDoor
open Go.RowKit
set_option maxRecDepth 100000
set_option linter.unusedVariables false

theorem bs_extract (t : ByteArray) (a b : Nat) : bs (t.extract a b) = ((bs t).drop a).take (b - a) := by
  unfold bs
  rw [← List.map_drop, ← List.map_take]
  congr 1
  simp [ByteArray.data_extract]
theorem size_extract (t : ByteArray) (a b : Nat) (h : b ≤ t.size) : (t.extract a b).size = b - a := by
  rw [← bs_len, bs_extract, List.length_take, List.length_drop, bs_len]; omega
theorem extract_twice (t : ByteArray) {j n : Nat} (h : j + n ≤ t.size) : (t.extract j t.size).extract n (t.size - j) = t.extract (j + n) t.size := by
  have e : bs ((t.extract j t.size).extract n (t.size - j)) = bs (t.extract (j + n) t.size) := by
    rw [bs_extract, bs_extract, bs_extract, List.drop_take, List.drop_drop, List.take_take]
    congr 1
    omega
  have := congrArg strOf e
  rwa [strOf_bs, strOf_bs] at this
theorem at_ok {xs : List Int} (hy : ∀ y ∈ xs, pointOk y = true) {k : Nat} (h : k < xs.length) : pointOk (atL xs k) = true := by
  rw [atL_in h]
  have e : xs.getD k 0 = xs[k] := by simp [List.getD_eq_getElem?_getD, h]
  rw [e]; exact hy _ (List.getElem_mem h)

set_option maxHeartbeats 4000000 in
theorem behindText_any {w0 : World} {g : Nat} {v : Value} {xs : List Int} {k : Nat} {w : World} (h : Cut w0 g v xs k w) (hy : ∀ y ∈ xs, pointOk y = true) (s t : ByteArray) (ht : LowT t) (i : Nat) (hi : i ≤ 10) :
    Calls Tryz.prog 128 #[cutVal v g s, .int .i64 i, .string t] w fun e w' => e = .returned (.tuple #[.int .i64 (if standsLow xs (k + i) (bs t) then ((i + t.size : Nat) : Int) else 0), .bool (standsLow xs (k + i) (bs t))]) ∧ Cut w0 g v xs k w' ∧ w.grownBy w' (some g) := by
  have hcb := cb_new (s := s) h
  obtain ⟨w1, hw1⟩ : ∃ z, z = w.alloc (.cells #[v, .pointer (some ⟨g, 0, none⟩), .string s] 47) := ⟨_, rfl⟩
  rw [← hw1] at hcb
  have HCB := (show Hid (CB w0 g v xs s w k w1) from hcb)
  have HY := (show Hid (∀ y ∈ xs, pointOk y = true) from hy)
  have HT := (show Hid (LowT t) from ht)
  have hts := ht.1
  have hbl := bs_len t
  obtain ⟨st, hst⟩ : ∃ z, z = standsLow xs (k + i) (bs t) := ⟨_, rfl⟩
  rw [← hst]
  have HST := (show Hid (st = standsLow xs (k + i) (bs t)) from hst)
  have hil := h.2.2.2.1.2
  have hxl := h.2.2.2.1.1
  clear hcb h hy hst ht
  unfold cutVal
  go_enter Tryz.func128, Tryz.ntmps128
  go_upto_region 1 with fail
  rw [← hw1]
  clear hw1
  go_loopw [1, 2] (fun u z wr => ∃ j : Nat, j ≤ t.size ∧ u = .int .i64 ((i + j : Nat) : Int) ∧ z = .string (t.extract j t.size) ∧ Hid (standsLow xs (k + i) ((bs t).take j) = true ∧ CB w0 g v xs s w k wr)) (fun u _ _ => 20 - (intOf u).toNat)
  case atStart => exact ⟨0, Nat.zero_le _, by rw [Nat.add_zero], by simp, by rw [List.take_zero]; exact ⟨rfl, HCB.out⟩⟩
  case round =>
    clear HCB
    obtain ⟨j, hj, rfl, rfl, I⟩ := hrel
    have cb := (show Hid _ from I.out.2)
    have hus := size_extract t j t.size (Nat.le_refl _)
    obtain ⟨u, hu⟩ : ∃ u, u = t.extract j t.size := ⟨_, rfl⟩
    rw [← hu] at hus ⊢
    by_cases hjt : j < t.size
    · have hne := empty_no (s := u) (by omega)
      obtain ⟨c0, c1, c2⟩ := cb.out.cells
      have HU := (show Hid (u = t.extract j t.size) from hu)
      clear hu
      go_wp2_with fail
      go_at_call 108
      refine (ahead_cb cb.out (i + j) _ rfl (by omega)).mono ?_
      rintro e w2 ⟨rfl, b2⟩
      have cb2 := (show Hid _ from cb.out.below b2)
      clear b2 c0 c1 c2 cb
      obtain ⟨x, hx⟩ : ∃ x, x = atL xs (k + (i + j)) := ⟨_, rfl⟩
      rw [← hx]
      have HX := (show Hid (x = atL xs (k + (i + j))) from hx)
      clear hx
      go_wp2_with fail
      go_at_call 111
      refine (iput_any _ _).mono ?_
      rintro e w3 ⟨vp, rfl, op, b3⟩
      have cb3 := (show Hid _ from cb2.out.below b3)
      have hpl := put_len x
      have hcv := conv_sl op.sl
      obtain ⟨pp, hpp⟩ : ∃ pp, pp = strOf (put x) := ⟨_, rfl⟩
      rw [← hpp] at hcv
      have hpb : bs pp = put x := by rw [hpp]; exact put_str x
      have hps : pp.size = (put x).length := by rw [← bs_len, hpb]
      have cl := fun W => ilowerText_any pp W (by omega)
      rw [hpb] at cl
      have CL := (show Hid _ from cl)
      have HPS := (show Hid (pp.size = (put x).length) from hps)
      clear cb2 b3 op hpp hpb cl hps
      go_wp2_with fail
      go_at_call 138
      refine (CL.out _).mono ?_
      rintro e w4 ⟨rfl, b4⟩
      have cb4 := (show Hid _ from cb3.out.below b4)
      clear cb3 b4 CL hcv
      obtain ⟨pt, hpt⟩ : ∃ z, z = strOf ((put x).map lowerOf) := ⟨_, rfl⟩
      rw [← hpt]
      have hptb : bs pt = (put x).map lowerOf := by rw [hpt]; exact bs_strOf (low_byte (put_byte x))
      have hpts : pt.size = (put x).length := by rw [← bs_len, hptb, List.length_map]
      have HPT := (show Hid (pt = strOf ((put x).map lowerOf)) from hpt)
      obtain ⟨c0, c1, c2⟩ := cb4.out.cells
      clear hpt hptb
      go_wp2_with fail
      go_at_call 108
      refine (ahead_cb cb4.out (i + j) _ rfl (by omega)).mono ?_
      rintro e w5 ⟨rfl, b5⟩
      have cb5 := (show Hid _ from cb4.out.below b5)
      rw [← HX.out]
      clear b5 c0 c1 c2 cb4
      have hbj : standsLow xs (k + i) ((bs t).take (j + 1)) = (lowerOf x == (bs t).getD j 0) := by
        rw [standsLow_succ _ _ _ _ (by omega), I.out.1, Bool.true_and, HX.out, Nat.add_assoc]
      by_cases hxn : x = -1
      · have est : st = false := by
          rw [HST.out]
          refine standsLow_no (j := j) (by omega) ?_
          rw [Nat.add_assoc, ← HX.out, hxn]
          have := bs_bound t j
          have : lowerOf (-1) = -1 := by decide
          omega
        subst est
        subst hxn
        clear hbj
        go_wp2
        refine bodyPost_ret (results_tmp2 rfl _ _ _) rfl ?_
        exact ⟨rfl, cb5.out.cut, cb5.out.gro⟩
      · have hkl : k + (i + j) < xs.length := by
          by_cases h : k + (i + j) < xs.length
          · exact h
          · exact absurd (by rw [HX.out, atL_out (by omega)]) hxn
        have hok : pointOk x = true := by rw [HX.out]; exact at_ok HY.out hkl
        obtain ⟨b1, b2⟩ := behind_step HT.out hok hjt
        have hx1 : (x == -1) = false := by simp [hxn]
        rw [← HPT.out, ← hpts] at b1 b2
        obtain ⟨L, hL⟩ : ∃ L, L = strOf ((((bs t).drop j).take pt.size).map lowerOf) := ⟨_, rfl⟩
        rw [← hL] at b1 b2
        by_cases heq : lowerOf x = (bs t).getD j 0
        · obtain ⟨h1, h2⟩ := b1 heq
          have hst1 : standsLow xs (k + i) ((bs t).take (j + 1)) = true := by rw [hbj]; simp [heq]
          have HST1 := (show Hid (standsLow xs (k + i) ((bs t).take (j + 1)) = true) from hst1)
          have hube : bs (u.extract 0 1) = ((bs t).drop j).take 1 := by
            rw [bs_extract, HU.out, bs_extract, List.drop_zero, List.take_take]
            congr 1; omega
          have cl := fun W => ilowerText_any (u.extract 0 1) W (by rw [size_extract _ _ _ (by omega)]; omega)
          rw [hube] at cl
          rw [h1] at hL
          rw [← hL, h2] at cl
          have CL := (show Hid _ from cl)
          have hpu : ¬ (pt.size > u.size) := by omega
          have hun : u.extract 1 (t.size - j) = t.extract (j + 1) t.size := by rw [HU.out]; exact extract_twice t (by omega)
          rw [← hus] at hun
          clear b1 b2 heq hbj hxn hkl hok hL h2 hst1 hube cl hpts
          go_wp2_with fail
          go_at_call 138
          refine (CL.out _).mono ?_
          rintro e w6 ⟨rfl, b6⟩
          have cb6 := (show Hid _ from cb5.out.below b6)
          clear cb5 b6 CL
          go_wp2
          go_roundw
          case rel => exact ⟨j + 1, by omega, by go_num, by rw [← hun, hus], HST1.out, cb6.out⟩
          case measure => simp [intOf]; omega
        · have est : st = false := by
            rw [HST.out]
            refine standsLow_no (j := j) (by omega) ?_
            rw [Nat.add_assoc, ← HX.out]
            exact heq
          subst est
          have hb2 := b2 heq
          clear b1 b2 hbj
          by_cases hgt : u.size < pt.size
          · clear hb2 heq hkl hok hL
            go_wp2
            refine bodyPost_ret (results_tmp2 rfl _ _ _) rfl ?_
            exact ⟨rfl, cb5.out.cut, cb5.out.gro⟩
          · have hLp : L ≠ pt := by
              rcases hb2 with h | h
              · omega
              · exact h
            have hLq := toList_ne hLp
            have hube : bs (u.extract 0 pt.size) = ((bs t).drop j).take pt.size := by
              rw [bs_extract, HU.out, bs_extract, List.drop_zero, List.take_take]
              congr 1; omega
            have cl := fun W => ilowerText_any (u.extract 0 pt.size) W (by rw [size_extract _ _ _ (by omega)]; omega)
            rw [hube, ← hL] at cl
            have CL := (show Hid _ from cl)
            clear hb2 heq hkl hok hL hube cl hpts hus
            go_wp2_with fail
            go_at_call 138
            refine (CL.out _).mono ?_
            rintro e w6 ⟨rfl, b6⟩
            have cb6 := (show Hid _ from cb5.out.below b6)
            clear cb5 b6 CL
            go_wp2
            refine bodyPost_ret (results_tmp2 rfl _ _ _) rfl ?_
            exact ⟨rfl, cb6.out.cut, cb6.out.gro⟩
    · have hjt2 : j = t.size := by omega
      have hue := empty_yes (s := u) (by omega)
      have est : st = true := by
        rw [HST.out]
        have := I.out.1
        rwa [hjt2, ← hbl, List.take_length] at this
      have CE := (show Hid _ from cb)
      have hi' : ((i + t.size : Nat) : Int) = (i : Int) + (t.size : Int) := by omega
      subst est
      subst hjt2
      clear hu cb I
      go_wp2
      refine bodyPost_ret (results_tmp2 rfl _ _ _) rfl ?_
      exact ⟨rfl, CE.out.cut, CE.out.gro⟩
end Go.Proofs.YtggfifchkecnjaaGreatDoor
