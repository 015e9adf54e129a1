/- The draws of attributes. -/
import Derived.Test.YtlggfbelandpjaaDrawS
import Derived.Test.YtlggfbelandpjaaSAttr3
import Derived.Test.YtlggfbelandpjaaWAttr3
namespace Go.Proofs.Ytlggfbelandpjaa
open Go.RowKit
set_option linter.unusedVariables false

theorem drawText_any {w0 : World} {g : Nat} {v : Value} {xs : List Int} {w : World} (h : Cur w0 g v xs w) (hb : ∀ x ∈ xs, 0 ≤ x ∧ x ≤ 255) :
    Calls Try.prog 32 #[.pointer (some ⟨g, 0, none⟩)] w fun e w' => ∃ s : ByteArray, e = .returned (.string s) ∧ s.size ≤ 5 ∧ Cur w0 g v xs w' ∧ w.grownBy w' (some g) := by
  have HB : Hid (∀ x ∈ xs, 0 ≤ x ∧ x ≤ 255) := hb
  clear hb
  go_enter Try.func32, Try.ntmps32
  go_wp2_with fail
  go_at_call 31
  refine (pickS_any h HB.out [⟨#[]⟩, ⟨#[97]⟩, ⟨#[120, 32, 121]⟩, ⟨#[195, 169]⟩, ⟨#[60, 98, 62]⟩, ⟨#[34]⟩, ⟨#[38]⟩, ⟨#[194, 160, 122]⟩, ⟨#[49]⟩] (by simp) (by simp) _ rfl 9 rfl).mono ?_
  rintro e w1 ⟨t, rfl, ht, k1, g1⟩
  have hts : t.size ≤ 5 := by
    have : ∀ t ∈ ([⟨#[]⟩, ⟨#[97]⟩, ⟨#[120, 32, 121]⟩, ⟨#[195, 169]⟩, ⟨#[60, 98, 62]⟩, ⟨#[34]⟩, ⟨#[38]⟩, ⟨#[194, 160, 122]⟩, ⟨#[49]⟩] : List ByteArray), t.size ≤ 5 := by decide
    exact this t ht
  go_wp2
  go_ret
  exact ⟨t, rfl, hts, k1, g1⟩

theorem some_pairs (w : World) (cs : Array Value) (qs : List (ByteArray × ByteArray)) (m : Nat) (hm : m = qs.length) (hc : cs.toList = pairCells qs) (hb : m ≤ 1000) : Sv 2 (w.alloc (.cells cs 26)) (.slice (some ⟨w.heap.size, 0, none⟩) m m) (pairCells qs) := by
  subst hm
  refine ⟨some ⟨w.heap.size, 0, none⟩, qs.length, qs.length, rfl, pairCells_len qs, Nat.le_refl _, by unfold maxLen; omega, (fun e => by cases e), fun i hi => ⟨w.heap.size, 0, rfl, ?_⟩⟩
  have e : cs[i]? = some ((pairCells qs).getD i undef) := by
    have : cs.toList[i]? = some ((pairCells qs).getD i undef) := by rw [hc]; simp [List.getD_eq_getElem?_getD, hi]
    simpa using this
  simp only [World.cell?, heap_alloc_new, Nat.zero_add]
  simpa using e

theorem own1b (w : World) (x : Int) : Own w.heap.size 5 .u8 (w.alloc (.cells #[.int .u8 x] 5)) (.slice (some ⟨w.heap.size, 0, none⟩) 1 1) [x] :=
  World.ownsRow_lit w #[.int .u8 x] 1 (Nat.le_refl _) (by unfold maxLen; omega) rfl

theorem row_past {B size n g : Nat} {e : TypeId} {w w' : World} {v : Value} {xs : List Value} (h : w.ownsRow B e size v n xs) (hg : w.grownBy w' (some g)) (hB : g < B) : w'.ownsRow B e size v n xs := by
  by_cases h0 : v.ownBlock = none
  · exact World.ownsRow.kept h hg (.inl h0)
  · obtain ⟨k, hk⟩ := Option.ne_none_iff_exists'.mp h0
    exact World.ownsRow.kept h hg (.inr (by rw [hk]; intro e; injection e with e; have := (World.ownsRow.lt h k hk).1; omega))

set_option maxHeartbeats 4000000 in
set_option maxRecDepth 100000 in
theorem drawAttrs_any {w0 : World} {g : Nat} {v : Value} {xs : List Int} {w : World} (h : Cur w0 g v xs w) (hb : ∀ x ∈ xs, 0 ≤ x ∧ x ≤ 255) :
    Calls Try.prog 30 #[.pointer (some ⟨g, 0, none⟩)] w fun e w' => ∃ (v' : Value) (rs : List (ByteArray × ByteArray)), e = .returned v' ∧ w'.ownsRow w.heap.size 26 2 v' rs.length (pairCells rs) ∧ rs.length ≤ 40 ∧ (∀ p ∈ rs, p.1.size ≤ 3001 ∧ p.2.size ≤ 3001) ∧ Cur w0 g v xs w' ∧ w.grownBy w' (some g) := by
  have HB : Hid (∀ x ∈ xs, 0 ≤ x ∧ x ≤ 255) := hb
  clear hb
  have hgw := h.lt
  obtain ⟨i0, hi, hz0, hz1, hz2⟩ := info_parts Try.infoA
  have o0 := empty_row w w.heap.size 26 2 (Nat.le_refl _)
  have k0 := h.below ((Below.refl _ _).alloc (Nat.le_refl _) (.cells #[] 26))
  have g0 : w.grownBy (w.alloc (.cells #[] 26)) (some g) := World.grownBy_alloc _ _ _
  go_enter Try.func30, Try.ntmps30
  go_wp2
  go_loopw [3, 4] (fun u i wr => ∃ (j : Nat) (rs : List (ByteArray × ByteArray)), j ≤ 4 ∧ i = .int .i64 j ∧ wr.ownsRow w.heap.size 26 2 u rs.length (pairCells rs) ∧ rs.length ≤ j ∧ (∀ p ∈ rs, p.1.size ≤ 3001 ∧ p.2.size ≤ 3001) ∧ Cur w0 g v xs wr ∧ w.grownBy wr (some g)) (fun _ i _ => 4 - (intOf i).toNat)
  case atStart => exact ⟨0, [], by omega, rfl, o0, by simp, (fun p hp => by cases hp), k0, g0⟩
  case round =>
    clear o0 k0 g0
    obtain ⟨j, rs, hj, rfl, own, hl, hz, cur, gr⟩ := hrel
    have HZ := (show Hid (∀ p ∈ rs, p.1.size ≤ 3001 ∧ p.2.size ≤ 3001) from hz)
    clear hz
    obtain ⟨au, cu, rfl, _, _, _⟩ := (sv_of_own own).pair
    go_wp2_with fail
    go_at_call 34
    refine (below_any _ (by omega) cur HB.out).mono ?_
    rintro e w1 ⟨n, rfl, n0, n1, n2, k1, g1⟩
    replace n1 := n1 (by omega)
    replace own := row_past own g1 hgw
    replace g1 := grown_trans gr g1
    clear n2 cur gr
    by_cases hlt : (j : Int) < n
    · go_wp2_with fail
      go_at_call 31
      refine (pickS_any k1 HB.out [⟨#[105, 100]⟩, ⟨#[99, 108, 97, 115, 115]⟩, ⟨#[120]⟩, ⟨#[61, 121]⟩, ⟨#[195, 169]⟩] (by simp) (by simp) _ rfl 5 rfl).mono ?_
      rintro e w2 ⟨t, rfl, ht, k2, g2⟩
      have hts : t.size ≤ 5 := by
        have : ∀ t ∈ ([⟨#[105, 100]⟩, ⟨#[99, 108, 97, 115, 115]⟩, ⟨#[120]⟩, ⟨#[61, 121]⟩, ⟨#[195, 169]⟩] : List ByteArray), t.size ≤ 5 := by decide
        exact this t ht
      replace own := row_past own g2 hgw
      replace g2 := grown_trans g1 g2
      clear ht k1 g1
      go_wp2_with fail
      go_at_call 32
      refine (drawText_any k2 HB.out).mono ?_
      rintro e w3 ⟨t3, rfl, ht3, k3, g3⟩
      replace own := row_past own g3 hgw
      replace g3 := grown_trans g2 g3
      clear k2 g2
      go_wp2_with fail
      go_at_call 11
      refine (sattrAdd_any (sv_of_own own) (t, t3) (by omega) (by simp only; omega) (by simp only; omega)).mono ?_
      rintro e w4 ⟨v4, rfl, o4, b4⟩
      have hsz : ∀ p ∈ attrAdd rs (t, t3), p.1.size ≤ 3001 ∧ p.2.size ≤ 3001 := fun p hp => by
        unfold attrAdd at hp
        split at hp
        · exact HZ.out p hp
        · rcases List.mem_append.mp hp with hp | hp
          · exact HZ.out p hp
          · simp only [List.mem_singleton] at hp
            subst hp
            simp only
            omega
      have hal := attrAdd_len rs (t, t3)
      have HSZ := (show Hid _ from hsz)
      have G4 := (show Hid _ from grown_below g3 b4)
      have K4 := (show Hid _ from k3.below b4)
      have O4 := (show Hid (w4.ownsRow w.heap.size 26 2 v4 (attrAdd rs (t, t3)).length (pairCells (attrAdd rs (t, t3)))) from row_base o4 (by have := g3.size; omega))
      clear hsz o4 own HZ
      go_wp2
      go_roundw
      case rel => exact ⟨j + 1, _, by omega, by go_num, O4.out, by omega, HSZ.out, K4.out, G4.out⟩
      case measure => simp [intOf]; omega
    · go_wp2_with fail
      go_at_call 34
      refine (below_any _ (by omega) k1 HB.out).mono ?_
      rintro e w2 ⟨m, rfl, m0, m1, m2, k2, g2⟩
      replace own := row_past own g2 hgw
      replace g2 := grown_trans g1 g2
      clear m2 k1 g1
      by_cases h0 : m = 0
      · subst h0
        have ow := ownsRow_below own ((Below.refl _ w2).alloc (Nat.le_refl _) (.cells #[.string ⟨#[105, 100]⟩, .string ⟨#[]⟩, .string ⟨#[105, 100]⟩, .string ⟨#[]⟩] 26))
        go_wp2_with (at_builtin; refine wpList_appV _ rfl _ _ 24 rfl w.heap.size 26 i0 _ 2 32 Try.underlying24 hi hz0 hz1 hz2 rfl (by decide) _ _ rs.length 2 _ (pairCells [(⟨#[105, 100]⟩, ⟨#[]⟩), (⟨#[105, 100]⟩, ⟨#[]⟩)]) rfl rfl ow (some_pairs _ _ _ 2 rfl rfl (by omega)) (pairCells_len _) (pair_oneCell _) (by omega) (by unfold maxLen; omega) (by have := g2.size; simp; omega) ?_; intro v4 w4 o4 g4; rw [pairCells_app] at o4)
        have gsz := g2.size
        have g5 : w.grownBy w4 (some g) := grown_past (grown_past g2 (World.grownBy_alloc w2 _ none) (fun j hj => by cases hj)) g4 (fun j hj => (World.ownsRow.lt own j hj).1)
        have k5 : Cur w0 g v xs w4 := (k2.below ((Below.refl _ _).alloc (Nat.le_refl _) _)).kept g4 (fun e => by have := (World.ownsRow.lt own g e).1; omega) (fun j hj => by have := (World.ownsRow.lt own j hj).1; have := h.1; omega)
        have this : ∀ p ∈ ([(⟨#[105, 100]⟩, ⟨#[]⟩), (⟨#[105, 100]⟩, ⟨#[]⟩)] : List (ByteArray × ByteArray)), p.1.size ≤ 3001 ∧ p.2.size ≤ 3001 := by decide
        go_wp2
        go_ret
        exact ⟨_, rs ++ [(⟨#[105, 100]⟩, ⟨#[]⟩), (⟨#[105, 100]⟩, ⟨#[]⟩)], rfl, by rw [List.length_append]; exact o4, by simp; omega, (fun p hp => by
          rcases List.mem_append.mp hp with hp | hp
          · exact HZ.out p hp
          · exact this p hp), k5, g5⟩
      by_cases h1 : m = 1
      · subst h1
        go_wp2
        go_loopw [3, 5] (fun u i wr => ∃ (q : Nat) (ps : List (ByteArray × ByteArray)), q ≤ 21 ∧ i = .int .i64 q ∧ wr.ownsRow w.heap.size 26 2 u ps.length (pairCells ps) ∧ ps.length ≤ j + q ∧ (∀ p ∈ ps, p.1.size ≤ 3001 ∧ p.2.size ≤ 3001) ∧ Cur w0 g v xs wr ∧ w.grownBy wr (some g)) (fun _ i _ => 21 - (intOf i).toNat)
        case atStart => exact ⟨0, rs, by omega, rfl, own, by omega, HZ.out, k2, g2⟩
        case round =>
          clear own k2 g2
          obtain ⟨q, ps, hq, rfl, own, hl2, hz2', cur, gr⟩ := hrel
          have HZ2 := (show Hid (∀ p ∈ ps, p.1.size ≤ 3001 ∧ p.2.size ≤ 3001) from hz2')
          clear hz2'
          obtain ⟨ap, cp, rfl, _, _, _⟩ := (sv_of_own own).pair
          by_cases hlt2 : q < 21
          · have hwq : IntKind.u8.wrap (97 + (q : Int)) = 97 + (q : Int) := by unfold IntKind.wrap; simp [IntKind.bits, IntKind.signed]; omega
            have hcv := conv_sl (own1b wr (97 + (q : Int))).sl
            have ba := ((Below.refl _ wr).alloc (Nat.le_refl _) (.cells #[.int .u8 (97 + (q : Int))] 5)).alloc (by simp) (.cells #[.string (strOf [97 + (q : Int)]), .string ⟨#[]⟩] 26)
            have ow := ownsRow_below own ba
            have gsz := gr.size
            have sp := some_pairs (wr.alloc (.cells #[.int .u8 (97 + (q : Int))] 5)) #[.string (strOf [97 + (q : Int)]), .string ⟨#[]⟩] [(strOf [97 + (q : Int)], ⟨#[]⟩)] 1 rfl rfl (by omega)
            rw [show (wr.alloc (.cells #[.int .u8 (97 + (q : Int))] 5)).heap.size = wr.heap.size + 1 by simp] at sp
            go_wp2_with (at_builtin; refine wpList_appV _ rfl _ _ 24 rfl w.heap.size 26 i0 _ 2 32 Try.underlying24 hi hz0 hz1 hz2 rfl (by decide) _ _ ps.length 1 _ (pairCells [(strOf [97 + (q : Int)], ⟨#[]⟩)]) rfl rfl ow sp (pairCells_len _) (pair_oneCell _) (by omega) (by unfold maxLen; omega) (by simp; omega) ?_; intro v4 w4 o4 g4; rw [pairCells_app] at o4)
            have g5 : w.grownBy w4 (some g) := grown_past (grown_below gr ba) g4 (fun j hj => (World.ownsRow.lt own j hj).1)
            have k5 : Cur w0 g v xs w4 := (cur.below ba).kept g4 (fun e => by have := (World.ownsRow.lt own g e).1; omega) (fun j hj => by have := (World.ownsRow.lt own j hj).1; have := h.1; omega)
            have O4 := (show Hid _ from o4)
            clear o4 hcv ow sp
            go_wp2
            go_roundw
            case rel => exact ⟨q + 1, ps ++ [(strOf [97 + (q : Int)], ⟨#[]⟩)], by omega, by go_num, by rw [List.length_append]; exact O4.out, by simp; omega, (fun p hp => by
              rcases List.mem_append.mp hp with hp | hp
              · exact HZ2.out p hp
              · simp only [List.mem_singleton] at hp
                subst hp
                simp only [strOf_size, List.length_singleton]
                exact ⟨by omega, by decide⟩), k5, g5⟩
            case measure => simp [intOf]; omega
          · go_wp2
            go_ret
            exact ⟨_, ps, rfl, own, by omega, HZ2.out, cur, gr⟩
      by_cases h2 : m = 2
      · subst h2
        go_wp2_with fail
        go_at_call 34
        refine (below_any _ (by omega) k2 HB.out).mono ?_
        rintro e w3 ⟨d, rfl, d0, d1, d2, k3, g3⟩
        replace d1 := d1 (by omega)
        replace own := row_past own g3 hgw
        replace g3 := grown_trans g2 g3
        clear d2 k2 g2
        obtain ⟨N, hN⟩ : ∃ N : Nat, (3000 : Int) + d = N := ⟨(3000 + d).toNat, by omega⟩
        have hNb : N ≤ 3001 := by omega
        have gsz := g3.size
        obtain ⟨ib, hib, hb0, hb1, hb2⟩ := info_parts Try.infoB
        go_wp2_with (first
          | (at_make; refine wpList_mkn _ rfl _ _ 22 rfl 5 ib .u8 Try.underlying22 hib hb0 hb1 _ _ N rfl rfl rfl rfl (by rw [hb2]; omega) (by unfold maxLen; omega) ?_; intro wm om bm; have hcv := conv_sl om.sl; have ow := ownsRow_below (ownsRow_below own bm) ((Below.refl _ wm).alloc (Nat.le_refl _) (.cells #[.string ⟨#[118]⟩, .string (strOf (List.replicate N 0))] 26)); have bms := bm.size)
          | (at_builtin; refine wpList_appV _ rfl _ _ 24 rfl w.heap.size 26 i0 _ 2 32 Try.underlying24 hi hz0 hz1 hz2 rfl (by decide) _ _ rs.length 1 _ (pairCells [(⟨#[118]⟩, strOf (List.replicate N 0))]) rfl rfl ow (some_pairs _ _ _ 1 rfl rfl (by omega)) (pairCells_len _) (pair_oneCell _) (by omega) (by unfold maxLen; omega) (by simp; omega) ?_; intro v4 w4 o4 g4; rw [pairCells_app] at o4))
        have g5 : w.grownBy w4 (some g) := grown_past (grown_past (grown_below g3 bm) (World.grownBy_alloc wm _ none) (fun j hj => by cases hj)) g4 (fun j hj => (World.ownsRow.lt own j hj).1)
        have k5 : Cur w0 g v xs w4 := ((k3.below bm).below ((Below.refl _ _).alloc (Nat.le_refl _) _)).kept g4 (fun e => by have := (World.ownsRow.lt own g e).1; omega) (fun j hj => by have := (World.ownsRow.lt own j hj).1; have := h.1; omega)
        go_wp2
        go_ret
        exact ⟨_, rs ++ [(⟨#[118]⟩, strOf (List.replicate N 0))], rfl, by rw [List.length_append]; exact o4, by simp; omega, (fun p hp => by
          rcases List.mem_append.mp hp with hp | hp
          · exact HZ.out p hp
          · simp only [List.mem_singleton] at hp
            subst hp
            simp only [strOf_size, List.length_replicate]
            exact ⟨by decide, hNb⟩), k5, g5⟩
      by_cases h3 : m = 3
      · subst h3
        have ow := ownsRow_below own ((Below.refl _ w2).alloc (Nat.le_refl _) (.cells #[.string ⟨#[117]⟩, .string ⟨#[255]⟩] 26))
        go_wp2_with (at_builtin; refine wpList_appV _ rfl _ _ 24 rfl w.heap.size 26 i0 _ 2 32 Try.underlying24 hi hz0 hz1 hz2 rfl (by decide) _ _ rs.length 1 _ (pairCells [(⟨#[117]⟩, ⟨#[255]⟩)]) rfl rfl ow (some_pairs _ _ _ 1 rfl rfl (by omega)) (pairCells_len _) (pair_oneCell _) (by omega) (by unfold maxLen; omega) (by have := g2.size; simp; omega) ?_; intro v4 w4 o4 g4; rw [pairCells_app] at o4)
        have gsz := g2.size
        have g5 : w.grownBy w4 (some g) := grown_past (grown_past g2 (World.grownBy_alloc w2 _ none) (fun j hj => by cases hj)) g4 (fun j hj => (World.ownsRow.lt own j hj).1)
        have k5 : Cur w0 g v xs w4 := (k2.below ((Below.refl _ _).alloc (Nat.le_refl _) _)).kept g4 (fun e => by have := (World.ownsRow.lt own g e).1; omega) (fun j hj => by have := (World.ownsRow.lt own j hj).1; have := h.1; omega)
        have this : ∀ p ∈ ([(⟨#[117]⟩, ⟨#[255]⟩)] : List (ByteArray × ByteArray)), p.1.size ≤ 3001 ∧ p.2.size ≤ 3001 := by decide
        go_wp2
        go_ret
        exact ⟨_, rs ++ [(⟨#[117]⟩, ⟨#[255]⟩)], rfl, by rw [List.length_append]; exact o4, by simp; omega, (fun p hp => by
          rcases List.mem_append.mp hp with hp | hp
          · exact HZ.out p hp
          · exact this p hp), k5, g5⟩
      · have e0 : (m == 0) = false := by simpa using h0
        have e1 : (m == 1) = false := by simpa using h1
        have e2 : (m == 2) = false := by simpa using h2
        have e3 : (m == 3) = false := by simpa using h3
        go_wp2
        go_ret
        exact ⟨_, rs, rfl, own, by omega, HZ.out, k2, g2⟩
end Go.Proofs.Ytlggfbelandpjaa
