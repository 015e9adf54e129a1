/- The contracts of UtfRead, the program's and the specification's, at every slice of bytes. -/
import Derived.Test.YtggfifchkecnjaaDoorU3
import Derived.Test.YtggfifchkecnjaaDoorRows
import Derived.Test.YtggfifchkecnjaaDoorU0
import Derived.Test.YtggfifchkecnjaaDoorU2
import Derived.Test.YtggfifchkecnjaaDoorU1
namespace Go.Proofs.YtggfifchkecnjaaDoor
open Go.RowKit
set_option maxRecDepth 100000
set_option linter.unusedVariables false

theorem take3 {xs : List Int} (h : 3 ≤ xs.length) : xs.take 3 = [xs[0], xs[1], xs[2]] := by
  match xs, h with
  | a :: b :: c :: r, _ => rfl
theorem unmark_short {xs : List Int} (h : ¬ 3 ≤ xs.length) : unmark xs = xs := by
  unfold unmark; rw [if_neg]
  intro e
  have := congrArg List.length e
  simp at this; omega
theorem unmark_yes {xs : List Int} (h : 3 ≤ xs.length) (h0 : xs[0] = 239) (h1 : xs[1] = 187) (h2 : xs[2] = 191) : unmark xs = xs.drop 3 := by
  unfold unmark; rw [if_pos]; rw [take3 h, h0, h1, h2]
theorem unmark_no {xs : List Int} (h : 3 ≤ xs.length) (hn : xs[0] ≠ 239 ∨ xs[1] ≠ 187 ∨ xs[2] ≠ 191) : unmark xs = xs := by
  unfold unmark; rw [if_neg]; rw [take3 h]; simp; omega

/-- What is cut off at the front of a slice. -/
theorem Sl.drop3 {K : IntKind} {w : World} {b off cap : Nat} {xs : List Int} (h : Sl K w (.slice (some ⟨b, off, none⟩) xs.length cap) xs) (h3 : 3 ≤ xs.length) (hc : 3 < cap) :
    Sl K w (.slice (some ⟨b, off + 3, none⟩) (xs.length - 3) (cap - 3)) (xs.drop 3) := by
  obtain ⟨a', c', e, hl, hm, hnn, ha⟩ := h
  cases e
  refine ⟨some ⟨b, off + 3, none⟩, cap - 3, by simp, by simp; omega, by omega, (fun h => by cases h), fun k hk => ⟨b, off + 3, rfl, ?_⟩⟩
  simp at hk
  obtain ⟨b2, o2, e2, c2⟩ := ha (3 + k) (by omega)
  cases e2
  have e3 : (xs.drop 3).getD k 0 = xs.getD (3 + k) 0 := by simp [List.getD_eq_getElem?_getD]
  rw [e3, Nat.add_assoc]; exact c2

theorem Sl.drop3_end {K : IntKind} {w : World} {a : Addr} {xs : List Int} (h : xs.length = 3) : Sl K w (.slice (some a) (xs.length - 3) 0) (xs.drop 3) := by
  have e : xs.drop 3 = [] := List.drop_eq_nil_of_le (by omega)
  rw [e, h]
  exact ⟨some a, 0, rfl, Nat.le_refl _, Nat.zero_le _, fun _ => rfl, fun k hk => absurd hk (Nat.not_lt_zero _)⟩

theorem byte_ok {xs : List Int} (h : ∀ n ∈ xs, (Lit.int .u8 n).wf = true) : ∀ x ∈ xs, 0 ≤ x ∧ x ≤ 255 := fun x hx => by
  have h1 := h x hx
  have e1 : IntKind.u8.min = 0 := rfl
  have e2 : IntKind.u8.max = 255 := rfl
  simp [Lit.wf, e1, e2] at h1
  omega

theorem unmark_mem {xs : List Int} (h : ∀ x ∈ xs, 0 ≤ x ∧ x ≤ 255) : ∀ x ∈ unmark xs, 0 ≤ x ∧ x ≤ 255 := fun x hx => by
  unfold unmark at hx; split at hx
  · exact h x (List.mem_of_mem_drop hx)
  · exact h x hx

/-- Of a room whose first places hold 'out', the slice of those. -/
theorem RdRoom.cut {B g n : Nat} {w w' : World} {out : List Int} (h : RdRoom B g n w w' out) (hl : out.length ≤ n) : Sl .i64 w' (.slice (some ⟨g, 0, none⟩) out.length n) out := by
  obtain ⟨zs, ho, hz, ht, hg⟩ := h
  subst hz
  obtain ⟨a, cap, e, h1, h2, h3, hc⟩ := ho.sl
  cases e
  refine ⟨some ⟨g, 0, none⟩, _, rfl, by omega, h2, (fun h => by cases h), fun k hk => ?_⟩
  obtain ⟨b, off, e, c⟩ := hc k (by omega)
  refine ⟨b, off, e, ?_⟩
  have e2 : out.getD k 0 = zs.getD k 0 := by
    conv => lhs; rw [← ht]
    simp [List.getD_eq_getElem?_getD, hk]
  rw [e2]; exact c

set_option maxHeartbeats 4000000 in
theorem sread_any {v : Value} {xs : List Int} {w : World} (h : Sl .u8 w v xs) (hb : ∀ x ∈ xs, 0 ≤ x ∧ x ≤ 255) (hn : xs.length ≤ 1099511627776) :
    Calls Tryd.prog 9 #[v] w fun e w' => ∃ v', e = .returned v' ∧ Own w.heap.size 3 .i64 w' v' (utfRead xs) ∧ Below w.heap.size w w' := by
  have h0 := h
  obtain ⟨a, ca, rfl, hca, hcm, _, ha⟩ := h
  unfold utfRead
  by_cases hlen : xs.length ≤ 3000
  · rw [if_pos hlen]
    have hum := unmark_mem hb
    have hul := unmark_len xs
    by_cases h3 : 3 ≤ xs.length
    · obtain ⟨b, off, rfl, c0⟩ := ha 0 (by omega)
      obtain ⟨b1, o1, eb, c1⟩ := ha 1 (by omega)
      cases eb
      obtain ⟨b2, o2, eb, c2⟩ := ha 2 (by omega)
      cases eb
      have hl0 : 0 < xs.length := by omega
      have hl1 : 1 < xs.length := by omega
      have hl2 : 2 < xs.length := by omega
      have d0 : w.cell? ⟨b, off, none⟩ = some (.int .u8 xs[0]) := by simpa [List.getD_eq_getElem?_getD, hl0] using c0
      have d1 : w.cell? ⟨b, off + 1, none⟩ = some (.int .u8 xs[1]) := by simpa [List.getD_eq_getElem?_getD, hl1] using c1
      have d2 : w.cell? ⟨b, off + 2, none⟩ = some (.int .u8 xs[2]) := by simpa [List.getD_eq_getElem?_getD, hl2] using c2
      clear ha c0 c1 c2
      by_cases e0 : xs[0] = 239
      · have f0 : (xs[0] == 239) = true := by simpa using e0
        by_cases e1 : xs[1] = 187
        · have f1 : (xs[1] == 187) = true := by simpa using e1
          by_cases e2 : xs[2] = 191
          · have f2 : (xs[2] == 191) = true := by simpa using e2
            rw [unmark_yes h3 e0 e1 e2] at hum hul ⊢
            clear e0 e1 e2
            have HU : Hid (∀ x ∈ xs.drop 3, 0 ≤ x ∧ x ≤ 255) := hum
            clear hum hb
            by_cases hc3 : ca = 3
            · subst hc3
              have hx3 : xs.length = 3 := by omega
              have hd : Sl .u8 w (.slice (some ⟨b, off, none⟩) 0 0) (xs.drop 3) := by have h := Sl.drop3_end (K := .u8) (w := w) (a := ⟨b, off, none⟩) hx3; rw [hx3] at h; exact h
              clear hx3
              go_enter Tryd.func9, Tryd.ntmps9
              go_wp2_with fail
              go_at_call 21
              refine (l1Read_any hd HU.out (by simp; omega)).mono ?_
              rintro e w4 ⟨v4, rfl, o4, b4⟩
              go_wp2
              go_ret
              exact ⟨_, rfl, o4, b4⟩
            · have hd := h0.drop3 h3 (by omega)
              go_enter Tryd.func9, Tryd.ntmps9
              go_wp2_with fail
              go_at_call 21
              refine (l1Read_any hd HU.out (by simp; omega)).mono ?_
              rintro e w4 ⟨v4, rfl, o4, b4⟩
              go_wp2
              go_ret
              exact ⟨_, rfl, o4, b4⟩
          · rw [unmark_no h3 (.inr (.inr e2))]
            have f2 : (xs[2] == 191) = false := by simpa using e2
            have HU : Hid (∀ x ∈ xs, 0 ≤ x ∧ x ≤ 255) := hb
            clear e0 e1 e2 hum hb
            go_enter Tryd.func9, Tryd.ntmps9
            go_wp2_with fail
            go_at_call 21
            refine (l1Read_any h0 HU.out (by omega)).mono ?_
            rintro e w4 ⟨v4, rfl, o4, b4⟩
            go_wp2
            go_ret
            exact ⟨_, rfl, o4, b4⟩
        · rw [unmark_no h3 (.inr (.inl e1))]
          have f1 : (xs[1] == 187) = false := by simpa using e1
          have HU : Hid (∀ x ∈ xs, 0 ≤ x ∧ x ≤ 255) := hb
          clear e0 e1 hum hb
          go_enter Tryd.func9, Tryd.ntmps9
          go_wp2_with fail
          go_at_call 21
          refine (l1Read_any h0 HU.out (by omega)).mono ?_
          rintro e w4 ⟨v4, rfl, o4, b4⟩
          go_wp2
          go_ret
          exact ⟨_, rfl, o4, b4⟩
      · rw [unmark_no h3 (.inl e0)]
        have f0 : (xs[0] == 239) = false := by simpa using e0
        have HU : Hid (∀ x ∈ xs, 0 ≤ x ∧ x ≤ 255) := hb
        clear e0 hum hb
        go_enter Tryd.func9, Tryd.ntmps9
        go_wp2_with fail
        go_at_call 21
        refine (l1Read_any h0 HU.out (by omega)).mono ?_
        rintro e w4 ⟨v4, rfl, o4, b4⟩
        go_wp2
        go_ret
        exact ⟨_, rfl, o4, b4⟩
    · rw [unmark_short h3]
      have HU : Hid (∀ x ∈ xs, 0 ≤ x ∧ x ≤ 255) := hb
      clear hum hb ha
      go_enter Tryd.func9, Tryd.ntmps9
      go_wp2_with fail
      go_at_call 21
      refine (l1Read_any h0 HU.out (by omega)).mono ?_
      rintro e w4 ⟨v4, rfl, o4, b4⟩
      go_wp2
      go_ret
      exact ⟨_, rfl, o4, b4⟩
  · rw [if_neg hlen]
    go_enter Tryd.func9, Tryd.ntmps9
    go_wp2
    go_ret
    exact ⟨_, rfl, own_empty _ _ _, (Below.refl _ _).alloc (Nat.le_refl _) _⟩
end Go.Proofs.YtggfifchkecnjaaDoor

/- Contracts of PointOk and PointPut, the program's and the specification's, at every number. -/
namespace Go.Proofs.YtggfifchkecnjaaDoor
open Go.RowKit
set_option maxRecDepth 100000
set_option linter.unusedVariables false

theorem iok_any (x : Int) (w : World) : Calls Tryd.prog 36 #[.int .i64 x] w fun e w' => e = .returned (.bool (pointOk x)) ∧ w' = w := by
  rcases (show x < 0 ∨ (0 ≤ x ∧ x < 55296) ∨ (55296 ≤ x ∧ x ≤ 57343) ∨ (57343 < x ∧ x ≤ 1114111) ∨ 1114111 < x by omega) with h | ⟨h, h'⟩ | ⟨h, h'⟩ | ⟨h, h'⟩ | h
  all_goals
    go_enter Tryd.func36, Tryd.ntmps36
    go_wp2
    go_ret
    exact ⟨ret_bool (by rw [eq_comm, Bool.eq_iff_iff, pointOk_iff]; simp <;> omega), rfl⟩

theorem sok_any (x : Int) (w : World) : Calls Tryd.prog 46 #[.int .i64 x] w fun e w' => e = .returned (.bool (pointOk x)) ∧ w' = w := by
  rcases (show x < 0 ∨ (0 ≤ x ∧ x < 55296) ∨ (55296 ≤ x ∧ x ≤ 57343) ∨ (57343 < x ∧ x ≤ 1114111) ∨ 1114111 < x by omega) with h | ⟨h, h'⟩ | ⟨h, h'⟩ | ⟨h, h'⟩ | h
  all_goals
    go_enter Tryd.func46, Tryd.ntmps46
    go_wp2
    go_ret
    exact ⟨ret_bool (by rw [eq_comm, Bool.eq_iff_iff, pointOk_iff]; simp <;> omega), rfl⟩

theorem iput_pt (x : Int) (w : World) (hp : pointOk x = true) :
    Calls Tryd.prog 24 #[.int .i64 x] w fun e w' => ∃ v, e = .returned v ∧ Own w.heap.size 5 .u8 w' v (enc x) ∧ Below w.heap.size w w' := by
  have hb := (pointOk_iff x).mp hp
  obtain ⟨h0, h1, -⟩ := hb
  rcases (show x < 128 ∨ (128 ≤ x ∧ x < 2048) ∨ (2048 ≤ x ∧ x < 65536) ∨ 65536 ≤ x by omega) with h | ⟨h, h'⟩ | ⟨h, h'⟩ | h
  · rw [enc1 h]
    go_enter Tryd.func24, Tryd.ntmps24
    go_wp2_with (first | (go_at_call 36; refine (iok_any _ _).mono ?_; rintro e w' ⟨rfl, rfl⟩) | go_in)
    go_ret
    exact ⟨_, rfl, World.ownsRow_lit _ _ 1 (Nat.le_refl _) (by unfold maxLen; omega) rfl, (Below.refl _ _).alloc (Nat.le_refl _) _⟩
  · rw [enc2 h h']
    go_enter Tryd.func24, Tryd.ntmps24
    go_wp2_with (first | (go_at_call 36; refine (iok_any _ _).mono ?_; rintro e w' ⟨rfl, rfl⟩) | go_in)
    go_ret
    exact ⟨_, rfl, World.ownsRow_lit _ _ 2 (Nat.le_refl _) (by unfold maxLen; omega) rfl, (Below.refl _ _).alloc (Nat.le_refl _) _⟩
  · rw [enc3 h h']
    go_enter Tryd.func24, Tryd.ntmps24
    go_wp2_with (first | (go_at_call 36; refine (iok_any _ _).mono ?_; rintro e w' ⟨rfl, rfl⟩) | go_in)
    go_ret
    exact ⟨_, rfl, World.ownsRow_lit _ _ 3 (Nat.le_refl _) (by unfold maxLen; omega) rfl, (Below.refl _ _).alloc (Nat.le_refl _) _⟩
  · rw [enc4 h]
    go_enter Tryd.func24, Tryd.ntmps24
    go_wp2_with (first | (go_at_call 36; refine (iok_any _ _).mono ?_; rintro e w' ⟨rfl, rfl⟩) | go_in)
    go_ret
    exact ⟨_, rfl, World.ownsRow_lit _ _ 4 (Nat.le_refl _) (by unfold maxLen; omega) rfl, (Below.refl _ _).alloc (Nat.le_refl _) _⟩

theorem sput_pt (x : Int) (w : World) (hp : pointOk x = true) :
    Calls Tryd.prog 39 #[.int .i64 x] w fun e w' => ∃ v, e = .returned v ∧ Own w.heap.size 5 .u8 w' v (enc x) ∧ Below w.heap.size w w' := by
  have hb := (pointOk_iff x).mp hp
  obtain ⟨h0, h1, -⟩ := hb
  rcases (show x < 128 ∨ (128 ≤ x ∧ x < 2048) ∨ (2048 ≤ x ∧ x < 65536) ∨ 65536 ≤ x by omega) with h | ⟨h, h'⟩ | ⟨h, h'⟩ | h
  · rw [enc1 h]
    go_enter Tryd.func39, Tryd.ntmps39
    go_wp2_with (first | (go_at_call 46; refine (sok_any _ _).mono ?_; rintro e w' ⟨rfl, rfl⟩) | go_in)
    go_ret
    exact ⟨_, rfl, World.ownsRow_lit _ _ 1 (Nat.le_refl _) (by unfold maxLen; omega) rfl, (Below.refl _ _).alloc (Nat.le_refl _) _⟩
  · rw [enc2 h h']
    go_enter Tryd.func39, Tryd.ntmps39
    go_wp2_with (first | (go_at_call 46; refine (sok_any _ _).mono ?_; rintro e w' ⟨rfl, rfl⟩) | go_in)
    go_ret
    exact ⟨_, rfl, World.ownsRow_lit _ _ 2 (Nat.le_refl _) (by unfold maxLen; omega) rfl, (Below.refl _ _).alloc (Nat.le_refl _) _⟩
  · rw [enc3 h h']
    go_enter Tryd.func39, Tryd.ntmps39
    go_wp2_with (first | (go_at_call 46; refine (sok_any _ _).mono ?_; rintro e w' ⟨rfl, rfl⟩) | go_in)
    go_ret
    exact ⟨_, rfl, World.ownsRow_lit _ _ 3 (Nat.le_refl _) (by unfold maxLen; omega) rfl, (Below.refl _ _).alloc (Nat.le_refl _) _⟩
  · rw [enc4 h]
    go_enter Tryd.func39, Tryd.ntmps39
    go_wp2_with (first | (go_at_call 46; refine (sok_any _ _).mono ?_; rintro e w' ⟨rfl, rfl⟩) | go_in)
    go_ret
    exact ⟨_, rfl, World.ownsRow_lit _ _ 4 (Nat.le_refl _) (by unfold maxLen; omega) rfl, (Below.refl _ _).alloc (Nat.le_refl _) _⟩

theorem iput_any (x : Int) (w : World) :
    Calls Tryd.prog 24 #[.int .i64 x] w fun e w' => ∃ v, e = .returned v ∧ Own w.heap.size 5 .u8 w' v (put x) ∧ Below w.heap.size w w' := by
  unfold put
  cases hp : pointOk x
  · rw [pt_not x hp, enc3 (by omega) (by omega)]
    go_enter Tryd.func24, Tryd.ntmps24
    go_wp2_with (first | (go_at_call 36; refine (iok_any _ _).mono ?_; rintro e w' ⟨rfl, rfl⟩) | go_in)
    go_ret
    exact ⟨_, rfl, World.ownsRow_lit _ _ 3 (Nat.le_refl _) (by unfold maxLen; omega) rfl, (Below.refl _ _).alloc (Nat.le_refl _) _⟩
  · rw [pt_of x hp]
    exact iput_pt x w hp

theorem sput_any (x : Int) (w : World) :
    Calls Tryd.prog 39 #[.int .i64 x] w fun e w' => ∃ v, e = .returned v ∧ Own w.heap.size 5 .u8 w' v (put x) ∧ Below w.heap.size w w' := by
  unfold put
  cases hp : pointOk x
  · rw [pt_not x hp, enc3 (by omega) (by omega)]
    go_enter Tryd.func39, Tryd.ntmps39
    go_wp2_with (first | (go_at_call 46; refine (sok_any _ _).mono ?_; rintro e w' ⟨rfl, rfl⟩) | go_in)
    go_ret
    exact ⟨_, rfl, World.ownsRow_lit _ _ 3 (Nat.le_refl _) (by unfold maxLen; omega) rfl, (Below.refl _ _).alloc (Nat.le_refl _) _⟩
  · rw [pt_of x hp]
    exact sput_pt x w hp

end Go.Proofs.YtggfifchkecnjaaDoor

/- Contracts of PointsPut, the program's and the specification's, at every list of integers. -/
namespace Go.Proofs.YtggfifchkecnjaaDoor
open Go.RowKit
set_option maxRecDepth 100000
set_option linter.unusedVariables false

/-- What PointsPut answers. -/
def pointsPut (xs : List Int) : List Int := if xs.length ≤ 3000 then puts xs else []

theorem iputs_any {v : Value} {xs : List Int} {w : World} (h : Sl .i64 w v xs) (hn : xs.length ≤ 1099511627776) :
    Calls Tryd.prog 11 #[v] w fun e w' => ∃ v', e = .returned v' ∧ Own w.heap.size 5 .u8 w' v' (pointsPut xs) ∧ Below w.heap.size w w' := by
  obtain ⟨a, ca, rfl, _, _, _, ha⟩ := h
  unfold pointsPut
  by_cases hlen : xs.length ≤ 3000
  · rw [if_pos hlen]
    obtain ⟨i0, hi, hz0, hz1, hz2⟩ := info_parts Tryd.infoB
    go_enter Tryd.func11, Tryd.ntmps11
    go_wp2_with (at_make; refine wpList_mk0 _ rfl _ (.tmp 11) 22 rfl 5 i0 (.int .u8 0) Tryd.underlying22 hi hz0 hz1 .u8 xs.length xs.length rfl rfl rfl (by rw [hz2]; omega) (by unfold maxLen; omega) ?_; intro v0 w1 hown0 hbel0)
    go_loopw [3, 15] (fun v i wr => ∃ k : Nat, k ≤ xs.length ∧ i = .int .i64 k ∧ Own w.heap.size 5 .u8 wr v (puts (xs.take k)) ∧ Below w.heap.size w wr) (fun _ i _ => xs.length - (intOf i).toNat)
    case atStart => exact ⟨0, Nat.zero_le _, rfl, hown0, hbel0⟩
    case round =>
      clear hown0 hbel0
      obtain ⟨k, hk, rfl, hown, hbel⟩ := hrel
      by_cases hlt : k < xs.length
      · have ha' := ha.below hbel
        obtain ⟨b1, o1, rfl, c1⟩ := ha' k hlt
        clear ha ha'
        have hpl := puts_len (xs.take k)
        have htl : (xs.take k).length ≤ k := List.length_take_le _ _
        have hql := (put_len xs[k]).2
        go_wp2_with fail
        go_at_call 24
        refine (iput_any xs[k] _).mono ?_
        rintro e w2 ⟨u, rfl, ou, bu⟩
        replace hown := hown.below bu
        have hbs := hbel.size
        replace hbel := hbel.trans (bu.mono hbs)
        have hbs2 := hbel.size
        clear bu
        go_wp2_with (at_builtin; refine wpList_app _ rfl (.tmp 19) (.tmp 21) 22 rfl w.heap.size 5 i0 (.int .u8 0) 1 Tryd.underlying22 hi hz0 hz1 hz2 rfl .u8 _ _ (puts (xs.take k)) (put xs[k]) rfl rfl hown ou.sl (by omega) (by unfold maxLen; omega) hbs2 ?_; intro v' w3 o3 g3)
        go_roundw
        case rel => exact ⟨k + 1, by omega, by go_num, by rw [puts_take_succ xs k hlt]; exact o3, hbel.grown g3 hbs2 hown.grownAt⟩
        case measure => simp [intOf]; omega
      · go_wp2
        go_ret
        have hke : k = xs.length := by omega
        rw [hke, List.take_length] at hown
        exact ⟨_, rfl, hown, hbel⟩
  · rw [if_neg hlen]
    go_enter Tryd.func11, Tryd.ntmps11
    go_wp2
    go_ret
    exact ⟨_, rfl, own_empty _ _ _, (Below.refl _ _).alloc (Nat.le_refl _) _⟩

theorem l1Put_any {v : Value} {xs : List Int} {w : World} (h : Sl .i64 w v xs) (hn : xs.length ≤ 1099511627776) :
    Calls Tryd.prog 27 #[v] w fun e w' => ∃ v', e = .returned v' ∧ Own w.heap.size 5 .u8 w' v' (puts xs) ∧ Below w.heap.size w w' := by
  obtain ⟨a, ca, rfl, _, _, _, ha⟩ := h
  obtain ⟨i0, hi, hz0, hz1, hz2⟩ := info_parts Tryd.infoB
  have hown0 := own_empty 5 .u8 w
  have hbel0 : Below w.heap.size w (w.alloc (.cells #[] 5)) := (Below.refl _ _).alloc (Nat.le_refl _) _
  go_enter Tryd.func27, Tryd.ntmps27
  go_wp2
  go_loopw [3, 4] (fun v i wr => ∃ k : Nat, k ≤ xs.length ∧ i = .int .i64 k ∧ Own w.heap.size 5 .u8 wr v (puts (xs.take k)) ∧ Below w.heap.size w wr) (fun _ i _ => xs.length - (intOf i).toNat)
  case atStart => exact ⟨0, Nat.zero_le _, rfl, hown0, hbel0⟩
  case round =>
    clear hown0 hbel0
    obtain ⟨k, hk, rfl, hown, hbel⟩ := hrel
    by_cases hlt : k < xs.length
    · have ha' := ha.below hbel
      obtain ⟨b1, o1, rfl, c1⟩ := ha' k hlt
      clear ha ha'
      have hpl := puts_len (xs.take k)
      have htl : (xs.take k).length ≤ k := List.length_take_le _ _
      have hql := (put_len xs[k]).2
      go_wp2_with fail
      go_at_call 39
      refine (sput_any xs[k] _).mono ?_
      rintro e w2 ⟨u, rfl, ou, bu⟩
      replace hown := hown.below bu
      have hbs := hbel.size
      replace hbel := hbel.trans (bu.mono hbs)
      have hbs2 := hbel.size
      clear bu
      go_wp2_with (at_builtin; refine wpList_app _ rfl (.tmp 12) (.tmp 17) 22 rfl w.heap.size 5 i0 (.int .u8 0) 1 Tryd.underlying22 hi hz0 hz1 hz2 rfl .u8 _ _ (puts (xs.take k)) (put xs[k]) rfl rfl hown ou.sl (by omega) (by unfold maxLen; omega) hbs2 ?_; intro v' w3 o3 g3)
      go_roundw
      case rel => exact ⟨k + 1, by omega, by go_num, by rw [puts_take_succ xs k hlt]; exact o3, hbel.grown g3 hbs2 hown.grownAt⟩
      case measure => simp [intOf]; omega
    · go_wp2
      go_ret
      have hke : k = xs.length := by omega
      rw [hke, List.take_length] at hown
      exact ⟨_, rfl, hown, hbel⟩

theorem sputs_any {v : Value} {xs : List Int} {w : World} (h : Sl .i64 w v xs) (hn : xs.length ≤ 1099511627776) :
    Calls Tryd.prog 20 #[v] w fun e w' => ∃ v', e = .returned v' ∧ Own w.heap.size 5 .u8 w' v' (pointsPut xs) ∧ Below w.heap.size w w' := by
  have h0 := h
  obtain ⟨a, ca, rfl, _, _, _, ha⟩ := h
  unfold pointsPut
  by_cases hlen : xs.length ≤ 3000
  · rw [if_pos hlen]
    go_enter Tryd.func20, Tryd.ntmps20
    go_wp2_with fail
    go_at_call 27
    refine (l1Put_any h0 hn).mono ?_
    rintro e w2 ⟨u, rfl, ou, bu⟩
    go_wp2
    go_ret
    exact ⟨_, rfl, ou, bu⟩
  · rw [if_neg hlen]
    go_enter Tryd.func20, Tryd.ntmps20
    go_wp2
    go_ret
    exact ⟨_, rfl, own_empty _ _ _, (Below.refl _ _).alloc (Nat.le_refl _) _⟩

theorem pointsPut_len (xs : List Int) : (pointsPut xs).length ≤ 12000 := by
  unfold pointsPut; split
  · have := puts_len xs; omega
  · simp
end Go.Proofs.YtggfifchkecnjaaDoor
