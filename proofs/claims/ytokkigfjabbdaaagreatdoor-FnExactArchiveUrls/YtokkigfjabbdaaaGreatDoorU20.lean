/- Records, plainly. No condition. -/
import Derived.Test.YtokkigfjabbdaaaGreatDoorU14
import Derived.Test.YtokkigfjabbdaaaGreatDoorU13
import Derived.Test.YtokkigfjabbdaaaGreatDoorU15
import Derived.Test.YtokkigfjabbdaaaGreatDoorU16
import Derived.Test.YtokkigfjabbdaaaGreatDoorU19
namespace Go.Proofs.YtokkigfjabbdaaaGreatDoor
open Go.RowKit
set_option maxRecDepth 100000
set_option linter.unusedVariables false

def emptyS : ByteArray := ⟨#[]⟩
/-- A url that is right. -/
def urlB (s : ByteArray) : Bool := inB s.size 1 60 && (bs s).all (fun x => decide (33 ≤ x) && decide (x ≤ 126))
structure PRec where
  kind : Int
  url : ByteArray
  body : ByteArray
def recV (r : PRec) : Value := .agg #[.int .i64 r.kind, .string r.url, .string r.body]
def zeroR : PRec := ⟨0, emptyS, emptyS⟩
/-- A record that is right. -/
def recB (r : PRec) : Bool := (decide (r.kind = 1) || decide (r.kind = 2)) && urlB r.url && !(decide (r.kind = 2) && decide (r.body ≠ emptyS))
def recL (r : PRec) : List Int := form r.kind ++ textForm r.url ++ (if r.kind = 1 then textForm r.body else [])
def packR (r : PRec) : List Int × Bool := if recB r = true then (recL r, true) else ([], false)
/-- What RecordRead answers. -/
def readR (xs : List Int) (i : Int) : PRec × Int × Bool :=
  match rdI xs i with
  | none => (zeroR, 0, false)
  | some (k, n) => match rdT xs (i + n) with
    | none => (zeroR, 0, false)
    | some (u, j) =>
      if k = 1 then
        match rdT xs j with
        | none => (zeroR, 0, false)
        | some (t, m) => if recB ⟨k, strOf u, strOf t⟩ = true then (⟨k, strOf u, strOf t⟩, m, true) else (zeroR, 0, false)
      else if recB ⟨k, strOf u, emptyS⟩ = true then (⟨k, strOf u, emptyS⟩, j, true) else (zeroR, 0, false)
end Go.Proofs.YtokkigfjabbdaaaGreatDoor

/- The specification's UrlOk and RecordPack. No condition. -/
namespace Go.Proofs.YtokkigfjabbdaaaGreatDoor
open Go.RowKit
set_option maxRecDepth 100000
set_option linter.unusedVariables false

/-- A byte that no url has. -/
def ubad (x : Int) : Bool := decide (x < 33) || decide (126 < x)
theorem urlB_eq (s : ByteArray) : urlB s = (inB s.size 1 60 && !((bs s).any ubad)) := by
  unfold urlB
  congr 1
  induction bs s with
  | nil => rfl
  | cons x xs ih =>
    rw [List.all_cons, List.any_cons, ih, Bool.not_or]
    congr 1
    by_cases h1 : 33 ≤ x
    · by_cases h2 : x ≤ 126
      · simp [ubad, h1, h2, Int.not_lt.mpr h1, Int.not_lt.mpr h2]
      · simp [ubad, h1, h2, Int.not_lt.mpr h1, Int.not_le.mp h2]
    · simp [ubad, h1, Int.not_le.mp h1]
theorem uany_succ {xs : List Int} {k : Nat} (h : k < xs.length) : (xs.take (k + 1)).any ubad = ((xs.take k).any ubad || ubad (xs.getD k 0)) := by
  rw [List.take_succ_eq_append_getElem h, List.any_append]
  simp [List.getD_eq_getElem?_getD, h]
theorem uany_of {xs : List Int} {k : Nat} (h : k < xs.length) (e : ubad (xs.getD k 0) = true) : xs.any ubad = true := by
  rw [List.any_eq_true]
  exact ⟨xs[k], List.getElem_mem h, by simpa [List.getD_eq_getElem?_getD, h] using e⟩

set_option maxHeartbeats 400000 in
set_option maxRecDepth 100000 in
theorem surlOk_any (s : ByteArray) (w : World) (hs : s.size ≤ 1099511627776) : Calls Tryz.prog 93 #[.string s] w fun e w' => e = .returned (.bool (urlB s)) ∧ w' = w := by
  have hl := bs_len s
  have hin := fun w => l1In_any s.size 1 60 w
  rw [urlB_eq]
  by_cases h1 : s.size < 1 ∨ 60 < s.size
  · rw [inB_no (by omega)]
    rw [inB_no (by omega)] at hin
    go_enter Tryz.func93, Tryz.ntmps93
    go_wp2_with fail
    go_at_call 56
    refine (hin _).mono ?_
    rintro e w2 ⟨rfl, rfl⟩
    go_wp2
    go_ret
    exact ⟨rfl, rfl⟩
  · rw [inB_yes (by omega) (by omega)]
    rw [inB_yes (by omega) (by omega)] at hin
    have h3 : s.size ≤ 60 := by omega
    clear h1
    go_enter Tryz.func93, Tryz.ntmps93
    go_wp2_with fail
    go_at_call 56
    refine (hin _).mono ?_
    rintro e w2 ⟨rfl, rfl⟩
    clear hin
    go_wp2
    go_loop [3] (fun i => ∃ k : Nat, k ≤ s.size ∧ i = .int .i64 k ∧ ((bs s).take k).any ubad = false) (fun i => s.size - (intOf i).toNat)
    case atStart => exact ⟨0, Nat.zero_le _, rfl, by simp⟩
    case round =>
      obtain ⟨k, hks, rfl, hno⟩ := hrel
      have HN : Hid (((bs s).take k).any ubad = false) := hno
      clear hno
      by_cases hlt : k < s.size
      · have hat := bs_at s k hlt
        have hbk := bs_bound s k
        have HA : Hid (((bs s).take (k + 1)).any ubad = (((bs s).take k).any ubad || ubad ((bs s).getD k 0))) := uany_succ (by omega)
        have HO : Hid (ubad ((bs s).getD k 0) = true → (bs s).any ubad = true) := uany_of (by omega)
        obtain ⟨x, hx⟩ : ∃ x, x = (bs s).getD k 0 := ⟨_, rfl⟩
        rw [← hx] at hat hbk HA HO
        clear hx
        have hlt' : (k : Int) < (s.size : Int) := by omega
        by_cases g1 : x < 33
        · go_wp2
          go_ret
          refine ⟨?_, rfl⟩
          rw [HO.out (by simp [ubad, g1])]; rfl
        · by_cases g2 : 126 < x
          · go_wp2
            go_ret
            refine ⟨?_, rfl⟩
            rw [HO.out (by simp [ubad, g2])]; rfl
          · go_wp2
            go_round
            case rel => exact ⟨k + 1, hlt, by go_num, by rw [HA.out, HN.out]; simp [ubad]; omega⟩
            case measure => simp [intOf]; omega
      · obtain rfl : k = s.size := by omega
        have hn' : ¬ ((s.size : Int) < (s.size : Int)) := by omega
        have HN2 : Hid ((bs s).any ubad = false) := (show (bs s).any ubad = false by have := HN.out; rwa [List.take_of_length_le (by omega)] at this)
        clear HN
        go_wp2
        go_ret
        exact ⟨by rw [HN2.out]; rfl, rfl⟩
end Go.Proofs.YtokkigfjabbdaaaGreatDoor

/- The specification's RecordPack. No condition. -/
namespace Go.Proofs.YtokkigfjabbdaaaGreatDoor
open Go.RowKit
set_option maxRecDepth 100000
set_option linter.unusedVariables false

theorem toListR_loop (s : ByteArray) : ∀ (n i : Nat) (r : List UInt8), s.size - i = n → (r ≠ [] ∨ 0 < n) → (ByteArray.toList.loop s i r).isEmpty = false
  | 0, i, r, h, hr => by
    rw [ByteArray.toList.loop]
    rw [if_neg (by omega)]
    rcases hr with hr | hr
    · cases r with
      | nil => exact absurd rfl hr
      | cons a l => simp
    · omega
  | n + 1, i, r, h, hr => by
    rw [ByteArray.toList.loop]
    rw [if_pos (by omega)]
    exact toListR_loop s n (i + 1) _ (by omega) (.inl (by simp))
theorem emptyS_of {s : ByteArray} (h : s.size = 0) : s = emptyS := by
  cases s with
  | mk d =>
    have : d = #[] := Array.size_eq_zero_iff.mp h
    rw [this]; rfl
theorem emptyS_ne {s : ByteArray} (h : s ≠ emptyS) : s.toList.isEmpty = false := toListR_loop s s.size 0 [] rfl (.inr (Nat.pos_of_ne_zero (fun e => h (emptyS_of e))))
theorem emptyS_yes : emptyS.toList.isEmpty = true := by unfold ByteArray.toList; rw [ByteArray.toList.loop]; rfl
theorem recB_kind {r : PRec} (h : recB r = true) : (r.kind = 1 ∨ r.kind = 2) ∧ urlB r.url = true ∧ (r.kind = 2 → r.body = emptyS) := by
  simp only [recB, Bool.and_eq_true, Bool.or_eq_true, decide_eq_true_eq, Bool.not_eq_true', Bool.and_eq_false_iff, decide_eq_false_iff_not, ne_eq, Decidable.not_not] at h
  obtain ⟨⟨h1, h2⟩, h3⟩ := h
  exact ⟨h1, h2, fun e => h3.resolve_left (fun f => f e)⟩

set_option maxHeartbeats 400000 in
set_option maxRecDepth 100000 in
theorem srecPack_any (r : PRec) (w : World) (hu : r.url.size ≤ 1099511627776) (hb : r.body.size ≤ 1099511627776) :
    Calls Tryz.prog 80 #[recV r] w fun e w' => ∃ v, e = .returned (.tuple #[v, .bool (packR r).2]) ∧ Own w.heap.size 5 .u8 w' v (packR r).1 ∧ Below w.heap.size w w' := by
  have CU := (show Hid (∀ W, Calls Tryz.prog 93 #[.string r.url] W fun e w' => e = .returned (.bool (urlB r.url)) ∧ w' = W) from fun W => surlOk_any r.url W hu)
  have HP := (show Hid (packR r = if recB r = true then (recL r, true) else ([], false)) from rfl)
  obtain ⟨kd, ur, bo⟩ := r
  unfold recV
  simp only at CU hu hb ⊢
  obtain ⟨w1, hw1⟩ : ∃ y, y = w.alloc (.cells #[.int .i64 kd, .string ur, .string bo] 94) := ⟨_, rfl⟩
  have h1 := (Hl.refl w).new #[.int .i64 kd, .string ur, .string bo] 94
  rw [← hw1] at h1
  have H1 := (show Hid _ from h1)
  clear h1
  have NO := (show Hid (recB ⟨kd, ur, bo⟩ = false → packR ⟨kd, ur, bo⟩ = ([], false)) from fun e => by rw [HP.out, if_neg (by rw [e]; decide)])
  have hs1 : w1.heap.size = w.heap.size + 1 := by rw [hw1, World.size_alloc]
  have OE : Hid (Own w.heap.size 5 .u8 (w1.alloc (.cells #[] 5)) (.slice (some ⟨w.heap.size + 1, 0, none⟩) 0 0) []) := (show Own w.heap.size 5 .u8 (w1.alloc (.cells #[] 5)) (.slice (some ⟨w.heap.size + 1, 0, none⟩) 0 0) [] by
    have := own_empty 5 .u8 w1
    rw [hs1] at this
    exact this.base (Nat.le_succ _))
  have OE1 := (show Hid (Own w.heap.size 5 .u8 (w1.alloc (.cells #[] 5)) (.slice (some ⟨w1.heap.size, 0, none⟩) 0 0) []) from (own_empty 5 .u8 w1).base H1.out.1.size)
  clear hs1
  by_cases hk : kd = 1 ∨ kd = 2
  · cases hq : urlB ur
    · have HR := (show Hid (packR ⟨kd, ur, bo⟩ = ([], false)) from NO.out (by simp [recB, hq]))
      rw [hq] at CU
      clear hq
      rcases hk with rfl | rfl
      · go_enter Tryz.func80, Tryz.ntmps80
        go_wp2_with (go_at_call 93
                     rw [← hw1]
                     refine Calls.mono (CU.out _) ?_
                     rintro e w2 ⟨rfl, e2⟩
                     replace e2 := e2.symm
                     subst e2
                     clear hw1)
        go_ret2
        exact ⟨_, by rw [HR.out]; rfl, (by rw [HR.out]; first | exact OE.out | exact OE1.out), H1.out.1.alloc H1.out.1.size _⟩
      · go_enter Tryz.func80, Tryz.ntmps80
        go_wp2_with (go_at_call 93
                     rw [← hw1]
                     refine Calls.mono (CU.out _) ?_
                     rintro e w2 ⟨rfl, e2⟩
                     replace e2 := e2.symm
                     subst e2
                     clear hw1)
        go_ret2
        exact ⟨_, by rw [HR.out]; rfl, (by rw [HR.out]; first | exact OE.out | exact OE1.out), H1.out.1.alloc H1.out.1.size _⟩
    · rw [hq] at CU
      have HQ := (show Hid (urlB ur = true) from hq)
      obtain ⟨i0, hi, hz0, hz1, hz2⟩ := info_parts Tryz.infoB
      clear hq
      rcases hk with rfl | rfl
      · have HR : Hid (packR ⟨1, ur, bo⟩ = (form 1 ++ textForm ur ++ textForm bo, true)) := (show packR ⟨1, ur, bo⟩ = _ by rw [HP.out, if_pos (by simp [recB, HQ.out])]; rfl)
        have C3 := (show Hid (∀ W, Calls Tryz.prog 94 #[.string bo] W fun e w' => ∃ v, e = .returned v ∧ Own W.heap.size 5 .u8 w' v (textForm bo) ∧ Below W.heap.size W w') from fun W => sputText_any bo W hb)
        have L2 := (show Hid ((textForm bo).length ≤ 9 + bo.size ∧ (form 1 ++ textForm ur).length ≤ 9 + (9 + ur.size)) from ⟨textForm_len _, by rw [List.length_append]; have := form_len 1; have := textForm_len ur; omega⟩)
        have KD := (show Hid (Below w1.heap.size w1 w1.drew) from below_drewN 1)
        have HS := (show Hid (∀ W, Below w1.heap.size w1 W → W.cell? ⟨w.heap.size, 0, none⟩ = some (.int .i64 1) ∧ W.cell? ⟨w.heap.size, 1, none⟩ = some (.string ur) ∧ W.cell? ⟨w.heap.size, 2, none⟩ = some (.string bo)) from fun W b => by
          obtain ⟨p0, p1, p2, _⟩ := rk_three (H1.out.below b).at0
          exact ⟨p0, p1, p2⟩)
        have C1 := (show Hid (∀ W, Calls Tryz.prog 92 #[.int .i64 1] W fun e w' => ∃ v, e = .returned v ∧ Own W.heap.size 5 .u8 w' v (form 1) ∧ Below W.heap.size W w') from fun W => snum_any 1 W (by omega))
        have C2 := (show Hid (∀ W, Calls Tryz.prog 94 #[.string ur] W fun e w' => ∃ v, e = .returned v ∧ Own W.heap.size 5 .u8 w' v (textForm ur) ∧ Below W.heap.size W w') from fun W => sputText_any ur W hu)
        have L1 := (show Hid ((form 1).length ≤ 9 ∧ (textForm ur).length ≤ 9 + ur.size) from ⟨form_len _, textForm_len _⟩)
        go_enter Tryz.func80, Tryz.ntmps80
        go_wp2_with (go_at_call 93
                     rw [← hw1]
                     refine Calls.mono (CU.out _) ?_
                     rintro e w2 ⟨rfl, e2⟩
                     replace e2 := e2.symm
                     subst e2
                     clear hw1
                     obtain ⟨d1, d2, d3⟩ := HS.out _ (Below.refl _ _))
        go_region_held3 (fun w' => w'.cell? ⟨w.heap.size, 0, none⟩ = some (.int .i64 1) ∧ w'.cell? ⟨w.heap.size, 1, none⟩ = some (.string ur) ∧ w'.cell? ⟨w.heap.size, 2, none⟩ = some (.string bo))
          (first | exact HS.out _ KD.out | exact HS.out _ B3.out | exact HS.out _ B4.out | exact HS.out _ B5.out)
          (first
            | (go_at_call 92
               with_reducible refine Calls.mono (C1.out _) ?_
               rintro e w3 ⟨v3, rfl, o3, b3⟩
               have B3 := (show Hid (Below w1.heap.size w1 w3) from KD.out.trans (b3.mono KD.out.size))
               have O3 := (show Hid (Own w1.heap.size 5 .u8 w3 v3 (form 1)) from o3.base KD.out.size)
               clear b3 o3)
            | (go_at_call 94
               with_reducible refine Calls.mono (C2.out _) ?_
               rintro e w4 ⟨v4, rfl, o4, b4⟩
               have B4 := (show Hid (Below w1.heap.size w1 w4) from B3.out.trans (b4.mono B3.out.size))
               have O34 := (show Hid (Own w1.heap.size 5 .u8 w4 v3 (form 1)) from O3.out.below b4)
               have O4 := (show Hid (Own w3.heap.size 5 .u8 w4 v4 (textForm ur)) from o4)
               clear b4 o4)
            | (refine step_appS rfl _ _ 58 rfl w1.heap.size 5 i0 (.int .u8 0) 1 1 Tryz.underlying58 hi hz0 hz1 hz2 rfl (by decide) v3 (form 1).length ((form 1).map (Value.int .u8)) rfl O34.out v4 (textForm ur).length ((textForm ur).map (Value.int .u8)) rfl (sv_of_own O4.out) (by simp) (ints_oneCell _ _) (by have := L1.out; unfold maxLen; omega) (by have := L1.out; omega) B4.out.size ?_
               intro v5 w5 o5 g5
               have B5 := (show Hid (Below w1.heap.size w1 w5) from B4.out.grown g5 B4.out.size (fun r e => (World.ownsRow.lt O34.out r e).1))
               have O5 := (show Hid (Own w1.heap.size 5 .u8 w5 v5 (form 1 ++ textForm ur)) from by show World.ownsRow _ _ _ _ _ _ _; rw [List.length_append, List.map_append]; exact o5)
               clear o5 g5))
        obtain ⟨d1, d2, d3⟩ := HS.out _ B5.out
        have S1 := (show Hid (w.heap.size ≤ w1.heap.size) from H1.out.1.size)
        go_wp2_with (first
          | (go_at_call 94
             with_reducible refine Calls.mono (C3.out _) ?_
             rintro e w6 ⟨v6, rfl, o6, b6⟩
             have B6 := (show Hid (Below w1.heap.size w1 w6) from B5.out.trans (b6.mono B5.out.size))
             have O56 := (show Hid (Own w1.heap.size 5 .u8 w6 v5 (form 1 ++ textForm ur)) from O5.out.below b6)
             have O6 := (show Hid (Own w5.heap.size 5 .u8 w6 v6 (textForm bo)) from o6)
             clear b6 o6)
          | (at_builtin
             refine wpList_app _ rfl _ _ 58 rfl w1.heap.size 5 i0 (.int .u8 0) 1 Tryz.underlying58 hi hz0 hz1 hz2 rfl .u8 v5 v6 (form 1 ++ textForm ur) (textForm bo) rfl rfl O56.out O6.out.sl (by have := L2.out; omega) (by have := L2.out; unfold maxLen; omega) B6.out.size ?_
             intro v7 w7 o7 g7
             have B7 := (show Hid (Below w1.heap.size w1 w7) from B6.out.grown g7 B6.out.size (fun r e => (World.ownsRow.lt O56.out r e).1))
             have O7 := (show Hid (Own w1.heap.size 5 .u8 w7 v7 (form 1 ++ textForm ur ++ textForm bo)) from o7)
             clear o7 g7))
        go_ret2
        exact ⟨_, by rw [HR.out]; rfl, (by rw [HR.out]; exact O7.out.base S1.out), H1.out.1.trans (B7.out.mono S1.out)⟩
      · by_cases hbo : bo = emptyS
        · have HR : Hid (packR ⟨2, ur, bo⟩ = (form 2 ++ textForm ur, true)) := (show packR ⟨2, ur, bo⟩ = _ by rw [HP.out, if_pos (by simp [recB, HQ.out, hbo])]; simp [recL])
          have hbe : bo.toList.isEmpty = true := by rw [hbo]; exact emptyS_yes
          clear hbo
          have KD := (show Hid (Below w1.heap.size w1 w1.drew) from below_drewN 1)
          have HS := (show Hid (∀ W, Below w1.heap.size w1 W → W.cell? ⟨w.heap.size, 0, none⟩ = some (.int .i64 2) ∧ W.cell? ⟨w.heap.size, 1, none⟩ = some (.string ur) ∧ W.cell? ⟨w.heap.size, 2, none⟩ = some (.string bo)) from fun W b => by
            obtain ⟨p0, p1, p2, _⟩ := rk_three (H1.out.below b).at0
            exact ⟨p0, p1, p2⟩)
          have C1 := (show Hid (∀ W, Calls Tryz.prog 92 #[.int .i64 2] W fun e w' => ∃ v, e = .returned v ∧ Own W.heap.size 5 .u8 w' v (form 2) ∧ Below W.heap.size W w') from fun W => snum_any 2 W (by omega))
          have C2 := (show Hid (∀ W, Calls Tryz.prog 94 #[.string ur] W fun e w' => ∃ v, e = .returned v ∧ Own W.heap.size 5 .u8 w' v (textForm ur) ∧ Below W.heap.size W w') from fun W => sputText_any ur W hu)
          have L1 := (show Hid ((form 2).length ≤ 9 ∧ (textForm ur).length ≤ 9 + ur.size) from ⟨form_len _, textForm_len _⟩)
          go_enter Tryz.func80, Tryz.ntmps80
          go_wp2_with (go_at_call 93
                       rw [← hw1]
                       refine Calls.mono (CU.out _) ?_
                       rintro e w2 ⟨rfl, e2⟩
                       replace e2 := e2.symm
                       subst e2
                       clear hw1
                       obtain ⟨d1, d2, d3⟩ := HS.out _ (Below.refl _ _))
          go_region_held3 (fun w' => w'.cell? ⟨w.heap.size, 0, none⟩ = some (.int .i64 2) ∧ w'.cell? ⟨w.heap.size, 1, none⟩ = some (.string ur) ∧ w'.cell? ⟨w.heap.size, 2, none⟩ = some (.string bo))
            (first | exact HS.out _ KD.out | exact HS.out _ B3.out | exact HS.out _ B4.out | exact HS.out _ B5.out)
            (first
              | (go_at_call 92
                 with_reducible refine Calls.mono (C1.out _) ?_
                 rintro e w3 ⟨v3, rfl, o3, b3⟩
                 have B3 := (show Hid (Below w1.heap.size w1 w3) from KD.out.trans (b3.mono KD.out.size))
                 have O3 := (show Hid (Own w1.heap.size 5 .u8 w3 v3 (form 2)) from o3.base KD.out.size)
                 clear b3 o3)
              | (go_at_call 94
                 with_reducible refine Calls.mono (C2.out _) ?_
                 rintro e w4 ⟨v4, rfl, o4, b4⟩
                 have B4 := (show Hid (Below w1.heap.size w1 w4) from B3.out.trans (b4.mono B3.out.size))
                 have O34 := (show Hid (Own w1.heap.size 5 .u8 w4 v3 (form 2)) from O3.out.below b4)
                 have O4 := (show Hid (Own w3.heap.size 5 .u8 w4 v4 (textForm ur)) from o4)
                 clear b4 o4)
              | (refine step_appS rfl _ _ 58 rfl w1.heap.size 5 i0 (.int .u8 0) 1 1 Tryz.underlying58 hi hz0 hz1 hz2 rfl (by decide) v3 (form 2).length ((form 2).map (Value.int .u8)) rfl O34.out v4 (textForm ur).length ((textForm ur).map (Value.int .u8)) rfl (sv_of_own O4.out) (by simp) (ints_oneCell _ _) (by have := L1.out; unfold maxLen; omega) (by have := L1.out; omega) B4.out.size ?_
                 intro v5 w5 o5 g5
                 have B5 := (show Hid (Below w1.heap.size w1 w5) from B4.out.grown g5 B4.out.size (fun r e => (World.ownsRow.lt O34.out r e).1))
                 have O5 := (show Hid (Own w1.heap.size 5 .u8 w5 v5 (form 2 ++ textForm ur)) from by show World.ownsRow _ _ _ _ _ _ _; rw [List.length_append, List.map_append]; exact o5)
                 clear o5 g5))
          obtain ⟨d1, d2, d3⟩ := HS.out _ B5.out
          have S1 := (show Hid (w.heap.size ≤ w1.heap.size) from H1.out.1.size)
          go_wp2
          go_ret2
          exact ⟨_, by rw [HR.out]; rfl, (by rw [HR.out]; exact O5.out.base S1.out), H1.out.1.trans (B5.out.mono S1.out)⟩
        · have HR := (show Hid (packR ⟨2, ur, bo⟩ = ([], false)) from NO.out (by simp [recB, hbo]))
          have hbe : bo.toList.isEmpty = false := emptyS_ne hbo
          clear hbo
          have HS := (show Hid (∀ W, Below w1.heap.size w1 W → W.cell? ⟨w.heap.size, 0, none⟩ = some (.int .i64 2) ∧ W.cell? ⟨w.heap.size, 1, none⟩ = some (.string ur) ∧ W.cell? ⟨w.heap.size, 2, none⟩ = some (.string bo)) from fun W b => by
            obtain ⟨p0, p1, p2, _⟩ := rk_three (H1.out.below b).at0
            exact ⟨p0, p1, p2⟩)
          go_enter Tryz.func80, Tryz.ntmps80
          go_wp2_with (go_at_call 93
                       rw [← hw1]
                       refine Calls.mono (CU.out _) ?_
                       rintro e w2 ⟨rfl, e2⟩
                       replace e2 := e2.symm
                       subst e2
                       clear hw1
                       obtain ⟨d1, d2, d3⟩ := HS.out _ (Below.refl _ _))
          go_ret2
          exact ⟨_, by rw [HR.out]; rfl, (by rw [HR.out]; first | exact OE.out | exact OE1.out), H1.out.1.alloc H1.out.1.size _⟩
  · have HR := (show Hid (packR ⟨kd, ur, bo⟩ = ([], false)) from NO.out (by
      have h1 : ¬ kd = 1 := fun e => hk (.inl e)
      have h2 : ¬ kd = 2 := fun e => hk (.inr e)
      simp [recB, h1, h2]))
    have h1 : ¬ kd = 1 := fun e => hk (.inl e)
    have h2 : ¬ kd = 2 := fun e => hk (.inr e)
    have e1 : (kd == 1) = false := by simp [h1]
    have e2 : (kd == 2) = false := by simp [h2]
    have e3 : (kd != 1) = true := by simp [h1]
    have e4 : (kd != 2) = true := by simp [h2]
    clear hk
    go_enter Tryz.func80, Tryz.ntmps80
    go_wp2_with fail
    rw [← hw1]
    go_ret2
    exact ⟨_, by rw [HR.out]; rfl, (by rw [HR.out]; first | exact OE.out | exact OE1.out), H1.out.1.alloc H1.out.1.size _⟩
end Go.Proofs.YtokkigfjabbdaaaGreatDoor

/- The specification's RecordRead. No condition. -/
namespace Go.Proofs.YtokkigfjabbdaaaGreatDoor
open Go.RowKit
set_option maxRecDepth 100000
set_option linter.unusedVariables false

theorem results_cell_tmp2 {fn : Func} {p u v : Tmp} {ty : TypeId} (h : fn.results = #[.cell p ty, .tmp u, .tmp v]) (tmps : Array Value) (P : Program) (w : World) :
    (results fn tmps).run P w = ((asAddr (tmps.getD p undef)).run P w).andThen fun a w₁ => ((loadVar ty a).run P w₁).andThen fun x w₂ => .ok (.tuple #[x, tmps.getD u undef, tmps.getD v undef]) w₂ := by
  simp only [results, h]
  simp [Sem.run_bind, Result.andThen]
theorem rec_res {fn : Func} {p u v : Tmp} (hr : fn.results = #[.cell p 94, .tmp u, .tmp v]) {tmps : Array Value} {w : World} {g : Nat} {a b c r q : Value} (h4 : tmps.getD p undef = .pointer (some ⟨g, 0, none⟩)) (h5 : tmps.getD u undef = r) (h6 : tmps.getD v undef = q) (hb : w.heap[g]? = some (.cells #[a, b, c] 94 (0, 0))) :
    (results fn tmps).run Tryz.prog w = .ok (.tuple #[.agg #[a, b, c], r, q]) w := by
  rw [results_cell_tmp2 (p := p) (u := u) (v := v) (ty := 94) hr, h4, h5, h6]
  simp [asAddr, run_loadVar_row w g 94 94 #[a, b, c] (0, 0) _ hb Tryz.underlying94 rfl rfl, Result.andThen]
theorem rdT_len {xs t : List Int} {i j : Int} (h : rdT xs i = some (t, j)) : t.length ≤ xs.length := by
  unfold rdT at h
  split at h
  · split at h
    · simp only [Option.some.injEq, Prod.mk.injEq] at h
      rw [← h.1, List.length_take, List.length_drop]; omega
    · cases h
  · cases h

set_option maxHeartbeats 400000 in
set_option maxRecDepth 100000 in
theorem srecRead_any {v : Value} {xs : List Int} {i : Int} {w : World} (h : Sl .u8 w v xs) (hb : ∀ x ∈ xs, 0 ≤ x ∧ x ≤ 255) (hn : xs.length ≤ 1099511627776) :
    Calls Tryz.prog 59 #[v, .int .i64 i] w fun e w' => e = .returned (.tuple #[recV (readR xs i).1, .int .i64 (readR xs i).2.1, .bool (readR xs i).2.2]) ∧ Below w.heap.size w w' := by
  have HS := (show Hid (Sl .u8 w v xs) from h)
  have HB := (show Hid _ from hb)
  have CN := (show Hid (∀ W, Below w.heap.size w W → Calls Tryz.prog 77 #[v, .int .i64 i] W fun e w' => e = .returned (numVal i (rdI xs i)) ∧ w' = W) from fun W b => sgetNum_any (h.below b) hb hn)
  have CT := (show Hid (∀ (W : World) (j : Int), Below w.heap.size w W → Calls Tryz.prog 79 #[v, .int .i64 j] W fun e w' => e = .returned (textVal (rdT xs j)) ∧ w' = W) from fun W j b => sgetText_any (h.below b) hb hn)
  obtain ⟨a, ca, rfl, _, _, _, _⟩ := h
  clear hb
  obtain ⟨w1, hw1⟩ : ∃ y, y = (w.alloc (.cells #[.int .i64 0, .string ⟨#[]⟩, .string ⟨#[]⟩] 94)).alloc (.cells #[.int .i64 0, .string ⟨#[]⟩, .string ⟨#[]⟩] 94) := ⟨_, rfl⟩
  have h1 := ((Hl.refl w).new #[.int .i64 0, .string ⟨#[]⟩, .string ⟨#[]⟩] 94).new #[.int .i64 0, .string ⟨#[]⟩, .string ⟨#[]⟩] 94
  rw [← hw1, World.size_alloc] at h1
  have H1 := (show Hid _ from h1.swap)
  clear h1
  obtain ⟨_, _, _, r1, r2, r3⟩ := rk_three H1.out.at0
  obtain ⟨n1, n2, n3, _⟩ := rk_three H1.out.at1
  go_enter Tryz.func59, Tryz.ntmps59
  go_wp2_with fail
  go_at_call 77
  rw [← hw1]
  refine Calls.mono (CN.out w1 H1.out.1) ?_
  rintro e w2 ⟨rfl, e2⟩
  replace e2 := e2.symm
  subst e2
  clear hw1 CN
  cases h1 : rdI xs i with
  | none =>
    simp only [numVal]
    have HR : Hid (readR xs i = (zeroR, 0, false)) := (show readR xs i = (zeroR, 0, false) by rw [readR, h1])
    clear h1 CT
    go_wp2
    have H9 := H1.out.set3 (Nat.le_refl _) (by simp) (.int .i64 0) (.string ⟨#[]⟩) (.string ⟨#[]⟩)
    refine bodyPost_ret (rec_res rfl rfl rfl rfl H9.at0) rfl ?_
    rw [HR.out]
    exact ⟨rfl, H9.1⟩
  | some p =>
    obtain ⟨k, n⟩ := p
    have H0 := (show Hid (rdI xs i = some (k, n)) from h1)
    simp only [numVal]
    clear h1
    go_wp2_with fail
    go_at_call 79
    refine Calls.mono (CT.out w1 (i + n) H1.out.1) ?_
    rintro e w2 ⟨rfl, e2⟩
    replace e2 := e2.symm
    subst e2
    cases h2 : rdT xs (i + n) with
    | none =>
      simp only [textVal]
      have HR : Hid (readR xs i = (zeroR, 0, false)) := (show readR xs i = (zeroR, 0, false) by rw [readR, H0.out]; simp only; rw [h2])
      clear h2 CT H0
      go_wp2
      have H9 := H1.out.set3 (Nat.le_refl _) (by simp) (.int .i64 0) (.string ⟨#[]⟩) (.string ⟨#[]⟩)
      refine bodyPost_ret (rec_res rfl rfl rfl rfl H9.at0) rfl ?_
      rw [HR.out]
      exact ⟨rfl, H9.1⟩
    | some p =>
      obtain ⟨t, j⟩ := p
      have H2 := (show Hid (rdT xs (i + n) = some (t, j)) from h2)
      have L2 := (show Hid (t.length ≤ xs.length) from rdT_len h2)
      simp only [textVal]
      clear h2
      obtain ⟨w3, hw3⟩ : ∃ y, y = w1.alloc (.cells #[.int .i64 k, .string (strOf t), .string ⟨#[]⟩] 94) := ⟨_, rfl⟩
      have h3 := H1.out.new #[.int .i64 k, .string (strOf t), .string ⟨#[]⟩] 94
      rw [← hw3] at h3
      have H3 := (show Hid _ from h3)
      clear h3
      obtain ⟨m1, m2, m3, x1, x2, x3⟩ := rk_three H3.out.at0
      by_cases hk : k = 1
      · subst hk
        go_wp2_with fail
        go_at_call 79
        rw [← hw3]
        refine Calls.mono (CT.out w3 j H3.out.1) ?_
        rintro e w4 ⟨rfl, e4⟩
        replace e4 := e4.symm
        subst e4
        clear hw3
        cases h4 : rdT xs j with
        | none =>
          simp only [textVal]
          have HR : Hid (readR xs i = (zeroR, 0, false)) := (show readR xs i = (zeroR, 0, false) by rw [readR, H0.out]; simp only; rw [H2.out]; simp only; rw [if_pos trivial, h4])
          obtain ⟨_, _, _, r1, r2, r3⟩ := rk_three H3.out.at1
          obtain ⟨n1, n2, n3, _⟩ := rk_three H3.out.at2
          clear h4 CT H0 H2
          go_wp2
          have H9 := H3.out.swap.set3 (Nat.le_refl _) (fun p hp => by
            simp only [List.mem_cons, List.not_mem_nil, or_false] at hp
            have := lt_of_block H1.out.at0
            rcases hp with rfl | rfl
            · show w1.heap.size ≠ w.heap.size; omega
            · show w.heap.size + 1 ≠ w.heap.size; omega) (.int .i64 0) (.string ⟨#[]⟩) (.string ⟨#[]⟩)
          refine bodyPost_ret (rec_res rfl rfl rfl rfl H9.at0) rfl ?_
          rw [HR.out]
          exact ⟨rfl, H9.1⟩
        | some p =>
          obtain ⟨t2, m⟩ := p
          have H4 := (show Hid (rdT xs j = some (t2, m)) from h4)
          have L4 := (show Hid (t2.length ≤ xs.length) from rdT_len h4)
          simp only [textVal]
          clear h4 CT
          obtain ⟨w5, hw5⟩ : ∃ y, y = w3.setCell ⟨w1.heap.size, 2, none⟩ (.string (strOf t2)) := ⟨_, rfl⟩
          have h5 : Hl w [(w1.heap.size, #[.int .i64 1, .string (strOf t), .string (strOf t2)], 94), (w.heap.size, #[.int .i64 0, .string ⟨#[]⟩, .string ⟨#[]⟩], 94), (w.heap.size + 1, #[.int .i64 0, .string ⟨#[]⟩, .string ⟨#[]⟩], 94)] w5 := by
            rw [hw5]
            exact H3.out.set H1.out.1.size (fun p hp => by
              simp only [List.mem_cons, List.not_mem_nil, or_false] at hp
              have := lt_of_block H1.out.at1
              rcases hp with rfl | rfl
              · show w.heap.size ≠ w1.heap.size; omega
              · show w.heap.size + 1 ≠ w1.heap.size; omega) 2 (.string (strOf t2))
          have H5 := (show Hid _ from h5)
          clear h5
          have CP := (show Hid _ from srecPack_any ⟨1, strOf t, strOf t2⟩ w5 (by show (strOf t).size ≤ _; rw [strOf_size]; have := L2.out; omega) (by show (strOf t2).size ≤ _; rw [strOf_size]; have := L4.out; omega))
          have HPB : Hid ((packR ⟨1, strOf t, strOf t2⟩).2 = recB ⟨1, strOf t, strOf t2⟩) := (show (packR ⟨1, strOf t, strOf t2⟩).2 = recB ⟨1, strOf t, strOf t2⟩ by unfold packR; split <;> simp_all)
          rw [HPB.out] at CP
          have HQ : Hid (readR xs i = if recB ⟨1, strOf t, strOf t2⟩ = true then (⟨1, strOf t, strOf t2⟩, m, true) else (zeroR, 0, false)) := (show readR xs i = _ by rw [readR, H0.out]; simp only; rw [H2.out]; simp only; rw [if_pos trivial, H4.out])
          obtain ⟨pb, hpb⟩ : ∃ pb, pb = recB ⟨1, strOf t, strOf t2⟩ := ⟨_, rfl⟩
          rw [← hpb] at CP HQ
          unfold recV at CP
          simp only at CP
          clear hpb HPB
          obtain ⟨m1, m2, m3, _⟩ := rk_three H5.out.at0
          go_wp2_with fail
          go_at_call 80
          rw [← hw5]
          refine Calls.mono CP.out ?_
          rintro e w6 ⟨v6, rfl, _, b6⟩
          have H6 := (show Hid _ from H5.out.below b6)
          obtain ⟨m1, m2, m3, _⟩ := rk_three H6.out.at0
          obtain ⟨_, _, _, r1, r2, r3⟩ := rk_three H6.out.at1
          obtain ⟨n1, n2, n3, _⟩ := rk_three H6.out.at2
          have NE := (show Hid (∀ p ∈ ([(w1.heap.size, #[.int .i64 1, .string (strOf t), .string (strOf t2)], 94), (w.heap.size + 1, #[.int .i64 0, .string ⟨#[]⟩, .string ⟨#[]⟩], 94)] : List (Nat × Array Value × TypeId)), p.1 ≠ w.heap.size) from fun p hp => by
            simp only [List.mem_cons, List.not_mem_nil, or_false] at hp
            have := lt_of_block H1.out.at0
            rcases hp with rfl | rfl
            · show w1.heap.size ≠ w.heap.size; omega
            · show w.heap.size + 1 ≠ w.heap.size; omega)
          clear b6 CP
          cases pb
          · have HR : Hid (readR xs i = (zeroR, 0, false)) := (show readR xs i = (zeroR, 0, false) by rw [HQ.out, if_neg (by decide)])
            clear HQ
            go_wp2
            have H9 := H6.out.swap.set3 (Nat.le_refl _) NE.out (.int .i64 0) (.string ⟨#[]⟩) (.string ⟨#[]⟩)
            refine bodyPost_ret (rec_res rfl rfl rfl rfl H9.at0) rfl ?_
            rw [HR.out]
            exact ⟨rfl, H9.1⟩
          · have HR : Hid (readR xs i = (⟨1, strOf t, strOf t2⟩, m, true)) := (show readR xs i = _ by rw [HQ.out, if_pos rfl])
            clear HQ
            go_wp2
            have H9 := H6.out.swap.set3 (Nat.le_refl _) NE.out (.int .i64 1) (.string (strOf t)) (.string (strOf t2))
            refine bodyPost_ret (rec_res rfl rfl rfl rfl H9.at0) rfl ?_
            rw [HR.out]
            exact ⟨rfl, H9.1⟩
      · have hke : (k == 1) = false := by simp [hk]
        have HK := (show Hid (¬ k = 1) from hk)
        clear CT
        have CP := (show Hid _ from srecPack_any ⟨k, strOf t, emptyS⟩ w3 (by show (strOf t).size ≤ _; rw [strOf_size]; have := L2.out; omega) (Nat.zero_le _))
        have HPB : Hid ((packR ⟨k, strOf t, emptyS⟩).2 = recB ⟨k, strOf t, emptyS⟩) := (show (packR ⟨k, strOf t, emptyS⟩).2 = recB ⟨k, strOf t, emptyS⟩ by unfold packR; split <;> simp_all)
        rw [HPB.out] at CP
        have HQ : Hid (readR xs i = if recB ⟨k, strOf t, emptyS⟩ = true then (⟨k, strOf t, emptyS⟩, j, true) else (zeroR, 0, false)) := (show readR xs i = _ by rw [readR, H0.out]; simp only; rw [H2.out]; simp only; rw [if_neg HK.out])
        obtain ⟨pb, hpb⟩ : ∃ pb, pb = recB ⟨k, strOf t, emptyS⟩ := ⟨_, rfl⟩
        rw [← hpb] at CP HQ
        unfold recV at CP
        simp only at CP
        clear hpb HPB
        obtain ⟨m1, m2, m3, _⟩ := rk_three H3.out.at0
        go_wp2_with fail
        go_at_call 80
        rw [← hw3]
        refine Calls.mono CP.out ?_
        rintro e w6 ⟨v6, rfl, _, b6⟩
        have H6 := (show Hid _ from H3.out.below b6)
        obtain ⟨m1, m2, m3, _⟩ := rk_three H6.out.at0
        obtain ⟨_, _, _, r1, r2, r3⟩ := rk_three H6.out.at1
        obtain ⟨n1, n2, n3, _⟩ := rk_three H6.out.at2
        have NE := (show Hid (∀ p ∈ ([(w1.heap.size, #[.int .i64 k, .string (strOf t), .string (emptyS)], 94), (w.heap.size + 1, #[.int .i64 0, .string ⟨#[]⟩, .string ⟨#[]⟩], 94)] : List (Nat × Array Value × TypeId)), p.1 ≠ w.heap.size) from fun p hp => by
          simp only [List.mem_cons, List.not_mem_nil, or_false] at hp
          have := lt_of_block H1.out.at0
          rcases hp with rfl | rfl
          · show w1.heap.size ≠ w.heap.size; omega
          · show w.heap.size + 1 ≠ w.heap.size; omega)
        clear b6 CP
        cases pb
        · have HR : Hid (readR xs i = (zeroR, 0, false)) := (show readR xs i = (zeroR, 0, false) by rw [HQ.out, if_neg (by decide)])
          clear HQ
          go_wp2
          have H9 := H6.out.swap.set3 (Nat.le_refl _) NE.out (.int .i64 0) (.string ⟨#[]⟩) (.string ⟨#[]⟩)
          refine bodyPost_ret (rec_res rfl rfl rfl rfl H9.at0) rfl ?_
          rw [HR.out]
          exact ⟨rfl, H9.1⟩
        · have HR : Hid (readR xs i = (⟨k, strOf t, emptyS⟩, j, true)) := (show readR xs i = _ by rw [HQ.out, if_pos rfl])
          clear HQ
          go_wp2
          have H9 := H6.out.swap.set3 (Nat.le_refl _) NE.out (.int .i64 k) (.string (strOf t)) (.string (emptyS))
          refine bodyPost_ret (rec_res rfl rfl rfl rfl H9.at0) rfl ?_
          rw [HR.out]
          exact ⟨rfl, H9.1⟩
end Go.Proofs.YtokkigfjabbdaaaGreatDoor

/- Rows of records, plainly. No condition. -/
namespace Go.Proofs.YtokkigfjabbdaaaGreatDoor
open Go.RowKit
set_option maxRecDepth 100000
set_option linter.unusedVariables false

def recCells (rs : List PRec) : List Value := rs.flatMap fun r => [.int .i64 r.kind, .string r.url, .string r.body]
theorem recCells_nil : recCells [] = [] := rfl
theorem recCells_cons (r : PRec) (rs : List PRec) : recCells (r :: rs) = .int .i64 r.kind :: .string r.url :: .string r.body :: recCells rs := rfl
theorem recCells_app (xs ys : List PRec) : recCells (xs ++ ys) = recCells xs ++ recCells ys := by simp [recCells]
theorem recCells_len (rs : List PRec) : (recCells rs).length = rs.length * 3 := by
  induction rs with
  | nil => rfl
  | cons r rs ih => rw [recCells_cons, List.length_cons, List.length_cons, List.length_cons, ih, List.length_cons]; omega
theorem rec_oneCell (rs : List PRec) : ∀ v ∈ recCells rs, v.oneCell' = true := by
  intro v hv
  obtain ⟨r, _, hr⟩ := List.mem_flatMap.mp hv
  simp only [List.mem_cons, List.not_mem_nil, or_false] at hr
  rcases hr with rfl | rfl | rfl <;> rfl
/-- A row of records of the call's own. -/
abbrev OwnRs (B : Nat) (w : World) (v : Value) (rs : List PRec) : Prop := w.ownsRow B 94 3 v rs.length (recCells rs)
theorem Tryz.infoRec : (Tryz.prog.info? 94).map (fun i => (i.zero, i.size, i.bytes)) = some (some (.agg #[.int .i64 0, .string ⟨#[]⟩, .string ⟨#[]⟩]), 3, 40) := by kernel_rfl

theorem rdT_some {xs t : List Int} {i j : Int} (h : rdT xs i = some (t, j)) (hb : ∀ x ∈ xs, 0 ≤ x ∧ x ≤ 255) : i < j ∧ j ≤ xs.length ∧ 0 ≤ i := by
  unfold rdT at h
  split at h
  · rename_i y n e
    obtain ⟨h1, h2, h3, h4, h5, h6, h7⟩ := rdI_some e hb
    split at h
    · simp only [Option.some.injEq, Prod.mk.injEq] at h
      omega
    · cases h
  · cases h
/-- What is read goes on. -/
theorem readR_next {xs : List Int} {i j : Int} {r : PRec} (h : readR xs i = (r, j, true)) (hb : ∀ x ∈ xs, 0 ≤ x ∧ x ≤ 255) : 0 ≤ i ∧ i < j ∧ j ≤ xs.length ∧ recB r = true ∧ r.url.size ≤ xs.length ∧ r.body.size ≤ xs.length := by
  unfold readR at h
  split at h
  · simp at h
  · rename_i k n e
    obtain ⟨h1, h2, h3, h4, h5, h6, h7⟩ := rdI_some e hb
    split at h
    · simp at h
    · rename_i u l e2
      have b2 := rdT_some e2 hb
      have l2 := rdT_len e2
      split at h
      · split at h
        · simp at h
        · rename_i t m e3
          have b3 := rdT_some e3 hb
          have l3 := rdT_len e3
          split at h
          · rename_i hr
            simp only [Prod.mk.injEq, and_true] at h
            obtain ⟨rfl, rfl⟩ := h
            exact ⟨h1, by omega, by omega, hr, by show (strOf u).size ≤ _; rw [strOf_size]; exact l2, by show (strOf t).size ≤ _; rw [strOf_size]; exact l3⟩
          · simp at h
      · split at h
        · rename_i hr
          simp only [Prod.mk.injEq, and_true] at h
          obtain ⟨rfl, rfl⟩ := h
          exact ⟨h1, by omega, by omega, hr, by show (strOf u).size ≤ _; rw [strOf_size]; exact l2, Nat.zero_le _⟩
        · simp at h
theorem readR_no {xs : List Int} {i : Int} (h : (readR xs i).2.2 = false) : readR xs i = (zeroR, 0, false) := by
  unfold readR at h ⊢
  split
  · rfl
  · rename_i k n e
    rw [e] at h
    simp only at h
    split
    · rfl
    · rename_i u l e2
      rw [e2] at h
      simp only at h
      split
      · rename_i hk
        rw [if_pos hk] at h
        split
        · rfl
        · rename_i t m e3
          rw [e3] at h
          simp only at h
          split
          · rename_i hr
            rw [if_pos hr] at h
            cases h
          · rfl
      · rename_i hk
        rw [if_neg hk] at h
        split
        · rename_i hr
          rw [if_pos hr] at h
          cases h
        · rfl
/-- The records from a place on. -/
def recsF (xs : List Int) : Nat → Nat → Option (List PRec)
  | 0, _ => none
  | f + 1, i => if i < xs.length then (if (readR xs i).2.2 = true then (recsF xs f (readR xs i).2.1.toNat).map ((readR xs i).1 :: ·) else none) else some []
def recsR (xs : List Int) : List PRec × Bool := match recsF xs (xs.length + 1) 0 with
  | some l => (l, true)
  | none => ([], false)
end Go.Proofs.YtokkigfjabbdaaaGreatDoor

/- Records, plainly: what is packed is read as it was, wherever it stands. No condition. -/
namespace Go.Proofs.YtokkigfjabbdaaaGreatDoor
open Go.RowKit
set_option maxRecDepth 100000
set_option linter.unusedVariables false

theorem rdT_at (s : ByteArray) (hs : s.size ≤ 1099511627776) (pre rest : List Int) : rdT (pre ++ textForm s ++ rest) (pre.length : Nat) = some (bs s, ((pre.length + (textForm s).length : Nat) : Int)) := by
  have e : pre ++ textForm s ++ rest = pre ++ form s.size ++ (bs s ++ rest) := by simp [textForm]
  have h1 : rdI (pre ++ textForm s ++ rest) (pre.length : Nat) = some ((s.size : Int), (form s.size).length) := by
    rw [e]; exact rdI_form (by omega) (by omega) pre _
  have hl : (bs s).length = s.size := bs_len s
  have h2 := rdT_fit (p := pre.length + (form s.size).length) h1 (by omega) (by simp [textForm, hl]; omega)
  rw [h2]
  have e3 : ((pre ++ textForm s ++ rest).drop (pre.length + (form s.size).length)).take s.size = bs s := by
    rw [e, List.drop_append_of_le_length (by simp), ← List.length_append, List.drop_length, List.nil_append, ← hl, List.take_left']
    rfl
  rw [e3]
  have e4 : (textForm s).length = (form s.size).length + s.size := by simp [textForm, hl]
  rw [e4]
  congr 2
  omega

/-- What is packed is read as it was. -/
theorem readR_of {r : PRec} (h : recB r = true) (hb : r.body.size ≤ 1099511627776) (pre rest : List Int) : readR (pre ++ recL r ++ rest) (pre.length : Nat) = (r, ((pre.length + (recL r).length : Nat) : Int), true) := by
  obtain ⟨k, u, t⟩ := r
  have hk : k = 1 ∨ (k = 2 ∧ t = emptyS) := by
    simp only [recB, Bool.and_eq_true, Bool.or_eq_true, decide_eq_true_eq, Bool.not_eq_true', Bool.and_eq_false_iff, decide_eq_false_iff_not, Decidable.not_not, ne_eq] at h
    obtain ⟨⟨h1 | h1, _⟩, h3⟩ := h
    · exact .inl h1
    · exact .inr ⟨h1, by rcases h3 with h3 | h3 <;> first | exact absurd h1 h3 | exact h3⟩
  have hu : u.size ≤ 1099511627776 := by
    simp only [recB, urlB, inB, Bool.and_eq_true, decide_eq_true_eq] at h
    omega
  simp only at hb
  rcases hk with rfl | ⟨rfl, rfl⟩
  · have eL : recL ⟨1, u, t⟩ = form 1 ++ textForm u ++ textForm t := by simp [recL]
    rw [eL]
    have h1 : rdI (pre ++ (form 1 ++ textForm u ++ textForm t) ++ rest) (pre.length : Nat) = some (1, (form 1).length) := by
      have e : pre ++ (form 1 ++ textForm u ++ textForm t) ++ rest = pre ++ form 1 ++ (textForm u ++ textForm t ++ rest) := by simp
      rw [e]; exact rdI_form (by omega) (by omega) pre _
    have h2 : rdT (pre ++ (form 1 ++ textForm u ++ textForm t) ++ rest) ((pre.length : Nat) + ((form 1).length : Nat) : Int) = some (bs u, ((pre.length + (form 1).length + (textForm u).length : Nat) : Int)) := by
      have e : pre ++ (form 1 ++ textForm u ++ textForm t) ++ rest = (pre ++ form 1) ++ textForm u ++ (textForm t ++ rest) := by simp
      have := rdT_at u hu (pre ++ form 1) (textForm t ++ rest)
      rw [← e, List.length_append] at this
      exact_mod_cast this
    have h3 : rdT (pre ++ (form 1 ++ textForm u ++ textForm t) ++ rest) ((pre.length + (form 1).length + (textForm u).length : Nat) : Int) = some (bs t, ((pre.length + (form 1).length + (textForm u).length + (textForm t).length : Nat) : Int)) := by
      have e : pre ++ (form 1 ++ textForm u ++ textForm t) ++ rest = (pre ++ form 1 ++ textForm u) ++ textForm t ++ rest := by simp
      have := rdT_at t hb (pre ++ form 1 ++ textForm u) rest
      rw [← e, List.length_append, List.length_append] at this
      exact this
    unfold readR
    simp only [h1, h2, h3, if_true, strOf_bs]
    rw [if_pos h]
    simp only [List.length_append, Nat.add_assoc]
  · have eL : recL ⟨2, u, emptyS⟩ = form 2 ++ textForm u := by simp [recL]
    rw [eL]
    have h1 : rdI (pre ++ (form 2 ++ textForm u) ++ rest) (pre.length : Nat) = some (2, (form 2).length) := by
      have e : pre ++ (form 2 ++ textForm u) ++ rest = pre ++ form 2 ++ (textForm u ++ rest) := by simp
      rw [e]; exact rdI_form (by omega) (by omega) pre _
    have h2 : rdT (pre ++ (form 2 ++ textForm u) ++ rest) ((pre.length : Nat) + ((form 2).length : Nat) : Int) = some (bs u, ((pre.length + (form 2).length + (textForm u).length : Nat) : Int)) := by
      have e : pre ++ (form 2 ++ textForm u) ++ rest = (pre ++ form 2) ++ textForm u ++ rest := by simp
      have := rdT_at u hu (pre ++ form 2) rest
      rw [← e, List.length_append] at this
      exact_mod_cast this
    unfold readR
    simp only [h1, h2, strOf_bs]
    rw [if_neg (by decide), if_pos h]
    simp only [List.length_append, Nat.add_assoc]
end Go.Proofs.YtokkigfjabbdaaaGreatDoor
