import Derived.Test.YtiejfnnokfedkaaDoorB27
import Derived.Test.YtiejfnnokfedkaaDoorB19
import Derived.Test.YtiejfnnokfedkaaDoorB21
import Derived.Test.YtiejfnnokfedkaaDoorB23
/- The program's HeadRead. -/
namespace Go.Proofs.YtiejfnnokfedkaaDoor
open Go.RowKit
set_option maxRecDepth 100000
set_option linter.unusedVariables false

theorem far3 {w : World} {b g k : Nat} {v1 v2 v3 : Value} {u : Option Value} (hne : b ≠ g) (h : w.drew.cell? ⟨b, k, none⟩ = u) : (((w.setCell ⟨g, 0, none⟩ v1).setCell ⟨g, 1, none⟩ v2).setCell ⟨g, 2, none⟩ v3).drew.cell? ⟨b, k, none⟩ = u :=
  show (((w.setCell ⟨g, 0, none⟩ v1).setCell ⟨g, 1, none⟩ v2).setCell ⟨g, 2, none⟩ v3).cell? ⟨b, k, none⟩ = u from far1 hne (far1 hne (far1 hne (show w.cell? ⟨b, k, none⟩ = u from h)))
theorem Sent.addr {w : World} (h : Sent w) : ∃ a : Addr, ∀ W, Below w.heap.size w W → W.cell? ⟨0, 0, none⟩ = some (.iface 134 (.pointer (some a))) := by
  obtain ⟨a, h⟩ := h
  exact ⟨a, fun W b => (b.cell (p := ⟨0, 0, none⟩) (lt_of_cell h)).trans h⟩
/-- errors.Is of what headIn answers. -/
theorem iis_any {s : ByteArray} {w W : World} {er : Value} {a : Addr} (h : HeadErr s w er) (ha : w.cell? ⟨0, 0, none⟩ = some (.iface 134 (.pointer (some a)))) :
    Calls Tryd.prog 36 #[er, .iface 134 (.pointer (some a))] W fun e w' => e = .returned (.bool (!(readDk s).2)) ∧ w' = W := by
  unfold HeadErr at h
  split at h
  · rename_i e
    subst h
    rw [e]
    exact is_nil a W
  · rename_i e
    obtain ⟨b, hb, rfl⟩ := h
    have e' : (readDk s).2 = false := by simpa using e
    rw [hb] at ha
    injection ha with ha
    injection ha with _ ha
    injection ha with ha
    injection ha with ha
    rw [e', ha]
    exact is_same a W

set_option maxHeartbeats 400000 in
set_option maxRecDepth 100000 in
theorem iheadRead_any (s : ByteArray) (w : World) (hs : s.size ≤ 1099511627776) (he : Sent w) :
    Calls Tryd.prog 11 #[.string s] w fun e w' => e = .returned (.tuple #[headV (readDk s).1, .bool (readDk s).2]) ∧ Below w.heap.size w w' := by
  obtain ⟨a, hA⟩ := he.addr
  have HA := (show Hid _ from hA)
  have CI := (show Hid (∀ W, Below w.heap.size w W → Calls Tryd.prog 35 #[.string s] W fun e w' => (∃ er, e = .returned (.tuple #[headV (readDk s).1, er]) ∧ HeadErr s W er) ∧ Below W.heap.size W w') from fun W b => iheadIn_any s W hs (he.below b))
  have CE := (show Hid (∀ (u W : World) (er : Value), Below w.heap.size w u → HeadErr s u er → Calls Tryd.prog 36 #[er, .iface 134 (.pointer (some a))] W fun e w' => e = .returned (.bool (!(readDk s).2)) ∧ w' = W) from fun u W er b h => iis_any h (HA.out u b))
  obtain ⟨⟨q, qb⟩, hq⟩ : ∃ q, q = readDk s := ⟨_, rfl⟩
  rw [← hq] at CI CE ⊢
  simp only at CI CE ⊢
  obtain ⟨p0, p1, p2⟩ := q
  unfold headV at CI ⊢
  simp only at CI ⊢
  clear hA he hq
  obtain ⟨w1, hw1⟩ : ∃ y, y = w.alloc (.cells #[.int .i64 0, .int .i64 0, .int .i64 0] 25) := ⟨_, rfl⟩
  have h1 := (Hl.refl w).new #[.int .i64 0, .int .i64 0, .int .i64 0] 25
  rw [← hw1] at h1
  have H1 := (show Hid _ from h1)
  clear h1
  go_enter Tryd.func11, Tryd.ntmps11
  go_wp2_with fail
  go_at_call 35
  rw [← hw1]
  refine Calls.mono (CI.out w1 H1.out.1) ?_
  rintro e w2 ⟨⟨er, rfl, her⟩, b2⟩
  have HE := (show Hid (HeadErr s w1 er) from her)
  have H2 := (show Hid _ from H1.out.below b2)
  clear hw1 b2 CI her
  obtain ⟨w3, hw3⟩ : ∃ y, y = w2.alloc (.cells #[.int .i64 p0, .int .i64 p1, .int .i64 p2] 25) := ⟨_, rfl⟩
  have h3 := H2.out.new #[.int .i64 p0, .int .i64 p1, .int .i64 p2] 25
  rw [← hw3] at h3
  have H3 := (show Hid _ from h3)
  clear h3
  go_wp2_with fail
  rw [← hw3]
  obtain ⟨k1, k2, k3, _⟩ := rk_three H3.out.at0
  obtain ⟨_, _, _, r1, r2, r3⟩ := rk_three H3.out.at1
  have ce := HA.out w3 H3.out.1
  have N1 := (show Hid (w2.heap.size ≠ w.heap.size) from Nat.ne_of_gt (lt_of_block H2.out.at0))
  have N2 := (show Hid (0 ≠ w.heap.size) from Nat.ne_of_lt (lt_of_cell (HA.out w (Below.refl _ _))))
  have HS := (show Hid (w3.drew.cell? ⟨w2.heap.size, 0, none⟩ = some (.int .i64 p0) ∧ w3.drew.cell? ⟨w2.heap.size, 1, none⟩ = some (.int .i64 p1) ∧ w3.drew.cell? ⟨w2.heap.size, 2, none⟩ = some (.int .i64 p2) ∧ w3.drew.cell? ⟨0, 0, none⟩ = some (.iface 134 (.pointer (some a)))) from ⟨k1, k2, k3, ce⟩)
  clear hw3
  go_region_held3 (fun w' => w'.cell? ⟨w2.heap.size, 0, none⟩ = some (.int .i64 p0) ∧ w'.cell? ⟨w2.heap.size, 1, none⟩ = some (.int .i64 p1) ∧ w'.cell? ⟨w2.heap.size, 2, none⟩ = some (.int .i64 p2) ∧ w'.cell? ⟨0, 0, none⟩ = some (.iface 134 (.pointer (some a))))
    (first | exact HS.out | exact ⟨far3 N1.out HS.out.1, far3 N1.out HS.out.2.1, far3 N1.out HS.out.2.2.1, far3 N2.out HS.out.2.2.2⟩)
    (first
      | (go_at_call 36
         with_reducible refine Calls.mono (CE.out w1 _ _ H1.out.1 HE.out) ?_
         rintro e w4 ⟨rfl, e4⟩
         subst e4))
  all_goals go_wp2
  all_goals
    have H4 := (H3.out.swap.set3 (Nat.le_refl _) (by simpa using N1.out) (.int .i64 p0) (.int .i64 p1) (.int .i64 p2)).below (below_drewN 1)
    refine bodyPost_ret (head_res rfl rfl rfl H4.at0) rfl ?_
    exact ⟨rfl, H4.1⟩
end Go.Proofs.YtiejfnnokfedkaaDoor

/- The program's HeadNow. -/
namespace Go.Proofs.YtiejfnnokfedkaaDoor
open Go.RowKit
set_option maxRecDepth 100000
set_option linter.unusedVariables false

/-- The head that counts when k sectors have been looked at. -/
def nowK (d : PDisk) : Nat → PHead
  | 0 => zeroH
  | k + 1 => if (readDk (sectorDk d (k : Int)).1).2 = true ∧ (nowK d k).no < (readDk (sectorDk d (k : Int)).1).1.no then (readDk (sectorDk d (k : Int)).1).1 else nowK d k
theorem read_pos {s : ByteArray} (h : (readDk s).2 = true) : 1 ≤ (readDk s).1.no := (headB_in (read_some h).1).1
theorem read_zero {s : ByteArray} (h : ¬ (readDk s).2 = true) : (readDk s).1 = zeroH := by rw [read_none (by simpa using h)]
theorem read_empty : readDk ⟨#[]⟩ = (zeroH, false) := by
  by_cases h : (readDk ⟨#[]⟩).2 = true
  · have := (read_some h).2
    have h2 := packS_size (readDk ⟨#[]⟩).1
    rw [this] at h2
    simp [ByteArray.size] at h2
  · exact read_none (by simpa using h)
theorem nowK_two (d : PDisk) : nowK d 2 = nowDk d := by
  unfold nowDk
  by_cases hb : diskB d = false
  · have h1 : ∀ x : Int, sectorDk d x = (⟨#[]⟩, false) := fun x => by rw [sectorDk, if_pos (.inl hb)]
    rw [if_pos hb]
    simp [nowK, h1, read_empty, zeroH]
  · have hb' : diskB d = true := by simpa using hb
    have h0 : sectorDk d ((0 : Nat) : Int) = (sectorD d 0, true) := by rw [sectorDk, if_neg (by rw [hb']; simp [inB])]; rfl
    have h1 : sectorDk d ((1 : Nat) : Int) = (sectorD d 1, true) := by rw [sectorDk, if_neg (by rw [hb']; simp [inB])]; rfl
    have e1 : nowK d 1 = (readDk (sectorD d 0)).1 := by
      show (if _ then _ else _) = _
      rw [h0]
      by_cases h : (readDk (sectorD d 0)).2 = true
      · rw [if_pos ⟨h, by have := read_pos h; show (0 : Int) < (readDk (sectorD d 0)).1.no; omega⟩]
      · rw [if_neg (fun e => h e.1), read_zero h]; rfl
    rw [if_neg hb]
    show (if _ then _ else _) = _
    rw [h1, e1]
    by_cases h : (readDk (sectorD d 1)).2 = true
    · by_cases hl : (readDk (sectorD d 0)).1.no < (readDk (sectorD d 1)).1.no
      · rw [if_pos ⟨h, hl⟩, if_pos hl]
      · rw [if_neg (fun e => hl e.2), if_neg hl]
    · rw [if_neg (fun e => h e.1), if_neg]
      rw [read_zero h]
      by_cases h' : (readDk (sectorD d 0)).2 = true
      · have := read_pos h'; show ¬ _ < (0 : Int); omega
      · rw [read_zero h']; show ¬ (0 : Int) < 0; omega

set_option maxHeartbeats 400000 in
set_option maxRecDepth 100000 in
theorem iheadNow_any (w : World) (v : Value) (d : PDisk) (hd : DiskAt w v d) (hf : DiskFit d) (he : Sent w) :
    Calls Tryd.prog 13 #[v] w fun e w' => e = .returned (headV (nowDk d)) ∧ Below w.heap.size w w' := by
  rw [← nowK_two]
  have HD := (show Hid (DiskAt w v d) from hd)
  have HF := (show Hid (DiskFit d) from hf)
  have HSn := (show Hid (Sent w) from he)
  obtain ⟨a, hA⟩ := he.addr
  have HA := (show Hid _ from hA)
  obtain ⟨sa, sn, sc, la, ln, lc, rfl, _, _⟩ := hd
  clear hf he hA
  obtain ⟨w1, hw1⟩ : ∃ y, y = ((w.alloc (.cells #[.slice sa sn sc, .slice la ln lc] 34)).alloc (.cells #[.int .i64 0, .int .i64 0, .int .i64 0] 25)).alloc (.cells #[.int .i64 0, .int .i64 0, .int .i64 0] 25) := ⟨_, rfl⟩
  have h1 := (((Hl.refl w).new #[.slice sa sn sc, .slice la ln lc] 34).new #[.int .i64 0, .int .i64 0, .int .i64 0] 25).new #[.int .i64 0, .int .i64 0, .int .i64 0] 25
  rw [← hw1, World.size_alloc, World.size_alloc] at h1
  have H1 := (show Hid _ from h1)
  clear h1
  go_enter Tryd.func13, Tryd.ntmps13
  go_wp2_with fail
  rw [← hw1]
  go_loopw [10] (fun i wr => ∃ k : Nat, k ≤ 2 ∧ i = .int .i64 (k : Int) ∧ Hl w [(w.heap.size + 1 + 1, #[.int .i64 (nowK d k).no, .int .i64 (nowK d k).area, .int .i64 (nowK d k).en], 25), (w.heap.size + 1, #[.int .i64 0, .int .i64 0, .int .i64 0], 25), (w.heap.size, #[.slice sa sn sc, .slice la ln lc], 34)] wr) (fun i _ => 2 - (intOf i).toNat)
  case atStart => exact ⟨0, by omega, rfl, H1.out⟩
  case round =>
    clear H1 hw1
    obtain ⟨k, hk, rfl, hI⟩ := hrel
    have HI := (show Hid (Hl w _ wr) from hI)
    clear hI
    obtain ⟨n1, n2, n3, o1, o2, o3⟩ := rk_three HI.out.at0
    obtain ⟨d1, d2, _, _⟩ := rk_two HI.out.at2
    by_cases hlt : k < 2
    · have hlt' : (k : Int) < 2 := by omega
      have CS := (show Hid _ from isectorOf_any (HD.out.below HI.out.1) HF.out (k : Int))
      obtain ⟨⟨tx, tb⟩, ht⟩ : ∃ q, q = sectorDk d (k : Int) := ⟨_, rfl⟩
      have hts : tx.size ≤ 1099511627776 := by
        have : tx = (sectorDk d (k : Int)).1 := by rw [← ht]
        rw [this, sectorDk]
        split
        · exact Nat.zero_le _
        · rename_i h
          rw [sector_size (by cases hh : diskB d <;> simp_all) (by simp only [inB] at h; constructor <;> simp_all)]
          omega
      rw [← ht] at CS
      simp only at CS
      have HT := (show Hid ((tx, tb) = sectorDk d (k : Int)) from ht)
      clear ht
      go_wp2_with fail
      go_at_call 16
      refine Calls.mono CS.out ?_
      rintro e w2 ⟨rfl, b2⟩
      have H2 := (show Hid _ from HI.out.below b2)
      clear b2 CS
      have CI := (show Hid _ from iheadIn_any tx w2 hts (HSn.out.below H2.out.1))
      have CE := (show Hid (∀ (u W : World) (er : Value), Below w.heap.size w u → HeadErr tx u er → Calls Tryd.prog 36 #[er, .iface 134 (.pointer (some a))] W fun e w' => e = .returned (.bool (!(readDk tx).2)) ∧ w' = W) from fun u W er b h => iis_any h (HA.out u b))
      have HK := (show Hid (nowK d (k + 1) = if (readDk tx).2 = true ∧ (nowK d k).no < (readDk tx).1.no then (readDk tx).1 else nowK d k) from by rw [show tx = (sectorDk d (k : Int)).1 by rw [← HT.out]]; exact rfl)
      obtain ⟨⟨q, qb⟩, hq⟩ : ∃ q, q = readDk tx := ⟨_, rfl⟩
      rw [← hq] at CI CE HK
      simp only at CI CE HK
      obtain ⟨p0, p1, p2⟩ := q
      obtain ⟨N, hN⟩ : ∃ N, N = nowK d k := ⟨_, rfl⟩
      rw [← hN] at HK H2 n1 n2 n3
      obtain ⟨m0, m1, m2⟩ := N
      unfold headV at CI
      simp only at CI HK H2 n1 n2 n3
      clear hq hN HI n1 n2 n3 o1 o2 o3 d1 d2
      go_wp2_with fail
      go_at_call 35
      refine Calls.mono CI.out ?_
      rintro e w3 ⟨⟨er, rfl, her⟩, b3⟩
      have HE := (show Hid (HeadErr tx w2 er) from her)
      have H3 := (show Hid _ from H2.out.below b3)
      clear b3 CI her
      obtain ⟨w4, hw4⟩ : ∃ y, y = w3.alloc (.cells #[.int .i64 p0, .int .i64 p1, .int .i64 p2] 25) := ⟨_, rfl⟩
      have h4 := H3.out.new #[.int .i64 p0, .int .i64 p1, .int .i64 p2] 25
      rw [← hw4] at h4
      have H4 := (show Hid _ from h4)
      clear h4
      obtain ⟨k1, k2, k3, _⟩ := rk_three H4.out.at0
      obtain ⟨n1, n2, n3, o1, o2, o3⟩ := rk_three H4.out.at1
      have ce := HA.out w3 H3.out.1
      have ce0 := lt_of_cell ce
      go_wp2_with fail
      go_at_call 36
      rw [← hw4]
      refine Calls.mono (CE.out w2 _ _ H2.out.1 HE.out) ?_
      rintro e w5 ⟨rfl, e5⟩
      replace e5 := e5.symm
      subst e5
      clear hw4 CE ce ce0
      have H5 := (show Hid (Hl w [(w.heap.size + 1 + 1, #[.int .i64 m0, .int .i64 m1, .int .i64 m2], 25), (w.heap.size + 1, #[.int .i64 0, .int .i64 0, .int .i64 0], 25), (w.heap.size, #[.slice sa sn sc, .slice la ln lc], 34)] w4) from H4.out.tail)
      cases qb
      · have HZ : Hid (nowK d (k + 1) = ⟨m0, m1, m2⟩) := (show nowK d (k + 1) = ⟨m0, m1, m2⟩ by rw [HK.out, if_neg (by simp)])
        clear HK
        go_wp2
        go_roundw
        case rel => exact ⟨k + 1, hlt, by go_num, by rw [HZ.out]; exact H5.out⟩
        case measure => simp [intOf]; omega
      · by_cases hm : m0 < p0
        · have HZ : Hid (nowK d (k + 1) = ⟨p0, p1, p2⟩) := (show nowK d (k + 1) = ⟨p0, p1, p2⟩ by rw [HK.out, if_pos ⟨rfl, hm⟩])
          clear HK
          go_wp2
          go_roundw
          case rel =>
            have H6 := H5.out.set3 (by omega) (fun p hp => by
              simp only [List.mem_cons, List.not_mem_nil, or_false] at hp
              rcases hp with rfl | rfl
              · show w.heap.size + 1 ≠ w.heap.size + 1 + 1; omega
              · show w.heap.size ≠ w.heap.size + 1 + 1; omega) (.int .i64 p0) (.int .i64 p1) (.int .i64 p2)
            exact ⟨k + 1, hlt, by go_num, by rw [HZ.out]; exact H6⟩
          case measure => simp [intOf]; omega
        · have HZ : Hid (nowK d (k + 1) = ⟨m0, m1, m2⟩) := (show nowK d (k + 1) = ⟨m0, m1, m2⟩ by rw [HK.out, if_neg (fun e => hm e.2)])
          clear HK
          go_wp2
          go_roundw
          case rel => exact ⟨k + 1, hlt, by go_num, by rw [HZ.out]; exact H5.out⟩
          case measure => simp [intOf]; omega
    · obtain rfl : k = 2 := by omega
      obtain ⟨_, _, _, r1, r2, r3⟩ := rk_three HI.out.at1
      go_wp2
      have H9 := HI.out.swap.set3 (Nat.le_succ _) (by simp) (.int .i64 (nowK d 2).no) (.int .i64 (nowK d 2).area) (.int .i64 (nowK d 2).en)
      refine bodyPost_ret (results_cell_row rfl _ _ (w.heap.size + 1) 25 _ (0, 0) _ rfl H9.at0 Tryd.underlying25 rfl rfl) rfl ?_
      exact ⟨rfl, H9.1⟩
end Go.Proofs.YtiejfnnokfedkaaDoor

/- What AreaPut puts, sector by sector, plainly. No condition. -/
namespace Go.Proofs.YtiejfnnokfedkaaDoor
open Go.RowKit
set_option maxRecDepth 100000
set_option linter.unusedVariables false

theorem touch_no {at' n k : Nat} (h : at' + n ≤ 64 * k ∨ 64 * k + 64 ≤ at' ∨ n = 0) : touch at' n k = false := by
  simp only [touch, Bool.and_eq_false_iff, decide_eq_false_iff_not]; omega
theorem touch_yes {at' n k : Nat} (h1 : at' < 64 * k + 64) (h2 : 64 * k < at' + n) (h3 : 0 < n) : touch at' n k = true := by
  simp only [touch, Bool.and_eq_true, decide_eq_true_eq]; omega
/-- Where no byte stands nothing is put. -/
theorem areaN_skip {d : PDisk} {a : Int} {b : List Int} {at' k : Nat} {e : PDisk} (h : areaN d a b at' k = some e) : ∀ m, (∀ j, k ≤ j → j < k + m → touch at' b.length j = false) → areaN d a b at' (k + m) = some e := by
  intro m
  induction m with
  | zero => intro _; exact h
  | succ m ih =>
    intro ht
    have h1 := ih (fun j h1 h2 => ht j h1 (by omega))
    rw [← Nat.add_assoc, areaN_succ h1, ht (k + m) (by omega) (by omega)]
    simp
theorem areaN_first {d : PDisk} {a : Int} {b : List Int} {at' : Nat} : areaN d a b at' (at' / 64) = some d := by
  have := areaN_skip (d := d) (a := a) (b := b) (at' := at') (k := 0) (e := d) rfl (at' / 64) (fun j _ hj => touch_no (by omega))
  rwa [Nat.zero_add] at this
theorem areaN_last {d : PDisk} {a : Int} {b : List Int} {at' k : Nat} {e : PDisk} (hk : k ≤ 64) (h : areaN d a b at' k = some e) (hl : at' + b.length ≤ 64 * k ∨ b.length = 0) : areaN d a b at' 64 = some e := by
  have := areaN_skip h (64 - k) (fun j h1 h2 => touch_no (by omega))
  rwa [Nat.add_sub_cancel' hk] at this
theorem areaN_fail {d : PDisk} {a : Int} {b : List Int} {at' k : Nat} (hk : k ≤ 64) (h : areaN d a b at' k = none) : areaN d a b at' 64 = none := by
  have := areaN_none h (64 - k)
  rwa [Nat.add_sub_cancel' hk] at this
/-- The new text of a sector, as it is copied. -/
theorem newL_copy {old b : List Int} {at' k j x m : Nat} (ho : old.length = 64) (hx : x < 64) (hxj : 64 * k + x = at' + j) (hj : j < b.length) (hm : m = min (64 - x) (b.length - j)) (h0 : j = 0 ∨ x = 0) :
    newL old b at' k = old.take x ++ (b.drop j).take m ++ old.drop (x + m) := by
  have hm1 : m ≤ 64 - x := by rw [hm]; exact Nat.min_le_left _ _
  have hm2 : m ≤ b.length - j := by rw [hm]; exact Nat.min_le_right _ _
  have hlt : ((b.drop j).take m).length = m := by rw [List.length_take, List.length_drop]; omega
  have hlx : (old.take x).length = x := by rw [List.length_take]; omega
  apply List.ext_getElem?
  intro i
  by_cases hi : i < 64
  · have e1 : (newL old b at' k)[i]? = some (if at' ≤ 64 * k + i ∧ 64 * k + i < at' + b.length then b.getD (64 * k + i - at') 0 else old.getD i 0) := by
      simp [newL, hi]
    rw [e1]
    by_cases h1 : i < x
    · rw [List.append_assoc, List.getElem?_append_left (by omega), List.getElem?_take_of_lt h1, if_neg (by omega), List.getElem?_eq_getElem (by omega), List.getD_eq_getElem?_getD, List.getElem?_eq_getElem (by omega)]
      rfl
    · by_cases h2 : i < x + m
      · rw [List.append_assoc, List.getElem?_append_right (by omega), hlx, List.getElem?_append_left (by omega), List.getElem?_take_of_lt (by omega), List.getElem?_drop, if_pos (by omega), show j + (i - x) = 64 * k + i - at' by omega, List.getD_eq_getElem?_getD, List.getElem?_eq_getElem (by omega)]
        rfl
      · have hmm : m = b.length - j := by omega
        rw [List.getElem?_append_right (by rw [List.length_append]; omega), List.length_append, hlx, hlt, List.getElem?_drop, if_neg (by omega), show x + m + (i - (x + m)) = i by omega, List.getElem?_eq_getElem (by omega), List.getD_eq_getElem?_getD, List.getElem?_eq_getElem (by omega)]
        rfl
  · rw [List.getElem?_eq_none (by rw [newL_len]; omega), List.getElem?_eq_none (by simp only [List.length_append, hlx, hlt, List.length_drop]; omega)]
end Go.Proofs.YtiejfnnokfedkaaDoor

/- The program's AreaPut. No condition. -/
namespace Go.Proofs.YtiejfnnokfedkaaDoor
open Go.RowKit
set_option maxRecDepth 100000
set_option linter.unusedVariables false

theorem dz_below {B : Nat} {w w' : World} {v : Value} {d : PDisk} (h : OwnDz B w v d) (b : Below w.heap.size w w') : OwnDz B w' v d := by
  obtain ⟨_, _, _, _, _, _, e, h1, h2⟩ := h
  exact ⟨_, _, _, _, _, _, e, h1.below b, h2.below b⟩
theorem dz_base {B B' : Nat} {w : World} {v : Value} {d : PDisk} (h : OwnDz B w v d) (b : B' ≤ B) : OwnDz B' w v d := by
  obtain ⟨_, _, _, _, _, _, e, h1, h2⟩ := h
  exact ⟨_, _, _, _, _, _, e, h1.base b, h2.base b⟩
theorem dz_set {B b k : Nat} {w : World} {v u : Value} {d : PDisk} (h : OwnDz B w v d) {cs : Array Value} {fr : Nat × Nat} (hb : w.heap[b]? = some (.cells cs 34 fr)) : OwnDz B (w.setCell ⟨b, k, none⟩ u) v d := by
  obtain ⟨_, _, _, _, _, _, e, h1, h2⟩ := h
  exact ⟨_, _, _, _, _, _, e, h1.set hb (by decide), h2.set hb (by decide)⟩
theorem dz_at {B : Nat} {w : World} {v : Value} {d : PDisk} (h : OwnDz B w v d) : DiskAt w v d := by
  obtain ⟨_, _, _, _, _, _, e, h1, h2⟩ := h
  exact ⟨_, _, _, _, _, _, e, h1.sv, h2.sv⟩

/-- What AreaPut holds while it runs. -/
structure ApZ (w : World) (O S3 : Nat) (x y s t p q : Value) (d e : PDisk) (W : World) : Prop where
  hl : Hl w [(O, #[x, y], 34), (S3, #[s, t], 34), (w.heap.size + 1, #[.slice none 0 0, .slice none 0 0], 34), (w.heap.size, #[p, q], 34)] W
  oe : OwnDz w.heap.size W (.agg #[x, y]) e
  od : OwnDz w.heap.size W (.agg #[s, t]) d
theorem ApZ.below {w : World} {O S3 : Nat} {x y s t p q : Value} {d e : PDisk} {W W' : World} (h : ApZ w O S3 x y s t p q d e W) (b : Below W.heap.size W W') : ApZ w O S3 x y s t p q d e W' := ⟨h.hl.below b, dz_below h.oe b, dz_below h.od b⟩
theorem ApZ.turn {w : World} {O S3 : Nat} {x y s t p q : Value} {d e : PDisk} {W : World} (h : ApZ w O S3 x y s t p q d e W) (hS : S3 < O) (hw : w.heap.size + 1 < S3) {a b : Value} {e' : PDisk} (o : OwnDz w.heap.size W (.agg #[a, b]) e') : ApZ w O S3 a b s t p q d e' ((W.setCell ⟨O, 0, none⟩ a).setCell ⟨O, 1, none⟩ b) := by
  have s1 := rk_at (k := 0) (u := a) h.hl.at0
  refine ⟨h.hl.set2 (by omega) (fun p hp => ?_) a b, dz_set (dz_set o h.hl.at0) s1, dz_set (dz_set h.od h.hl.at0) s1⟩
  simp only [List.mem_cons, List.not_mem_nil, or_false] at hp
  rcases hp with rfl | rfl | rfl <;> simp only <;> omega

theorem newL_byteP {old b : List Int} {at' k : Nat} (ho : ∀ y ∈ old, 0 ≤ y ∧ y ≤ 255) (hb : ∀ y ∈ b, 0 ≤ y ∧ y ≤ 255) : ∀ y ∈ newL old b at' k, 0 ≤ y ∧ y ≤ 255 := by
  have g : ∀ (l : List Int), (∀ y ∈ l, 0 ≤ y ∧ y ≤ 255) → ∀ i, 0 ≤ l.getD i 0 ∧ l.getD i 0 ≤ 255 := by
    intro l hl i
    rw [List.getD_eq_getElem?_getD]
    by_cases hi : i < l.length
    · rw [List.getElem?_eq_getElem hi]; exact hl _ (List.getElem_mem hi)
    · rw [List.getElem?_eq_none (by omega)]; exact ⟨Int.le_refl _, by decide⟩
  intro y hy
  simp only [newL, List.mem_map] at hy
  obtain ⟨i, _, rfl⟩ := hy
  split
  · exact g b hb _
  · exact g old ho _
/-- The copy into a sector. -/
theorem copy_put {W : World} {g bb bo uc : Nat} {T : ByteArray} {b : List Int} {A K j x m : Nat} (hg : W.heap[g]? = some (.cells (secA T) 59 (0, 0))) (hT : T.size = 64) (hs : Cells .u8 W (some ⟨bb, bo, none⟩) b) (hb : ∀ y ∈ b, 0 ≤ y ∧ y ≤ 255)
    (hx : x < 64) (hxj : 64 * K + x = A + j) (hj : j < b.length) (hm : m = min (64 - x) (b.length - j)) (h0 : j = 0 ∨ x = 0) (ty : TypeId) :
    (Builtin.copy_ #[22, 22] ty #[.slice (some ⟨g, x, none⟩) (64 - x) (64 - x), .slice (some ⟨bb, bo + j, none⟩) (b.length - j) (uc - j)]).run Tryd.prog W = .ok (goInt m) (W.setRow g (secA (strOf (newL (bs T) b A K)))) := by
  have hlb : (bs T).length = 64 := by rw [bs_len, hT]
  have hm1 : m ≤ 64 - x := by rw [hm]; exact Nat.min_le_left _ _
  have hm2 : m ≤ b.length - j := by rw [hm]; exact Nat.min_le_right _ _
  have hcl : (((b.drop j).take m).map (Value.int .u8)).length = m := by rw [List.length_map, List.length_take, List.length_drop]; omega
  have hr := run_copy_row (P := Tryd.prog) W 22 22 ty 5 g x (64 - x) (64 - x) ⟨bb, bo + j, none⟩ (b.length - j) (uc - j) (secA T) 59 (((b.drop j).take m).map (Value.int .u8)) Tryd.underlying22 (by kernel_rfl) hg (by
      rw [hcl, hm]; exact Nat.min_comm _ _) (fun i v hv => by
      rw [List.getElem?_map] at hv
      obtain ⟨y, hy, rfl⟩ := Option.map_eq_some_iff.mp hv
      have hi : i < m := by
        have := (List.getElem?_eq_some_iff.1 hy).1
        rw [List.length_take] at this; omega
      rw [List.getElem?_take_of_lt hi, List.getElem?_drop] at hy
      obtain ⟨b', o', e, c⟩ := hs (j + i) (by omega)
      cases e
      have e2 : b.getD (j + i) 0 = y := by rw [List.getD_eq_getElem?_getD, hy]; rfl
      rw [e2] at c
      rw [Addr.add_mid, ← c]
      congr 1
      simp only [Addr.mk.injEq, and_true, true_and]; omega) (by rw [hcl, secA_size, hT]; omega) (ints_oneCell _ _)
  rw [hcl] at hr
  have hbs : bs (strOf (newL (bs T) b A K)) = newL (bs T) b A K := bs_strOf (newL_byteP (bs_byte T) hb)
  have hrow : ((secA T).toList.take x ++ ((b.drop j).take m).map (Value.int .u8) ++ (secA T).toList.drop (x + m)).toArray = secA (strOf (newL (bs T) b A K)) := by
    have e1 : (secA T).toList = (bs T).map (Value.int .u8) := rfl
    have e2 : secA (strOf (newL (bs T) b A K)) = ((newL (bs T) b A K).map (Value.int .u8)).toArray := by rw [secA, secL, hbs]
    rw [e1, e2, newL_copy hlb hx hxj hj hm h0]
    simp only [List.map_append, List.map_take, List.map_drop]
  rw [hrow] at hr
  exact hr

theorem range_sec {W : World} {g : Nat} {S : ByteArray} {t : TypeId} (h : W.heap[g]? = some (.cells (secA S) t (0, 0))) : W.rangeAt g 0 (secL S) := fun j v hv => by
  rw [Nat.zero_add, cell_of_row W g j _ _ _ h]
  simpa [secA] using hv
theorem next_facts {u W : World} {g : Nat} {a b : Value} {q : PDisk} (hB : Below u.heap.size u W) (hg : u.heap.size ≤ g) (x : W.heap[g]? = some (.cells #[.slice none 0 0, .slice none 0 0] 34 (0, 0))) (o : OwnDz u.heap.size W (.agg #[a, b]) q) :
    Below u.heap.size u ((W.setCell ⟨g, 0, none⟩ a).setCell ⟨g, 1, none⟩ b) ∧ ((W.setCell ⟨g, 0, none⟩ a).setCell ⟨g, 1, none⟩ b).heap[g]? = some (.cells #[a, b] 34 (0, 0)) ∧ OwnDz u.heap.size ((W.setCell ⟨g, 0, none⟩ a).setCell ⟨g, 1, none⟩ b) (.agg #[a, b]) q := by
  have s1 := rk_at (k := 0) (u := a) x
  exact ⟨(hB.setCell (p := ⟨g, 0, none⟩) hg _).setCell (p := ⟨g, 1, none⟩) hg _, rk_at (k := 1) (u := b) s1, dz_set (dz_set o x) s1⟩
theorem put_full {e : PDisk} {X : Int} {S : ByteArray} (he : diskB e = true) (hX : inB X 0 129 = true) (hS : S.size = 64) : putDk e X S = if e.late.length < 200 then (⟨e.safe, e.late ++ [(X, S)]⟩, true) else (e, false) := by
  have hl := (diskB_len he).2
  rw [putDk, if_neg (by rw [he]; decide)]
  by_cases h : e.late.length < 200
  · rw [if_neg (by rw [hX]; simp [hS]; omega), if_pos h]
  · rw [if_pos (.inr (.inr (by omega))), if_neg h]
theorem areaN_round {d : PDisk} {ar X : Int} {b : List Int} {A K : Nat} {e : PDisk} {S : ByteArray} (h : areaN d ar b A K = some e) (ht : touch A b.length K = true) (hX : X = secOf ar K) (hS : S = newS e ar b A K) : areaN d ar b A (K + 1) = if e.late.length < 200 then some ⟨e.safe, e.late ++ [(X, S)]⟩ else none := by
  rw [areaN_succ h, if_pos ht, hX, hS]
/-- What is put is told by what was done so far. -/
theorem span_put (a at' : Int) (b : List Int) (d : PDisk) : putOkA d a at' b = spanB a at' (b.length : Int) := by
  have h1 : (decide (a = 0) || decide (a = 1)) = inB a 0 1 := by
    by_cases h0 : a = 0
    · subst h0; rfl
    · by_cases h1 : a = 1
      · subst h1; rfl
      · rw [inB_no (by omega)]; simp [h0, h1]
  have h2 : decide ((b.length : Int) ≤ 4096 - at') = inB (b.length : Int) 0 (4096 - at') := by
    by_cases h : (b.length : Int) ≤ 4096 - at'
    · rw [inB_yes (by omega) h, decide_eq_true h]
    · rw [inB_no (by omega), decide_eq_false h]
  unfold putOkA spanB
  rw [h1, h2]

theorem areaDk_right {d : PDisk} {ar at' : Int} {b : List Int} (hb : diskB d = true) : areaDk d ar at' b = if spanB ar at' (b.length : Int) = false then (d, false) else match areaN d ar b at'.toNat 64 with | some e => (e, true) | none => (d, false) := by
  rw [areaDk, if_neg (by rw [hb]; decide), span_put]; rfl

set_option maxHeartbeats 400000 in
set_option maxRecDepth 100000 in
theorem iareaPut_any (w : World) (v : Value) (d : PDisk) (ar at' : Int) (u : Value) (b : List Int) (hd : DiskAt w v d) (hf : DiskFit d) (x1 : (Lit.int .i64 ar).wf = true) (x2 : (Lit.int .i64 at').wf = true) (hu : Sl .u8 w u b) (hb : ∀ x ∈ b, 0 ≤ x ∧ x ≤ 255) (hbl : b.length ≤ 1099511627776) :
    Calls Tryd.prog 18 #[v, .int .i64 ar, .int .i64 at', u] w fun e w' => ∃ v', e = .returned (.tuple #[v', .bool (areaDk d ar at' b).2]) ∧ OwnDz w.heap.size w' v' (areaDk d ar at' b).1 ∧ Below w.heap.size w w' := by
  have HD := (show Hid (DiskAt w v d) from hd)
  have HF := (show Hid (DiskFit d) from hf)
  have HU := (show Hid (Sl .u8 w u b) from hu)
  have HBB := (show Hid _ from hb)
  obtain ⟨sa, sn, sc, la, ln, lc, rfl, _, _⟩ := hd
  obtain ⟨ua, uc, rfl, hub, hum, hun, huc⟩ := hu
  have HUB := (show Hid (b.length ≤ uc) from hub)
  have HUC := (show Hid (Cells .u8 w ua b) from huc)
  clear hub hun huc
  clear hf hb
  obtain ⟨w1, hw1⟩ : ∃ y, y = (w.alloc (.cells #[.slice sa sn sc, .slice la ln lc] 34)).alloc (.cells #[.slice none 0 0, .slice none 0 0] 34) := ⟨_, rfl⟩
  have h1 := ((Hl.refl w).new #[.slice sa sn sc, .slice la ln lc] 34).new #[.slice none 0 0, .slice none 0 0] 34
  rw [← hw1, World.size_alloc] at h1
  have H1 := (show Hid _ from h1)
  clear h1
  go_enter Tryd.func18, Tryd.ntmps18
  go_wp2_with fail
  go_at_call 41
  rw [← hw1]
  refine (idiskOk_any (HD.out.below H1.out.1) HF.out).mono ?_
  rintro e w2 ⟨rfl, b2⟩
  have H2 := (show Hid _ from H1.out.below b2)
  clear hw1 H1 b2
  obtain ⟨r1, r2, r3, r4⟩ := rk_two H2.out.at0
  obtain ⟨q1, q2, _, _⟩ := rk_two H2.out.at1
  cases hb : diskB d
  · have HR : Hid (areaDk d ar at' b = (zeroDk, false)) := (show areaDk d ar at' b = (zeroDk, false) by rw [areaDk, if_pos hb])
    clear hb
    go_wp2
    have H4 := H2.out.set2 (Nat.le_succ _) (by simp) (.slice none 0 0) (.slice none 0 0)
    refine bodyPost_ret (disk_res rfl rfl rfl H4.at0) rfl ?_
    rw [HR.out]
    exact ⟨_, rfl, ⟨_, _, _, _, _, _, rfl, .inl (World.ownsRow_nil _ _ _ _), .inl (World.ownsRow_nil _ _ _ _)⟩, H4.1⟩
  · have HB := (show Hid (diskB d = true) from hb)
    have HA := (show Hid (areaDk d ar at' b = if spanB ar at' (b.length : Int) = false then (d, false) else match areaN d ar b at'.toNat 64 with | some e => (e, true) | none => (d, false)) from areaDk_right hb)
    clear hb
    have CC := (show Hid _ from icopyOfDisk_any (HD.out.below H2.out.1) HF.out)
    go_wp2_with fail
    go_at_call 48
    refine Calls.mono CC.out ?_
    rintro e w3 ⟨v3, rfl, o3, b3⟩
    have H3 := (show Hid _ from H2.out.below b3)
    have O3 := (show Hid (OwnDz w.heap.size w3 v3 d) from dz_base o3 H2.out.1.size)
    obtain ⟨ta, tn, tc, ma, mn, mc, rfl, _, _⟩ := o3
    have S3 := (show Hid (w.heap.size + 1 < w3.heap.size) from Nat.lt_of_lt_of_le (lt_of_block H2.out.at0) b3.size)
    clear b3 CC r1 r2 r3 r4 q1 q2 H2
    obtain ⟨w4, hw4⟩ : ∃ y, y = w3.alloc (.cells #[.slice ta tn tc, .slice ma mn mc] 34) := ⟨_, rfl⟩
    have h4 := H3.out.new #[.slice ta tn tc, .slice ma mn mc] 34
    rw [← hw4] at h4
    have H4 := (show Hid _ from h4)
    have O4 := (show Hid (OwnDz w.heap.size w4 (.agg #[.slice ta tn tc, .slice ma mn mc]) d) from dz_below O3.out (by rw [hw4]; exact (Below.refl _ _).alloc (Nat.le_refl _) _))
    have e4 : w4.heap.size = w3.heap.size + 1 := by rw [hw4, World.size_alloc]
    have E4 := (show Hid _ from e4)
    clear h4 e4 H3 O3
    go_wp2_with fail
    go_at_call 49
    rw [← hw4]
    clear hw4
    refine (ispanOk_any ar at' (b.length : Int) w4).mono ?_
    rintro e w5 ⟨rfl, e5⟩
    replace e5 := e5.symm
    subst e5
    obtain ⟨r1, r2, r3, r4⟩ := rk_two H4.out.at1
    obtain ⟨t1, t2, _, _⟩ := rk_two H4.out.at0
    cases hp : spanB ar at' (b.length : Int)
    · have HR : Hid (areaDk d ar at' b = (d, false)) := (show areaDk d ar at' b = (d, false) by rw [HA.out, if_pos hp])
      clear hp
      go_wp2
      have H5 := H4.out.swap.set2 (Nat.le_succ _) (fun p hp => by
        simp only [List.mem_cons, List.not_mem_nil, or_false] at hp
        have := S3.out
        rcases hp with rfl | rfl <;> simp only <;> omega) (.slice ta tn tc) (.slice ma mn mc)
      have s1 := rk_at (k := 0) (u := .slice ta tn tc) H4.out.at1
      refine bodyPost_ret (disk_res rfl rfl rfl H5.at0) rfl ?_
      rw [HR.out]
      exact ⟨_, rfl, dz_set (dz_set O4.out H4.out.at1) s1, H5.1⟩
    · have hsp : (ar = 0 ∨ ar = 1) ∧ 0 ≤ at' ∧ at' ≤ 4096 ∧ (b.length : Int) ≤ 4096 - at' := by
        simp only [spanB, inB, Bool.and_eq_true, decide_eq_true_eq] at hp
        omega
      obtain ⟨ha, q1, q2, q4⟩ := hsp
      obtain ⟨A, rfl⟩ := Int.eq_ofNat_of_zero_le q1
      have HR := (show Hid (areaDk d ar (A : Int) b = match areaN d ar b A 64 with | some e => (e, true) | none => (d, false)) from HA.out.trans (by rw [if_neg (by rw [hp]; decide), Int.toNat_natCast]))
      clear HA hp q1 x1 x2
      have hA : A ≤ 4096 := by omega
      have hN : A + b.length ≤ 4096 := by omega
      clear q2 q4
      obtain ⟨w5, hw5⟩ : ∃ y, y = w4.alloc (.cells #[.slice ta tn tc, .slice ma mn mc] 34) := ⟨_, rfl⟩
      have h5 := H4.out.new #[.slice ta tn tc, .slice ma mn mc] 34
      rw [← hw5] at h5
      have O5 := (show Hid (OwnDz w.heap.size w5 (.agg #[.slice ta tn tc, .slice ma mn mc]) d) from dz_below O4.out (by rw [hw5]; exact (Below.refl _ _).alloc (Nat.le_refl _) _))
      have I5 := (show Hid (ApZ w w4.heap.size w3.heap.size (.slice ta tn tc) (.slice ma mn mc) (.slice ta tn tc) (.slice ma mn mc) (.slice sa sn sc) (.slice la ln lc) d d w5) from ⟨h5, O5.out, O5.out⟩)
      have F0 := (show Hid (areaN d ar b A (A / 64) = some d) from areaN_first)
      clear h5 O5
      go_wp2_with fail
      rw [← hw5]
      clear hw5 r1 r2 r3 r4 t1 t2 H4 O4
      go_loopw [12] (fun k wr => ∃ (j K : Nat) (na : Option Addr) (nn nc : Nat) (pa : Option Addr) (pn pc : Nat) (e : PDisk), j ≤ b.length ∧ k = .int .i64 (j : Int) ∧ areaN d ar b A K = some e ∧ K ≤ 64 ∧ (j < b.length → K = (A + j) / 64 ∧ (j = 0 ∨ (A + j) % 64 = 0)) ∧ (j = b.length → A + b.length ≤ 64 * K ∨ b.length = 0) ∧ ApZ w w4.heap.size w3.heap.size (.slice na nn nc) (.slice pa pn pc) (.slice ta tn tc) (.slice ma mn mc) (.slice sa sn sc) (.slice la ln lc) d e wr) (fun k _ => b.length - (intOf k).toNat)
      case atStart => exact ⟨0, A / 64, _, _, _, _, _, _, d, Nat.zero_le _, rfl, F0.out, by omega, fun _ => ⟨rfl, .inl rfl⟩, fun h => .inr h.symm, I5.out⟩
      case round =>
        clear I5 F0
        obtain ⟨j, K, na, nn, nc, pa, pn, pc, e, hj, rfl, hK, hK64, hlt1, hlt2, I⟩ := hrel
        have HI := (show Hid (ApZ w w4.heap.size w3.heap.size (.slice na nn nc) (.slice pa pn pc) (.slice ta tn tc) (.slice ma mn mc) (.slice sa sn sc) (.slice la ln lc) d e wr) from I)
        have HK := (show Hid _ from hK)
        clear I hK
        by_cases hlt : j < b.length
        · obtain ⟨hKe, hj0⟩ := hlt1 hlt
          clear hlt1 hlt2
          have HKE := (show Hid (K = (A + j) / 64) from hKe)
          have HJ0 := (show Hid (j = 0 ∨ (A + j) % 64 = 0) from hj0)
          have hlt' : (j : Int) < (b.length : Int) := by omega
          have HE := (show Hid (diskB e = true) from areaN_right HB.out ha hK64 HK.out)
          have hK63 : K < 64 := by omega
          obtain ⟨bb, bo, rfl, _⟩ := HUC.out j hlt
          obtain ⟨X, hX⟩ : ∃ X, X = secOf ar K := ⟨_, rfl⟩
          have hin : inB X 0 129 = true := by rw [hX]; exact secOf_in ha hK63
          have K1 := (show Hid (∀ W, Calls Tryd.prog 50 #[.int .i64 ar, .int .i64 ((A : Int) + (j : Int))] W fun e w' => e = .returned (.int .i64 X) ∧ w' = W) from fun W => by
            have C1 := isectorAt_any ar (A + j) W ha (by omega)
            have e1 : 2 + 64 * ar + (((A + j) / 64 : Nat) : Int) = X := by rw [hX, hKe]; rfl
            rw [e1, show ((A + j : Nat) : Int) = (A : Int) + (j : Int) by omega] at C1
            exact C1)
          have K2 := (show Hid (∀ W, Below wr.heap.size wr W → Calls Tryd.prog 16 #[.agg #[.slice na nn nc, .slice pa pn pc], .int .i64 X] W fun e' w' => e' = .returned (.tuple #[.string (sectorD e X), .bool true]) ∧ Below W.heap.size W w') from fun W b => by
            have C2 := isectorOf_any (dz_at (HI.out.below b).oe) (fit_right HE.out) X
            have e2 : sectorDk e X = (sectorD e X, true) := by rw [sectorDk, if_neg (by rw [HE.out, hin]; simp)]
            rw [e2] at C2
            exact C2)
          have hT := sector_size HE.out (x := X) (by simp only [inB, Bool.and_eq_true, decide_eq_true_eq] at hin; omega)
          obtain ⟨T, hTT⟩ : ∃ T, T = sectorD e X := ⟨_, rfl⟩
          rw [← hTT] at K2 hT
          have HT := (show Hid _ from hT)
          have HX := (show Hid (X = secOf ar K) from hX)
          have HTT := (show Hid (T = sectorD e X) from hTT)
          have HIN := (show Hid _ from hin)
          clear hX hTT hin hT
          clear hKe hj0
          obtain ⟨n1, n2, n3, n4⟩ := rk_two HI.out.hl.at0
          have hwx : IntKind.i64.wrap ((A : Int) + (j : Int)) = (A : Int) + (j : Int) := by simp only [IntKind.wrap, IntKind.bits, IntKind.signed]; simp; omega
          go_wp2_with (first
            | (go_at_call 50
               with_reducible refine Calls.mono (K1.out _) ?_
               rintro e' w6 ⟨rfl, e6⟩
               replace e6 := e6.symm
               subst e6)
            | (go_at_call 16
               with_reducible refine Calls.mono (K2.out _ (Below.refl _ _)) ?_
               rintro e' w6 ⟨rfl, b6⟩)
            | (go_at_call 51
               refine (isectorFrom_any T w6 HT.out).mono ?_
               rintro e' w7 ⟨rfl, b7⟩
               have B7 := (show Hid (Below wr.heap.size wr w7) from b6.trans (b7.mono b6.size))
               clear b6 b7 K1 K2)
            | (refine wpList_store_row rfl 59 (.tmp 16) (.tmp 49) rfl w7.heap.size (secA T) rfl rfl 59 _ (World.alloc_heap_new _ _) (secSize HT.out) (by rw [secA_size, HT.out]; rfl) (secA_one T) ?_
               obtain ⟨w8, hw8⟩ : ∃ y, y = (w7.alloc (.cells #[.int .u8 0, .int .u8 0, .int .u8 0, .int .u8 0, .int .u8 0, .int .u8 0, .int .u8 0, .int .u8 0, .int .u8 0, .int .u8 0, .int .u8 0, .int .u8 0, .int .u8 0, .int .u8 0, .int .u8 0, .int .u8 0, .int .u8 0, .int .u8 0, .int .u8 0, .int .u8 0, .int .u8 0, .int .u8 0, .int .u8 0, .int .u8 0, .int .u8 0, .int .u8 0, .int .u8 0, .int .u8 0, .int .u8 0, .int .u8 0, .int .u8 0, .int .u8 0, .int .u8 0, .int .u8 0, .int .u8 0, .int .u8 0, .int .u8 0, .int .u8 0, .int .u8 0, .int .u8 0, .int .u8 0, .int .u8 0, .int .u8 0, .int .u8 0, .int .u8 0, .int .u8 0, .int .u8 0, .int .u8 0, .int .u8 0, .int .u8 0, .int .u8 0, .int .u8 0, .int .u8 0, .int .u8 0, .int .u8 0, .int .u8 0, .int .u8 0, .int .u8 0, .int .u8 0, .int .u8 0, .int .u8 0, .int .u8 0, .int .u8 0, .int .u8 0] 59)).setRow w7.heap.size (secA T) := ⟨_, rfl⟩
               rw [← hw8]
               have B8 := (show Hid (Below wr.heap.size wr w8) from by
                 rw [hw8]
                 exact (B7.out.alloc B7.out.size _).grown (grown_setRow _ _ _) (B7.out.alloc B7.out.size _).size (fun r e => by cases e; exact B7.out.size))
               have X8 := (show Hid (w8.heap[w7.heap.size]? = some (.cells (secA T) 59 (0, 0)) ∧ wr.heap.size ≤ w7.heap.size) from by
                 rw [hw8]
                 exact ⟨setRow_heap _ _ _ _ _ _ (World.alloc_heap_new _ _), B7.out.size⟩)
               clear hw8 B7))
          obtain ⟨x, hx⟩ : ∃ x : Nat, x = (A + j) % 64 := ⟨_, rfl⟩
          have HXX := (show Hid (x = (A + j) % 64) from hx)
          have m1 : ((A : Int) + (j : Int)) % 64 = (x : Int) := by omega
          have m2 : Int.tmod ((A : Int) + (j : Int)) 64 = (x : Int) := by rw [Int.tmod_eq_emod_of_nonneg (by omega)]; exact m1
          have m3 : (0 : Int) ≤ (x : Int) := by omega
          have m4 : (x : Int) ≤ 64 := by omega
          have m5 : x ≤ 64 := by omega
          clear hx
          have hub := HUB.out
          have hx2 : x < 64 := by have := HXX.out; omega
          obtain ⟨m, hm⟩ : ∃ m, m = min (64 - x) (b.length - j) := ⟨_, rfl⟩
          have hm1 : 1 ≤ m := by omega
          have hm3 : j + m ≤ b.length := by omega
          have HM := (show Hid (m = min (64 - x) (b.length - j)) from hm)
          have KE := (show Hid (Below wr.heap.size wr w8.drew) from B8.out.trans ((below_drewN 1).mono B8.out.size))
          have X9 := (show Hid (w8.drew.heap[w7.heap.size]? = some (.cells (secA T) 59 (0, 0))) from ((below_drewN (B := w8.heap.size) (w := w8) 1).block _ (lt_of_block X8.out.1)).trans X8.out.1)
          have cp := copy_put (K := K) (A := A) (j := j) (x := x) (m := m) X9.out HT.out (HUC.out.below (HI.out.hl.1.trans (KE.out.mono HI.out.hl.1.size))) HBB.out hx2 (by have := HXX.out; have := HKE.out; omega) hlt hm (by have := HXX.out; have := HJ0.out; omega) (uc := uc) 3
          obtain ⟨S, hS⟩ : ∃ S, S = strOf (newL (bs T) b A K) := ⟨_, rfl⟩
          rw [← hS] at cp
          have HS : Hid (S = newS e ar b A K) := (show S = newS e ar b A K by rw [hS, newS, ← HX.out, ← HTT.out])
          obtain ⟨w9, hw9⟩ : ∃ y, y = w8.drew.setRow w7.heap.size (secA S) := ⟨_, rfl⟩
          rw [← hw9] at cp
          have hSs : S.size = 64 := by rw [hS, strOf_size, newL_len]
          have HSs := (show Hid _ from hSs)
          have B9 := (show Hid (Below wr.heap.size wr w9 ∧ w9.heap[w7.heap.size]? = some (.cells (secA S) 59 (0, 0))) from by
            rw [hw9]
            exact ⟨KE.out.grown (grown_setRow _ _ _) KE.out.size (fun r e => by cases e; exact X8.out.2), setRow_heap _ _ _ _ _ _ X9.out⟩)
          have hjm : IntKind.i64.wrap ((j : Int) + (m : Int)) = (j : Int) + (m : Int) := by simp only [IntKind.wrap, IntKind.bits, IntKind.signed]; simp; omega
          clear hm hS hw9 KE X9 X8 B8 hSs n1 n2 n3 n4
          go_region_held3 (fun _ => True) (trivial) (fail)
          obtain ⟨n1, n2, n3, n4⟩ := rk_two (HI.out.hl.below B9.out.1).at0
          clear cp
          obtain ⟨⟨qd, qb⟩, hq⟩ : ∃ q, q = putDk e X S := ⟨_, rfl⟩
          have HQ := (show Hid ((qd, qb) = putDk e X S) from hq)
          have K3 := (show Hid (∀ W, Below w9.heap.size w9 W → Calls Tryd.prog 40 #[.agg #[.slice na nn nc, .slice pa pn pc], .int .i64 X, .string S] W fun e' w' => ∃ v', e' = .returned (.tuple #[v', .bool qb]) ∧ OwnDz W.heap.size w' v' qd ∧ Below W.heap.size W w') from fun W b => by
            have := idiskPut_any W _ e X S (dz_at ((HI.out.below B9.out.1).below b).oe) (fit_right HE.out) (by rw [HSs.out]; omega)
            rw [← hq] at this
            exact this)
          clear hq
          have K4 := (show Hid (∀ W, Calls Tryd.prog 32 #[.agg (secL S).toArray] W fun e' w' => e' = .returned (.string S) ∧ Below W.heap.size W w') from fun W => itext_any S W HSs.out)
          have KD := (show Hid (Below w9.heap.size w9 w9.drew) from below_drewN 1)
          have KA := (show Hid (Below w9.heap.size w9 (w9.alloc (.cells #[.slice none 0 0, .slice none 0 0] 34)).drew) from ((Below.refl _ _).alloc (Nat.le_refl _) _).trans (below_drewN 1))
          have XA := (show Hid ((w9.alloc (.cells #[.slice none 0 0, .slice none 0 0] 34)).drew.heap[w9.heap.size]? = some (.cells #[.slice none 0 0, .slice none 0 0] 34 (0, 0))) from World.alloc_heap_new w9 _)
          have SA := (show Hid (w9.heap.size ≤ w9.heap.size) from Nat.le_refl _)
          have HSK := (show Hid (∀ W, Below w9.heap.size w9 W → W.cell? ⟨w4.heap.size, 0, none⟩ = some (.slice na nn nc) ∧ W.cell? ⟨w4.heap.size, 1, none⟩ = some (.slice pa pn pc) ∧ W.rangeAt w7.heap.size 0 (secL S)) from fun W b => by
            obtain ⟨p0, p1, _⟩ := rk_two ((HI.out.below B9.out.1).below b).hl.at0
            exact ⟨p0, p1, range_sec ((b.block _ (lt_of_block B9.out.2)).trans B9.out.2)⟩)
          have hsy := Tryd.underlying59
          have hsl : (Tryd.prog.info? 59).map (·.size) = some (secL S).length := by have := secSize HSs.out; rw [secA_size] at this; rw [secL_len]; exact this
          go_wp2_with fail
          go_region_held3 (fun w' => w'.cell? ⟨w4.heap.size, 0, none⟩ = some (.slice na nn nc) ∧ w'.cell? ⟨w4.heap.size, 1, none⟩ = some (.slice pa pn pc) ∧ w'.rangeAt w7.heap.size 0 (secL S))
            (first | exact HSK.out _ KD.out | exact HSK.out _ KA.out | exact HSK.out _ B10.out | exact HSK.out _ (B10.out.alloc B10.out.size _) | exact HSK.out _ B11.out | exact HSK.out _ (B11.out.alloc B11.out.size _) | exact HSK.out _ (B11.out.setCell S10.out _) | exact HSK.out _ ((B11.out.setCell S10.out _).setCell S10.out _) | exact HSK.out _ (B11.out.setCell SA.out _) | exact HSK.out _ ((B11.out.setCell SA.out _).setCell SA.out _) | exact HSK.out _ ((B11.out.alloc B11.out.size _).setCell B11.out.size _) | exact HSK.out _ (((B11.out.alloc B11.out.size _).setCell B11.out.size _).setCell B11.out.size _))
            (first
              | (go_at_call 32
                 with_reducible refine Calls.mono (K4.out w9.drew) ?_
                 rintro e' w10 ⟨rfl, b10⟩
                 have B10 := (show Hid (Below w9.heap.size w9 w10) from KD.out.trans (b10.mono KD.out.size))
                 have S10 := (show Hid (w9.heap.size ≤ w10.heap.size) from B10.out.size)
                 clear b10)
              | (go_at_call 32
                 with_reducible refine Calls.mono (K4.out (w9.alloc (.cells #[.slice none 0 0, .slice none 0 0] 34)).drew) ?_
                 rintro e' w10 ⟨rfl, b10⟩
                 have B10 := (show Hid (Below w9.heap.size w9 w10) from KA.out.trans (b10.mono KA.out.size))
                 have X10 := (show Hid (w10.heap[w9.heap.size]? = some (.cells #[.slice none 0 0, .slice none 0 0] 34 (0, 0))) from (b10.block _ (lt_of_block XA.out)).trans XA.out)
                 have S10 := (show Hid (w9.heap.size ≤ w10.heap.size) from B10.out.size)
                 clear b10)
              | (go_at_call 40
                 with_reducible refine Calls.mono (K3.out w10 B10.out) ?_
                 rintro e' w11 ⟨v11, rfl, o11, b11⟩
                 have X11 := (show Hid (w11.heap[w9.heap.size]? = some (.cells #[.slice none 0 0, .slice none 0 0] 34 (0, 0))) from (b11.block _ (lt_of_block X10.out)).trans X10.out)
                 obtain ⟨f1, f2, f3, f4⟩ := rk_two X11.out
                 have B11 := (show Hid (Below w9.heap.size w9 w11) from Below.trans B10.out (b11.mono (Below.size B10.out)))
                 have O11 := (show Hid (OwnDz w9.heap.size w11 v11 qd) from dz_base o11 (Below.size B10.out))
                 obtain ⟨ya, yn, yc, za, zn, zc, rfl, _, _⟩ := o11
                 clear b11)
              | (go_at_call 40
                 with_reducible refine Calls.mono (K3.out w10 B10.out) ?_
                 rintro e' w11 ⟨v11, rfl, o11, b11⟩
                 have B11 := (show Hid (Below w9.heap.size w9 w11) from Below.trans B10.out (b11.mono (Below.size B10.out)))
                 have O11 := (show Hid (OwnDz w9.heap.size w11 v11 qd) from dz_base o11 (Below.size B10.out))
                 obtain ⟨ya, yn, yc, za, zn, zc, rfl, _, _⟩ := o11
                 clear b11)
              | (go_at_call 40
                 with_reducible refine Calls.mono (K3.out (w10.alloc (.cells #[.slice none 0 0, .slice none 0 0] 34)) (B10.out.alloc B10.out.size _)) ?_
                 rintro e' w11 ⟨v11, rfl, o11, b11⟩
                 have X11 := (show Hid (w11.heap[w10.heap.size]? = some (.cells #[.slice none 0 0, .slice none 0 0] 34 (0, 0))) from (b11.block _ (by rw [World.size_alloc]; exact Nat.lt_succ_self _)).trans (World.alloc_heap_new _ _))
                 obtain ⟨f1, f2, f3, f4⟩ := rk_two X11.out
                 have B11 := (show Hid (Below w9.heap.size w9 w11) from Below.trans (B10.out.alloc B10.out.size _) (b11.mono (Below.size (B10.out.alloc B10.out.size _))))
                 have O11 := (show Hid (OwnDz w9.heap.size w11 v11 qd) from dz_base o11 (Below.size (B10.out.alloc B10.out.size _)))
                 obtain ⟨ya, yn, yc, za, zn, zc, rfl, _, _⟩ := o11
                 clear b11))
          all_goals
            first
            | (
             obtain ⟨w12, hw12⟩ : ∃ y, y = w11.alloc (.cells #[.slice ya yn yc, .slice za zn zc] 34) := ⟨_, rfl⟩
             rw [← hw12]
             have F : Below w9.heap.size w9 w12 ∧ w12.heap[w11.heap.size]? = some (.cells #[.slice ya yn yc, .slice za zn zc] 34 (0, 0)) ∧ OwnDz w9.heap.size w12 (.agg #[.slice ya yn yc, .slice za zn zc]) qd := by
               rw [hw12]
               exact ⟨B11.out.alloc B11.out.size _, World.alloc_heap_new _ _, dz_below O11.out ((Below.refl _ _).alloc (Nat.le_refl _) _)⟩
             obtain ⟨NX, hNX⟩ : ∃ n, n = w11.heap.size := ⟨_, rfl⟩
             rw [← hNX]
             have F12 := (show Hid (Below w9.heap.size w9 w12 ∧ w12.heap[NX]? = some (.cells #[.slice ya yn yc, .slice za zn zc] 34 (0, 0)) ∧ OwnDz w9.heap.size w12 (.agg #[.slice ya yn yc, .slice za zn zc]) qd) from ⟨F.1, by rw [hNX]; exact F.2.1, F.2.2⟩)
             clear F hw12 hNX)
            | (
             obtain ⟨w12, hw12⟩ : ∃ y, y = ((w11).setCell ⟨w10.heap.size, 0, none⟩ (.slice ya yn yc)).setCell ⟨w10.heap.size, 1, none⟩ (.slice za zn zc) := ⟨_, rfl⟩
             rw [← hw12]
             have F := next_facts (a := .slice ya yn yc) (b := .slice za zn zc) (B11.out) (S10.out) (X11.out) (O11.out)
             rw [← hw12] at F
             obtain ⟨NX, hNX⟩ : ∃ n, n = w10.heap.size := ⟨_, rfl⟩
             rw [← hNX]
             have F12 := (show Hid (Below w9.heap.size w9 w12 ∧ w12.heap[NX]? = some (.cells #[.slice ya yn yc, .slice za zn zc] 34 (0, 0)) ∧ OwnDz w9.heap.size w12 (.agg #[.slice ya yn yc, .slice za zn zc]) qd) from ⟨F.1, by rw [hNX]; exact F.2.1, F.2.2⟩)
             clear F hw12 hNX)
            | (
             obtain ⟨w12, hw12⟩ : ∃ y, y = ((w11).setCell ⟨w9.heap.size, 0, none⟩ (.slice ya yn yc)).setCell ⟨w9.heap.size, 1, none⟩ (.slice za zn zc) := ⟨_, rfl⟩
             rw [← hw12]
             have F := next_facts (a := .slice ya yn yc) (b := .slice za zn zc) (B11.out) (Nat.le_refl _) (X11.out) (O11.out)
             rw [← hw12] at F
             obtain ⟨NX, hNX⟩ : ∃ n, n = w9.heap.size := ⟨_, rfl⟩
             rw [← hNX]
             have F12 := (show Hid (Below w9.heap.size w9 w12 ∧ w12.heap[NX]? = some (.cells #[.slice ya yn yc, .slice za zn zc] 34 (0, 0)) ∧ OwnDz w9.heap.size w12 (.agg #[.slice ya yn yc, .slice za zn zc]) qd) from ⟨F.1, by rw [hNX]; exact F.2.1, F.2.2⟩)
             clear F hw12 hNX)
          all_goals
            have I12 := (show Hid (ApZ w w4.heap.size w3.heap.size (.slice na nn nc) (.slice pa pn pc) (.slice ta tn tc) (.slice ma mn mc) (.slice sa sn sc) (.slice la ln lc) d e w12) from (HI.out.below B9.out.1).below F12.out.1)
            obtain ⟨t1, t2, _, _⟩ := rk_two I12.out.hl.at1
            obtain ⟨r1, r2, r3, r4⟩ := rk_two I12.out.hl.at2
            obtain ⟨n1, n2, n3, n4⟩ := rk_two I12.out.hl.at0
            obtain ⟨y1, y2, _, _⟩ := rk_two F12.out.2.1
            clear K3 K4 HSK KD KA XA SA
          all_goals
            have HP := (show Hid ((qd, qb) = if e.late.length < 200 then (⟨e.safe, e.late ++ [(X, S)]⟩, true) else (e, false)) from HQ.out.trans (put_full HE.out HIN.out HSs.out))
            have HN1 := (show Hid (areaN d ar b A (K + 1) = if e.late.length < 200 then some ⟨e.safe, e.late ++ [(X, S)]⟩ else none) from areaN_round HK.out (touch_yes (by have := HKE.out; omega) (by have := HKE.out; omega) (by omega)) HX.out HS.out)
            have S9 := (show Hid (w.heap.size ≤ w9.heap.size) from Nat.le_trans HI.out.hl.1.size B9.out.1.size)
            clear HQ
          all_goals
            cases qb
            · have hful : ¬ e.late.length < 200 := fun h => by
                have := HP.out
                rw [if_pos h] at this
                simp at this
              have HRZ : Hid (areaDk d ar (A : Int) b = (d, false)) := (show areaDk d ar (A : Int) b = (d, false) by rw [HR.out, areaN_fail (k := K + 1) (by omega) (by rw [HN1.out, if_neg hful])])
              clear hful HP HN1 HM
              go_wp2
              have H5 := (I12.out.hl.sub (L' := [(w.heap.size + 1, #[.slice none 0 0, .slice none 0 0], 34)]) (by simp)).set2 (Nat.le_succ _) (by simp) (.slice ta tn tc) (.slice ma mn mc)
              have s1 := rk_at (k := 0) (u := .slice ta tn tc) I12.out.hl.at2
              refine bodyPost_ret (disk_res rfl rfl rfl H5.at0) rfl ?_
              rw [HRZ.out]
              exact ⟨_, rfl, dz_set (dz_set I12.out.od I12.out.hl.at2) s1, H5.1⟩
            · have hful : e.late.length < 200 := by
                by_cases h : e.late.length < 200
                · exact h
                · have := HP.out
                  rw [if_neg h] at this
                  simp at this
              have HAN : Hid (areaN d ar b A (K + 1) = some qd) := (show areaN d ar b A (K + 1) = some qd by
                have := HP.out
                rw [if_pos hful] at this
                rw [HN1.out, if_pos hful, (Prod.mk.inj this).1])
              have I13 := (show Hid _ from I12.out.turn (by rw [E4.out]; exact Nat.lt_succ_self _) S3.out (dz_base F12.out.2.2 S9.out))
              clear hful HP HN1
              go_wp2
              go_roundw
              case rel => exact ⟨j + m, K + 1, _, _, _, _, _, _, qd, hm3, by go_num, HAN.out, by omega, fun h => by have := HXX.out; have := HM.out; have := HKE.out; omega, fun h => by have := HXX.out; have := HM.out; have := HKE.out; omega, I13.out⟩
              case measure => simp [intOf]; omega
        · have hje : j = b.length := by omega
          have HRZ : Hid (areaDk d ar (A : Int) b = (e, true)) := (show areaDk d ar (A : Int) b = (e, true) by rw [HR.out, areaN_last hK64 HK.out (hlt2 hje)])
          have hn' : ¬ ((j : Int) < (b.length : Int)) := by omega
          obtain ⟨n1, n2, n3, n4⟩ := rk_two HI.out.hl.at0
          obtain ⟨r1, r2, r3, r4⟩ := rk_two HI.out.hl.at2
          clear hlt1 hlt2
          go_wp2
          have H5 := (HI.out.hl.sub (L' := [(w.heap.size + 1, #[.slice none 0 0, .slice none 0 0], 34)]) (by simp)).set2 (Nat.le_succ _) (by simp) (.slice na nn nc) (.slice pa pn pc)
          have s1 := rk_at (k := 0) (u := .slice na nn nc) HI.out.hl.at2
          refine bodyPost_ret (disk_res rfl rfl rfl H5.at0) rfl ?_
          rw [HRZ.out]
          exact ⟨_, rfl, dz_set (dz_set HI.out.oe HI.out.hl.at2) s1, H5.1⟩
end Go.Proofs.YtiejfnnokfedkaaDoor

/- FnAreas: the program keeps its contracts. -/
namespace Go.Proofs.YtiejfnnokfedkaaDoor
open Go.RowKit
set_option maxRecDepth 100000
set_option linter.unusedVariables false

theorem fnAreas_walk {v : Value} {xs : List Int} (w : World) (he : Sent w) (h : Sl .u8 w v xs) (hf : ∀ n ∈ xs, (Lit.int .u8 n).wf = true) :
    Calls Tryd.prog 4 #[v] w fun e w' => e = .returned (.bool true) ∧ Below w.heap.size w w' :=
  fnAreas_of (fun w v d ar at' u b hd hf x1 x2 hu hb hl => iareaPut_any w v d ar at' u b hd hf x1 x2 hu hb hl) (fun w v d ar at' n hd hf x1 x2 x3 => iareaGet_any w v d ar at' n hd hf x1 x2 x3) w (fun W v d b h hf => iheadNow_any W v d h hf (he.below b)) h hf
end Go.Proofs.YtiejfnnokfedkaaDoor
