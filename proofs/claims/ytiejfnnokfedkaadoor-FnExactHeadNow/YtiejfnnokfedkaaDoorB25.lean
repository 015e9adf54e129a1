import Derived.Test.YtiejfnnokfedkaaDoorB24
import Derived.Test.YtiejfnnokfedkaaDoorB11
import Derived.Test.YtiejfnnokfedkaaDoorB19
/- The program's HeadRead. -/
namespace Go.Proofs.YtiejfnnokfedkaaDoor
open Go.RowKit
set_option maxRecDepth 100000
set_option linter.unusedVariables false

theorem far3 {w : World} {b g k : Nat} {v1 v2 v3 : Value} {u : Option Value} (hne : b ≠ g) (h : w.drew.cell? ⟨b, k, none⟩ = u) : (((w.setCell ⟨g, 0, none⟩ v1).setCell ⟨g, 1, none⟩ v2).setCell ⟨g, 2, none⟩ v3).drew.cell? ⟨b, k, none⟩ = u :=
  show (((w.setCell ⟨g, 0, none⟩ v1).setCell ⟨g, 1, none⟩ v2).setCell ⟨g, 2, none⟩ v3).cell? ⟨b, k, none⟩ = u from far1 hne (far1 hne (far1 hne (show w.cell? ⟨b, k, none⟩ = u from h)))
theorem Sent.addr {w : World} (h : Sent w) : ∃ a : Addr, ∀ W, Below w.heap.size w W → W.cell? ⟨0, 0, none⟩ = some (.iface 134 (.pointer (some a))) := by
  obtain ⟨a, h⟩ := h
  exact ⟨a, fun W b => (b.cell (p := ⟨0, 0, none⟩) (lt_of_cell h)).trans h⟩
/-- errors.Is of what headIn answers. -/
theorem iis_any {s : ByteArray} {w W : World} {er : Value} {a : Addr} (h : HeadErr s w er) (ha : w.cell? ⟨0, 0, none⟩ = some (.iface 134 (.pointer (some a)))) :
    Calls Tryd.prog 36 #[er, .iface 134 (.pointer (some a))] W fun e w' => e = .returned (.bool (!(readDk s).2)) ∧ w' = W := by
  unfold HeadErr at h
  split at h
  · rename_i e
    subst h
    rw [e]
    exact is_nil a W
  · rename_i e
    obtain ⟨b, hb, rfl⟩ := h
    have e' : (readDk s).2 = false := by simpa using e
    rw [hb] at ha
    injection ha with ha
    injection ha with _ ha
    injection ha with ha
    injection ha with ha
    rw [e', ha]
    exact is_same a W

set_option maxHeartbeats 400000 in
set_option maxRecDepth 100000 in
theorem iheadRead_any (s : ByteArray) (w : World) (hs : s.size ≤ 1099511627776) (he : Sent w) :
    Calls Tryd.prog 11 #[.string s] w fun e w' => e = .returned (.tuple #[headV (readDk s).1, .bool (readDk s).2]) ∧ Below w.heap.size w w' := by
  obtain ⟨a, hA⟩ := he.addr
  have HA := (show Hid _ from hA)
  have CI := (show Hid (∀ W, Below w.heap.size w W → Calls Tryd.prog 35 #[.string s] W fun e w' => (∃ er, e = .returned (.tuple #[headV (readDk s).1, er]) ∧ HeadErr s W er) ∧ Below W.heap.size W w') from fun W b => iheadIn_any s W hs (he.below b))
  have CE := (show Hid (∀ (u W : World) (er : Value), Below w.heap.size w u → HeadErr s u er → Calls Tryd.prog 36 #[er, .iface 134 (.pointer (some a))] W fun e w' => e = .returned (.bool (!(readDk s).2)) ∧ w' = W) from fun u W er b h => iis_any h (HA.out u b))
  obtain ⟨⟨q, qb⟩, hq⟩ : ∃ q, q = readDk s := ⟨_, rfl⟩
  rw [← hq] at CI CE ⊢
  simp only at CI CE ⊢
  obtain ⟨p0, p1, p2⟩ := q
  unfold headV at CI ⊢
  simp only at CI ⊢
  clear hA he hq
  obtain ⟨w1, hw1⟩ : ∃ y, y = w.alloc (.cells #[.int .i64 0, .int .i64 0, .int .i64 0] 25) := ⟨_, rfl⟩
  have h1 := (Hl.refl w).new #[.int .i64 0, .int .i64 0, .int .i64 0] 25
  rw [← hw1] at h1
  have H1 := (show Hid _ from h1)
  clear h1
  go_enter Tryd.func11, Tryd.ntmps11
  go_wp2_with fail
  go_at_call 35
  rw [← hw1]
  refine Calls.mono (CI.out w1 H1.out.1) ?_
  rintro e w2 ⟨⟨er, rfl, her⟩, b2⟩
  have HE := (show Hid (HeadErr s w1 er) from her)
  have H2 := (show Hid _ from H1.out.below b2)
  clear hw1 b2 CI her
  obtain ⟨w3, hw3⟩ : ∃ y, y = w2.alloc (.cells #[.int .i64 p0, .int .i64 p1, .int .i64 p2] 25) := ⟨_, rfl⟩
  have h3 := H2.out.new #[.int .i64 p0, .int .i64 p1, .int .i64 p2] 25
  rw [← hw3] at h3
  have H3 := (show Hid _ from h3)
  clear h3
  go_wp2_with fail
  rw [← hw3]
  obtain ⟨k1, k2, k3, _⟩ := rk_three H3.out.at0
  obtain ⟨_, _, _, r1, r2, r3⟩ := rk_three H3.out.at1
  have ce := HA.out w3 H3.out.1
  have N1 := (show Hid (w2.heap.size ≠ w.heap.size) from Nat.ne_of_gt (lt_of_block H2.out.at0))
  have N2 := (show Hid (0 ≠ w.heap.size) from Nat.ne_of_lt (lt_of_cell (HA.out w (Below.refl _ _))))
  have HS := (show Hid (w3.drew.cell? ⟨w2.heap.size, 0, none⟩ = some (.int .i64 p0) ∧ w3.drew.cell? ⟨w2.heap.size, 1, none⟩ = some (.int .i64 p1) ∧ w3.drew.cell? ⟨w2.heap.size, 2, none⟩ = some (.int .i64 p2) ∧ w3.drew.cell? ⟨0, 0, none⟩ = some (.iface 134 (.pointer (some a)))) from ⟨k1, k2, k3, ce⟩)
  clear hw3
  go_region_held3 (fun w' => w'.cell? ⟨w2.heap.size, 0, none⟩ = some (.int .i64 p0) ∧ w'.cell? ⟨w2.heap.size, 1, none⟩ = some (.int .i64 p1) ∧ w'.cell? ⟨w2.heap.size, 2, none⟩ = some (.int .i64 p2) ∧ w'.cell? ⟨0, 0, none⟩ = some (.iface 134 (.pointer (some a))))
    (first | exact HS.out | exact ⟨far3 N1.out HS.out.1, far3 N1.out HS.out.2.1, far3 N1.out HS.out.2.2.1, far3 N2.out HS.out.2.2.2⟩)
    (first
      | (go_at_call 36
         with_reducible refine Calls.mono (CE.out w1 _ _ H1.out.1 HE.out) ?_
         rintro e w4 ⟨rfl, e4⟩
         subst e4))
  all_goals go_wp2
  all_goals
    have H4 := (H3.out.swap.set3 (Nat.le_refl _) (by simpa using N1.out) (.int .i64 p0) (.int .i64 p1) (.int .i64 p2)).below (below_drewN 1)
    refine bodyPost_ret (head_res rfl rfl rfl H4.at0) rfl ?_
    exact ⟨rfl, H4.1⟩
end Go.Proofs.YtiejfnnokfedkaaDoor

/- The program's HeadNow. -/
namespace Go.Proofs.YtiejfnnokfedkaaDoor
open Go.RowKit
set_option maxRecDepth 100000
set_option linter.unusedVariables false

/-- The head that counts when k sectors have been looked at. -/
def nowK (d : PDisk) : Nat → PHead
  | 0 => zeroH
  | k + 1 => if (readDk (sectorDk d (k : Int)).1).2 = true ∧ (nowK d k).no < (readDk (sectorDk d (k : Int)).1).1.no then (readDk (sectorDk d (k : Int)).1).1 else nowK d k
theorem read_pos {s : ByteArray} (h : (readDk s).2 = true) : 1 ≤ (readDk s).1.no := (headB_in (read_some h).1).1
theorem read_zero {s : ByteArray} (h : ¬ (readDk s).2 = true) : (readDk s).1 = zeroH := by rw [read_none (by simpa using h)]
theorem read_empty : readDk ⟨#[]⟩ = (zeroH, false) := by
  by_cases h : (readDk ⟨#[]⟩).2 = true
  · have := (read_some h).2
    have h2 := packS_size (readDk ⟨#[]⟩).1
    rw [this] at h2
    simp [ByteArray.size] at h2
  · exact read_none (by simpa using h)
theorem nowK_two (d : PDisk) : nowK d 2 = nowDk d := by
  unfold nowDk
  by_cases hb : diskB d = false
  · have h1 : ∀ x : Int, sectorDk d x = (⟨#[]⟩, false) := fun x => by rw [sectorDk, if_pos (.inl hb)]
    rw [if_pos hb]
    simp [nowK, h1, read_empty, zeroH]
  · have hb' : diskB d = true := by simpa using hb
    have h0 : sectorDk d ((0 : Nat) : Int) = (sectorD d 0, true) := by rw [sectorDk, if_neg (by rw [hb']; simp [inB])]; rfl
    have h1 : sectorDk d ((1 : Nat) : Int) = (sectorD d 1, true) := by rw [sectorDk, if_neg (by rw [hb']; simp [inB])]; rfl
    have e1 : nowK d 1 = (readDk (sectorD d 0)).1 := by
      show (if _ then _ else _) = _
      rw [h0]
      by_cases h : (readDk (sectorD d 0)).2 = true
      · rw [if_pos ⟨h, by have := read_pos h; show (0 : Int) < (readDk (sectorD d 0)).1.no; omega⟩]
      · rw [if_neg (fun e => h e.1), read_zero h]; rfl
    rw [if_neg hb]
    show (if _ then _ else _) = _
    rw [h1, e1]
    by_cases h : (readDk (sectorD d 1)).2 = true
    · by_cases hl : (readDk (sectorD d 0)).1.no < (readDk (sectorD d 1)).1.no
      · rw [if_pos ⟨h, hl⟩, if_pos hl]
      · rw [if_neg (fun e => hl e.2), if_neg hl]
    · rw [if_neg (fun e => h e.1), if_neg]
      rw [read_zero h]
      by_cases h' : (readDk (sectorD d 0)).2 = true
      · have := read_pos h'; show ¬ _ < (0 : Int); omega
      · rw [read_zero h']; show ¬ (0 : Int) < 0; omega

set_option maxHeartbeats 400000 in
set_option maxRecDepth 100000 in
theorem iheadNow_any (w : World) (v : Value) (d : PDisk) (hd : DiskAt w v d) (hf : DiskFit d) (he : Sent w) :
    Calls Tryd.prog 13 #[v] w fun e w' => e = .returned (headV (nowDk d)) ∧ Below w.heap.size w w' := by
  rw [← nowK_two]
  have HD := (show Hid (DiskAt w v d) from hd)
  have HF := (show Hid (DiskFit d) from hf)
  have HSn := (show Hid (Sent w) from he)
  obtain ⟨a, hA⟩ := he.addr
  have HA := (show Hid _ from hA)
  obtain ⟨sa, sn, sc, la, ln, lc, rfl, _, _⟩ := hd
  clear hf he hA
  obtain ⟨w1, hw1⟩ : ∃ y, y = ((w.alloc (.cells #[.slice sa sn sc, .slice la ln lc] 34)).alloc (.cells #[.int .i64 0, .int .i64 0, .int .i64 0] 25)).alloc (.cells #[.int .i64 0, .int .i64 0, .int .i64 0] 25) := ⟨_, rfl⟩
  have h1 := (((Hl.refl w).new #[.slice sa sn sc, .slice la ln lc] 34).new #[.int .i64 0, .int .i64 0, .int .i64 0] 25).new #[.int .i64 0, .int .i64 0, .int .i64 0] 25
  rw [← hw1, World.size_alloc, World.size_alloc] at h1
  have H1 := (show Hid _ from h1)
  clear h1
  go_enter Tryd.func13, Tryd.ntmps13
  go_wp2_with fail
  rw [← hw1]
  go_loopw [10] (fun i wr => ∃ k : Nat, k ≤ 2 ∧ i = .int .i64 (k : Int) ∧ Hl w [(w.heap.size + 1 + 1, #[.int .i64 (nowK d k).no, .int .i64 (nowK d k).area, .int .i64 (nowK d k).en], 25), (w.heap.size + 1, #[.int .i64 0, .int .i64 0, .int .i64 0], 25), (w.heap.size, #[.slice sa sn sc, .slice la ln lc], 34)] wr) (fun i _ => 2 - (intOf i).toNat)
  case atStart => exact ⟨0, by omega, rfl, H1.out⟩
  case round =>
    clear H1 hw1
    obtain ⟨k, hk, rfl, hI⟩ := hrel
    have HI := (show Hid (Hl w _ wr) from hI)
    clear hI
    obtain ⟨n1, n2, n3, o1, o2, o3⟩ := rk_three HI.out.at0
    obtain ⟨d1, d2, _, _⟩ := rk_two HI.out.at2
    by_cases hlt : k < 2
    · have hlt' : (k : Int) < 2 := by omega
      have CS := (show Hid _ from isectorOf_any (HD.out.below HI.out.1) HF.out (k : Int))
      obtain ⟨⟨tx, tb⟩, ht⟩ : ∃ q, q = sectorDk d (k : Int) := ⟨_, rfl⟩
      have hts : tx.size ≤ 1099511627776 := by
        have : tx = (sectorDk d (k : Int)).1 := by rw [← ht]
        rw [this, sectorDk]
        split
        · exact Nat.zero_le _
        · rename_i h
          rw [sector_size (by cases hh : diskB d <;> simp_all) (by simp only [inB] at h; constructor <;> simp_all)]
          omega
      rw [← ht] at CS
      simp only at CS
      have HT := (show Hid ((tx, tb) = sectorDk d (k : Int)) from ht)
      clear ht
      go_wp2_with fail
      go_at_call 16
      refine Calls.mono CS.out ?_
      rintro e w2 ⟨rfl, b2⟩
      have H2 := (show Hid _ from HI.out.below b2)
      clear b2 CS
      have CI := (show Hid _ from iheadIn_any tx w2 hts (HSn.out.below H2.out.1))
      have CE := (show Hid (∀ (u W : World) (er : Value), Below w.heap.size w u → HeadErr tx u er → Calls Tryd.prog 36 #[er, .iface 134 (.pointer (some a))] W fun e w' => e = .returned (.bool (!(readDk tx).2)) ∧ w' = W) from fun u W er b h => iis_any h (HA.out u b))
      have HK := (show Hid (nowK d (k + 1) = if (readDk tx).2 = true ∧ (nowK d k).no < (readDk tx).1.no then (readDk tx).1 else nowK d k) from by rw [show tx = (sectorDk d (k : Int)).1 by rw [← HT.out]]; exact rfl)
      obtain ⟨⟨q, qb⟩, hq⟩ : ∃ q, q = readDk tx := ⟨_, rfl⟩
      rw [← hq] at CI CE HK
      simp only at CI CE HK
      obtain ⟨p0, p1, p2⟩ := q
      obtain ⟨N, hN⟩ : ∃ N, N = nowK d k := ⟨_, rfl⟩
      rw [← hN] at HK H2 n1 n2 n3
      obtain ⟨m0, m1, m2⟩ := N
      unfold headV at CI
      simp only at CI HK H2 n1 n2 n3
      clear hq hN HI n1 n2 n3 o1 o2 o3 d1 d2
      go_wp2_with fail
      go_at_call 35
      refine Calls.mono CI.out ?_
      rintro e w3 ⟨⟨er, rfl, her⟩, b3⟩
      have HE := (show Hid (HeadErr tx w2 er) from her)
      have H3 := (show Hid _ from H2.out.below b3)
      clear b3 CI her
      obtain ⟨w4, hw4⟩ : ∃ y, y = w3.alloc (.cells #[.int .i64 p0, .int .i64 p1, .int .i64 p2] 25) := ⟨_, rfl⟩
      have h4 := H3.out.new #[.int .i64 p0, .int .i64 p1, .int .i64 p2] 25
      rw [← hw4] at h4
      have H4 := (show Hid _ from h4)
      clear h4
      obtain ⟨k1, k2, k3, _⟩ := rk_three H4.out.at0
      obtain ⟨n1, n2, n3, o1, o2, o3⟩ := rk_three H4.out.at1
      have ce := HA.out w3 H3.out.1
      have ce0 := lt_of_cell ce
      go_wp2_with fail
      go_at_call 36
      rw [← hw4]
      refine Calls.mono (CE.out w2 _ _ H2.out.1 HE.out) ?_
      rintro e w5 ⟨rfl, e5⟩
      replace e5 := e5.symm
      subst e5
      clear hw4 CE ce ce0
      have H5 := (show Hid (Hl w [(w.heap.size + 1 + 1, #[.int .i64 m0, .int .i64 m1, .int .i64 m2], 25), (w.heap.size + 1, #[.int .i64 0, .int .i64 0, .int .i64 0], 25), (w.heap.size, #[.slice sa sn sc, .slice la ln lc], 34)] w4) from H4.out.tail)
      cases qb
      · have HZ : Hid (nowK d (k + 1) = ⟨m0, m1, m2⟩) := (show nowK d (k + 1) = ⟨m0, m1, m2⟩ by rw [HK.out, if_neg (by simp)])
        clear HK
        go_wp2
        go_roundw
        case rel => exact ⟨k + 1, hlt, by go_num, by rw [HZ.out]; exact H5.out⟩
        case measure => simp [intOf]; omega
      · by_cases hm : m0 < p0
        · have HZ : Hid (nowK d (k + 1) = ⟨p0, p1, p2⟩) := (show nowK d (k + 1) = ⟨p0, p1, p2⟩ by rw [HK.out, if_pos ⟨rfl, hm⟩])
          clear HK
          go_wp2
          go_roundw
          case rel =>
            have H6 := H5.out.set3 (by omega) (fun p hp => by
              simp only [List.mem_cons, List.not_mem_nil, or_false] at hp
              rcases hp with rfl | rfl
              · show w.heap.size + 1 ≠ w.heap.size + 1 + 1; omega
              · show w.heap.size ≠ w.heap.size + 1 + 1; omega) (.int .i64 p0) (.int .i64 p1) (.int .i64 p2)
            exact ⟨k + 1, hlt, by go_num, by rw [HZ.out]; exact H6⟩
          case measure => simp [intOf]; omega
        · have HZ : Hid (nowK d (k + 1) = ⟨m0, m1, m2⟩) := (show nowK d (k + 1) = ⟨m0, m1, m2⟩ by rw [HK.out, if_neg (fun e => hm e.2)])
          clear HK
          go_wp2
          go_roundw
          case rel => exact ⟨k + 1, hlt, by go_num, by rw [HZ.out]; exact H5.out⟩
          case measure => simp [intOf]; omega
    · obtain rfl : k = 2 := by omega
      obtain ⟨_, _, _, r1, r2, r3⟩ := rk_three HI.out.at1
      go_wp2
      have H9 := HI.out.swap.set3 (Nat.le_succ _) (by simp) (.int .i64 (nowK d 2).no) (.int .i64 (nowK d 2).area) (.int .i64 (nowK d 2).en)
      refine bodyPost_ret (results_cell_row rfl _ _ (w.heap.size + 1) 25 _ (0, 0) _ rfl H9.at0 Tryd.underlying25 rfl rfl) rfl ?_
      exact ⟨rfl, H9.1⟩
end Go.Proofs.YtiejfnnokfedkaaDoor

/- A disk among the arguments: slices of texts and of puts. -/
namespace Go.Proofs.YtiejfnnokfedkaaDoor
open Go.RowKit Go.ChangeShapes Go.WideShapes
set_option maxRecDepth 100000
set_option linter.unusedVariables false

theorem rows_strs {rows : List (List Value)} (h : ∀ r ∈ rows, r.length = 1 ∧ ∃ s : ByteArray, r = [.string s] ∧ s.size ≤ maxLen) :
    ∃ ss : List ByteArray, rows.flatten = strCells ss ∧ ∀ s ∈ ss, s.size ≤ maxLen := by
  induction rows with
  | nil => exact ⟨[], rfl, fun p hp => by cases hp⟩
  | cons r rows ih =>
    obtain ⟨rs, h1, h2⟩ := ih (fun q hq => h q (List.mem_cons_of_mem _ hq))
    obtain ⟨_, p, rfl, hp⟩ := h r (List.mem_cons_self ..)
    refine ⟨p :: rs, ?_, fun q hq => ?_⟩
    · rw [List.flatten_cons, h1]; rfl
    · rcases List.mem_cons.mp hq with rfl | hq
      · exact hp
      · exact h2 q hq
theorem rows_puts {rows : List (List Value)} (h : ∀ r ∈ rows, r.length = 2 ∧ ∃ p : Int × ByteArray, r = [.int .i64 p.1, .string p.2] ∧ p.2.size ≤ maxLen) :
    ∃ rs : List (Int × ByteArray), rows.flatten = putCells rs ∧ ∀ p ∈ rs, p.2.size ≤ maxLen := by
  induction rows with
  | nil => exact ⟨[], rfl, fun p hp => by cases hp⟩
  | cons r rows ih =>
    obtain ⟨rs, h1, h2⟩ := ih (fun q hq => h q (List.mem_cons_of_mem _ hq))
    obtain ⟨_, p, rfl, hp⟩ := h r (List.mem_cons_self ..)
    refine ⟨p :: rs, ?_, fun q hq => ?_⟩
    · rw [List.flatten_cons, h1]; rfl
    · rcases List.mem_cons.mp hq with rfl | hq
      · exact hp
      · exact h2 q hq

section
variable {H : Type} {enc : TypeId × Value → H} {P : Program} {w : World} {base : Nat} {spare : Nat → Bool} {held : Bool}

theorem trod_put {t : TypeId} {f0 f1 : Field} {fuel : Nat} {cs : List Value} {x : DataW H × List MemPlace} (ht : P.underlying t = some (.struct #[f0, f1])) (hc : P.cellsOf t = 2)
    (h0 : P.underlying f0.type = some (.int .i64)) (h1 : P.underlying f1.type = some .string) (c0 : P.cellsOf f0.type = 1) (c1 : P.cellsOf f1.type = 1) (o0 : f0.offset = 0) (o1 : f1.offset = 1)
    (h : DataW.trod enc P w base spare held fuel t cs = some x) : ∃ p : Int × ByteArray, cs = [.int .i64 p.1, .string p.2] ∧ p.2.size ≤ maxLen := by
  obtain ⟨xs, n, _, _, hl, hx, hf⟩ := DataW.trod_struct ht h
  have e0 := hf 0 f0 rfl
  have e1 := hf 1 f1 rfl
  rw [c0, o0, List.drop_zero] at e0
  rw [c1, o1] at e1
  have hxs : xs.length = 2 := hx
  rw [List.getElem?_eq_getElem (by omega)] at e0 e1
  obtain ⟨a, ha, _, _⟩ := DataW.trod_int h0 e0
  obtain ⟨b, hb, _, sb⟩ := DataW.trod_string h1 e1
  rw [hc] at hl
  match cs, hl with
  | [u, v], _ =>
    simp at ha hb
    exact ⟨(a, b), by rw [ha, hb], sb⟩
theorem trod_one {t : TypeId} {fuel : Nat} {cs : List Value} {x : DataW H × List MemPlace} (ht : P.underlying t = some .string) (h : DataW.trod enc P w base spare held fuel t cs = some x) : ∃ s : ByteArray, cs = [.string s] ∧ s.size ≤ maxLen := by
  obtain ⟨a, ha, _, sa⟩ := DataW.trod_string ht h
  exact ⟨a, ha, sa⟩
theorem trod_disk {t es ep : TypeId} {f0 f1 g0 g1 : Field} {fuel : Nat} {cs : List Value} {x : DataW H × List MemPlace} (ht : P.underlying t = some (.struct #[f0, f1])) (hc : P.cellsOf t = 2)
    (h0 : P.underlying f0.type = some (.slice es)) (h1 : P.underlying f1.type = some (.slice ep)) (c0 : P.cellsOf f0.type = 1) (c1 : P.cellsOf f1.type = 1) (o0 : f0.offset = 0) (o1 : f1.offset = 1)
    (hes : P.underlying es = some .string) (hesc : P.cellsOf es = 1)
    (he : P.underlying ep = some (.struct #[g0, g1])) (hec : P.cellsOf ep = 2) (q0 : P.underlying g0.type = some (.int .i64)) (q1 : P.underlying g1.type = some .string) (r0 : P.cellsOf g0.type = 1) (r1 : P.cellsOf g1.type = 1) (p0 : g0.offset = 0) (p1 : g1.offset = 1)
    (h : DataW.trod enc P w base spare held fuel t cs = some x) :
    ∃ (va vb : Value) (d : PDisk), cs = [va, vb] ∧ DiskAt w (.agg #[va, vb]) d ∧ (∀ s ∈ d.safe, s.size ≤ maxLen) ∧ (∀ p ∈ d.late, p.2.size ≤ maxLen) := by
  obtain ⟨xs, n, _, _, hl, hx, hf⟩ := DataW.trod_struct ht h
  have e0 := hf 0 f0 rfl
  have e1 := hf 1 f1 rfl
  rw [c0, o0, List.drop_zero] at e0
  rw [c1, o1] at e1
  have hxs : xs.length = 2 := hx
  rw [List.getElem?_eq_getElem (by omega)] at e0 e1
  rw [hc] at hl
  match cs, hl with
  | [v0, v1], _ =>
    simp only [List.drop_succ_cons, List.drop_zero, List.take_succ_cons, List.take_zero] at e0 e1
    obtain ⟨rowsA, hsA, hrA⟩ := open_rows (n := 1) (fun cs => ∃ s : ByteArray, cs = [.string s] ∧ s.size ≤ maxLen) h0 hesc (by decide) (fun m cs y hy => trod_one hes hy) e0
    obtain ⟨rowsB, hsB, hrB⟩ := open_rows (n := 2) (fun cs => ∃ p : Int × ByteArray, cs = [.int .i64 p.1, .string p.2] ∧ p.2.size ≤ maxLen) h1 hec (by decide) (fun m cs y hy => trod_put he hec q0 q1 r0 r1 p0 p1 hy) e1
    obtain ⟨ss, eA, hss⟩ := rows_strs hrA
    obtain ⟨ps, eB, hps⟩ := rows_puts hrB
    rw [eA] at hsA
    rw [eB] at hsB
    have hsA' := hsA
    have hsB' := hsB
    obtain ⟨a, n1, c1', rfl, _⟩ := hsA'
    obtain ⟨b, n2, c2', rfl, _⟩ := hsB'
    exact ⟨_, _, ⟨ss, ps⟩, rfl, ⟨_, _, _, _, _, _, rfl, hsA, hsB⟩, hss, hps⟩
end
end Go.Proofs.YtiejfnnokfedkaaDoor

/- The exact laws of HeadRead and HeadNow, and FnAreas: the program keeps its contracts. -/
namespace Go.Proofs.YtiejfnnokfedkaaDoor
open Go.RowKit
set_option maxRecDepth 100000
set_option linter.unusedVariables false

theorem fnExactHeadRead_walk {s : ByteArray} (w : World) (he : Sent w) (hs : s.size ≤ maxLen) :
    Calls Tryd.prog 5 #[.string s] w fun e w' => e = .returned (.bool true) ∧ Below w.heap.size w w' :=
  fnExactHeadRead_of s w (fun s W b h => iheadRead_any s W h (he.below b)) hs
theorem fnExactHeadNow_walk {v : Value} {d : PDisk} (w : World) (he : Sent w) (h : DiskAt w v d) (hs : ∀ s ∈ d.safe, s.size ≤ maxLen) (hp : ∀ p ∈ d.late, p.2.size ≤ maxLen) :
    Calls Tryd.prog 6 #[v] w fun e w' => e = .returned (.bool true) ∧ Below w.heap.size w w' :=
  fnExactHeadNow_of w (fun W v d b h hf => iheadNow_any W v d h hf (he.below b)) h hs hp
end Go.Proofs.YtiejfnnokfedkaaDoor
