/- The numbers under which this program holds the mutex's functions and types, and that it holds them. No condition. -/
import Derived.Test.YtjokajblihaphaaGreatDoorU32
import Derived.Conc.MuLib
import Derived.Conc.MuLone
import Derived.KernelRfl
import Derived.Test.YtjokajblihaphaaGreatDoorU36
import Derived.Test.YtjokajblihaphaaGreatDoorU35
import Derived.Test.YtjokajblihaphaaGreatDoorU23
import Derived.Test.YtjokajblihaphaaGreatDoorU33
import Derived.Test.YtjokajblihaphaaGreatDoorU34
import Derived.Test.YtjokajblihaphaaGreatDoorU16
namespace Go.Proofs.YtjokajblihaphaaGreatDoor
open Go.RowKit
set_option maxRecDepth 100000
set_option linter.unusedVariables false

abbrev muLink : Go.Conc.Locks.MuLink := { lock := 42, unlock := 43, ilock := 79, iunlock := 80, lockSlow := 116, unlockSlow := 119, disable := 112, enable := 114, acquire := 115, relMerge := 117, cas32 := 113, add32 := 118, tMutex := 86, tIMutex := 84, tPMutex := 133, tPIMutex := 171, tPI32 := 173, tUP := 175, tNoCopy := 81, tU32 := 82 }
theorem muLib : Go.Conc.Locks.MuLib Tryz.prog muLink :=
  ⟨Tryz.func42, Tryz.func43, Tryz.func79, Tryz.func80, Tryz.func112, Tryz.func114, Tryz.func115, Tryz.func117, Tryz.func113, Tryz.func118, Tryz.underlying84, Tryz.runUnderlying84, Tryz.sizeOf84, Tryz.isAgg84, Tryz.zeroValue84, Tryz.underlying86, Tryz.runUnderlying86, Tryz.sizeOf86, Tryz.isAgg86, Tryz.zeroValue86, Tryz.underlying133, Tryz.runUnderlying133, Tryz.sizeOf133, Tryz.isAgg133, Tryz.zeroValue133, Tryz.underlying171, Tryz.runUnderlying171, Tryz.sizeOf171, Tryz.isAgg171, Tryz.zeroValue171, Tryz.underlying173, Tryz.runUnderlying173, Tryz.sizeOf173, Tryz.isAgg173, Tryz.zeroValue173, Tryz.underlying175, Tryz.runUnderlying175, Tryz.sizeOf175, Tryz.isAgg175, Tryz.zeroValue175, Tryz.underlying81, Tryz.runUnderlying81, Tryz.sizeOf81, Tryz.isAgg81, Tryz.zeroValue81, Tryz.underlying21, Tryz.runUnderlying21, Tryz.sizeOf21, Tryz.isAgg21, Tryz.zeroValue21, (by kernel_rfl)⟩
end Go.Proofs.YtjokajblihaphaaGreatDoor

/- The program's HeadRead. -/
namespace Go.Proofs.YtjokajblihaphaaGreatDoor
open Go.RowKit
set_option maxRecDepth 100000
set_option linter.unusedVariables false

theorem far3 {w : World} {b g k : Nat} {v1 v2 v3 : Value} {u : Option Value} (hne : b ≠ g) (h : w.drew.cell? ⟨b, k, none⟩ = u) : (((w.setCell ⟨g, 0, none⟩ v1).setCell ⟨g, 1, none⟩ v2).setCell ⟨g, 2, none⟩ v3).drew.cell? ⟨b, k, none⟩ = u :=
  show (((w.setCell ⟨g, 0, none⟩ v1).setCell ⟨g, 1, none⟩ v2).setCell ⟨g, 2, none⟩ v3).cell? ⟨b, k, none⟩ = u from far1 hne (far1 hne (far1 hne (show w.cell? ⟨b, k, none⟩ = u from h)))
theorem Sent.addr {w : World} (h : Sent w) : ∃ a : Addr, ∀ W, Below w.heap.size w W → W.cell? ⟨0, 0, none⟩ = some (.iface 349 (.pointer (some a))) := by
  obtain ⟨a, h⟩ := h
  exact ⟨a, fun W b => (b.cell (p := ⟨0, 0, none⟩) (lt_of_cell h)).trans h⟩
/-- errors.Is of what headIn answers. -/
theorem iis_any {s : ByteArray} {w W : World} {er : Value} {a : Addr} (h : HeadErr s w er) (ha : w.cell? ⟨0, 0, none⟩ = some (.iface 349 (.pointer (some a)))) :
    Calls Tryz.prog 147 #[er, .iface 349 (.pointer (some a))] W fun e w' => e = .returned (.bool (!(readDk s).2)) ∧ w' = W := by
  unfold HeadErr at h
  split at h
  · rename_i e
    subst h
    rw [e]
    exact is_nil a W
  · rename_i e
    obtain ⟨b, hb, rfl⟩ := h
    have e' : (readDk s).2 = false := by simpa using e
    rw [hb] at ha
    injection ha with ha
    injection ha with _ ha
    injection ha with ha
    injection ha with ha
    rw [e', ha]
    exact is_same a W

end Go.Proofs.YtjokajblihaphaaGreatDoor

/- The program's HeadNow. -/
namespace Go.Proofs.YtjokajblihaphaaGreatDoor
open Go.RowKit
set_option maxRecDepth 100000
set_option linter.unusedVariables false

/-- The head that counts when k sectors have been looked at. -/
def nowK (d : PDisk) : Nat → PHead
  | 0 => zeroH
  | k + 1 => if (readDk (sectorDk d (k : Int)).1).2 = true ∧ (nowK d k).no < (readDk (sectorDk d (k : Int)).1).1.no then (readDk (sectorDk d (k : Int)).1).1 else nowK d k
theorem read_pos {s : ByteArray} (h : (readDk s).2 = true) : 1 ≤ (readDk s).1.no := (headB_in (read_some h).1).1
theorem read_zero {s : ByteArray} (h : ¬ (readDk s).2 = true) : (readDk s).1 = zeroH := by rw [read_none (by simpa using h)]
theorem read_empty : readDk ⟨#[]⟩ = (zeroH, false) := by
  by_cases h : (readDk ⟨#[]⟩).2 = true
  · have := (read_some h).2
    have h2 := packS_size (readDk ⟨#[]⟩).1
    rw [this] at h2
    simp [ByteArray.size] at h2
  · exact read_none (by simpa using h)
theorem nowK_two (d : PDisk) : nowK d 2 = nowDk d := by
  unfold nowDk
  by_cases hb : diskB d = false
  · have h1 : ∀ x : Int, sectorDk d x = (⟨#[]⟩, false) := fun x => by rw [sectorDk, if_pos (.inl hb)]
    rw [if_pos hb]
    simp [nowK, h1, read_empty, zeroH]
  · have hb' : diskB d = true := by simpa using hb
    have h0 : sectorDk d ((0 : Nat) : Int) = (sectorD d 0, true) := by rw [sectorDk, if_neg (by rw [hb']; simp [inB])]; rfl
    have h1 : sectorDk d ((1 : Nat) : Int) = (sectorD d 1, true) := by rw [sectorDk, if_neg (by rw [hb']; simp [inB])]; rfl
    have e1 : nowK d 1 = (readDk (sectorD d 0)).1 := by
      show (if _ then _ else _) = _
      rw [h0]
      by_cases h : (readDk (sectorD d 0)).2 = true
      · rw [if_pos ⟨h, by have := read_pos h; show (0 : Int) < (readDk (sectorD d 0)).1.no; omega⟩]
      · rw [if_neg (fun e => h e.1), read_zero h]; rfl
    rw [if_neg hb]
    show (if _ then _ else _) = _
    rw [h1, e1]
    by_cases h : (readDk (sectorD d 1)).2 = true
    · by_cases hl : (readDk (sectorD d 0)).1.no < (readDk (sectorD d 1)).1.no
      · rw [if_pos ⟨h, hl⟩, if_pos hl]
      · rw [if_neg (fun e => hl e.2), if_neg hl]
    · rw [if_neg (fun e => h e.1), if_neg]
      rw [read_zero h]
      by_cases h' : (readDk (sectorD d 0)).2 = true
      · have := read_pos h'; show ¬ _ < (0 : Int); omega
      · rw [read_zero h']; show ¬ (0 : Int) < 0; omega

set_option maxHeartbeats 400000 in
set_option maxRecDepth 100000 in
theorem iheadNow_any (w : World) (v : Value) (d : PDisk) (hd : DiskAt w v d) (hf : DiskFit d) (he : Sent w) :
    Calls Tryz.prog 108 #[v] w fun e w' => e = .returned (headV (nowDk d)) ∧ Below w.heap.size w w' := by
  rw [← nowK_two]
  have HD := (show Hid (DiskAt w v d) from hd)
  have HF := (show Hid (DiskFit d) from hf)
  have HSn := (show Hid (Sent w) from he)
  obtain ⟨a, hA⟩ := he.addr
  have HA := (show Hid _ from hA)
  obtain ⟨sa, sn, sc, la, ln, lc, rfl, _, _⟩ := hd
  clear hf he hA
  obtain ⟨w1, hw1⟩ : ∃ y, y = ((w.alloc (.cells #[.slice sa sn sc, .slice la ln lc] 34)).alloc (.cells #[.int .i64 0, .int .i64 0, .int .i64 0] 35)).alloc (.cells #[.int .i64 0, .int .i64 0, .int .i64 0] 35) := ⟨_, rfl⟩
  have h1 := (((Hl.refl w).new #[.slice sa sn sc, .slice la ln lc] 34).new #[.int .i64 0, .int .i64 0, .int .i64 0] 35).new #[.int .i64 0, .int .i64 0, .int .i64 0] 35
  rw [← hw1, World.size_alloc, World.size_alloc] at h1
  have H1 := (show Hid _ from h1)
  clear h1
  go_enter Tryz.func108, Tryz.ntmps108
  go_wp2_with fail
  rw [← hw1]
  go_loopw [10] (fun i wr => ∃ k : Nat, k ≤ 2 ∧ i = .int .i64 (k : Int) ∧ Hl w [(w.heap.size + 1 + 1, #[.int .i64 (nowK d k).no, .int .i64 (nowK d k).area, .int .i64 (nowK d k).en], 35), (w.heap.size + 1, #[.int .i64 0, .int .i64 0, .int .i64 0], 35), (w.heap.size, #[.slice sa sn sc, .slice la ln lc], 34)] wr) (fun i _ => 2 - (intOf i).toNat)
  case atStart => exact ⟨0, by omega, rfl, H1.out⟩
  case round =>
    clear H1 hw1
    obtain ⟨k, hk, rfl, hI⟩ := hrel
    have HI := (show Hid (Hl w _ wr) from hI)
    clear hI
    obtain ⟨n1, n2, n3, o1, o2, o3⟩ := rk_three HI.out.at0
    obtain ⟨d1, d2, _, _⟩ := rk_two HI.out.at2
    by_cases hlt : k < 2
    · have hlt' : (k : Int) < 2 := by omega
      have CS := (show Hid _ from isectorOf_any (HD.out.below HI.out.1) HF.out (k : Int))
      obtain ⟨⟨tx, tb⟩, ht⟩ : ∃ q, q = sectorDk d (k : Int) := ⟨_, rfl⟩
      have hts : tx.size ≤ 1099511627776 := by
        have : tx = (sectorDk d (k : Int)).1 := by rw [← ht]
        rw [this, sectorDk]
        split
        · exact Nat.zero_le _
        · rename_i h
          rw [sector_size (by cases hh : diskB d <;> simp_all) (by simp only [inB] at h; constructor <;> simp_all)]
          omega
      rw [← ht] at CS
      simp only at CS
      have HT := (show Hid ((tx, tb) = sectorDk d (k : Int)) from ht)
      clear ht
      go_wp2_with fail
      go_at_call 145
      refine Calls.mono CS.out ?_
      rintro e w2 ⟨rfl, b2⟩
      have H2 := (show Hid _ from HI.out.below b2)
      clear b2 CS
      have CI := (show Hid _ from iheadIn_any tx w2 hts (HSn.out.below H2.out.1))
      have CE := (show Hid (∀ (u W : World) (er : Value), Below w.heap.size w u → HeadErr tx u er → Calls Tryz.prog 147 #[er, .iface 349 (.pointer (some a))] W fun e w' => e = .returned (.bool (!(readDk tx).2)) ∧ w' = W) from fun u W er b h => iis_any h (HA.out u b))
      have HK := (show Hid (nowK d (k + 1) = if (readDk tx).2 = true ∧ (nowK d k).no < (readDk tx).1.no then (readDk tx).1 else nowK d k) from by rw [show tx = (sectorDk d (k : Int)).1 by rw [← HT.out]]; exact rfl)
      obtain ⟨⟨q, qb⟩, hq⟩ : ∃ q, q = readDk tx := ⟨_, rfl⟩
      rw [← hq] at CI CE HK
      simp only at CI CE HK
      obtain ⟨p0, p1, p2⟩ := q
      obtain ⟨N, hN⟩ : ∃ N, N = nowK d k := ⟨_, rfl⟩
      rw [← hN] at HK H2 n1 n2 n3
      obtain ⟨m0, m1, m2⟩ := N
      unfold headV at CI
      simp only at CI HK H2 n1 n2 n3
      clear hq hN HI n1 n2 n3 o1 o2 o3 d1 d2
      go_wp2_with fail
      go_at_call 146
      refine Calls.mono CI.out ?_
      rintro e w3 ⟨⟨er, rfl, her⟩, b3⟩
      have HE := (show Hid (HeadErr tx w2 er) from her)
      have H3 := (show Hid _ from H2.out.below b3)
      clear b3 CI her
      obtain ⟨w4, hw4⟩ : ∃ y, y = w3.alloc (.cells #[.int .i64 p0, .int .i64 p1, .int .i64 p2] 35) := ⟨_, rfl⟩
      have h4 := H3.out.new #[.int .i64 p0, .int .i64 p1, .int .i64 p2] 35
      rw [← hw4] at h4
      have H4 := (show Hid _ from h4)
      clear h4
      obtain ⟨k1, k2, k3, _⟩ := rk_three H4.out.at0
      obtain ⟨n1, n2, n3, o1, o2, o3⟩ := rk_three H4.out.at1
      have ce := HA.out w3 H3.out.1
      have ce0 := lt_of_cell ce
      go_wp2_with fail
      go_at_call 147
      rw [← hw4]
      refine Calls.mono (CE.out w2 _ _ H2.out.1 HE.out) ?_
      rintro e w5 ⟨rfl, e5⟩
      replace e5 := e5.symm
      subst e5
      clear hw4 CE ce ce0
      have H5 := (show Hid (Hl w [(w.heap.size + 1 + 1, #[.int .i64 m0, .int .i64 m1, .int .i64 m2], 35), (w.heap.size + 1, #[.int .i64 0, .int .i64 0, .int .i64 0], 35), (w.heap.size, #[.slice sa sn sc, .slice la ln lc], 34)] w4) from H4.out.tail)
      cases qb
      · have HZ : Hid (nowK d (k + 1) = ⟨m0, m1, m2⟩) := (show nowK d (k + 1) = ⟨m0, m1, m2⟩ by rw [HK.out, if_neg (by simp)])
        clear HK
        go_wp2
        go_roundw
        case rel => exact ⟨k + 1, hlt, by go_num, by rw [HZ.out]; exact H5.out⟩
        case measure => simp [intOf]; omega
      · by_cases hm : m0 < p0
        · have HZ : Hid (nowK d (k + 1) = ⟨p0, p1, p2⟩) := (show nowK d (k + 1) = ⟨p0, p1, p2⟩ by rw [HK.out, if_pos ⟨rfl, hm⟩])
          clear HK
          go_wp2
          go_roundw
          case rel =>
            have H6 := H5.out.set3 (by omega) (fun p hp => by
              simp only [List.mem_cons, List.not_mem_nil, or_false] at hp
              rcases hp with rfl | rfl
              · show w.heap.size + 1 ≠ w.heap.size + 1 + 1; omega
              · show w.heap.size ≠ w.heap.size + 1 + 1; omega) (.int .i64 p0) (.int .i64 p1) (.int .i64 p2)
            exact ⟨k + 1, hlt, by go_num, by rw [HZ.out]; exact H6⟩
          case measure => simp [intOf]; omega
        · have HZ : Hid (nowK d (k + 1) = ⟨m0, m1, m2⟩) := (show nowK d (k + 1) = ⟨m0, m1, m2⟩ by rw [HK.out, if_neg (fun e => hm e.2)])
          clear HK
          go_wp2
          go_roundw
          case rel => exact ⟨k + 1, hlt, by go_num, by rw [HZ.out]; exact H5.out⟩
          case measure => simp [intOf]; omega
    · obtain rfl : k = 2 := by omega
      obtain ⟨_, _, _, r1, r2, r3⟩ := rk_three HI.out.at1
      go_wp2
      have H9 := HI.out.swap.set3 (Nat.le_succ _) (by simp) (.int .i64 (nowK d 2).no) (.int .i64 (nowK d 2).area) (.int .i64 (nowK d 2).en)
      refine bodyPost_ret (results_cell_row rfl _ _ (w.heap.size + 1) 35 _ (0, 0) _ rfl H9.at0 Tryz.underlying35 rfl rfl) rfl ?_
      exact ⟨rfl, H9.1⟩
end Go.Proofs.YtjokajblihaphaaGreatDoor

/- The program's UrlOk and recordOk. No condition. -/
namespace Go.Proofs.YtjokajblihaphaaGreatDoor
open Go.RowKit
set_option maxRecDepth 100000
set_option linter.unusedVariables false

set_option maxHeartbeats 400000 in
set_option maxRecDepth 100000 in
theorem iurlOk_any (s : ByteArray) (w : World) (hs : s.size ≤ 1099511627776) : Calls Tryz.prog 45 #[.string s] w fun e w' => e = .returned (.bool (urlB s)) ∧ Below w.heap.size w w' := by
  have hl := bs_len s
  rw [urlB_eq]
  by_cases h1 : s.size < 1 ∨ 60 < s.size
  · rw [inB_no (by omega)]
    rcases h1 with h1 | h1
    · go_enter Tryz.func45, Tryz.ntmps45
      go_wp2
      go_ret
      exact ⟨rfl, Below.refl _ _⟩
    · go_enter Tryz.func45, Tryz.ntmps45
      go_wp2
      go_ret
      exact ⟨rfl, Below.refl _ _⟩
  · have h2 : 1 ≤ s.size := by omega
    have h3 : s.size ≤ 60 := by omega
    rw [inB_yes (by omega) (by omega)]
    clear h1
    obtain ⟨cap, w1, hc, hk, hcap, hm, hb⟩ := conv_str s w (by unfold maxLen; omega)
    have HK := (show Hid (Blk .u8 5 w1 w.heap.size (bs s)) from hk)
    have HB := (show Hid (Below w.heap.size w w1) from hb)
    clear hk hb
    go_enter Tryz.func45, Tryz.ntmps45
    go_wp2
    go_loopw [16] (fun i wr => ∃ k : Nat, k ≤ s.size ∧ i = .int .i64 k ∧ ((bs s).take k).any ubad = false ∧ Hid (w1 = wr)) (fun i _ => s.size - (intOf i).toNat)
    case atStart => exact ⟨0, Nat.zero_le _, rfl, by simp, rfl⟩
    case round =>
      obtain ⟨k, hks, rfl, hno, hw⟩ := hrel
      have ew := hw.out
      subst ew
      have HN : Hid (((bs s).take k).any ubad = false) := hno
      clear hno hw
      by_cases hlt : k < s.size
      · have hat := HK.out.cell k (by omega)
        have hbk := bs_bound s k
        have HA : Hid (((bs s).take (k + 1)).any ubad = (((bs s).take k).any ubad || ubad ((bs s).getD k 0))) := uany_succ (by omega)
        have HO : Hid (ubad ((bs s).getD k 0) = true → (bs s).any ubad = true) := uany_of (by omega)
        obtain ⟨x, hx⟩ : ∃ x, x = (bs s).getD k 0 := ⟨_, rfl⟩
        rw [← hx] at hat hbk HA HO
        clear hx
        have hlt' : (k : Int) < (s.size : Int) := by omega
        by_cases g1 : x < 33
        · go_wp2
          go_ret
          refine ⟨?_, HB.out⟩
          rw [HO.out (by simp [ubad, g1])]; rfl
        · by_cases g2 : 126 < x
          · go_wp2
            go_ret
            refine ⟨?_, HB.out⟩
            rw [HO.out (by simp [ubad, g2])]; rfl
          · go_wp2
            go_roundw
            case rel => exact ⟨k + 1, hlt, by go_num, by rw [HA.out, HN.out]; simp [ubad]; omega, trivial⟩
            case measure => simp [intOf]; omega
      · obtain rfl : k = s.size := by omega
        have HN2 : Hid ((bs s).any ubad = false) := (show (bs s).any ubad = false by have := HN.out; rwa [List.take_of_length_le (by omega)] at this)
        clear HN
        go_wp2
        go_ret
        exact ⟨by rw [HN2.out]; rfl, HB.out⟩

set_option maxHeartbeats 400000 in
set_option maxRecDepth 100000 in
theorem irecordOk_any (r : PRec) (w : World) (hu : r.url.size ≤ 1099511627776) : Calls Tryz.prog 120 #[recV r] w fun e w' => e = .returned (.bool (recB r)) ∧ Below w.heap.size w w' := by
  have CU := (show Hid (∀ W, Calls Tryz.prog 45 #[.string r.url] W fun e w' => e = .returned (.bool (urlB r.url)) ∧ Below W.heap.size W w') from fun W => iurlOk_any r.url W hu)
  have HP := (show Hid (recB r = ((decide (r.kind = 1) || decide (r.kind = 2)) && urlB r.url && !(decide (r.kind = 2) && decide (r.body ≠ emptyS)))) from rfl)
  obtain ⟨kd, ur, bo⟩ := r
  unfold recV
  simp only at CU hu HP ⊢
  obtain ⟨w1, hw1⟩ : ∃ y, y = w.alloc (.cells #[.int .i64 kd, .string ur, .string bo] 100) := ⟨_, rfl⟩
  have h1 := (Hl.refl w).new #[.int .i64 kd, .string ur, .string bo] 100
  rw [← hw1] at h1
  have H1 := (show Hid _ from h1)
  clear h1
  obtain ⟨q, hq⟩ : ∃ q, q = urlB ur := ⟨_, rfl⟩
  rw [← hq] at CU HP
  clear hq
  rw [HP.out]
  clear HP
  by_cases h1 : kd = 1
  · subst h1
    go_enter Tryz.func120, Tryz.ntmps120
    go_wp2_with fail
    go_at_call 45
    rw [← hw1]
    refine Calls.mono (CU.out _) ?_
    rintro e w2 ⟨rfl, b2⟩
    have H2 := (show Hid _ from H1.out.below b2)
    clear hw1 b2
    go_wp2
    go_ret
    exact ⟨ret_bool (by cases q <;> simp), H2.out.1⟩
  · have hn1 : (kd == 1) = false := by simp [h1]
    by_cases h2 : kd = 2
    · subst h2
      go_enter Tryz.func120, Tryz.ntmps120
      go_wp2_with fail
      go_at_call 45
      rw [← hw1]
      refine Calls.mono (CU.out _) ?_
      rintro e w2 ⟨rfl, b2⟩
      have H2 := (show Hid _ from H1.out.below b2)
      obtain ⟨m1, m2, m3, _⟩ := rk_three H2.out.at0
      clear hw1 b2
      cases q
      · go_wp2
        go_ret
        exact ⟨ret_bool rfl, H2.out.1⟩
      · by_cases hbo : bo = emptyS
        · have hbe : bo.toList.isEmpty = true := by rw [hbo]; exact emptyS_yes
          go_wp2
          go_ret
          exact ⟨ret_bool (by first | (rw [hbe]; simp [hbo]; done) | (simp [hbo]; done) | (rw [hbo, emptyS_yes]; simp)), H2.out.1⟩
        · have hbe : bo.toList.isEmpty = false := emptyS_ne hbo
          go_wp2
          go_ret
          exact ⟨ret_bool (by first | (rw [hbe]; simp [hbo]; done) | (simp [hbo]; done)), H2.out.1⟩
    · have hn2 : (kd == 2) = false := by simp [h2]
      have HF : Hid (((decide (kd = 1) || decide (kd = 2)) && q && !(decide (kd = 2) && decide (bo ≠ emptyS))) = false) := (show ((decide (kd = 1) || decide (kd = 2)) && q && !(decide (kd = 2) && decide (bo ≠ emptyS))) = false by simp [h1, h2])
      rw [HF.out]
      go_enter Tryz.func120, Tryz.ntmps120
      go_wp2
      go_ret
      exact ⟨ret_bool rfl, by rw [← hw1]; exact H1.out.1⟩
end Go.Proofs.YtjokajblihaphaaGreatDoor

/- The program's RecordPack. No condition. -/
namespace Go.Proofs.YtjokajblihaphaaGreatDoor
open Go.RowKit
set_option maxRecDepth 100000
set_option linter.unusedVariables false

theorem form_posR {x : Int} (h : 0 ≤ x) : 0 < (form x).length := by
  rw [form, if_neg (by omega)]
  by_cases h' : x < 128
  · rw [nf_lt h']; simp
  · rw [nf_ge (by omega)]; simp
theorem urlB_len {s : ByteArray} (h : urlB s = true) : s.size ≤ 60 := by
  unfold urlB at h
  simp only [Bool.and_eq_true] at h
  by_cases e : s.size ≤ 60
  · exact e
  · rw [inB_no (by omega)] at h; simp at h
theorem iconcat2 {W : World} {v1 v2 : Value} {x y : List Int} (s1 : Sl .u8 W v1 x) (s2 : Sl .u8 W v2 y) (h1 : x.length ≤ 9) (h2 : y.length ≤ 69) (h0 : 0 < x.length) :
    Calls Tryz.prog 121 #[.slice (some ⟨W.heap.size, 0, none⟩) 2 2] (W.alloc (.cells #[v1, v2] 68)) fun e w' => ∃ v', e = .returned v' ∧ Own W.heap.size 5 .u8 w' v' (x ++ y) ∧ Below W.heap.size W w' := by
  have b1 : Below W.heap.size W (W.alloc (.cells #[v1, v2] 68)) := (Below.refl _ _).alloc (Nat.le_refl _) _
  obtain ⟨c1, c2, _⟩ := rk_two (World.alloc_heap_new W (.cells #[v1, v2] 68))
  have hc := iconcat_any (w := W.alloc (.cells #[v1, v2] 68)) (b := W.heap.size) (ps := [(v1, x), (v2, y)]) (by simp) (fun k hk => by
    match k, hk with
    | 0, _ => exact ⟨c1, s1.below b1⟩
    | 1, _ => exact ⟨c2, s2.below b1⟩) (by simp) (fun p hp => by
      simp only [List.mem_cons, List.not_mem_nil, or_false] at hp
      rcases hp with rfl | rfl
      · exact Nat.le_trans h1 (by decide)
      · exact Nat.le_trans h2 (by decide)) (by show 0 < (x ++ (y ++ [])).length; rw [List.length_append]; omega)
  have e1 : catP [(v1, x), (v2, y)] = x ++ y := by simp [catP]
  rw [e1] at hc
  refine Calls.mono hc ?_
  rintro e w' ⟨v', rfl, o, b⟩
  exact ⟨v', rfl, o.base b1.size, b1.trans (b.mono b1.size)⟩

set_option maxHeartbeats 400000 in
set_option maxRecDepth 100000 in
theorem irecPack_any (r : PRec) (w : World) (hu : r.url.size ≤ 1099511627776) (hb : r.body.size ≤ 1099511627776) :
    Calls Tryz.prog 83 #[recV r] w fun e w' => ∃ v, e = .returned (.tuple #[v, .bool (packR r).2]) ∧ Own w.heap.size 5 .u8 w' v (packR r).1 ∧ Below w.heap.size w w' := by
  have CR := (show Hid (∀ W, Calls Tryz.prog 120 #[recV r] W fun e w' => e = .returned (.bool (recB r)) ∧ Below W.heap.size W w') from fun W => irecordOk_any r W hu)
  have HP := (show Hid (packR r = if recB r = true then (recL r, true) else ([], false)) from rfl)
  have HK := (show Hid (recB r = true → (r.kind = 1 ∨ r.kind = 2) ∧ urlB r.url = true ∧ (r.kind = 2 → r.body = emptyS)) from recB_kind)
  have HL := (show Hid (recL r = form r.kind ++ textForm r.url ++ (if r.kind = 1 then textForm r.body else [])) from rfl)
  obtain ⟨kd, ur, bo⟩ := r
  unfold recV at CR ⊢
  simp only at CR hu hb HK HL ⊢
  obtain ⟨w1, hw1⟩ : ∃ y, y = w.alloc (.cells #[.int .i64 kd, .string ur, .string bo] 100) := ⟨_, rfl⟩
  have h1 := (Hl.refl w).new #[.int .i64 kd, .string ur, .string bo] 100
  rw [← hw1] at h1
  have H1 := (show Hid _ from h1)
  clear h1
  cases hq : recB ⟨kd, ur, bo⟩
  · have HR : Hid (packR ⟨kd, ur, bo⟩ = ([], false)) := (show packR ⟨kd, ur, bo⟩ = ([], false) by rw [HP.out, if_neg (by rw [hq]; decide)])
    rw [hq] at CR
    clear hq
    go_enter Tryz.func83, Tryz.ntmps83
    go_wp2_with fail
    go_at_call 120
    rw [← hw1]
    refine Calls.mono (CR.out _) ?_
    rintro e w2 ⟨rfl, b2⟩
    have H2 := (show Hid _ from H1.out.below b2)
    clear hw1 b2
    go_wp2
    go_ret2
    refine ⟨_, by rw [HR.out]; rfl, ?_, H2.out.1⟩
    rw [HR.out]
    exact ⟨rfl, .inl ⟨rfl, rfl⟩⟩
  · have HR : Hid (packR ⟨kd, ur, bo⟩ = (recL ⟨kd, ur, bo⟩, true)) := (show packR ⟨kd, ur, bo⟩ = _ by rw [HP.out, if_pos hq])
    obtain ⟨k1, k2, k3⟩ := HK.out hq
    have hul := urlB_len k2
    have hk0 : 1 ≤ kd ∧ kd ≤ 2 := by omega
    rw [hq] at CR
    clear hq k2 k3 HK
    obtain ⟨i0, hi, hz0, hz1, hz2⟩ := info_parts Tryz.infoB
    have HS := (show Hid (∀ W, Below w1.heap.size w1 W → W.cell? ⟨w.heap.size, 0, none⟩ = some (.int .i64 kd) ∧ W.cell? ⟨w.heap.size, 1, none⟩ = some (.string ur) ∧ W.cell? ⟨w.heap.size, 2, none⟩ = some (.string bo)) from fun W b => by
      obtain ⟨p0, p1, p2, _⟩ := rk_three (H1.out.below b).at0
      exact ⟨p0, p1, p2⟩)
    have C1 := (show Hid (∀ W, Calls Tryz.prog 122 #[.int .i64 kd] W fun e w' => ∃ v, e = .returned v ∧ Own W.heap.size 5 .u8 w' v (form kd) ∧ Below W.heap.size W w') from fun W => inum_any kd W (by omega))
    have C2 := (show Hid (∀ W, Calls Tryz.prog 123 #[.string ur] W fun e w' => ∃ v, e = .returned v ∧ Own W.heap.size 5 .u8 w' v (textForm ur) ∧ Below W.heap.size W w') from fun W => iputText_any ur W hu)
    have C3 := (show Hid (∀ W, Calls Tryz.prog 123 #[.string bo] W fun e w' => ∃ v, e = .returned v ∧ Own W.heap.size 5 .u8 w' v (textForm bo) ∧ Below W.heap.size W w') from fun W => iputText_any bo W hb)
    have L1 := (show Hid ((form kd).length ≤ 9 ∧ (textForm ur).length ≤ 69 ∧ 0 < (form kd).length ∧ (textForm bo).length ≤ 9 + bo.size ∧ (form kd ++ textForm ur).length ≤ 78) from ⟨form_len _, by have := textForm_len ur; omega, form_posR (by omega), textForm_len _, by have := textForm_len ur; have := form_len kd; rw [List.length_append]; omega⟩)
    go_enter Tryz.func83, Tryz.ntmps83
    go_wp2_with (go_at_call 120
                 rw [← hw1]
                 refine Calls.mono (CR.out _) ?_
                 rintro e w2 ⟨rfl, b2⟩
                 have B2 := (show Hid (Below w1.heap.size w1 w2) from b2)
                 have KD := (show Hid (Below w1.heap.size w1 w2.drew) from b2.trans (below_drewN 1))
                 clear hw1 b2
                 obtain ⟨d1, d2, d3⟩ := HS.out _ B2.out)
    go_region_held3 (fun w' => w'.cell? ⟨w.heap.size, 0, none⟩ = some (.int .i64 kd) ∧ w'.cell? ⟨w.heap.size, 1, none⟩ = some (.string ur) ∧ w'.cell? ⟨w.heap.size, 2, none⟩ = some (.string bo))
      (first | exact HS.out _ KD.out | exact HS.out _ B3.out | exact HS.out _ B4.out | exact HS.out _ (B4.out.alloc B4.out.size _) | exact HS.out _ B5.out)
      (first
        | (go_at_call 122
           with_reducible refine Calls.mono (C1.out _) ?_
           rintro e w3 ⟨v3, rfl, o3, b3⟩
           obtain ⟨a3, c3, e3, _⟩ := o3.sl
           subst e3
           have B3 := (show Hid (Below w1.heap.size w1 w3) from KD.out.trans (b3.mono KD.out.size))
           have O3 := (show Hid (Own w1.heap.size 5 .u8 w3 (.slice a3 (form kd).length c3) (form kd)) from o3.base KD.out.size)
           clear b3 o3)
        | (go_at_call 123
           with_reducible refine Calls.mono (C2.out _) ?_
           rintro e w4 ⟨v4, rfl, o4, b4⟩
           obtain ⟨a4, c4, e4, _⟩ := o4.sl
           subst e4
           have B4 := (show Hid (Below w1.heap.size w1 w4) from B3.out.trans (b4.mono B3.out.size))
           have O34 := (show Hid (Own w1.heap.size 5 .u8 w4 (.slice a3 (form kd).length c3) (form kd)) from O3.out.below b4)
           have O4 := (show Hid (Own w3.heap.size 5 .u8 w4 (.slice a4 (textForm ur).length c4) (textForm ur)) from o4)
           clear b4 o4)
        | (go_at_call 121
           with_reducible refine Calls.mono (iconcat2 O34.out.sl O4.out.sl L1.out.1 L1.out.2.1 L1.out.2.2.1) ?_
           rintro e w5 ⟨v5, rfl, o5, b5⟩
           have B5 := (show Hid (Below w1.heap.size w1 w5) from B4.out.trans (b5.mono B4.out.size))
           have O5 := (show Hid (Own w1.heap.size 5 .u8 w5 v5 (form kd ++ textForm ur)) from o5.base B4.out.size)
           clear b5 o5))
    obtain ⟨d1, d2, d3⟩ := HS.out _ B5.out
    have S1 := (show Hid (w.heap.size ≤ w1.heap.size) from H1.out.1.size)
    by_cases hk : kd = 1
    · subst hk
      go_wp2_with (first
        | (go_at_call 123
           with_reducible refine Calls.mono (C3.out _) ?_
           rintro e w6 ⟨v6, rfl, o6, b6⟩
           have B6 := (show Hid (Below w1.heap.size w1 w6) from B5.out.trans (b6.mono B5.out.size))
           have O56 := (show Hid (Own w1.heap.size 5 .u8 w6 v5 (form 1 ++ textForm ur)) from O5.out.below b6)
           have O6 := (show Hid (Own w5.heap.size 5 .u8 w6 v6 (textForm bo)) from o6)
           clear b6 o6)
        | (at_builtin
           refine wpList_app _ rfl _ _ 68 rfl w1.heap.size 5 i0 (.int .u8 0) 1 Tryz.underlying68 hi hz0 hz1 hz2 rfl .u8 v5 v6 (form 1 ++ textForm ur) (textForm bo) rfl rfl O56.out O6.out.sl (by have := L1.out; omega) (by have := L1.out; unfold maxLen; omega) B6.out.size ?_
           intro v7 w7 o7 g7
           have B7 := (show Hid (Below w1.heap.size w1 w7) from B6.out.grown g7 B6.out.size (fun r e => (World.ownsRow.lt O56.out r e).1))
           have O7 := (show Hid (Own w1.heap.size 5 .u8 w7 v7 (form 1 ++ textForm ur ++ textForm bo)) from o7)
           clear o7 g7))
      go_ret2
      refine ⟨_, by rw [HR.out]; rfl, ?_, H1.out.1.trans (B7.out.mono S1.out)⟩
      rw [HR.out, HL.out, if_pos trivial]
      exact O7.out.base S1.out
    · have hkn : (kd == 1) = false := by simp [hk]
      have HN := (show Hid (¬ kd = 1) from hk)
      go_wp2
      go_ret2
      refine ⟨_, by rw [HR.out]; rfl, ?_, H1.out.1.trans (B5.out.mono S1.out)⟩
      rw [HR.out, HL.out, if_neg HN.out, List.append_nil]
      exact O5.out.base S1.out
end Go.Proofs.YtjokajblihaphaaGreatDoor

/- The program's byteReader: text. -/
namespace Go.Proofs.YtjokajblihaphaaGreatDoor
open Go.RowKit
set_option maxRecDepth 100000
set_option linter.unusedVariables false

theorem wrap_fit7 {x : Int} (h0 : -9223372036854775808 ≤ x) (h1 : x ≤ 9223372036854775807) : IntKind.i64.wrap x = x := by
  simp [IntKind.wrap, IntKind.bits, IntKind.signed]; omega

set_option maxHeartbeats 1000000 in
theorem text_any {w0 : World} {g : Nat} {v : Value} {xs : List Int} {i : Int} {w : World} (h : Rdr w0 g v xs i w) (hb : ∀ x ∈ xs, 0 ≤ x ∧ x ≤ 255) :
    Calls Tryz.prog 236 #[.pointer (some ⟨g, 0, none⟩)] w fun e w' => ((∃ t j, rdT xs i = some (t, j) ∧ e = .returned (.string (strOf t)) ∧ Rdr w0 g v xs j w') ∨ (rdT xs i = none ∧ Bad e ∧ ∃ j, Rdr w0 g v xs j w')) ∧ w.grownBy w' (some g) := by
  have CALL := (show Hid (Calls Tryz.prog 193 #[.pointer (some ⟨g, 0, none⟩)] w _) from num_any h hb)
  go_enter Tryz.func236, Tryz.ntmps236
  go_wp2_with fail
  go_at_call 193
  refine CALL.out.mono ?_
  rintro e w2 ⟨hor, g2⟩
  clear CALL
  rcases hor with ⟨y, n, hy, rfl, r2⟩ | ⟨hy, ⟨t, s, rfl⟩, j, r2⟩
  · obtain ⟨k, p, rfl, hp, hpl, hkm, -⟩ := rdI_nats hy hb
    rw [hp] at r2
    obtain ⟨c0, c1, f1⟩ := r2.cells
    have h4 := r2.2.2.2.1
    have hsl := r2.sl
    have R2 := (show Hid (_ ∧ _) from ⟨r2, g2⟩)
    by_cases hk : (k : Int) ≤ xs.length - (p : Int)
    · have HT := (show Hid (_ = _) from rdT_fit hy hp hk)
      clear hy hp r2 g2 h
      obtain ⟨a, ca, rfl, hl1, hl2, hl3, ha⟩ := hsl
      clear ha
      have hwr : IntKind.i64.wrap ((xs.length : Int) - (p : Int)) = (xs.length : Int) - (p : Int) := wrap_fit7 (by omega) (by omega)
      go_wp2
      go_region_held (fun w' => w'.cell? ⟨g, 0, none⟩ = some (.slice a xs.length ca) ∧ w'.cell? ⟨g, 1, none⟩ = some (.int .i64 p)) (go_keep)
        ((go_at_call 235; refine (need_yes _).mono ?_; rintro e w4 ⟨rfl, rfl⟩))
      go_wp2
      refine region_tail 9 (by kernel_rfl) (by kernel_rfl) ?_
      intro w1 K1 hW1 hK1
      have ne := One.any w1
      have r3 : Rdr w0 g (.slice a xs.length ca) xs ((p : Int) + (k : Int)) w1 := by rw [hW1.out]; exact ((R2.out.1.set _).drewN 1).drewN 1
      have g3 : w.grownBy w1 (some g) := by rw [hW1.out]; exact grown_trans (grown_trans R2.out.2 (grown_setCell w2 g 1 (.int .i64 ((p : Int) + (k : Int))))) (grown_drewN _ 2 _)
      have hs1 := r3.sl
      obtain ⟨e0, e1, _⟩ := r3.cells
      have d1 : ∀ n : One w1, n.w.cell? ⟨g, 1, none⟩ = some (.int .i64 ((p : Int) + (k : Int))) := fun n => by rw [n.eq]; exact e1
      have d0 : ∀ n : One w1, n.w.cell? ⟨g, 0, none⟩ = some (.slice a xs.length ca) := fun n => by rw [n.eq]; exact e0
      have END := (show Hid (_ ∧ _ ∧ _) from ⟨HT.out, r3, g3⟩)
      clear HT R2 hW1 r3 g3 c0 c1 f1 hwr
      simp only [List.take_succ_cons, List.take_zero, List.drop_succ_cons, List.drop_zero] at hK1 ⊢
      repeat (go_big_quiet_step (fail))
      refine wpQuiet_nil ?_
      refine hK1.out _ ?_
      clear hK1
      by_cases hca : ca = p
      · subst hca
        obtain rfl : k = 0 := by omega
        have cv := conv_sl (sub_sl0 (K := .u8) (w := w1) a)
        go_wp2
        go_ret
        obtain ⟨t1, t2, t3⟩ := END.out
        exact ⟨.inl ⟨_, _, t1, by simp, t2⟩, t3⟩
      · have cv := conv_sl (sub_sl hs1 (p := p) (k := k) (by omega) hca)
        go_wp2
        go_ret
        obtain ⟨t1, t2, t3⟩ := END.out
        exact ⟨.inl ⟨_, _, t1, rfl, t2⟩, t3⟩
    · have HT := (show Hid (_ = _) from rdT_over hy hp hk)
      clear hy hp r2 g2 h
      obtain ⟨a, ca, rfl, hl1, hl2, hl3, ha⟩ := hsl
      clear ha
      have hk' : decide ((k : Int) ≤ xs.length - (p : Int)) = false := by simp; omega
      go_wp2
      refine region_tail 12 (by kernel_rfl) (by kernel_rfl) ?_
      intro w1 K1 hW1 hK1
      have ne := One.any w1
      have d1 : ∀ n : One w1, n.w.cell? ⟨g, 1, none⟩ = some (.int .i64 p) := fun n => by rw [n.eq, hW1.out]; exact c1
      have d0 : ∀ n : One w1, n.w.cell? ⟨g, 0, none⟩ = some (.slice a xs.length ca) := fun n => by rw [n.eq, hW1.out]; exact c0
      simp only [List.take_succ_cons, List.take_zero, List.drop_succ_cons, List.drop_zero] at hK1 ⊢
      repeat (go_big_quiet_step (fail))
      refine wpQuiet_nil ?_
      refine hK1.out _ ?_
      clear hK1
      go_wp2_with fail
      go_at_call 235
      refine (need_no _).mono ?_
      rintro e w4 ⟨⟨t, s, rfl⟩, rfl⟩
      go_wp2
      rw [hW1.out]
      exact ⟨rfl, .inr ⟨HT.out, ⟨_, _, rfl⟩, _, R2.out.1.drewN 1⟩, grown_trans R2.out.2 (grown_drewN w2 1 _)⟩
  · have END := (show Hid (_ ∧ _ ∧ _) from ⟨rdT_none hy, r2, g2⟩)
    clear hy r2 g2
    go_wp2
    exact ⟨rfl, .inr ⟨END.out.1, ⟨_, _, rfl⟩, _, END.out.2.1⟩, END.out.2.2⟩
end Go.Proofs.YtjokajblihaphaaGreatDoor
