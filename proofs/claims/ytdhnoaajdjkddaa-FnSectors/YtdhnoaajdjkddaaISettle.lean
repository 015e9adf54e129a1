/- The program's settled, as DiskSync and DiskCrash call it (written by mk/isettle.py). No condition. -/
import Derived.Test.YtdhnoaajdjkddaaISec2
import Derived.Test.YtdhnoaajdjkddaaDiskS5
import Derived.Deep.RegionHeld3
namespace Go.Proofs.Ytdhnoaajdjkddaa
open Go.RowKit
set_option maxRecDepth 100000
set_option linter.unusedVariables false

theorem bit_all (k : Nat) : bitB 2147483647 k = true := by
  have h : ∀ m : Fin 31, (2147483647 : Int) / 2 ^ m.val % 2 = 1 := by decide
  have := h ⟨k % 31, by omega⟩
  simpa [bitB] using this
theorem isync1_any (k : Nat) (w : World) : Calls Try.prog 40 #[.int .i64 (k : Int)] w fun e w' => e = .returned (.bool (bitB 2147483647 k)) ∧ Below w.heap.size w w' := by
  rw [bit_all]
  go_enter Try.func40, Try.ntmps40
  go_wp2
  go_ret
  exact ⟨rfl, Below.refl _ _⟩
theorem icrash1_any (k : Nat) (w : World) (g : Nat) (keep : Int) (hk : 0 ≤ keep ∧ keep ≤ 2147483647) (hn : k ≤ 1048576) (hg : w.cell? ⟨g, 0, none⟩ = some (.int .i64 keep)) :
    Calls Try.prog 37 #[.int .i64 (k : Int), .pointer (some ⟨g, 0, none⟩)] w fun e w' => e = .returned (.bool (bitB keep k)) ∧ Below w.heap.size w w' := by
  have h31 : ((k : Int)).tmod 31 = ((k % 31 : Nat) : Int) := by rw [Int.tmod_eq_emod_of_nonneg (by omega)]; omega
  have hbit := bit_run hk k
  obtain ⟨q, hq⟩ : ∃ q, q = bitB keep k := ⟨_, rfl⟩
  rw [← hq] at hbit ⊢
  clear hq
  go_enter Try.func37, Try.ntmps37
  go_wp2
  go_ret
  exact ⟨by first | rfl | (rw [← hbit]; rfl), Below.refl _ _⟩

theorem done64 {keep : Int} {d : PDisk} (hb : diskB d = true) (k : Nat) : ∀ t ∈ doneN keep d.safe d.late k, t.size = 64 := by
  have h1 : ∀ t ∈ d.safe, t.size = 64 := fun t ht => by obtain ⟨i, hi, rfl⟩ := List.getElem_of_mem ht; exact diskB_safe hb hi
  induction k with
  | zero => exact h1
  | succ k ih =>
    by_cases hlt : k < d.late.length
    · rw [doneN_succ hlt]
      split
      · exact sizes_set ih (diskB_late hb hlt).2.2
      · exact ih
    · intro t ht
      rw [doneN, List.getElem?_eq_none (by omega)] at ht
      exact ih t ht

/-- While the puts are done: k of them are. -/
structure SetI (w : World) (d : PDisk) (keep : Int) (g1 g2 c2 : Nat) (sa : Option Addr) (sn sc : Nat) (la : Option Addr) (lc k : Nat) (W : World) : Prop where
  was : OwnK w.heap.size W g1 d.safe.length d.safe.length d.safe
  now : OwnK w.heap.size W g2 d.safe.length c2 (doneN keep d.safe d.late k)
  arg : W.heap[w.heap.size]? = some (.cells #[.slice sa sn sc, .slice la d.late.length lc] 27 (0, 0))
  res : W.heap[w.heap.size + 1]? = some (.cells #[.slice none 0 0, .slice none 0 0] 27 (0, 0))
  bel : Below w.heap.size w W
  ne : g1 ≠ g2
  lo : w.heap.size + 1 < g1 ∧ w.heap.size + 1 < g2
theorem SetI.below {w : World} {d : PDisk} {keep : Int} {g1 g2 c2 : Nat} {sa : Option Addr} {sn sc : Nat} {la : Option Addr} {lc k : Nat} {W W' : World} (h : SetI w d keep g1 g2 c2 sa sn sc la lc k W) (b : Below W.heap.size W W') : SetI w d keep g1 g2 c2 sa sn sc la lc k W' :=
  ⟨ownsRow_below h.was b, ownsRow_below h.now b, (b.block _ (lt_of_block h.arg)).trans h.arg, (b.block _ (lt_of_block h.res)).trans h.res, h.bel.trans (b.mono h.bel.size), h.ne, h.lo⟩
theorem SetI.store {w : World} {d : PDisk} {keep : Int} {g1 g2 c2 : Nat} {sa : Option Addr} {sn sc : Nat} {la : Option Addr} {lc k m : Nat} {W W' : World} (h : SetI w d keep g1 g2 c2 sa sn sc la lc k W) {ts : List ByteArray} (hn : doneN keep d.safe d.late m = ts) (o : OwnK w.heap.size W' g2 d.safe.length c2 ts) (g : W.grownBy W' (some g2)) : SetI w d keep g1 g2 c2 sa sn sc la lc m W' := by
  refine ⟨?_, by rw [hn]; exact o, rk_keep h.now g h.arg (by decide), rk_keep h.now g h.res (by decide), h.bel.grown g h.bel.size (fun r e => by cases e; have := h.lo.2; omega), h.ne, h.lo⟩
  exact h.was.kept g (.inr (by intro e; exact h.ne (by simpa [Value.ownBlock] using e)))
theorem SetI.next {w : World} {d : PDisk} {keep : Int} {g1 g2 c2 : Nat} {sa : Option Addr} {sn sc : Nat} {la : Option Addr} {lc k m : Nat} {W : World} (h : SetI w d keep g1 g2 c2 sa sn sc la lc k W) (hn : doneN keep d.safe d.late m = doneN keep d.safe d.late k) : SetI w d keep g1 g2 c2 sa sn sc la lc m W :=
  ⟨h.was, by rw [hn]; exact h.now, h.arg, h.res, h.bel, h.ne, h.lo⟩

theorem isectorFrom_L (s : ByteArray) (w : World) (hs : s.size = 64) : Calls Try.prog 69 #[.string s] w fun e w' => e = .returned (.agg (secL s).toArray) ∧ Below w.heap.size w w' := isectorFrom_any s w hs
theorem drew1 (w : World) : Below w.heap.size w w.drew := below_drewN 1
theorem set_far {w : World} {b g o k : Nat} {cs : List Value} {u : Option Value} (hne : b ≠ g) (h : w.cell? ⟨b, k, none⟩ = u) : (w.setCells g o cs).cell? ⟨b, k, none⟩ = u :=
  (World.cell?_setCells_out g cs o w ⟨b, k, none⟩ (fun e _ => absurd e hne)).trans h
theorem SetI.other {w : World} {d : PDisk} {keep : Int} {g1 g2 c2 : Nat} {sa : Option Addr} {sn sc : Nat} {la : Option Addr} {lc k : Nat} {W W' : World} (h : SetI w d keep g1 g2 c2 sa sn sc la lc k W) {v : Value} {n : Nat} {xs : List Value} (o : W.ownsRow w.heap.size 9 1 v n xs) (g : W.grownBy W' v.ownBlock) : SetI w d keep g1 g2 c2 sa sn sc la lc k W' :=
  ⟨rk_other o g h.was (by decide), rk_other o g h.now (by decide), rk_keep o g h.arg (by decide), rk_keep o g h.res (by decide), h.bel.grown g h.bel.size (fun r e => (World.ownsRow.lt o r e).1), h.ne, h.lo⟩
/-- The texts of which k are as they are done, the others as they were. -/
def half (a b : List ByteArray) (k : Nat) : List ByteArray := a.take k ++ b.drop k
theorem half_len {a b : List ByteArray} (h : a.length = b.length) {k : Nat} (hk : k ≤ b.length) : (half a b k).length = b.length := by
  rw [half, List.length_append, List.length_take, List.length_drop]; omega
theorem half_set {a b : List ByteArray} (h : a.length = b.length) {k : Nat} (hk : k < b.length) : (half a b k).set k (a[k]'(by omega)) = half a b (k + 1) := by
  have e1 : (a.take k).length = k := by rw [List.length_take]; omega
  rw [half, half, List.set_append_right _ _ (by omega), e1, Nat.sub_self, List.drop_eq_getElem_cons hk, List.set_cons_zero, List.take_succ_eq_append_getElem (by omega), List.append_assoc]
  rfl
theorem half_same {a b : List ByteArray} (h : a.length = b.length) {k : Nat} (hk : k < b.length) (he : a[k]'(by omega) = b[k]) : half a b k = half a b (k + 1) := by
  have e1 : a.take (k + 1) = a.take k ++ [a[k]'(by omega)] := List.take_succ_eq_append_getElem (by omega)
  rw [half, half, e1, List.drop_eq_getElem_cons hk, he, List.append_assoc]
  rfl
theorem sec_eq (s t : ByteArray) (hs : s.size = 64) (ht : t.size = 64) (w : World) : (Op.equalIn 10000 80 (.agg (secL s).toArray) (.agg (secL t).toArray)).run Try.prog w = .ok (decide (s = t)) w := by
  have e1 : (secL s).toArray = (s.data.toList.map Extern.Stop.cell).toArray := by simp [secL, bs, Extern.Stop.cell]
  have e2 : (secL t).toArray = (t.data.toList.map Extern.Stop.cell).toArray := by simp [secL, bs, Extern.Stop.cell]
  rw [e1, e2, run_equalIn_bytes w 9998 80 5 64 Try.underlying80 Try.underlying5 (fun w => by simp [sizeOf, typeInfo]; first | rfl | kernel_rfl) _ _ (by rw [Array.length_toList]; exact hs) (by rw [Array.length_toList]; exact ht)]
  by_cases h : s = t
  · subst h; simp
  · have : ¬ s.data = t.data := fun e => h (by cases s; cases t; simpa using e)
    simp [h, this]
theorem itext_L (s : ByteArray) (w : World) (hs : s.size = 64) : Calls Try.prog 59 #[.agg (secL s).toArray] w fun e w' => e = .returned (.string s) ∧ Below w.heap.size w w' := itext_any s w hs

set_option maxHeartbeats 2000000 in
set_option maxRecDepth 100000 in
theorem isettledS_any {w : World} {v : Value} {d : PDisk} (h : DiskAt w v d) (hf : DiskFit d) (hb : diskB d = true) :
    Calls Try.prog 36 #[v, .func (.func 40) #[] #[]] w fun e w' => ∃ v', e = .returned v' ∧ OwnDk w.heap.size w' v' (doneDk 2147483647 d) ∧ Below w.heap.size w w' := by
  obtain ⟨sa, sn, sc, la, ln, lc, rfl, h1, h2⟩ := h
  have f1 := hf.sl
  have f2 := hf.ll
  obtain ⟨_, _, e1, _, _, _⟩ := h1.str
  cases e1
  obtain ⟨a2, c2, e2, _, _, hp⟩ := h2.put
  cases e2
  have H1 := (show Hid (Sv 1 w (.slice sa d.safe.length sc) (strCells d.safe)) from h1)
  have HP := (show Hid (∀ k (hk : k < d.late.length), ∃ b off, la = some ⟨b, off, none⟩ ∧ b < w.heap.size ∧ w.cell? ⟨b, off + k * 2, none⟩ = some (.int .i64 d.late[k].1) ∧ w.cell? ⟨b, off + k * 2 + 1, none⟩ = some (.string d.late[k].2)) from hp)
  have HB := (show Hid (diskB d = true) from hb)
  have HS := (show Hid (∀ t ∈ d.safe, t.size = 64) from done64 (keep := 2147483647) hb 0)
  clear h1 h2 hp hb hf
  obtain ⟨W, hW⟩ : ∃ x, x = ((w.alloc (.cells #[.slice sa d.safe.length sc, .slice la d.late.length lc] 27)).alloc (.cells #[.slice none 0 0, .slice none 0 0] 27)) := ⟨_, rfl⟩
  have bW : Below w.heap.size w W := by rw [hW]; exact ((Below.refl _ _).alloc (Nat.le_refl _) _).alloc (by simp) _
  have hS : w.heap.size + 1 < W.heap.size := by rw [hW, World.size_alloc, World.size_alloc]; omega
  have x1 : W.heap[w.heap.size]? = some (.cells #[.slice sa d.safe.length sc, .slice la d.late.length lc] 27 (0, 0)) := by rw [hW, Below.heap_alloc _ _ _ (by simp)]; exact World.alloc_heap_new _ _
  have x2 : W.heap[w.heap.size + 1]? = some (.cells #[.slice none 0 0, .slice none 0 0] 27 (0, 0)) := by
    rw [hW]
    have := World.alloc_heap_new (w.alloc (.cells #[.slice sa d.safe.length sc, .slice la d.late.length lc] 27)) (.cells #[.slice none 0 0, .slice none 0 0] 27)
    rwa [World.size_alloc] at this
  have BW := (show Hid (Below w.heap.size w W) from bW)
  have X1 := (show Hid _ from x1)
  have X2 := (show Hid _ from x2)
  have HSZ := (show Hid (w.heap.size + 1 < W.heap.size) from hS)
  clear bW x1 x2 hS
  go_enter Try.func36, Try.ntmps36
  go_wp2_with fail
  go_at_call 67
  rw [← hW]
  refine (isectorsFrom_any (H1.out.below BW.out) f1 HS.out).mono ?_
  rintro e w1 ⟨g1, rfl, o1, b1⟩
  clear hW
  have hg1 := (World.ownsRow.lt o1 g1 rfl)
  have CC := icopyK_any (sv_of_own o1) (m := d.safe.length) (by rw [secCells_len HS.out]) f1
  have O1 := (show Hid (OwnK W.heap.size w1 g1 d.safe.length d.safe.length d.safe) from o1)
  have B1 := (show Hid (Below W.heap.size W w1) from b1)
  have G1 := (show Hid (W.heap.size ≤ g1 ∧ g1 < w1.heap.size) from hg1)
  have C1 := (show Hid _ from CC)
  clear o1 b1 hg1 CC
  go_wp2_with fail
  go_at_call 68
  refine Calls.mono C1.out ?_
  rintro e w2 ⟨v2, rfl, o2, b2⟩
  clear C1
  have hl130 := (diskB_len HB.out).1
  have o2' : w2.ownsRow w1.heap.size 80 64 v2 d.safe.length (secCells d.safe) := by
    rcases o2 with o2 | ⟨h0, _⟩
    · exact o2
    · omega
  obtain ⟨g2, c2, rfl, hg2, hl2⟩ := rk_form o2' (by omega)
  have B2 := (show Hid (Below W.heap.size W w2) from B1.out.trans (b2.mono B1.out.size))
  have I0 : Hid (SetI w d 2147483647 g1 g2 c2 sa d.safe.length sc la lc 0 w2) := ⟨rk_base (ownsRow_below O1.out b2) BW.out.size, rk_base o2' (Nat.le_trans BW.out.size B1.out.size), (B2.out.block _ (lt_of_block X1.out)).trans X1.out, (B2.out.block _ (lt_of_block X2.out)).trans X2.out, BW.out.trans (B2.out.mono BW.out.size), (by have := G1.out; omega), (by have := G1.out; have := HSZ.out; omega)⟩
  obtain ⟨q1, q2, _, _⟩ := rk_two I0.out.arg
  clear o2 o2' b2 O1 B1 B2 hg2 hl2 G1 X1 X2 hl130 BW HSZ
  go_wp2
  clear q1 q2
  go_loopw [19] (fun i wr => ∃ k : Nat, k ≤ d.late.length ∧ i = .int .i64 k ∧ SetI w d 2147483647 g1 g2 c2 sa d.safe.length sc la lc k wr) (fun i _ => d.late.length - (intOf i).toNat)
  case atStart => exact ⟨0, Nat.zero_le _, rfl, I0.out⟩
  case round =>
    clear I0
    obtain ⟨k, hk', rfl, hI⟩ := hrel
    have HI := (show Hid (SetI w d 2147483647 g1 g2 c2 sa d.safe.length sc la lc k wr) from hI)
    clear hI
    by_cases hlt : k < d.late.length
    · obtain ⟨b, o, rfl, hb, c3, c4⟩ := HP.out k hlt
      have c3' := (HI.out.bel.cell (p := ⟨b, o + k * 2, none⟩) hb).trans c3
      have c4' := (HI.out.bel.cell (p := ⟨b, o + k * 2 + 1, none⟩) hb).trans c4
      have hr := diskB_late HB.out hlt
      have HN := (show Hid (doneN 2147483647 d.safe d.late (k + 1) = if bitB 2147483647 k then (doneN 2147483647 d.safe d.late k).set d.late[k].1.toNat d.late[k].2 else doneN 2147483647 d.safe d.late k) from doneN_succ hlt)
      obtain ⟨z, hz⟩ : ∃ z, z = d.late[k] := ⟨_, rfl⟩
      rw [← hz] at c3' c4' HN hr
      obtain ⟨za, zs⟩ := z
      simp only at c3' c4' HN hr
      clear hz c3 c4
      obtain ⟨m, rfl⟩ := Int.eq_ofNat_of_zero_le hr.1
      have hm : m < d.safe.length := by have := (diskB_len HB.out).1; omega
      have H64 := (show Hid (zs.size = 64) from hr.2.2)
      clear hr
      obtain ⟨wx, hwx⟩ : ∃ wx, wx = wr.alloc (.cells #[.int .i64 (m : Int), .string zs] 37) := ⟨_, rfl⟩
      have bx : Below wr.heap.size wr wx := by rw [hwx]; exact (Below.refl _ _).alloc (Nat.le_refl _) _
      have xx : wx.heap[wr.heap.size]? = some (.cells #[.int .i64 (m : Int), .string zs] 37 (0, 0)) := by rw [hwx]; exact World.alloc_heap_new _ _
      have IX := (show Hid (SetI w d 2147483647 g1 g2 c2 sa d.safe.length sc (some ⟨b, o, none⟩) lc k wx) from HI.out.below bx)
      have XX := (show Hid _ from xx)
      have hg2lt : g2 < wr.heap.size := (World.ownsRow.lt HI.out.now g2 rfl).2
      have HNE := (show Hid (wr.heap.size ≠ g2) from by show wr.heap.size ≠ g2; omega)
      have CC := isync1_any k wx
      obtain ⟨q, hq⟩ : ∃ q, q = bitB 2147483647 k := ⟨_, rfl⟩
      rw [← hq] at CC HN
      have C2 := (show Hid _ from CC)
      clear bx xx CC hg2lt hq
      go_wp2_with fail
      go_at_call 40
      rw [← hwx]
      refine Calls.mono C2.out ?_
      rintro e w3 ⟨rfl, b3⟩
      clear C2 hwx c3' c4'
      have I3 := (show Hid (SetI w d 2147483647 g1 g2 c2 sa d.safe.length sc (some ⟨b, o, none⟩) lc k w3) from IX.out.below b3)
      have x3 := (b3.block _ (lt_of_block XX.out)).trans XX.out
      have X3 := (show Hid _ from x3)
      clear IX XX b3 HI
      cases q
      · have HN' : Hid (doneN 2147483647 d.safe d.late (k + 1) = doneN 2147483647 d.safe d.late k) := (show _ = _ by rw [HN.out]; rfl)
        clear HN x3
        go_wp2
        go_roundw
        case rel => exact ⟨k + 1, by omega, by go_num, I3.out.next HN'.out⟩
        case measure => simp [intOf]; omega
      · have HN' : Hid (doneN 2147483647 d.safe d.late (k + 1) = (doneN 2147483647 d.safe d.late k).set m zs) := (show _ = _ by rw [HN.out]; simp)
        obtain ⟨y1, y2, _, _⟩ := rk_two x3
        have hlen : (secL zs).length = 64 := by rw [secL_len]; exact H64.out
        have hsz : (Try.prog.info? 80).map (·.size) = some (secL zs).length := by rw [hlen]; kernel_rfl
        have hone : ∀ v ∈ secL zs, v.oneCell' = true := secL_one zs
        have hml : m < (doneN 2147483647 d.safe d.late k).length := by rw [doneN_len]; exact hm
        have KD := (show Hid (w3.drew.cell? ⟨wr.heap.size, 0, none⟩ = some (.int .i64 (m : Int)) ∧ w3.drew.cell? ⟨wr.heap.size, 1, none⟩ = some (.string zs) ∧ w3.drew.there g2 (m * 64) 64) from ⟨y1, y2, I3.out.now.there (done64 HB.out k) hml⟩)
        have HML := (show Hid _ from hml)
        clear HN y1 y2 x3 hml
        go_wp2
        go_region_held3 (fun w' => w'.cell? ⟨wr.heap.size, 0, none⟩ = some (.int .i64 (m : Int)) ∧ w'.cell? ⟨wr.heap.size, 1, none⟩ = some (.string zs) ∧ w'.there g2 (m * 64) 64)
          (first | exact KD.out | exact KE.out | exact ⟨set_far HNE.out KE.out.1, set_far HNE.out KE.out.2.1, World.there_setCells KE.out.2.2 _ _ _⟩)
          (first
            | (go_at_call 69
               refine (isectorFrom_L zs _ H64.out).mono ?_
               rintro e w4 ⟨rfl, b4⟩
               have b34 : Below w3.heap.size w3 w4 := (drew1 w3).trans (b4.mono (drew1 w3).size)
               have I4 := (show Hid (SetI w d 2147483647 g1 g2 c2 sa d.safe.length sc (some ⟨b, o, none⟩) lc k w4) from I3.out.below b34)
               obtain ⟨y1, y2, _, _⟩ := rk_two ((b34.block _ (lt_of_block X3.out)).trans X3.out)
               have KE := (show Hid (w4.cell? ⟨wr.heap.size, 0, none⟩ = some (.int .i64 (m : Int)) ∧ w4.cell? ⟨wr.heap.size, 1, none⟩ = some (.string zs) ∧ w4.there g2 (m * 64) 64) from ⟨y1, y2, I4.out.now.there (done64 HB.out k) HML.out⟩)
               clear y1 y2 b4 b34))
        all_goals
          obtain ⟨o5, gr5⟩ := I4.out.now.stored (done64 HB.out k) HML.out H64.out
          have I5 := (show Hid (SetI w d 2147483647 g1 g2 c2 sa d.safe.length sc (some ⟨b, o, none⟩) lc (k + 1) (w4.setCells g2 (m * 64) (secL zs))) from I4.out.store HN'.out o5 gr5)
          clear o5 gr5
          go_wp2
          go_roundw
          case rel => exact ⟨k + 1, by omega, by go_num, I5.out⟩
          case measure => simp [intOf]; omega
    · obtain rfl : k = d.late.length := by omega
      obtain ⟨q1, q2, _, _⟩ := rk_two HI.out.arg
      have C1 := (show Hid _ from icopyS_any (H1.out.below HI.out.bel) (m := d.safe.length) (by rw [strCells_len]; omega) f1)
      go_wp2_with fail
      go_at_call 70
      refine Calls.mono C1.out ?_
      rintro e w5 ⟨v5, rfl, o5, b5⟩
      clear C1 q1 q2
      have hl130 := (diskB_len HB.out).1
      have o5' : w5.ownsRow wr.heap.size 9 1 v5 d.safe.length (strCells d.safe) := by
        rcases o5 with o5 | ⟨h0, _⟩
        · exact o5
        · omega
      obtain ⟨g3, c3, rfl, hg3, hl3⟩ := rk_form o5' (by omega)
      have I5 := (show Hid (SetI w d 2147483647 g1 g2 c2 sa d.safe.length sc la lc d.late.length w5) from HI.out.below b5)
      have O5 := (show Hid (w5.ownsRow w.heap.size 9 1 (.slice (some ⟨g3, 0, none⟩) d.safe.length c3) d.safe.length (strCells d.safe)) from rk_base o5' HI.out.bel.size)
      clear o5 o5' b5 hg3 hl3 HI HP hl130
      obtain ⟨dn, hdn⟩ : ∃ x, x = doneN 2147483647 d.safe d.late d.late.length := ⟨_, rfl⟩
      have hdl : dn.length = d.safe.length := by rw [hdn]; exact doneN_len _ _ _ _
      have HD64 := (show Hid (∀ t ∈ dn, t.size = 64) from by rw [hdn]; exact done64 HB.out _)
      have HDN := (show Hid _ from hdn)
      clear hdn
      go_wp2
      go_loopw [40] (fun i wr => ∃ k : Nat, k ≤ d.safe.length ∧ i = .int .i64 k ∧ SetI w d 2147483647 g1 g2 c2 sa d.safe.length sc la lc d.late.length wr ∧ wr.ownsRow w.heap.size 9 1 (.slice (some ⟨g3, 0, none⟩) d.safe.length c3) d.safe.length (strCells (half dn d.safe k))) (fun i _ => d.safe.length - (intOf i).toNat)
      case atStart => exact ⟨0, Nat.zero_le _, rfl, I5.out, O5.out⟩
      case round =>
        clear I5 O5
        obtain ⟨k, hk2, rfl, hI, ho⟩ := hrel
        have HI := (show Hid (SetI w d 2147483647 g1 g2 c2 sa d.safe.length sc la lc d.late.length wr) from hI)
        have HO := (show Hid (wr.ownsRow w.heap.size 9 1 (.slice (some ⟨g3, 0, none⟩) d.safe.length c3) d.safe.length (strCells (half dn d.safe k))) from ho)
        clear hI ho
        by_cases hlt2 : k < d.safe.length
        · have hkd : k < dn.length := by omega
          have h64a := HD64.out _ (List.getElem_mem hkd)
          have h64b := HS.out _ (List.getElem_mem hlt2)
          have ra : wr.rangeAt g2 (k * 64) (secL dn[k]) := by
            have := HI.out.now.range (done64 HB.out _) (k := k) (by rw [← HDN.out]; exact hkd)
            simp only [← HDN.out] at this
            exact this
          have rb : wr.rangeAt g1 (k * 64) (secL d.safe[k]) := HI.out.was.range HS.out hlt2
          have HSET := (show Hid ((half dn d.safe k).set k dn[k] = half dn d.safe (k + 1)) from half_set hdl hlt2)
          have HSAME := (show Hid (dn[k] = d.safe[k] → half dn d.safe k = half dn d.safe (k + 1)) from half_same hdl hlt2)
          obtain ⟨xa, hxa⟩ : ∃ x, x = dn[k] := ⟨_, rfl⟩
          obtain ⟨xb, hxb⟩ : ∃ x, x = d.safe[k] := ⟨_, rfl⟩
          rw [← hxa] at h64a ra HSET HSAME
          rw [← hxb] at h64b rb HSAME
          clear hxa hxb
          have hla : (secL xa).length = 64 := by rw [secL_len]; exact h64a
          have hlb : (secL xb).length = 64 := by rw [secL_len]; exact h64b
          have hsa : (Try.prog.info? 80).map (·.size) = some (secL xa).length := by rw [hla]; kernel_rfl
          have hsb : (Try.prog.info? 80).map (·.size) = some (secL xb).length := by rw [hlb]; kernel_rfl
          have hus := Try.underlying80
          have heq := sec_eq xa xb h64a h64b
          have KD := (show Hid (wr.drew.rangeAt g2 (k * 64) (secL xa) ∧ wr.drew.rangeAt g1 (k * 64) (secL xb)) from ⟨ra, rb⟩)
          have HA := (show Hid (xa.size = 64 ∧ wr.drew.rangeAt g2 (k * 64) (secL xa)) from ⟨h64a, ra⟩)
          clear ra rb
          go_wp2
          refine wp_region_held_drew (S := fun w' => w'.rangeAt g2 (k * 64) (secL xa) ∧ w'.rangeAt g1 (k * 64) (secL xb)) (by kernel_rfl) KD.out (fun hHeld => ?_)
          refine wpAnyH_take (i := 0) (oi := { dst := some 43, op := Op.move (Operand.tmp 6), type := 85, pos := "l15_disk.go:76", after := #[], guard := none }) (v := ?_) rfl (by kernel_rfl) (by kernel_rfl) (by kernel_rfl) (fun _ _ _ h => h) (Or.inl ⟨by rfl, ?_⟩) hHeld ?_
          rotate_left
          · intro w hSw
            clear hSw
            go_simp
            try with_reducible rfl
          try simp only [Act.put, List.setIfInBounds_toArray, List.set_cons_zero, List.set_cons_succ]
          refine wpAnyH_take (i := 1) (oi := { dst := some 44, op := Op.move (Operand.tmp 10), type := 3, pos := "l15_disk.go:76", after := #[], guard := none }) (v := ?_) rfl (by kernel_rfl) (by kernel_rfl) (by kernel_rfl) (fun _ _ _ h => h) (Or.inl ⟨by rfl, ?_⟩) hHeld ?_
          rotate_left
          · intro w hSw
            clear hSw
            go_simp
            try with_reducible rfl
          try simp only [Act.put, List.setIfInBounds_toArray, List.set_cons_zero, List.set_cons_succ]
          refine wpAnyH_take (i := 4) (oi := { dst := some 47, op := Op.move (Operand.tmp 5), type := 85, pos := "l15_disk.go:76", after := #[], guard := none }) (v := ?_) rfl (by kernel_rfl) (by kernel_rfl) (by kernel_rfl) (fun _ _ _ h => h) (Or.inl ⟨by rfl, ?_⟩) hHeld ?_
          rotate_left
          · intro w hSw
            clear hSw
            go_simp
            try with_reducible rfl
          try simp only [Act.put, List.setIfInBounds_toArray, List.set_cons_zero, List.set_cons_succ]
          refine wpAnyH_take (i := 5) (oi := { dst := some 48, op := Op.move (Operand.tmp 10), type := 3, pos := "l15_disk.go:76", after := #[], guard := none }) (v := ?_) rfl (by kernel_rfl) (by kernel_rfl) (by kernel_rfl) (fun _ _ _ h => h) (Or.inl ⟨by rfl, ?_⟩) hHeld ?_
          rotate_left
          · intro w hSw
            clear hSw
            go_simp
            try with_reducible rfl
          try simp only [Act.put, List.setIfInBounds_toArray, List.set_cons_zero, List.set_cons_succ]
          refine wpAnyH_take (i := 2) (oi := { dst := some 45, op := Op.indexAddr 85 (Operand.tmp 43) (Operand.tmp 44), type := 0, pos := "l15_disk.go:76", after := #[{ on := 0, ground := Ground.data }, { on := 1, ground := Ground.data }], guard := none }) (v := ?_) rfl (by kernel_rfl) (by kernel_rfl) (by kernel_rfl) (fun _ _ _ h => h) (Or.inl ⟨by rfl, ?_⟩) hHeld ?_
          rotate_left
          · intro w hSw
            clear hSw
            go_simp
            try with_reducible rfl
          try simp only [Act.put, List.setIfInBounds_toArray, List.set_cons_zero, List.set_cons_succ]
          refine wpAnyH_take (i := 6) (oi := { dst := some 49, op := Op.indexAddr 85 (Operand.tmp 47) (Operand.tmp 48), type := 0, pos := "l15_disk.go:76", after := #[{ on := 4, ground := Ground.data }, { on := 5, ground := Ground.data }], guard := none }) (v := ?_) rfl (by kernel_rfl) (by kernel_rfl) (by kernel_rfl) (fun _ _ _ h => h) (Or.inl ⟨by rfl, ?_⟩) hHeld ?_
          rotate_left
          · intro w hSw
            clear hSw
            go_simp
            try with_reducible rfl
          try simp only [Act.put, List.setIfInBounds_toArray, List.set_cons_zero, List.set_cons_succ]
          refine wpAnyH_take (i := 3) (oi := { dst := some 46, op := Op.load 80 (Operand.tmp 45), type := 80, pos := "l15_disk.go:76", after := #[{ on := 2, ground := Ground.data }], guard := none }) (v := _) rfl (by kernel_rfl) (by kernel_rfl) (by kernel_rfl) (fun _ _ _ h => h) (yieldsIf_load_mid (by rfl) _ _ rfl _ _ rfl (secL xa) _ (fun w h => h.1) hus rfl hsa) hHeld ?_
          try simp only [Act.put, List.setIfInBounds_toArray, List.set_cons_zero, List.set_cons_succ]
          refine wpAnyH_take (i := 7) (oi := { dst := some 50, op := Op.load 80 (Operand.tmp 49), type := 80, pos := "l15_disk.go:76", after := #[{ on := 6, ground := Ground.data }], guard := none }) (v := _) rfl (by kernel_rfl) (by kernel_rfl) (by kernel_rfl) (fun _ _ _ h => h) (yieldsIf_load_mid (by rfl) _ _ rfl _ _ rfl (secL xb) _ (fun w h => h.2) hus rfl hsb) hHeld ?_
          try simp only [Act.put, List.setIfInBounds_toArray, List.set_cons_zero, List.set_cons_succ]
          refine wpAnyH_take (i := 8) (oi := { dst := some 51, op := Op.binOp BinOp.neq 80 (Operand.tmp 46) (Operand.tmp 50) 80, type := 4, pos := "l15_disk.go:76", after := #[{ on := 3, ground := Ground.data }, { on := 7, ground := Ground.data }], guard := none }) (v := ?_) rfl (by kernel_rfl) (by kernel_rfl) (by kernel_rfl) (fun _ _ _ h => h) (Or.inl ⟨by rfl, ?_⟩) hHeld ?_
          rotate_left
          · intro w hSw
            clear hSw
            go_simp
            try with_reducible rfl
          try simp only [Act.put, List.setIfInBounds_toArray, List.set_cons_zero, List.set_cons_succ]
          refine wpAnyH_done (by kernel_rfl) ?_ _
          have ID := (show Hid (SetI w d 2147483647 g1 g2 c2 sa d.safe.length sc la lc d.late.length wr.drew) from HI.out.below (drew1 wr))
          have OD := (show Hid (wr.drew.ownsRow w.heap.size 9 1 (.slice (some ⟨g3, 0, none⟩) d.safe.length c3) d.safe.length (strCells (half dn d.safe k))) from ownsRow_below HO.out (drew1 wr))
          clear hHeld KD HI HO heq
          obtain ⟨wd, hwd⟩ : ∃ x, x = wr.drew := ⟨_, rfl⟩
          rw [← hwd] at ID OD HA
          rw [← hwd]
          clear hwd
          cases hq : decide (xa = xb)
          · clear HSAME hq
            go_wp2_with (first
              | refine wpList_load_mid rfl 80 (.tmp 56) rfl g2 (k * 64) rfl (secL xa) _ HA.out.2 hus rfl hsa ?_
              | (go_at_call 59
                 refine (itext_L xa _ HA.out.1).mono ?_
                 rintro e w6 ⟨rfl, b6⟩
                 have I6 := (show Hid (SetI w d 2147483647 g1 g2 c2 sa d.safe.length sc la lc d.late.length w6) from ID.out.below b6)
                 have o6 := ownsRow_below OD.out b6
                 obtain ⟨z1, hc1⟩ : ∃ z, w6.cell? ⟨g3, k, none⟩ = some z := by
                   rw [o6.cellAt k (by omega)]; exact ⟨_, List.getElem?_eq_getElem (by rw [strCells_len, half_len hdl hk2]; exact hlt2)⟩
                 have fz := o6.frozenAt k
                 have s6 := o6.stored k (.string xa)
                 rw [strCells_set, HSET.out] at s6
                 have O6 := (show Hid _ from o6)
                 have S6 := (show Hid _ from s6)
                 clear o6 s6 b6))
            go_roundw
            case rel => exact ⟨k + 1, by omega, by go_num, I6.out.other O6.out S6.out.2, S6.out.1⟩
            case measure => simp [intOf]; omega
          · have HS' := (show Hid _ from HSAME.out (of_decide_eq_true hq))
            clear HSAME HSET hq
            go_wp2
            go_roundw
            case rel => exact ⟨k + 1, by omega, by go_num, ID.out, HS'.out ▸ OD.out⟩
            case measure => simp [intOf]; omega
        · obtain rfl : k = d.safe.length := by omega
          have hfin : half dn d.safe d.safe.length = dn := by rw [half, ← hdl, List.take_length, hdl, List.drop_length, List.append_nil]
          have o7 := HO.out
          rw [hfin] at o7
          have O7 := (show Hid _ from o7)
          obtain ⟨r1, r2, r3, r4⟩ := rk_two HI.out.res
          clear o7 HO
          go_wp2
          have z1 := rk_at (k := 0) (u := .slice (some ⟨g3, 0, none⟩) d.safe.length c3) HI.out.res
          have z2 := rk_at (k := 1) (u := .slice none 0 0) z1
          (try simp only [Exit.inBlock, Exit.then])
          refine bodyPost_ret (results_cell_row rfl _ _ (w.heap.size + 1) 27 #[.slice (some ⟨g3, 0, none⟩) d.safe.length c3, .slice none 0 0] (0, 0) _ rfl z2 Try.underlying27 rfl rfl) rfl ?_
          have hrow2 := rk_set (k := 1) (u := .slice none 0 0) (rk_set (k := 0) (u := .slice (some ⟨g3, 0, none⟩) d.safe.length c3) O7.out HI.out.res (by decide)) z1 (by decide)
          refine ⟨_, rfl, ⟨_, _, _, _, _, _, rfl, ?_, World.ownsRow_nil _ _ _ _⟩, (HI.out.bel.setCell (p := ⟨w.heap.size + 1, 0, none⟩) (Nat.le_succ _) _).setCell (p := ⟨w.heap.size + 1, 1, none⟩) (Nat.le_succ _) _⟩
          show World.ownsRow _ _ _ _ _ (doneN 2147483647 d.safe d.late d.late.length).length (strCells (doneN 2147483647 d.safe d.late d.late.length))
          rw [← HDN.out, hdl]
          exact hrow2

set_option maxHeartbeats 2000000 in
set_option maxRecDepth 100000 in
theorem isettledC_any {w : World} {v : Value} {d : PDisk} (h : DiskAt w v d) (hf : DiskFit d) (hb : diskB d = true) {gk : Nat} {keep : Int} (hk : 0 ≤ keep ∧ keep ≤ 2147483647) (hgk : w.cell? ⟨gk, 0, none⟩ = some (.int .i64 keep)) (hgl : gk < w.heap.size) :
    Calls Try.prog 36 #[v, .func (.func 37) #[] #[.pointer (some ⟨gk, 0, none⟩)]] w fun e w' => ∃ v', e = .returned v' ∧ OwnDk w.heap.size w' v' (doneDk keep d) ∧ Below w.heap.size w w' := by
  obtain ⟨sa, sn, sc, la, ln, lc, rfl, h1, h2⟩ := h
  have f1 := hf.sl
  have f2 := hf.ll
  obtain ⟨_, _, e1, _, _, _⟩ := h1.str
  cases e1
  obtain ⟨a2, c2, e2, _, _, hp⟩ := h2.put
  cases e2
  have H1 := (show Hid (Sv 1 w (.slice sa d.safe.length sc) (strCells d.safe)) from h1)
  have HP := (show Hid (∀ k (hk : k < d.late.length), ∃ b off, la = some ⟨b, off, none⟩ ∧ b < w.heap.size ∧ w.cell? ⟨b, off + k * 2, none⟩ = some (.int .i64 d.late[k].1) ∧ w.cell? ⟨b, off + k * 2 + 1, none⟩ = some (.string d.late[k].2)) from hp)
  have HB := (show Hid (diskB d = true) from hb)
  have HS := (show Hid (∀ t ∈ d.safe, t.size = 64) from done64 (keep := keep) hb 0)
  clear h1 h2 hp hb hf
  have HK := (show Hid (0 ≤ keep ∧ keep ≤ 2147483647) from hk)
  have HG := (show Hid (w.cell? ⟨gk, 0, none⟩ = some (.int .i64 keep)) from hgk)
  clear hk hgk
  obtain ⟨W, hW⟩ : ∃ x, x = ((w.alloc (.cells #[.slice sa d.safe.length sc, .slice la d.late.length lc] 27)).alloc (.cells #[.slice none 0 0, .slice none 0 0] 27)) := ⟨_, rfl⟩
  have bW : Below w.heap.size w W := by rw [hW]; exact ((Below.refl _ _).alloc (Nat.le_refl _) _).alloc (by simp) _
  have hS : w.heap.size + 1 < W.heap.size := by rw [hW, World.size_alloc, World.size_alloc]; omega
  have x1 : W.heap[w.heap.size]? = some (.cells #[.slice sa d.safe.length sc, .slice la d.late.length lc] 27 (0, 0)) := by rw [hW, Below.heap_alloc _ _ _ (by simp)]; exact World.alloc_heap_new _ _
  have x2 : W.heap[w.heap.size + 1]? = some (.cells #[.slice none 0 0, .slice none 0 0] 27 (0, 0)) := by
    rw [hW]
    have := World.alloc_heap_new (w.alloc (.cells #[.slice sa d.safe.length sc, .slice la d.late.length lc] 27)) (.cells #[.slice none 0 0, .slice none 0 0] 27)
    rwa [World.size_alloc] at this
  have BW := (show Hid (Below w.heap.size w W) from bW)
  have X1 := (show Hid _ from x1)
  have X2 := (show Hid _ from x2)
  have HSZ := (show Hid (w.heap.size + 1 < W.heap.size) from hS)
  clear bW x1 x2 hS
  go_enter Try.func36, Try.ntmps36
  go_wp2_with fail
  go_at_call 67
  rw [← hW]
  refine (isectorsFrom_any (H1.out.below BW.out) f1 HS.out).mono ?_
  rintro e w1 ⟨g1, rfl, o1, b1⟩
  clear hW
  have hg1 := (World.ownsRow.lt o1 g1 rfl)
  have CC := icopyK_any (sv_of_own o1) (m := d.safe.length) (by rw [secCells_len HS.out]) f1
  have O1 := (show Hid (OwnK W.heap.size w1 g1 d.safe.length d.safe.length d.safe) from o1)
  have B1 := (show Hid (Below W.heap.size W w1) from b1)
  have G1 := (show Hid (W.heap.size ≤ g1 ∧ g1 < w1.heap.size) from hg1)
  have C1 := (show Hid _ from CC)
  clear o1 b1 hg1 CC
  go_wp2_with fail
  go_at_call 68
  refine Calls.mono C1.out ?_
  rintro e w2 ⟨v2, rfl, o2, b2⟩
  clear C1
  have hl130 := (diskB_len HB.out).1
  have o2' : w2.ownsRow w1.heap.size 80 64 v2 d.safe.length (secCells d.safe) := by
    rcases o2 with o2 | ⟨h0, _⟩
    · exact o2
    · omega
  obtain ⟨g2, c2, rfl, hg2, hl2⟩ := rk_form o2' (by omega)
  have B2 := (show Hid (Below W.heap.size W w2) from B1.out.trans (b2.mono B1.out.size))
  have I0 : Hid (SetI w d keep g1 g2 c2 sa d.safe.length sc la lc 0 w2) := ⟨rk_base (ownsRow_below O1.out b2) BW.out.size, rk_base o2' (Nat.le_trans BW.out.size B1.out.size), (B2.out.block _ (lt_of_block X1.out)).trans X1.out, (B2.out.block _ (lt_of_block X2.out)).trans X2.out, BW.out.trans (B2.out.mono BW.out.size), (by have := G1.out; omega), (by have := G1.out; have := HSZ.out; omega)⟩
  obtain ⟨q1, q2, _, _⟩ := rk_two I0.out.arg
  clear o2 o2' b2 O1 B1 B2 hg2 hl2 G1 X1 X2 hl130 BW HSZ
  go_wp2
  clear q1 q2
  go_loopw [19] (fun i wr => ∃ k : Nat, k ≤ d.late.length ∧ i = .int .i64 k ∧ SetI w d keep g1 g2 c2 sa d.safe.length sc la lc k wr) (fun i _ => d.late.length - (intOf i).toNat)
  case atStart => exact ⟨0, Nat.zero_le _, rfl, I0.out⟩
  case round =>
    clear I0
    obtain ⟨k, hk', rfl, hI⟩ := hrel
    have HI := (show Hid (SetI w d keep g1 g2 c2 sa d.safe.length sc la lc k wr) from hI)
    clear hI
    by_cases hlt : k < d.late.length
    · obtain ⟨b, o, rfl, hb, c3, c4⟩ := HP.out k hlt
      have c3' := (HI.out.bel.cell (p := ⟨b, o + k * 2, none⟩) hb).trans c3
      have c4' := (HI.out.bel.cell (p := ⟨b, o + k * 2 + 1, none⟩) hb).trans c4
      have hr := diskB_late HB.out hlt
      have HN := (show Hid (doneN keep d.safe d.late (k + 1) = if bitB keep k then (doneN keep d.safe d.late k).set d.late[k].1.toNat d.late[k].2 else doneN keep d.safe d.late k) from doneN_succ hlt)
      obtain ⟨z, hz⟩ : ∃ z, z = d.late[k] := ⟨_, rfl⟩
      rw [← hz] at c3' c4' HN hr
      obtain ⟨za, zs⟩ := z
      simp only at c3' c4' HN hr
      clear hz c3 c4
      obtain ⟨m, rfl⟩ := Int.eq_ofNat_of_zero_le hr.1
      have hm : m < d.safe.length := by have := (diskB_len HB.out).1; omega
      have H64 := (show Hid (zs.size = 64) from hr.2.2)
      clear hr
      obtain ⟨wx, hwx⟩ : ∃ wx, wx = wr.alloc (.cells #[.int .i64 (m : Int), .string zs] 37) := ⟨_, rfl⟩
      have bx : Below wr.heap.size wr wx := by rw [hwx]; exact (Below.refl _ _).alloc (Nat.le_refl _) _
      have xx : wx.heap[wr.heap.size]? = some (.cells #[.int .i64 (m : Int), .string zs] 37 (0, 0)) := by rw [hwx]; exact World.alloc_heap_new _ _
      have IX := (show Hid (SetI w d keep g1 g2 c2 sa d.safe.length sc (some ⟨b, o, none⟩) lc k wx) from HI.out.below bx)
      have XX := (show Hid _ from xx)
      have hg2lt : g2 < wr.heap.size := (World.ownsRow.lt HI.out.now g2 rfl).2
      have HNE := (show Hid (wr.heap.size ≠ g2) from by show wr.heap.size ≠ g2; omega)
      have CC := icrash1_any k wx gk keep HK.out (by omega) (((HI.out.bel.trans (bx.mono HI.out.bel.size)).cell (p := ⟨gk, 0, none⟩) hgl).trans HG.out)
      obtain ⟨q, hq⟩ : ∃ q, q = bitB keep k := ⟨_, rfl⟩
      rw [← hq] at CC HN
      have C2 := (show Hid _ from CC)
      clear bx xx CC hg2lt hq
      go_wp2_with fail
      go_at_call 37
      rw [← hwx]
      refine Calls.mono C2.out ?_
      rintro e w3 ⟨rfl, b3⟩
      clear C2 hwx c3' c4'
      have I3 := (show Hid (SetI w d keep g1 g2 c2 sa d.safe.length sc (some ⟨b, o, none⟩) lc k w3) from IX.out.below b3)
      have x3 := (b3.block _ (lt_of_block XX.out)).trans XX.out
      have X3 := (show Hid _ from x3)
      clear IX XX b3 HI
      cases q
      · have HN' : Hid (doneN keep d.safe d.late (k + 1) = doneN keep d.safe d.late k) := (show _ = _ by rw [HN.out]; rfl)
        clear HN x3
        go_wp2
        go_roundw
        case rel => exact ⟨k + 1, by omega, by go_num, I3.out.next HN'.out⟩
        case measure => simp [intOf]; omega
      · have HN' : Hid (doneN keep d.safe d.late (k + 1) = (doneN keep d.safe d.late k).set m zs) := (show _ = _ by rw [HN.out]; simp)
        obtain ⟨y1, y2, _, _⟩ := rk_two x3
        have hlen : (secL zs).length = 64 := by rw [secL_len]; exact H64.out
        have hsz : (Try.prog.info? 80).map (·.size) = some (secL zs).length := by rw [hlen]; kernel_rfl
        have hone : ∀ v ∈ secL zs, v.oneCell' = true := secL_one zs
        have hml : m < (doneN keep d.safe d.late k).length := by rw [doneN_len]; exact hm
        have KD := (show Hid (w3.drew.cell? ⟨wr.heap.size, 0, none⟩ = some (.int .i64 (m : Int)) ∧ w3.drew.cell? ⟨wr.heap.size, 1, none⟩ = some (.string zs) ∧ w3.drew.there g2 (m * 64) 64) from ⟨y1, y2, I3.out.now.there (done64 HB.out k) hml⟩)
        have HML := (show Hid _ from hml)
        clear HN y1 y2 x3 hml
        go_wp2
        go_region_held3 (fun w' => w'.cell? ⟨wr.heap.size, 0, none⟩ = some (.int .i64 (m : Int)) ∧ w'.cell? ⟨wr.heap.size, 1, none⟩ = some (.string zs) ∧ w'.there g2 (m * 64) 64)
          (first | exact KD.out | exact KE.out | exact ⟨set_far HNE.out KE.out.1, set_far HNE.out KE.out.2.1, World.there_setCells KE.out.2.2 _ _ _⟩)
          (first
            | (go_at_call 69
               refine (isectorFrom_L zs _ H64.out).mono ?_
               rintro e w4 ⟨rfl, b4⟩
               have b34 : Below w3.heap.size w3 w4 := (drew1 w3).trans (b4.mono (drew1 w3).size)
               have I4 := (show Hid (SetI w d keep g1 g2 c2 sa d.safe.length sc (some ⟨b, o, none⟩) lc k w4) from I3.out.below b34)
               obtain ⟨y1, y2, _, _⟩ := rk_two ((b34.block _ (lt_of_block X3.out)).trans X3.out)
               have KE := (show Hid (w4.cell? ⟨wr.heap.size, 0, none⟩ = some (.int .i64 (m : Int)) ∧ w4.cell? ⟨wr.heap.size, 1, none⟩ = some (.string zs) ∧ w4.there g2 (m * 64) 64) from ⟨y1, y2, I4.out.now.there (done64 HB.out k) HML.out⟩)
               clear y1 y2 b4 b34))
        all_goals
          obtain ⟨o5, gr5⟩ := I4.out.now.stored (done64 HB.out k) HML.out H64.out
          have I5 := (show Hid (SetI w d keep g1 g2 c2 sa d.safe.length sc (some ⟨b, o, none⟩) lc (k + 1) (w4.setCells g2 (m * 64) (secL zs))) from I4.out.store HN'.out o5 gr5)
          clear o5 gr5
          go_wp2
          go_roundw
          case rel => exact ⟨k + 1, by omega, by go_num, I5.out⟩
          case measure => simp [intOf]; omega
    · obtain rfl : k = d.late.length := by omega
      obtain ⟨q1, q2, _, _⟩ := rk_two HI.out.arg
      have C1 := (show Hid _ from icopyS_any (H1.out.below HI.out.bel) (m := d.safe.length) (by rw [strCells_len]; omega) f1)
      go_wp2_with fail
      go_at_call 70
      refine Calls.mono C1.out ?_
      rintro e w5 ⟨v5, rfl, o5, b5⟩
      clear C1 q1 q2
      have hl130 := (diskB_len HB.out).1
      have o5' : w5.ownsRow wr.heap.size 9 1 v5 d.safe.length (strCells d.safe) := by
        rcases o5 with o5 | ⟨h0, _⟩
        · exact o5
        · omega
      obtain ⟨g3, c3, rfl, hg3, hl3⟩ := rk_form o5' (by omega)
      have I5 := (show Hid (SetI w d keep g1 g2 c2 sa d.safe.length sc la lc d.late.length w5) from HI.out.below b5)
      have O5 := (show Hid (w5.ownsRow w.heap.size 9 1 (.slice (some ⟨g3, 0, none⟩) d.safe.length c3) d.safe.length (strCells d.safe)) from rk_base o5' HI.out.bel.size)
      clear o5 o5' b5 hg3 hl3 HI HP hl130
      obtain ⟨dn, hdn⟩ : ∃ x, x = doneN keep d.safe d.late d.late.length := ⟨_, rfl⟩
      have hdl : dn.length = d.safe.length := by rw [hdn]; exact doneN_len _ _ _ _
      have HD64 := (show Hid (∀ t ∈ dn, t.size = 64) from by rw [hdn]; exact done64 HB.out _)
      have HDN := (show Hid _ from hdn)
      clear hdn
      go_wp2
      go_loopw [40] (fun i wr => ∃ k : Nat, k ≤ d.safe.length ∧ i = .int .i64 k ∧ SetI w d keep g1 g2 c2 sa d.safe.length sc la lc d.late.length wr ∧ wr.ownsRow w.heap.size 9 1 (.slice (some ⟨g3, 0, none⟩) d.safe.length c3) d.safe.length (strCells (half dn d.safe k))) (fun i _ => d.safe.length - (intOf i).toNat)
      case atStart => exact ⟨0, Nat.zero_le _, rfl, I5.out, O5.out⟩
      case round =>
        clear I5 O5
        obtain ⟨k, hk2, rfl, hI, ho⟩ := hrel
        have HI := (show Hid (SetI w d keep g1 g2 c2 sa d.safe.length sc la lc d.late.length wr) from hI)
        have HO := (show Hid (wr.ownsRow w.heap.size 9 1 (.slice (some ⟨g3, 0, none⟩) d.safe.length c3) d.safe.length (strCells (half dn d.safe k))) from ho)
        clear hI ho
        by_cases hlt2 : k < d.safe.length
        · have hkd : k < dn.length := by omega
          have h64a := HD64.out _ (List.getElem_mem hkd)
          have h64b := HS.out _ (List.getElem_mem hlt2)
          have ra : wr.rangeAt g2 (k * 64) (secL dn[k]) := by
            have := HI.out.now.range (done64 HB.out _) (k := k) (by rw [← HDN.out]; exact hkd)
            simp only [← HDN.out] at this
            exact this
          have rb : wr.rangeAt g1 (k * 64) (secL d.safe[k]) := HI.out.was.range HS.out hlt2
          have HSET := (show Hid ((half dn d.safe k).set k dn[k] = half dn d.safe (k + 1)) from half_set hdl hlt2)
          have HSAME := (show Hid (dn[k] = d.safe[k] → half dn d.safe k = half dn d.safe (k + 1)) from half_same hdl hlt2)
          obtain ⟨xa, hxa⟩ : ∃ x, x = dn[k] := ⟨_, rfl⟩
          obtain ⟨xb, hxb⟩ : ∃ x, x = d.safe[k] := ⟨_, rfl⟩
          rw [← hxa] at h64a ra HSET HSAME
          rw [← hxb] at h64b rb HSAME
          clear hxa hxb
          have hla : (secL xa).length = 64 := by rw [secL_len]; exact h64a
          have hlb : (secL xb).length = 64 := by rw [secL_len]; exact h64b
          have hsa : (Try.prog.info? 80).map (·.size) = some (secL xa).length := by rw [hla]; kernel_rfl
          have hsb : (Try.prog.info? 80).map (·.size) = some (secL xb).length := by rw [hlb]; kernel_rfl
          have hus := Try.underlying80
          have heq := sec_eq xa xb h64a h64b
          have KD := (show Hid (wr.drew.rangeAt g2 (k * 64) (secL xa) ∧ wr.drew.rangeAt g1 (k * 64) (secL xb)) from ⟨ra, rb⟩)
          have HA := (show Hid (xa.size = 64 ∧ wr.drew.rangeAt g2 (k * 64) (secL xa)) from ⟨h64a, ra⟩)
          clear ra rb
          go_wp2
          refine wp_region_held_drew (S := fun w' => w'.rangeAt g2 (k * 64) (secL xa) ∧ w'.rangeAt g1 (k * 64) (secL xb)) (by kernel_rfl) KD.out (fun hHeld => ?_)
          refine wpAnyH_take (i := 0) (oi := { dst := some 43, op := Op.move (Operand.tmp 6), type := 85, pos := "l15_disk.go:76", after := #[], guard := none }) (v := ?_) rfl (by kernel_rfl) (by kernel_rfl) (by kernel_rfl) (fun _ _ _ h => h) (Or.inl ⟨by rfl, ?_⟩) hHeld ?_
          rotate_left
          · intro w hSw
            clear hSw
            go_simp
            try with_reducible rfl
          try simp only [Act.put, List.setIfInBounds_toArray, List.set_cons_zero, List.set_cons_succ]
          refine wpAnyH_take (i := 1) (oi := { dst := some 44, op := Op.move (Operand.tmp 10), type := 3, pos := "l15_disk.go:76", after := #[], guard := none }) (v := ?_) rfl (by kernel_rfl) (by kernel_rfl) (by kernel_rfl) (fun _ _ _ h => h) (Or.inl ⟨by rfl, ?_⟩) hHeld ?_
          rotate_left
          · intro w hSw
            clear hSw
            go_simp
            try with_reducible rfl
          try simp only [Act.put, List.setIfInBounds_toArray, List.set_cons_zero, List.set_cons_succ]
          refine wpAnyH_take (i := 4) (oi := { dst := some 47, op := Op.move (Operand.tmp 5), type := 85, pos := "l15_disk.go:76", after := #[], guard := none }) (v := ?_) rfl (by kernel_rfl) (by kernel_rfl) (by kernel_rfl) (fun _ _ _ h => h) (Or.inl ⟨by rfl, ?_⟩) hHeld ?_
          rotate_left
          · intro w hSw
            clear hSw
            go_simp
            try with_reducible rfl
          try simp only [Act.put, List.setIfInBounds_toArray, List.set_cons_zero, List.set_cons_succ]
          refine wpAnyH_take (i := 5) (oi := { dst := some 48, op := Op.move (Operand.tmp 10), type := 3, pos := "l15_disk.go:76", after := #[], guard := none }) (v := ?_) rfl (by kernel_rfl) (by kernel_rfl) (by kernel_rfl) (fun _ _ _ h => h) (Or.inl ⟨by rfl, ?_⟩) hHeld ?_
          rotate_left
          · intro w hSw
            clear hSw
            go_simp
            try with_reducible rfl
          try simp only [Act.put, List.setIfInBounds_toArray, List.set_cons_zero, List.set_cons_succ]
          refine wpAnyH_take (i := 2) (oi := { dst := some 45, op := Op.indexAddr 85 (Operand.tmp 43) (Operand.tmp 44), type := 0, pos := "l15_disk.go:76", after := #[{ on := 0, ground := Ground.data }, { on := 1, ground := Ground.data }], guard := none }) (v := ?_) rfl (by kernel_rfl) (by kernel_rfl) (by kernel_rfl) (fun _ _ _ h => h) (Or.inl ⟨by rfl, ?_⟩) hHeld ?_
          rotate_left
          · intro w hSw
            clear hSw
            go_simp
            try with_reducible rfl
          try simp only [Act.put, List.setIfInBounds_toArray, List.set_cons_zero, List.set_cons_succ]
          refine wpAnyH_take (i := 6) (oi := { dst := some 49, op := Op.indexAddr 85 (Operand.tmp 47) (Operand.tmp 48), type := 0, pos := "l15_disk.go:76", after := #[{ on := 4, ground := Ground.data }, { on := 5, ground := Ground.data }], guard := none }) (v := ?_) rfl (by kernel_rfl) (by kernel_rfl) (by kernel_rfl) (fun _ _ _ h => h) (Or.inl ⟨by rfl, ?_⟩) hHeld ?_
          rotate_left
          · intro w hSw
            clear hSw
            go_simp
            try with_reducible rfl
          try simp only [Act.put, List.setIfInBounds_toArray, List.set_cons_zero, List.set_cons_succ]
          refine wpAnyH_take (i := 3) (oi := { dst := some 46, op := Op.load 80 (Operand.tmp 45), type := 80, pos := "l15_disk.go:76", after := #[{ on := 2, ground := Ground.data }], guard := none }) (v := _) rfl (by kernel_rfl) (by kernel_rfl) (by kernel_rfl) (fun _ _ _ h => h) (yieldsIf_load_mid (by rfl) _ _ rfl _ _ rfl (secL xa) _ (fun w h => h.1) hus rfl hsa) hHeld ?_
          try simp only [Act.put, List.setIfInBounds_toArray, List.set_cons_zero, List.set_cons_succ]
          refine wpAnyH_take (i := 7) (oi := { dst := some 50, op := Op.load 80 (Operand.tmp 49), type := 80, pos := "l15_disk.go:76", after := #[{ on := 6, ground := Ground.data }], guard := none }) (v := _) rfl (by kernel_rfl) (by kernel_rfl) (by kernel_rfl) (fun _ _ _ h => h) (yieldsIf_load_mid (by rfl) _ _ rfl _ _ rfl (secL xb) _ (fun w h => h.2) hus rfl hsb) hHeld ?_
          try simp only [Act.put, List.setIfInBounds_toArray, List.set_cons_zero, List.set_cons_succ]
          refine wpAnyH_take (i := 8) (oi := { dst := some 51, op := Op.binOp BinOp.neq 80 (Operand.tmp 46) (Operand.tmp 50) 80, type := 4, pos := "l15_disk.go:76", after := #[{ on := 3, ground := Ground.data }, { on := 7, ground := Ground.data }], guard := none }) (v := ?_) rfl (by kernel_rfl) (by kernel_rfl) (by kernel_rfl) (fun _ _ _ h => h) (Or.inl ⟨by rfl, ?_⟩) hHeld ?_
          rotate_left
          · intro w hSw
            clear hSw
            go_simp
            try with_reducible rfl
          try simp only [Act.put, List.setIfInBounds_toArray, List.set_cons_zero, List.set_cons_succ]
          refine wpAnyH_done (by kernel_rfl) ?_ _
          have ID := (show Hid (SetI w d keep g1 g2 c2 sa d.safe.length sc la lc d.late.length wr.drew) from HI.out.below (drew1 wr))
          have OD := (show Hid (wr.drew.ownsRow w.heap.size 9 1 (.slice (some ⟨g3, 0, none⟩) d.safe.length c3) d.safe.length (strCells (half dn d.safe k))) from ownsRow_below HO.out (drew1 wr))
          clear hHeld KD HI HO heq
          obtain ⟨wd, hwd⟩ : ∃ x, x = wr.drew := ⟨_, rfl⟩
          rw [← hwd] at ID OD HA
          rw [← hwd]
          clear hwd
          cases hq : decide (xa = xb)
          · clear HSAME hq
            go_wp2_with (first
              | refine wpList_load_mid rfl 80 (.tmp 56) rfl g2 (k * 64) rfl (secL xa) _ HA.out.2 hus rfl hsa ?_
              | (go_at_call 59
                 refine (itext_L xa _ HA.out.1).mono ?_
                 rintro e w6 ⟨rfl, b6⟩
                 have I6 := (show Hid (SetI w d keep g1 g2 c2 sa d.safe.length sc la lc d.late.length w6) from ID.out.below b6)
                 have o6 := ownsRow_below OD.out b6
                 obtain ⟨z1, hc1⟩ : ∃ z, w6.cell? ⟨g3, k, none⟩ = some z := by
                   rw [o6.cellAt k (by omega)]; exact ⟨_, List.getElem?_eq_getElem (by rw [strCells_len, half_len hdl hk2]; exact hlt2)⟩
                 have fz := o6.frozenAt k
                 have s6 := o6.stored k (.string xa)
                 rw [strCells_set, HSET.out] at s6
                 have O6 := (show Hid _ from o6)
                 have S6 := (show Hid _ from s6)
                 clear o6 s6 b6))
            go_roundw
            case rel => exact ⟨k + 1, by omega, by go_num, I6.out.other O6.out S6.out.2, S6.out.1⟩
            case measure => simp [intOf]; omega
          · have HS' := (show Hid _ from HSAME.out (of_decide_eq_true hq))
            clear HSAME HSET hq
            go_wp2
            go_roundw
            case rel => exact ⟨k + 1, by omega, by go_num, ID.out, HS'.out ▸ OD.out⟩
            case measure => simp [intOf]; omega
        · obtain rfl : k = d.safe.length := by omega
          have hfin : half dn d.safe d.safe.length = dn := by rw [half, ← hdl, List.take_length, hdl, List.drop_length, List.append_nil]
          have o7 := HO.out
          rw [hfin] at o7
          have O7 := (show Hid _ from o7)
          obtain ⟨r1, r2, r3, r4⟩ := rk_two HI.out.res
          clear o7 HO
          go_wp2
          have z1 := rk_at (k := 0) (u := .slice (some ⟨g3, 0, none⟩) d.safe.length c3) HI.out.res
          have z2 := rk_at (k := 1) (u := .slice none 0 0) z1
          (try simp only [Exit.inBlock, Exit.then])
          refine bodyPost_ret (results_cell_row rfl _ _ (w.heap.size + 1) 27 #[.slice (some ⟨g3, 0, none⟩) d.safe.length c3, .slice none 0 0] (0, 0) _ rfl z2 Try.underlying27 rfl rfl) rfl ?_
          have hrow2 := rk_set (k := 1) (u := .slice none 0 0) (rk_set (k := 0) (u := .slice (some ⟨g3, 0, none⟩) d.safe.length c3) O7.out HI.out.res (by decide)) z1 (by decide)
          refine ⟨_, rfl, ⟨_, _, _, _, _, _, rfl, ?_, World.ownsRow_nil _ _ _ _⟩, (HI.out.bel.setCell (p := ⟨w.heap.size + 1, 0, none⟩) (Nat.le_succ _) _).setCell (p := ⟨w.heap.size + 1, 1, none⟩) (Nat.le_succ _) _⟩
          show World.ownsRow _ _ _ _ _ (doneN keep d.safe d.late d.late.length).length (strCells (doneN keep d.safe d.late d.late.length))
          rw [← HDN.out, hdl]
          exact hrow2
end Go.Proofs.Ytdhnoaajdjkddaa
