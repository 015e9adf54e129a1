/- The specification's SectorOf. No condition. -/
import Derived.Test.YtiejfnnokfedkaaDiskL
namespace Go.Proofs.Ytiejfnnokfedkaa
open Go.RowKit
set_option maxRecDepth 100000
set_option linter.unusedVariables false

set_option maxHeartbeats 2000000 in
set_option maxRecDepth 100000 in
theorem sl15Of_any {w : World} {v : Value} {d : PDisk} (h : DiskAt w v d) (hf : DiskFit d) {x : Int} (hx : 0 ≤ x ∧ x < d.safe.length) :
    Calls Try.prog 47 #[v, .int .i64 x] w fun e w' => e = .returned (.string (sectorD d x)) ∧ Below w.heap.size w w' := by
  obtain ⟨sa, sn, sc, la, ln, lc, rfl, h1, h2⟩ := h
  have f1 := hf.sl
  have f2 := hf.ll
  obtain ⟨a1, c1, e1, _, _, hs⟩ := h1.str
  cases e1
  obtain ⟨a2, c2, e2, _, _, hp⟩ := h2.put
  cases e2
  obtain ⟨m, rfl⟩ := Int.eq_ofNat_of_zero_le hx.1
  have hm : m < d.safe.length := by omega
  obtain ⟨b, o, rfl, hb, c⟩ := hs m hm
  have HP := (show Hid (∀ k (hk : k < d.late.length), ∃ b off, la = some ⟨b, off, none⟩ ∧ b < w.heap.size ∧ w.cell? ⟨b, off + k * 2, none⟩ = some (.int .i64 d.late[k].1) ∧ w.cell? ⟨b, off + k * 2 + 1, none⟩ = some (.string d.late[k].2)) from hp)
  clear h1 h2 hf hs hp hx
  have HV : Hid (sectorD d m = (putAt m d.late).getD d.safe[m]) := (show sectorD d m = (putAt m d.late).getD d.safe[m] by simp [sectorD, List.getD_eq_getElem?_getD, hm])
  obtain ⟨dm, hdm⟩ : ∃ x, x = d.safe[m] := ⟨_, rfl⟩
  rw [← hdm] at c HV
  clear hdm
  obtain ⟨w1, hw1⟩ : ∃ x, x = w.alloc (.cells #[.slice (some ⟨b, o, none⟩) d.safe.length sc, .slice la d.late.length lc] 36) := ⟨_, rfl⟩
  have b1 : Below w.heap.size w w1 := by rw [hw1]; exact (Below.refl _ _).alloc (Nat.le_refl _) _
  have x1 : w1.heap[w.heap.size]? = some (.cells #[.slice (some ⟨b, o, none⟩) d.safe.length sc, .slice la d.late.length lc] 36 (0, 0)) := by rw [hw1]; exact World.alloc_heap_new _ _
  have B1 := (show Hid (Below w.heap.size w w1) from b1)
  obtain ⟨q1, q2, _, _⟩ := rk_two x1
  have c' := (b1.cell (p := ⟨b, o + m, none⟩) hb).trans c
  have Q := (show Hid (w1.cell? ⟨w.heap.size, 0, none⟩ = some (.slice (some ⟨b, o, none⟩) d.safe.length sc) ∧ w1.cell? ⟨w.heap.size, 1, none⟩ = some (.slice la d.late.length lc) ∧ w1.cell? ⟨b, o + m, none⟩ = some (.string dm)) from ⟨q1, q2, c'⟩)
  clear x1 b1 q1 q2 c c'
  go_enter Try.func47, Try.ntmps47
  go_wp2
  rw [← hw1]
  go_loopw [5] (fun i wr => ∃ k : Nat, k ≤ d.late.length ∧ i = .int .i64 ((k : Int) - 1) ∧ putAt m d.late = putAt m (d.late.take k) ∧ w1 = wr) (fun i _ => (intOf i + 1).toNat)
  case atStart => exact ⟨d.late.length, Nat.le_refl _, by go_num, by rw [List.take_length], rfl⟩
  case round =>
    obtain ⟨k, hk, rfl, he, rfl⟩ := hrel
    have HE := (show Hid (putAt m d.late = putAt m (d.late.take k)) from he)
    clear he hw1
    obtain ⟨q1, q2, q3⟩ := Q.out
    cases k with
    | zero =>
      have HR : Hid (sectorD d m = dm) := (show sectorD d m = dm by rw [HV.out, HE.out]; simp [putAt])
      have e0 : ((0 : Nat) : Int) - 1 = -1 := by omega
      rw [e0]
      clear HE e0
      go_wp2
      go_ret
      exact ⟨ret_text HR.out.symm, B1.out⟩
    | succ k =>
      have hk' : k < d.late.length := by omega
      obtain ⟨b2, o2, rfl, hb2, c3, c4⟩ := HP.out k hk'
      have c3' := (B1.out.cell (p := ⟨b2, o2 + k * 2, none⟩) hb2).trans c3
      have c4' := (B1.out.cell (p := ⟨b2, o2 + k * 2 + 1, none⟩) hb2).trans c4
      have HT := (show Hid (putAt m d.late = if d.late[k].1 = (m : Int) then some d.late[k].2 else putAt m (d.late.take k)) from HE.out.trans (putAt_take hk'))
      have ek : ((k + 1 : Nat) : Int) - 1 = (k : Int) := by omega
      rw [ek]
      obtain ⟨z, hz⟩ : ∃ z, z = d.late[k] := ⟨_, rfl⟩
      rw [← hz] at c3' c4' HT
      obtain ⟨za, zs⟩ := z
      simp only at c3' c4' HT
      clear hz c3 c4 HE ek
      by_cases e : za = (m : Int)
      · subst e
        have HR : Hid (sectorD d m = zs) := (show sectorD d m = zs by rw [HV.out, HT.out]; simp)
        clear HT
        go_wp2
        go_ret
        exact ⟨ret_text HR.out.symm, B1.out⟩
      · have HT' : Hid (putAt m d.late = putAt m (d.late.take k)) := (show putAt m d.late = putAt m (d.late.take k) by rw [HT.out, if_neg e])
        have hn : (za == (m : Int)) = false := by simpa using e
        clear HT
        go_wp2
        go_roundw
        case rel => exact ⟨k, by omega, by go_num, HT'.out, by first | rfl | trivial⟩
        case measure => simp [intOf]

theorem sec_res {tmps : Array Value} {fn : Func} {w : World} {s : ByteArray} {b : Bool} {p q : Tmp} (h : fn.results = #[.tmp p, .tmp q]) (h1 : tmps.getD p undef = .string s) (h2 : tmps.getD q undef = .bool b) : (results fn tmps).run Try.prog w = .ok (.tuple #[.string s, .bool b]) w := by
  have h1' : tmps[p]?.getD undef = .string s := by simpa using h1
  have h2' : tmps[q]?.getD undef = .bool b := by simpa using h2
  simp [results, h, h1', h2', go_sem]

end Go.Proofs.Ytiejfnnokfedkaa
