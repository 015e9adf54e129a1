import Derived.Test.YtiejfnnokfedkaaDoorB12
import Derived.Test.YtiejfnnokfedkaaDoorB13
/- Contracts of the laws' marks of a disk. No condition. -/
namespace Go.Proofs.YtiejfnnokfedkaaDoor
open Go.RowKit
set_option maxRecDepth 100000
set_option linter.unusedVariables false

/-- The marks that are laid over a list of texts, from k on. -/
def markStrs (k : Int) (n : Nat) : List ByteArray := (List.range n).map fun i : Nat => mt (k + (i : Int))
theorem markStrs_len (k : Int) (n : Nat) : (markStrs k n).length = n := by simp [markStrs]
theorem markStrs_at (k : Int) (n i : Nat) (h : i < (markStrs k n).length) : (markStrs k n)[i] = mt (k + (i : Int)) := by simp [markStrs]
theorem markStrs_succ (k : Int) (rs : List ByteArray) (i : Nat) (h : i < rs.length) : (markStrs k i ++ rs.drop i).set i (mt (k + (i : Int))) = markStrs k (i + 1) ++ rs.drop (i + 1) := by
  rw [List.set_append_right _ _ (by rw [markStrs_len]; exact Nat.le_refl _), markStrs_len, Nat.sub_self, List.drop_eq_getElem_cons h, List.set_cons_zero]
  simp [markStrs, List.range_succ]
/-- The marks that are laid over a list of puts, from k on. -/
def markPuts (k : Int) (n : Nat) : List (Int × ByteArray) := (List.range n).map fun i : Nat => (k + 2 * (i : Int), mt (k + 2 * (i : Int) + 1))
theorem markPuts_len (k : Int) (n : Nat) : (markPuts k n).length = n := by simp [markPuts]
theorem markPuts_at (k : Int) (n i : Nat) (h : i < (markPuts k n).length) : (markPuts k n)[i] = (k + 2 * (i : Int), mt (k + 2 * (i : Int) + 1)) := by simp [markPuts]
theorem markPuts_succ (k : Int) (rs : List (Int × ByteArray)) (i : Nat) (h : i < rs.length) :
    (markPuts k i ++ rs.drop i).set i (k + 2 * (i : Int), mt (k + 2 * (i : Int) + 1)) = markPuts k (i + 1) ++ rs.drop (i + 1) := by
  rw [List.set_append_right _ _ (by rw [markPuts_len]; exact Nat.le_refl _), markPuts_len, Nat.sub_self, List.drop_eq_getElem_cons h, List.set_cons_zero]
  simp [markPuts, List.range_succ]

/-- Nothing is turned but the two blocks. -/
structure TwoFr (r s : Option Nat) (w w' : World) : Prop where
  os : w'.os = w.os
  tape : w'.tape = w.tape
  output : w'.output = w.output
  size : w.heap.size ≤ w'.heap.size
  block : ∀ j, j < w.heap.size → some j ≠ r → some j ≠ s → w'.heap[j]? = w.heap[j]?
theorem TwoFr.below {r s : Option Nat} {B : Nat} {w w' : World} (h : TwoFr r s w w') (hB : B ≤ w.heap.size) (hr : ∀ j, r = some j → B ≤ j) (hs : ∀ j, s = some j → B ≤ j) : Below B w w' :=
  ⟨h.os, h.tape, h.output, h.size, fun j hj => h.block j (by omega) (fun e => by have := hr j e.symm; omega) (fun e => by have := hs j e.symm; omega)⟩
theorem TwoFr.row {r s : Option Nat} {B e size n : Nat} {w w' : World} {v : Value} {xs : List Value} (h : TwoFr r s w w') (ho : w.ownsRow B e size v n xs) (hr : ∀ j, v.ownBlock = some j → some j ≠ r) (hs : ∀ j, v.ownBlock = some j → some j ≠ s) : w'.ownsRow B e size v n xs := by
  obtain ⟨hl, hv | ⟨g, cap, cur, hv, hB, hh, k⟩⟩ := ho
  · exact ⟨hl, .inl hv⟩
  · have hg : v.ownBlock = some g := by rw [hv]; rfl
    exact ⟨hl, .inr ⟨g, cap, cur, hv, hB, by rw [h.block g (lt_of_block hh) (hr g hg) (hs g hg)]; exact hh, k⟩⟩

end Go.Proofs.YtiejfnnokfedkaaDoor

/- The exact laws of chapter 15, from the program's contracts (written by mk/wdisk.py). -/
namespace Go.Proofs.YtiejfnnokfedkaaDoor
open Go.RowKit
set_option maxRecDepth 100000
set_option linter.unusedVariables false

/-- What the program must keep. -/
def DiskOkOk : Prop := ∀ (w : World) (v : Value) (d : PDisk), DiskAt w v d → DiskFit d → Calls Tryd.prog 41 #[v] w fun e w' => e = .returned (.bool (diskB d)) ∧ Below w.heap.size w w'
def SectorOfOk : Prop := ∀ (w : World) (v : Value) (d : PDisk) (x : Int), DiskAt w v d → DiskFit d → Calls Tryd.prog 16 #[v, .int .i64 x] w fun e w' => e = .returned (.tuple #[.string (sectorDk d x).1, .bool (sectorDk d x).2]) ∧ Below w.heap.size w w'
def DiskPutOk : Prop := ∀ (w : World) (v : Value) (d : PDisk) (x : Int) (s : ByteArray), DiskAt w v d → DiskFit d → s.size ≤ 1099511627776 → Calls Tryd.prog 40 #[v, .int .i64 x, .string s] w fun e w' => ∃ v', e = .returned (.tuple #[v', .bool (putDk d x s).2]) ∧ OwnDk w.heap.size w' v' (putDk d x s).1 ∧ Below w.heap.size w w'
theorem fit_zero : DiskFit zeroDk := ⟨by decide, by decide, (fun s hs => by cases hs), (fun p hp => by cases hp)⟩
theorem fit_new : DiskFit newDk := ⟨by decide, by decide, (fun s hs => by
  have : s = zeros64 := List.eq_of_mem_replicate hs
  rw [this, zeros64_size]; decide), (fun p hp => by cases hp)⟩
theorem fit_done {d : PDisk} (h : DiskFit d) (keep : Int) : DiskFit (doneDk keep d) := ⟨by show (doneN keep d.safe d.late d.late.length).length ≤ _; rw [doneN_len]; exact h.sl, Nat.zero_le _, doneN_size h.st h.lt _, (fun p hp => by cases hp)⟩
theorem fit_sync {d : PDisk} (h : DiskFit d) : DiskFit (syncDk d).1 := by
  unfold syncDk
  split
  · exact fit_zero
  · exact fit_done h _
theorem fit_crash {d : PDisk} (h : DiskFit d) (x : Int) : DiskFit (crashDk d x).1 := by
  unfold crashDk
  split
  · exact fit_zero
  · exact fit_done h _
theorem fit_put {d : PDisk} (h : DiskFit d) (x : Int) {s : ByteArray} (hs : s.size ≤ 1099511627776) : DiskFit (putDk d x s).1 := by
  unfold putDk
  split
  · exact fit_zero
  · rename_i hb
    split
    · exact h
    · have hl := diskB_len (d := d) (by simpa using hb)
      refine ⟨h.sl, ?_, h.st, fun p hp => ?_⟩
      · show (d.late ++ [(x, s)]).length ≤ _
        rw [List.length_append, List.length_singleton]; omega
      · rcases List.mem_append.mp hp with hp | hp
        · exact h.lt p hp
        · simp at hp; subst hp; exact hs
theorem same_dk (d : PDisk) : decide (d.safe = d.safe ∧ d.late = d.late) = true := by simp


theorem TwoFr.var {r s : Option Nat} {B size n B' size' n' e e' : Nat} {w w' : World} {v u : Value} {xs ys : List Value} (h : TwoFr r s w w') (o1 : w.ownsRow B e size v n xs) (o2 : w.ownsRow B' e' size' u n' ys) (h1 : v.ownBlock = r) (h2 : u.ownBlock = s)
    {j : Nat} {cs : Array Value} {t : TypeId} {fr : Nat × Nat} (hj : w.heap[j]? = some (.cells cs t fr)) (t1 : t ≠ e) (t2 : t ≠ e') : w'.heap[j]? = some (.cells cs t fr) := by
  refine (h.block j (lt_of_block hj) (fun er => ?_) (fun er => ?_)).trans hj
  · obtain ⟨c2, f2, k2⟩ := rk_kind o1 (h1.trans er.symm)
    rw [hj] at k2; cases k2; exact t1 rfl
  · obtain ⟨c2, f2, k2⟩ := rk_kind o2 (h2.trans er.symm)
    rw [hj] at k2; cases k2; exact t2 rfl

end Go.Proofs.YtiejfnnokfedkaaDoor

/- The program's DiskOk. No condition. -/
namespace Go.Proofs.YtiejfnnokfedkaaDoor
open Go.RowKit
set_option maxRecDepth 100000
set_option linter.unusedVariables false

theorem ihasSector_any (x : Int) (w : World) : Calls Tryd.prog 42 #[.int .i64 x] w fun e w' => e = .returned (.bool (inB x 0 129)) ∧ w' = w := by
  by_cases h1 : 0 ≤ x
  · by_cases h2 : x < 130
    · rw [inB_yes h1 (by omega)]
      go_enter Tryd.func42, Tryd.ntmps42
      go_wp2
      go_ret
      exact ⟨rfl, rfl⟩
    · have : inB x 0 129 = false := by simp [inB]; omega
      rw [this]
      go_enter Tryd.func42, Tryd.ntmps42
      go_wp2
      go_ret
      exact ⟨rfl, rfl⟩
  · have : inB x 0 129 = false := by simp [inB]; omega
    rw [this]
    go_enter Tryd.func42, Tryd.ntmps42
    go_wp2
    go_ret
    exact ⟨rfl, rfl⟩

/-- A put that is right. -/
def putB (p : Int × ByteArray) : Bool := inB p.1 0 129 && decide (p.2.size = 64)
set_option maxRecDepth 100000 in
theorem iputOk_any (x : Int) (s : ByteArray) (w : World) (hs : s.size ≤ 1099511627776) : Calls Tryd.prog 75 #[.agg #[.int .i64 x, .string s]] w fun e w' => e = .returned (.bool (putB (x, s))) ∧ Below w.heap.size w w' := by
  obtain ⟨w1, hw1⟩ : ∃ y, y = w.alloc (.cells #[.int .i64 x, .string s] 76) := ⟨_, rfl⟩
  have b1 : Below w.heap.size w w1 := by rw [hw1]; exact (Below.refl _ _).alloc (Nat.le_refl _) _
  have x1 : w1.heap[w.heap.size]? = some (.cells #[.int .i64 x, .string s] 76 (0, 0)) := by rw [hw1]; exact World.alloc_heap_new _ _
  obtain ⟨q1, q2, _, _⟩ := rk_two x1
  have B1 := (show Hid (Below w.heap.size w w1) from b1)
  have Q := (show Hid _ from q2)
  clear x1 b1 q2
  go_enter Tryd.func75, Tryd.ntmps75
  go_wp2_with fail
  go_at_call 42
  rw [← hw1]
  refine (ihasSector_any x w1).mono ?_
  rintro e w2 ⟨rfl, e2⟩
  subst e2
  clear hw1
  have q2 := Q.out
  cases hi : inB x 0 129
  · have HR : Hid (putB (x, s) = false) := (show putB (x, s) = false by simp [putB, hi])
    clear hi
    go_wp2
    go_ret
    exact ⟨ret_bool HR.out.symm, B1.out⟩
  · by_cases e : s.size = 64
    · have HR : Hid (putB (x, s) = true) := (show putB (x, s) = true by simp [putB, hi, e])
      have hn : ((s.size : Int) == 64) = true := by simp; omega
      clear hi e
      go_wp2
      go_ret
      exact ⟨ret_bool HR.out.symm, B1.out⟩
    · have HR : Hid (putB (x, s) = false) := (show putB (x, s) = false by simp [putB, hi, e])
      have hn : ((s.size : Int) == 64) = false := by simp; omega
      clear hi e
      go_wp2
      go_ret
      exact ⟨ret_bool HR.out.symm, B1.out⟩

theorem putB_no {d : PDisk} {k : Nat} (hk : k < d.late.length) (h : putB d.late[k] = false) : diskB d = false := by
  apply diskB_no4 hk
  simp only [putB, Bool.and_eq_false_iff, decide_eq_false_iff_not] at h
  exact h
theorem putB_yes {p : Int × ByteArray} (h : putB p = true) : inB p.1 0 129 = true ∧ p.2.size = 64 := by simpa [putB] using h

set_option maxHeartbeats 2000000 in
set_option maxRecDepth 100000 in
theorem idiskOk_any {w : World} {v : Value} {d : PDisk} (h : DiskAt w v d) (hf : DiskFit d) :
    Calls Tryd.prog 41 #[v] w fun e w' => e = .returned (.bool (diskB d)) ∧ Below w.heap.size w w' := by
  obtain ⟨sa, sn, sc, la, ln, lc, rfl, h1, h2⟩ := h
  have f1 := hf.sl
  have f2 := hf.ll
  have F3 := (show Hid (∀ s ∈ d.safe, s.size ≤ 1099511627776) from hf.st)
  have F4 := (show Hid (∀ p ∈ d.late, p.2.size ≤ 1099511627776) from hf.lt)
  obtain ⟨a1, c1, e1, _, _, hs⟩ := h1.str
  cases e1
  obtain ⟨a2, c2, e2, _, _, hp⟩ := h2.put
  cases e2
  have HS := (show Hid (∀ k (hk : k < d.safe.length), ∃ b off, sa = some ⟨b, off, none⟩ ∧ b < w.heap.size ∧ w.cell? ⟨b, off + k, none⟩ = some (.string d.safe[k])) from hs)
  have HP := (show Hid (∀ k (hk : k < d.late.length), ∃ b off, la = some ⟨b, off, none⟩ ∧ b < w.heap.size ∧ w.cell? ⟨b, off + k * 2, none⟩ = some (.int .i64 d.late[k].1) ∧ w.cell? ⟨b, off + k * 2 + 1, none⟩ = some (.string d.late[k].2)) from hp)
  clear h1 h2 hf hs hp
  obtain ⟨w1, hw1⟩ : ∃ x, x = w.alloc (.cells #[.slice sa d.safe.length sc, .slice la d.late.length lc] 34) := ⟨_, rfl⟩
  have b1 : Below w.heap.size w w1 := by rw [hw1]; exact (Below.refl _ _).alloc (Nat.le_refl _) _
  have x1 : w1.heap[w.heap.size]? = some (.cells #[.slice sa d.safe.length sc, .slice la d.late.length lc] 34 (0, 0)) := by rw [hw1]; exact World.alloc_heap_new _ _
  have X1 := (show Hid _ from x1)
  have B1 := (show Hid (Below w.heap.size w w1) from b1)
  obtain ⟨q1, q2, _, _⟩ := rk_two x1
  have Q := (show Hid (w1.cell? ⟨w.heap.size, 0, none⟩ = some (.slice sa d.safe.length sc) ∧ w1.cell? ⟨w.heap.size, 1, none⟩ = some (.slice la d.late.length lc)) from ⟨q1, q2⟩)
  clear x1 b1 q1 q2
  by_cases hl1 : d.safe.length = 130
  · by_cases hl2 : d.late.length ≤ 200
    · have hl2' : ¬ (200 < (d.late.length : Int)) := by omega
      have hn1 : ((d.safe.length : Int) != 130) = false := by simp; omega
      have HL1 := (show Hid (d.safe.length = 130) from hl1)
      clear hl1
      obtain ⟨q1, q2⟩ := Q.out
      go_enter Tryd.func41, Tryd.ntmps41
      go_wp2
      rw [← hw1]
      go_loopw [20] (fun i wr => ∃ k : Nat, k ≤ d.safe.length ∧ i = .int .i64 k ∧ (∀ j (hj : j < d.safe.length), j < k → d.safe[j].size = 64) ∧ w1 = wr) (fun i _ => d.safe.length - (intOf i).toNat)
      case atStart => exact ⟨0, Nat.zero_le _, rfl, fun j hj h => by omega, rfl⟩
      case round =>
        obtain ⟨k, hk, rfl, he, rfl⟩ := hrel
        have HE := (show Hid (∀ j (hj : j < d.safe.length), j < k → d.safe[j].size = 64) from he)
        clear he hw1
        by_cases hlt : k < d.safe.length
        · obtain ⟨b, o, rfl, hb, c⟩ := HS.out k hlt
          have c' := (B1.out.cell (p := ⟨b, o + k, none⟩) hb).trans c
          have hz := F3.out _ (List.getElem_mem hlt)
          have HN := (show Hid (d.safe[k].size ≠ 64 → diskB d = false) from diskB_no3 hlt)
          have HX := (show Hid (d.safe[k].size = 64 → ∀ j (hj : j < d.safe.length), j < k + 1 → d.safe[j].size = 64) from fun e j hj h => by
            by_cases e2 : j = k
            · subst e2; exact e
            · exact HE.out j hj (by omega))
          obtain ⟨x, hx⟩ : ∃ x, x = d.safe[k] := ⟨_, rfl⟩
          rw [← hx] at c' hz HN HX
          clear hx c
          by_cases e : x.size = 64
          · have hn : ((x.size : Int) != 64) = false := by simp; omega
            have HX' := (show Hid _ from HX.out e)
            clear HX HN e
            go_wp2
            go_roundw
            case rel => exact ⟨k + 1, by omega, by go_num, HX'.out, by first | rfl | trivial⟩
            case measure => simp [intOf]; omega
          · have hn : ((x.size : Int) != 64) = true := by simp; omega
            have HN' := (show Hid _ from HN.out e)
            clear HX HN e
            go_wp2
            go_ret
            exact ⟨ret_bool HN'.out.symm, B1.out⟩
        · have HE2 := (show Hid (∀ j (hj : j < d.safe.length), d.safe[j].size = 64) from fun j hj => HE.out j hj (by omega))
          clear HE
          go_wp2
          go_loopw [31] (fun i wr => ∃ k : Nat, k ≤ d.late.length ∧ i = .int .i64 k ∧ (∀ j (hj : j < d.late.length), j < k → inB d.late[j].1 0 129 = true ∧ d.late[j].2.size = 64) ∧ Below w1.heap.size w1 wr) (fun i _ => d.late.length - (intOf i).toNat)
          case atStart => exact ⟨0, Nat.zero_le _, rfl, fun j hj h => by omega, Below.refl _ _⟩
          case round =>
            clear q1 q2
            obtain ⟨m, hm, rfl, he, bel⟩ := hrel
            have HE := (show Hid (∀ j (hj : j < d.late.length), j < m → inB d.late[j].1 0 129 = true ∧ d.late[j].2.size = 64) from he)
            clear he
            by_cases hlt2 : m < d.late.length
            · obtain ⟨b, o, rfl, hb, c3, c4⟩ := HP.out m hlt2
              have hb1 : b < w1.heap.size := Nat.lt_of_lt_of_le hb B1.out.size
              have c3' := (bel.cell (p := ⟨b, o + m * 2, none⟩) hb1).trans ((B1.out.cell (p := ⟨b, o + m * 2, none⟩) hb).trans c3)
              have c4' := (bel.cell (p := ⟨b, o + m * 2 + 1, none⟩) hb1).trans ((B1.out.cell (p := ⟨b, o + m * 2 + 1, none⟩) hb).trans c4)
              have hz := F4.out _ (List.getElem_mem hlt2)
              have HN := (show Hid (putB d.late[m] = false → diskB d = false) from putB_no hlt2)
              have HX := (show Hid (putB d.late[m] = true → ∀ j (hj : j < d.late.length), j < m + 1 → inB d.late[j].1 0 129 = true ∧ d.late[j].2.size = 64) from fun e j hj h => by
                by_cases e2 : j = m
                · subst e2; exact putB_yes e
                · exact HE.out j hj (by omega))
              obtain ⟨x, hx⟩ : ∃ x, x = d.late[m] := ⟨_, rfl⟩
              rw [← hx] at c3' c4' hz HN HX
              obtain ⟨xa, xs⟩ := x
              simp only at c3' c4' hz HN HX
              clear hx c3 c4
              obtain ⟨wx, hwx⟩ : ∃ wx, wx = wr.alloc (.cells #[.int .i64 xa, .string xs] 76) := ⟨_, rfl⟩
              have bx : Below wr.heap.size wr wx := by rw [hwx]; exact (Below.refl _ _).alloc (Nat.le_refl _) _
              have belx := bel.trans (bx.mono bel.size)
              have CC := iputOk_any xa xs wx hz
              obtain ⟨r, hr⟩ : ∃ r, r = putB (xa, xs) := ⟨_, rfl⟩
              rw [← hr] at CC HN HX
              have C2 := (show Hid _ from CC)
              have BX := (show Hid (Below w1.heap.size w1 wx) from belx)
              clear hr CC bx belx
              go_wp2_with fail
              go_at_call 75
              rw [← hwx]
              refine Calls.mono C2.out ?_
              rintro e w2 ⟨rfl, b2⟩
              replace b2 := BX.out.trans (b2.mono BX.out.size)
              clear C2 hwx c3' c4'
              cases r
              · have HN' := (show Hid _ from HN.out rfl)
                clear HX HN
                go_wp2
                go_ret
                exact ⟨ret_bool HN'.out.symm, B1.out.trans (b2.mono B1.out.size)⟩
              · have HX' := (show Hid _ from HX.out rfl)
                clear HX HN
                go_wp2
                go_roundw
                case rel => exact ⟨m + 1, by omega, by go_num, HX'.out, b2⟩
                case measure => simp [intOf]; omega
            · have HD : Hid (diskB d = true) := diskB_yes HL1.out hl2 HE2.out (fun j hj => HE.out j hj (by omega))
              go_wp2
              go_ret
              exact ⟨ret_bool HD.out.symm, B1.out.trans (bel.mono B1.out.size)⟩
    · have hn1 : ((d.safe.length : Int) != 130) = false := by simp; omega
      have hl2' : 200 < (d.late.length : Int) := by omega
      have HD := (show Hid (diskB d = false) from diskB_no2 (by omega))
      clear hl1
      have B2 := (show Hid _ from B1.out)
      rw [hw1] at B2
      go_enter Tryd.func41, Tryd.ntmps41
      go_wp2
      go_ret
      exact ⟨ret_bool HD.out.symm, B2.out⟩
  · have hn1 : ((d.safe.length : Int) != 130) = true := by simp; omega
    have HD := (show Hid (diskB d = false) from diskB_no1 hl1)
    have B2 := (show Hid _ from B1.out)
    rw [hw1] at B2
    go_enter Tryd.func41, Tryd.ntmps41
    go_wp2
    go_ret
    exact ⟨ret_bool HD.out.symm, B2.out⟩
end Go.Proofs.YtiejfnnokfedkaaDoor

/- The program's copies of rows (written by mk/icopyr.py). No condition. -/
namespace Go.Proofs.YtiejfnnokfedkaaDoor
open Go.RowKit
set_option maxRecDepth 100000
set_option linter.unusedVariables false

/-- A row of the call's own, or one that is empty and has no room. -/
def OwnZ (B e size : Nat) (w : World) (v : Value) (n : Nat) (xs : List Value) : Prop := w.ownsRow B e size v n xs ∨ (n = 0 ∧ xs = [] ∧ ∃ a, v = .slice (some a) 0 0)

/-- 's = append(s[:0:0], u...)'. -/
theorem wpList_app0 {P : Program} (w : World) {ops : Array Oper} {rest : List Oper} {o : Oper} {a : Act} {Q : Exit → Act → World → Prop} (hgd : o.guard = none)
    (s x : Operand) (t : TypeId) (ho : o.op = Op.call { callee := Callee.builtin Builtin.append, args := #[s, x], argTypes := #[t, t] }) (B : Nat) (e : TypeId) (i : TypeInfo)
    (z : Value) (size bytes : Nat) (ht : P.underlying t = some (TypeDesc.slice e)) (hi : P.info? e = some i) (hz : i.zero = some z) (hsize : i.size = size) (hby : i.bytes = bytes)
    (hzs : z.cells.size = size) (hpos : 0 < size) (ad bd : Addr) (m cap : Nat) (ys : List Value) (hs : a.eval s = .slice (some ad) 0 0) (hx : a.eval x = .slice (some bd) m cap) (hu : Sv size w (.slice (some bd) m cap) ys)
    (hb : m * bytes ≤ 140737488355328) (h63 : m ≤ maxLen) (hbase : B ≤ w.heap.size)
    (h : ∀ (v' : Value) (w' : World), OwnZ B e size w' v' m ys → Below w.heap.size w w' → wpList P ops Q rest (a.put o.dst v') w') :
    wpList P ops Q (o :: rest) a w := by
  subst hsize
  subst hby
  obtain ⟨ao, len, cap', ev, hl, hlc, hcm, hnone, hc⟩ := hu
  cases ev
  have hnews : ∀ j y, ys[j]? = some y → w.cell? (bd.add j) = some y := by
    intro j y hy
    have hj : j < ys.length := by
      by_cases hj : j < ys.length
      · exact hj
      · rw [List.getElem?_eq_none (Nat.le_of_not_lt hj)] at hy; cases hy
    obtain ⟨b, off, e, c⟩ := hc j hj
    cases e
    have e2 : ys.getD j undef = y := by rw [List.getD_eq_getElem?_getD, hy]; rfl
    rw [e2] at c
    rw [← c]
    by_cases h0 : j = 0
    · subst h0; simp [Addr.add]
    · simp [Addr.add, h0]
  refine wpList_plain hgd fun K hK => ?_
  by_cases hm : m = 0
  · subst hm
    have hy : ys = [] := List.length_eq_zero_iff.mp (by omega)
    subst hy
    have hr : (Builtin.append_ #[t, t] o.type #[.slice (some ad) 0 0, .slice (some bd) 0 cap]).run P w = .ok (.slice (some ad) 0 0) w := by
      simp [Builtin.append_, run_underlying ht, sizeOf, typeInfo, hi, Builtin.lenOf, Builtin.firstCells, loadCells, loadCellsFrom, storeCells]
    unfold Oper.wp execOp
    simp only [ho, resolve, invoke, builtin, Sem.run_bind, Sem.run_pure, Result.andThen_ok, List.map_toArray, List.map_cons, List.map_nil, hs, hx, hr]
    exact hK _ _ (h _ _ (.inr ⟨rfl, rfl, ad, rfl⟩) (Below.refl _ _))
  · have hr := run_append_grow (P := P) w t o.type e i z ht hi hz ad 0 0 [] (by simp) (fun j y hy => by simp at hy) bd m cap ys hl hnews (by omega) (by simp only [maxLen] at h63; omega) (growslice_fits (by omega) (by rw [Nat.zero_add]; exact hb))
    simp only [Nat.zero_add, Array.empty_append] at hr
    unfold Oper.wp execOp
    simp only [ho, resolve, invoke, builtin, Sem.run_bind, Sem.run_pure, Result.andThen_ok, List.map_toArray, List.map_cons, List.map_nil, hs, hx, hr]
    have hge := grownCap_ge w m 0 e
    have hgm := grownCap_le_maxLen w m 0 e h63
    refine hK _ _ (h _ _ (.inl ⟨hl, .inr ⟨w.heap.size, _, _, rfl, hbase, heap_alloc_new w.drew _, hge, hgm, ?_, ?_⟩⟩) ?_)
    · simp only [Array.size_append, List.size_toArray, size_zeroCells, hzs, hl]
      rw [← Nat.add_mul]
      congr 1
      omega
    · simp only [Array.toList_append]
      rw [← hl]
      exact List.take_left
    · exact ⟨rfl, rfl, rfl, by simp, fun k hk => (Below.heap_alloc w.drew _ k hk)⟩

/-- What an append onto a row turns: that row's block, if it has one, and it is of the row's type. -/
structure GrewZ (B e : Nat) (w w' : World) (row : Option Nat) : Prop where
  grown : w.grownBy w' row
  kind : ∀ r, row = some r → B ≤ r ∧ ∃ cs fr, w.heap[r]? = some (.cells cs e fr)
theorem GrewZ.keep {B e : Nat} {w w' : World} {row : Option Nat} (h : GrewZ B e w w' row) {j : Nat} {cs : Array Value} {t : TypeId} {fr : Nat × Nat} (hj : w.heap[j]? = some (.cells cs t fr)) (ht : t ≠ e) : w'.heap[j]? = some (.cells cs t fr) := by
  refine (h.grown.block j (lt_of_block hj) (fun er => ?_)).trans hj
  obtain ⟨_, c2, f2, h2⟩ := h.kind j er.symm
  rw [hj] at h2
  cases h2
  exact ht rfl
theorem GrewZ.row {B e B' e' size n : Nat} {w w' : World} {row : Option Nat} {v : Value} {xs : List Value} (h : GrewZ B e w w' row) (o : w.ownsRow B' e' size v n xs) (ht : e ≠ e') : w'.ownsRow B' e' size v n xs :=
  rk_type o h.grown (fun r er => by obtain ⟨_, c, f, hh⟩ := h.kind r er; exact ⟨c, e, f, hh, ht⟩)
theorem GrewZ.rowZ {B e B' e' size n : Nat} {w w' : World} {row : Option Nat} {v : Value} {xs : List Value} (h : GrewZ B e w w' row) (o : OwnZ B' e' size w v n xs) (ht : e ≠ e') : OwnZ B' e' size w' v n xs := by
  rcases o with o | o
  · exact .inl (h.row o ht)
  · exact .inr o
theorem GrewZ.below {B e : Nat} {w0 w w' : World} {row : Option Nat} (h : GrewZ B e w w' row) (b : Below B w0 w) (hB : B ≤ w.heap.size) : Below B w0 w' :=
  b.grown h.grown hB (fun r er => (h.kind r er).1)
/-- 'v = append(v, u...)', v as a copy of a row is, u some. -/
theorem wpList_appZ {P : Program} (w : World) {ops : Array Oper} {rest : List Oper} {o : Oper} {a : Act} {Q : Exit → Act → World → Prop} (hgd : o.guard = none)
    (s x : Operand) (t : TypeId) (ho : o.op = Op.call { callee := Callee.builtin Builtin.append, args := #[s, x], argTypes := #[t, t] }) (B : Nat) (e : TypeId) (i : TypeInfo)
    (z : Value) (size bytes : Nat) (ht : P.underlying t = some (TypeDesc.slice e)) (hi : P.info? e = some i) (hz : i.zero = some z) (hsize : i.size = size) (hby : i.bytes = bytes)
    (hzs : z.cells.size = size) (hpos : 0 < size) (v : Value) (n : Nat) (xs : List Value) (bd : Addr) (m cap : Nat) (ys : List Value) (hs : a.eval s = v) (hx : a.eval x = .slice (some bd) m cap) (hown : OwnZ B e size w v n xs) (hu : Sv size w (.slice (some bd) m cap) ys)
    (hm : 0 < m) (h1 : ∀ y ∈ ys, y.oneCell' = true) (hb : (n + m) * bytes ≤ 140737488355328) (h63 : n + m ≤ maxLen) (hbase : B ≤ w.heap.size)
    (h : ∀ (v' : Value) (w' : World) (row : Option Nat), w'.ownsRow B e size v' (n + m) (xs ++ ys) → GrewZ B e w w' row → wpList P ops Q rest (a.put o.dst v') w') :
    wpList P ops Q (o :: rest) a w := by
  have hl : ys.length = m * size := by
    obtain ⟨_, _, _, ev, hl, _⟩ := hu
    cases ev; exact hl
  rcases hown with hown | ⟨rfl, rfl, ad, rfl⟩
  · exact wpList_appV w hgd s x t ho B e i z size bytes ht hi hz hsize hby hzs hpos v _ n m xs ys hs hx hown hu hl h1 hb h63 hbase fun v' w' o' g' => h v' w' _ o' ⟨g', fun r er => ⟨(World.ownsRow.lt hown r er).1, rk_kind hown er⟩⟩
  · refine wpList_app0 w hgd s x t ho B e i z size bytes ht hi hz hsize hby hzs hpos ad bd m cap ys hs hx hu (by simpa using hb) (by simpa using h63) hbase fun v' w' o' b' => ?_
    rcases o' with o' | ⟨h0, _⟩
    · exact h v' w' none (by simpa using o') ⟨⟨b'.os, b'.tape, b'.output, b'.size, fun k hk _ => b'.block k hk⟩, fun r er => by cases er⟩
    · omega
theorem Tryd.infoSec : (Tryd.prog.info? 59).map (fun i => (i.zero, i.size, i.bytes)) = some (some (.agg (Array.replicate 64 (.int .u8 0))), 64, 64) := by kernel_rfl

set_option maxRecDepth 100000 in
theorem icopyS_any {w : World} {v : Value} {xs : List Value} {m : Nat} (h : Sv 1 w v xs) (hm : xs.length = m * 1) (hn : m ≤ 1048576) :
    Calls Tryd.prog 77 #[v] w fun e w' => ∃ v', e = .returned v' ∧ OwnZ w.heap.size 9 1 w' v' m xs ∧ Below w.heap.size w w' := by
  obtain ⟨i0, hi, hz0, hz1, hz2⟩ := info_parts Tryd.infoStr
  have H := (show Hid (Sv 1 w v xs) from h)
  obtain ⟨a, len, cap, rfl, hl, hlc, hcm, hnone, hc⟩ := h
  have hlm : len = m := by omega
  subst hlm
  clear hl hc
  cases a with
  | none =>
    have hc0 := hnone rfl
    subst hc0
    have hl0 : len = 0 := by omega
    subst hl0
    have HX : Hid (xs = []) := (show xs = [] from List.length_eq_zero_iff.mp (by omega))
    clear hm hnone
    go_enter Tryd.func77, Tryd.ntmps77
    go_wp2
    go_ret
    rw [HX.out]
    exact ⟨_, rfl, .inl (World.ownsRow_nil _ _ _ _), Below.refl _ _⟩
  | some a =>
    go_enter Tryd.func77, Tryd.ntmps77
    go_wp2_with (at_builtin
                 refine wpList_app0 _ rfl (.tmp 4) (.tmp 5) 31 rfl w.heap.size 9 i0 _ 1 16 Tryd.underlying31 hi hz0 hz1 hz2 (by decide) (by decide) a a len cap xs rfl rfl H.out (by omega) (by unfold maxLen; omega) (Nat.le_refl _) ?_
                 intro v2 w2 o2 b2)
    go_ret
    exact ⟨_, rfl, o2, b2⟩

set_option maxRecDepth 100000 in
theorem icopyP_any {w : World} {v : Value} {xs : List Value} {m : Nat} (h : Sv 2 w v xs) (hm : xs.length = m * 2) (hn : m ≤ 1048576) :
    Calls Tryd.prog 78 #[v] w fun e w' => ∃ v', e = .returned v' ∧ OwnZ w.heap.size 76 2 w' v' m xs ∧ Below w.heap.size w w' := by
  obtain ⟨i0, hi, hz0, hz1, hz2⟩ := info_parts Tryd.infoPut
  have H := (show Hid (Sv 2 w v xs) from h)
  obtain ⟨a, len, cap, rfl, hl, hlc, hcm, hnone, hc⟩ := h
  have hlm : len = m := by omega
  subst hlm
  clear hl hc
  cases a with
  | none =>
    have hc0 := hnone rfl
    subst hc0
    have hl0 : len = 0 := by omega
    subst hl0
    have HX : Hid (xs = []) := (show xs = [] from List.length_eq_zero_iff.mp (by omega))
    clear hm hnone
    go_enter Tryd.func78, Tryd.ntmps78
    go_wp2
    go_ret
    rw [HX.out]
    exact ⟨_, rfl, .inl (World.ownsRow_nil _ _ _ _), Below.refl _ _⟩
  | some a =>
    go_enter Tryd.func78, Tryd.ntmps78
    go_wp2_with (at_builtin
                 refine wpList_app0 _ rfl (.tmp 4) (.tmp 5) 32 rfl w.heap.size 76 i0 _ 2 24 Tryd.underlying32 hi hz0 hz1 hz2 (by decide) (by decide) a a len cap xs rfl rfl H.out (by omega) (by unfold maxLen; omega) (Nat.le_refl _) ?_
                 intro v2 w2 o2 b2)
    go_ret
    exact ⟨_, rfl, o2, b2⟩

end Go.Proofs.YtiejfnnokfedkaaDoor

/- The program's copy of a disk, and DiskPut. No condition. -/
namespace Go.Proofs.YtiejfnnokfedkaaDoor
open Go.RowKit
set_option maxRecDepth 100000
set_option linter.unusedVariables false

/-- A disk in memory of the call's own, but that what is empty may have no room at all. -/
def OwnDz (B : Nat) (w : World) (v : Value) (d : PDisk) : Prop := ∃ sa sn sc la ln lc, v = .agg #[.slice sa sn sc, .slice la ln lc] ∧ OwnZ B 9 1 w (.slice sa sn sc) d.safe.length (strCells d.safe) ∧ OwnZ B 76 2 w (.slice la ln lc) d.late.length (putCells d.late)
theorem OwnZ.below {B e size n : Nat} {w w' : World} {v : Value} {xs : List Value} (h : OwnZ B e size w v n xs) (b : Below w.heap.size w w') : OwnZ B e size w' v n xs := by
  rcases h with h | h
  · exact .inl (ownsRow_below h b)
  · exact .inr h
theorem OwnZ.base {B B' e size n : Nat} {w : World} {v : Value} {xs : List Value} (h : OwnZ B e size w v n xs) (b : B' ≤ B) : OwnZ B' e size w v n xs := by
  rcases h with h | h
  · exact .inl (rk_base h b)
  · exact .inr h
theorem OwnZ.slice {B e size n : Nat} {w : World} {v : Value} {xs : List Value} (h : OwnZ B e size w v n xs) : ∃ a m c, v = .slice a m c := by
  rcases h with h | ⟨_, _, a, h⟩
  · exact rk_slice h
  · exact ⟨_, _, _, h⟩
theorem OwnZ.sv {B e size n : Nat} {w : World} {v : Value} {xs : List Value} (h : OwnZ B e size w v n xs) : Sv size w v xs := by
  rcases h with h | ⟨rfl, rfl, a, rfl⟩
  · exact sv_of_own h
  · exact ⟨some a, 0, 0, rfl, by simp, Nat.le_refl _, Nat.zero_le _, (fun e => by cases e), fun i hi => by simp at hi⟩
theorem OwnZ.set {B e size n b k : Nat} {w : World} {v u : Value} {xs : List Value} (h : OwnZ B e size w v n xs) {cs : Array Value} {t : TypeId} {fr : Nat × Nat} (hb : w.heap[b]? = some (.cells cs t fr)) (ht : t ≠ e) : OwnZ B e size (w.setCell ⟨b, k, none⟩ u) v n xs := by
  rcases h with h | h
  · exact .inl (rk_set h hb ht)
  · exact .inr h

set_option maxHeartbeats 1000000 in
set_option maxRecDepth 100000 in
theorem icopyOfDisk_any {w : World} {v : Value} {d : PDisk} (h : DiskAt w v d) (hf : DiskFit d) :
    Calls Tryd.prog 48 #[v] w fun e w' => ∃ v', e = .returned v' ∧ OwnDz w.heap.size w' v' d ∧ Below w.heap.size w w' := by
  obtain ⟨sa, sn, sc, la, ln, lc, rfl, h1, h2⟩ := h
  have f1 := hf.sl
  have f2 := hf.ll
  have H1 := (show Hid (Sv 1 w (.slice sa sn sc) (strCells d.safe)) from h1)
  have H2 := (show Hid (Sv 2 w (.slice la ln lc) (putCells d.late)) from h2)
  clear h1 h2 hf
  obtain ⟨w1, hw1⟩ : ∃ x, x = (w.alloc (.cells #[.slice sa sn sc, .slice la ln lc] 34)).alloc (.cells #[.slice none 0 0, .slice none 0 0] 34) := ⟨_, rfl⟩
  have b1 : Below w.heap.size w w1 := by rw [hw1]; exact ((Below.refl _ _).alloc (Nat.le_refl _) _).alloc (by simp) _
  have x1 : w1.heap[w.heap.size]? = some (.cells #[.slice sa sn sc, .slice la ln lc] 34 (0, 0)) := by rw [hw1, Below.heap_alloc _ _ _ (by simp)]; exact World.alloc_heap_new _ _
  have x2 : w1.heap[w.heap.size + 1]? = some (.cells #[.slice none 0 0, .slice none 0 0] 34 (0, 0)) := by
    rw [hw1]
    have := World.alloc_heap_new (w.alloc (.cells #[.slice sa sn sc, .slice la ln lc] 34)) (.cells #[.slice none 0 0, .slice none 0 0] 34)
    rwa [World.size_alloc] at this
  have X1 := (show Hid _ from x1)
  have X2 := (show Hid _ from x2)
  have B1 := (show Hid (Below w.heap.size w w1) from b1)
  obtain ⟨q1, q2, _, _⟩ := rk_two x1
  clear b1 x1 x2
  go_enter Tryd.func48, Tryd.ntmps48
  go_wp2_with fail
  rw [← hw1]
  clear hw1
  have BD := (show Hid (Below w1.heap.size w1 w1.drew) from below_drewN 1)
  go_region_with (first
    | (go_at_call 77
       refine (icopyS_any (H1.out.below (B1.out.trans (BD.out.mono B1.out.size))) (m := d.safe.length) (by rw [strCells_len]; omega) f1).mono ?_
       rintro e w2 ⟨v2, rfl, o2, b2⟩
       have B2 := (show Hid (Below w1.heap.size w1 w2) from BD.out.trans (b2.mono BD.out.size))
       obtain ⟨ta, tn, tc, rfl⟩ := o2.slice
       have y1 := (B2.out.block _ (lt_of_block X1.out)).trans X1.out
       obtain ⟨q1, q2, _, _⟩ := rk_two y1
       have O2 := (show Hid (OwnZ w.heap.size 9 1 w2 (.slice ta tn tc) d.safe.length (strCells d.safe)) from o2.base (Nat.le_trans B1.out.size BD.out.size))
       clear y1 o2 b2)
    | (go_at_call 78
       refine (icopyP_any (H2.out.below (B1.out.trans (B2.out.mono B1.out.size))) (m := d.late.length) (by rw [putCells_len]) f2).mono ?_
       rintro e w3 ⟨v3, rfl, o3, b3⟩
       have B3 := (show Hid (Below w1.heap.size w1 w3) from B2.out.trans (b3.mono B2.out.size))
       obtain ⟨ma, mn, mc, rfl⟩ := o3.slice
       have y2 := (B3.out.block _ (lt_of_block X2.out)).trans X2.out
       obtain ⟨r1, r2, r3, r4⟩ := rk_two y2
       have O3 := (show Hid (OwnZ w.heap.size 76 2 w3 (.slice ma mn mc) d.late.length (putCells d.late)) from o3.base (Nat.le_trans B1.out.size B2.out.size))
       have O23 := (show Hid (OwnZ w.heap.size 9 1 w3 (.slice ta tn tc) d.safe.length (strCells d.safe)) from O2.out.below b3)
       have Y2 := (show Hid _ from y2)
       clear y2 o3 b3 O2))
  all_goals go_wp2
  all_goals
    have s1 := rk_at (k := 0) (u := .slice ta tn tc) Y2.out
    have s2 := rk_at (k := 1) (u := .slice ma mn mc) s1
    refine bodyPost_ret (results_cell_row rfl _ _ (w.heap.size + 1) 34 #[.slice ta tn tc, .slice ma mn mc] (0, 0) _ rfl s2 Tryd.underlying34 rfl rfl) rfl ?_
    exact ⟨_, rfl, ⟨_, _, _, _, _, _, rfl, (O23.out.set (k := 0) Y2.out (by decide)).set (k := 1) s1 (by decide), (O3.out.set (k := 0) Y2.out (by decide)).set (k := 1) s1 (by decide)⟩, ((B1.out.trans (B3.out.mono B1.out.size)).setCell (Nat.le_succ _) _).setCell (Nat.le_succ _) _⟩

/-- What DiskPut answers, where what is empty may have no room. -/
def DiskPutOz : Prop := ∀ (w : World) (v : Value) (d : PDisk) (x : Int) (s : ByteArray), DiskAt w v d → DiskFit d → s.size ≤ 1099511627776 → Calls Tryd.prog 40 #[v, .int .i64 x, .string s] w fun e w' => ∃ v', e = .returned (.tuple #[v', .bool (putDk d x s).2]) ∧ OwnDz w.heap.size w' v' (putDk d x s).1 ∧ Below w.heap.size w w'

set_option maxHeartbeats 1000000 in
set_option maxRecDepth 100000 in
theorem idiskPut_any : DiskPutOz := by
  intro w v d x s h hf hsz
  have HD := (show Hid (DiskAt w v d) from h)
  have HF := (show Hid (DiskFit d) from hf)
  have f2 := hf.ll
  obtain ⟨sa, sn, sc, la, ln, lc, rfl, _, h2⟩ := h
  obtain ⟨_, _, e2, _, _, _⟩ := h2.put
  cases e2
  clear h2 hf
  obtain ⟨w1, hw1⟩ : ∃ x, x = (w.alloc (.cells #[.slice sa sn sc, .slice la d.late.length lc] 34)).alloc (.cells #[.slice none 0 0, .slice none 0 0] 34) := ⟨_, rfl⟩
  have b1 : Below w.heap.size w w1 := by rw [hw1]; exact ((Below.refl _ _).alloc (Nat.le_refl _) _).alloc (by simp) _
  have x1 : w1.heap[w.heap.size]? = some (.cells #[.slice sa sn sc, .slice la d.late.length lc] 34 (0, 0)) := by rw [hw1, Below.heap_alloc _ _ _ (by simp)]; exact World.alloc_heap_new _ _
  have x2 : w1.heap[w.heap.size + 1]? = some (.cells #[.slice none 0 0, .slice none 0 0] 34 (0, 0)) := by
    rw [hw1]
    have := World.alloc_heap_new (w.alloc (.cells #[.slice sa sn sc, .slice la d.late.length lc] 34)) (.cells #[.slice none 0 0, .slice none 0 0] 34)
    rwa [World.size_alloc] at this
  have X1 := (show Hid _ from x1)
  have X2 := (show Hid _ from x2)
  have B1 := (show Hid (Below w.heap.size w w1) from b1)
  clear b1 x1 x2
  go_enter Tryd.func40, Tryd.ntmps40
  go_wp2_with fail
  go_at_call 41
  rw [← hw1]
  refine (idiskOk_any (HD.out.below B1.out) HF.out).mono ?_
  rintro e w2 ⟨rfl, b2⟩
  clear hw1
  have B2 := (show Hid (Below w.heap.size w w2) from B1.out.trans (b2.mono B1.out.size))
  have y1 := (b2.block _ (lt_of_block X1.out)).trans X1.out
  have y2 := (b2.block _ (lt_of_block X2.out)).trans X2.out
  obtain ⟨q1, q2, _, _⟩ := rk_two y1
  obtain ⟨r1, r2, r3, r4⟩ := rk_two y2
  have Y1 := (show Hid _ from y1)
  have Y2 := (show Hid _ from y2)
  clear b2 y1 y2
  cases hb : diskB d
  · have HR : Hid (putDk d x s = (zeroDk, false)) := (show putDk d x s = (zeroDk, false) by rw [putDk, if_pos hb])
    clear hb
    go_wp2
    have z2 := rk_at (k := 1) (u := .slice none 0 0) (rk_at (k := 0) (u := .slice none 0 0) Y2.out)
    refine bodyPost_ret (disk_res rfl rfl rfl z2) rfl ?_
    rw [HR.out]
    exact ⟨_, rfl, ⟨_, _, _, _, _, _, rfl, .inl (World.ownsRow_nil _ _ _ _), .inl (World.ownsRow_nil _ _ _ _)⟩, ((B2.out.setCell (Nat.le_succ _) _).setCell (Nat.le_succ _) _)⟩
  · have HB := (show Hid (diskB d = true) from hb)
    clear hb
    have CC := (show Hid _ from icopyOfDisk_any (HD.out.below B2.out) HF.out)
    go_wp2_with fail
    go_at_call 48
    refine Calls.mono CC.out ?_
    rintro e w3 ⟨v3, rfl, o3, b3⟩
    clear CC
    have B3 := (show Hid (Below w.heap.size w w3) from B2.out.trans (b3.mono B2.out.size))
    obtain ⟨ta, tn, tc, ma, mn, mc, rfl, o31, o32⟩ := o3
    obtain ⟨w4, hw4⟩ : ∃ y, y = (w3.alloc (.cells #[.slice ta tn tc, .slice ma mn mc] 34)).alloc (.cells #[.int .i64 x, .string s] 76) := ⟨_, rfl⟩
    have b34 : Below w3.heap.size w3 w4 := by rw [hw4]; exact ((Below.refl _ _).alloc (Nat.le_refl _) _).alloc (by simp) _
    have x4 : w4.heap[w3.heap.size]? = some (.cells #[.slice ta tn tc, .slice ma mn mc] 34 (0, 0)) := by rw [hw4, Below.heap_alloc _ _ _ (by simp)]; exact World.alloc_heap_new _ _
    have x5 : w4.heap[w3.heap.size + 1]? = some (.cells #[.int .i64 x, .string s] 76 (0, 0)) := by
      rw [hw4]
      have := World.alloc_heap_new (w3.alloc (.cells #[.slice ta tn tc, .slice ma mn mc] 34)) (.cells #[.int .i64 x, .string s] 76)
      rwa [World.size_alloc] at this
    have b24 : Below w2.heap.size w2 w4 := b3.trans (b34.mono b3.size)
    have Y14 := (show Hid (w4.heap[w.heap.size]? = some (.cells #[.slice sa sn sc, .slice la d.late.length lc] 34 (0, 0))) from (b24.block _ (lt_of_block Y1.out)).trans Y1.out)
    have Y24 := (show Hid (w4.heap[w.heap.size + 1]? = some (.cells #[.slice none 0 0, .slice none 0 0] 34 (0, 0))) from (b24.block _ (lt_of_block Y2.out)).trans Y2.out)
    have B4 := (show Hid (Below w.heap.size w w4) from B3.out.trans (b34.mono B3.out.size))
    have O1 := (show Hid (OwnZ w.heap.size 9 1 w4 (.slice ta tn tc) d.safe.length (strCells d.safe)) from (o31.base B2.out.size).below b34)
    have O2 := (show Hid (OwnZ w.heap.size 76 2 w4 (.slice ma mn mc) d.late.length (putCells d.late)) from (o32.base B2.out.size).below b34)
    have X4 := (show Hid _ from x4)
    have X5 := (show Hid _ from x5)
    have hl3 : w.heap.size + 1 < w3.heap.size := Nat.lt_of_lt_of_le (lt_of_block Y2.out) b3.size
    have HNE := (show Hid (w3.heap.size ≠ w.heap.size + 1 ∧ w.heap.size + 1 < w3.heap.size) from ⟨by omega, hl3⟩)
    clear b3 o31 o32 b34 x4 x5 b24 Y1 Y2 X1 X2 hl3
    have CP := iputOk_any x s w4 hsz
    obtain ⟨r, hr⟩ : ∃ r, r = putB (x, s) := ⟨_, rfl⟩
    rw [← hr] at CP
    have CP' := (show Hid _ from CP)
    clear CP
    go_wp2_with fail
    go_at_call 75
    rw [← hw4]
    refine Calls.mono CP'.out ?_
    rintro e w5 ⟨rfl, b5⟩
    clear hw4 CP'
    have Y15 := (show Hid (w5.heap[w.heap.size]? = some (.cells #[.slice sa sn sc, .slice la d.late.length lc] 34 (0, 0))) from (b5.block _ (lt_of_block Y14.out)).trans Y14.out)
    have Y25 := (show Hid (w5.heap[w.heap.size + 1]? = some (.cells #[.slice none 0 0, .slice none 0 0] 34 (0, 0))) from (b5.block _ (lt_of_block Y24.out)).trans Y24.out)
    have X45 := (show Hid (w5.heap[w3.heap.size]? = some (.cells #[.slice ta tn tc, .slice ma mn mc] 34 (0, 0))) from (b5.block _ (lt_of_block X4.out)).trans X4.out)
    have X55 := (show Hid (w5.heap[w3.heap.size + 1]? = some (.cells #[.int .i64 x, .string s] 76 (0, 0))) from (b5.block _ (lt_of_block X5.out)).trans X5.out)
    have B5 := (show Hid (Below w.heap.size w w5) from B4.out.trans (b5.mono B4.out.size))
    have O15 := (show Hid (OwnZ w.heap.size 9 1 w5 (.slice ta tn tc) d.safe.length (strCells d.safe)) from O1.out.below b5)
    have O25 := (show Hid (OwnZ w.heap.size 76 2 w5 (.slice ma mn mc) d.late.length (putCells d.late)) from O2.out.below b5)
    obtain ⟨q1, q2, _, _⟩ := rk_two Y15.out
    obtain ⟨r1, r2, r3, r4⟩ := rk_two Y25.out
    obtain ⟨t1, t2, t3, t4⟩ := rk_two X45.out
    obtain ⟨u1, u2, u3, u4⟩ := rk_two X55.out
    have hne := HNE.out.1
    clear b5 Y14 Y24 X4 X5 B4 O1 O2
    have fin : Hid (∀ r, putDk d x s = (d, r) → ∃ v', (Ending.returned (.tuple #[.agg #[.slice ta tn tc, .slice ma mn mc], .bool r])) = Ending.returned (.tuple #[v', .bool (putDk d x s).2]) ∧ OwnDz w.heap.size ((w5.setCell ⟨w.heap.size + 1, 0, none⟩ (.slice ta tn tc)).setCell ⟨w.heap.size + 1, 1, none⟩ (.slice ma mn mc)) v' (putDk d x s).1 ∧ Below w.heap.size w ((w5.setCell ⟨w.heap.size + 1, 0, none⟩ (.slice ta tn tc)).setCell ⟨w.heap.size + 1, 1, none⟩ (.slice ma mn mc))) := fun r e => by
      rw [e]
      have z1 := rk_at (k := 0) (u := .slice ta tn tc) Y25.out
      exact ⟨_, rfl, ⟨_, _, _, _, _, _, rfl, (O15.out.set Y25.out (by decide)).set z1 (by decide), (O25.out.set Y25.out (by decide)).set z1 (by decide)⟩, (B5.out.setCell (p := ⟨w.heap.size + 1, 0, none⟩) (Nat.le_succ _) _).setCell (p := ⟨w.heap.size + 1, 1, none⟩) (Nat.le_succ _) _⟩
    have RS := (show Hid _ from rk_at (k := 1) (u := .slice ma mn mc) (rk_at (k := 0) (u := .slice ta tn tc) Y25.out))
    cases r
    · have HR : Hid (putDk d x s = (d, false)) := (show putDk d x s = (d, false) by
        rw [putDk, if_neg (by rw [HB.out]; simp), if_pos]
        have := hr.symm
        simp only [putB, Bool.and_eq_false_iff, decide_eq_false_iff_not] at this
        rcases this with h | h
        · exact .inl h
        · exact .inr (.inl h))
      clear hr
      go_wp2
      refine bodyPost_ret (disk_res rfl rfl rfl RS.out) rfl ?_
      exact fin.out false HR.out
    · obtain ⟨hi, e1⟩ := putB_yes hr.symm
      simp only at hi e1
      by_cases e2 : d.late.length = 200
      · have HR : Hid (putDk d x s = (d, false)) := (show putDk d x s = (d, false) by rw [putDk, if_neg (by rw [HB.out]; simp), if_pos (.inr (.inr e2))])
        have hn2 : 200 ≤ (d.late.length : Int) := by omega
        clear e1 e2 hr hi
        go_wp2
        refine bodyPost_ret (disk_res rfl rfl rfl RS.out) rfl ?_
        exact fin.out false HR.out
      · have HR : Hid (putDk d x s = (⟨d.safe, d.late ++ [(x, s)]⟩, true)) := (show putDk d x s = (⟨d.safe, d.late ++ [(x, s)]⟩, true) by rw [putDk, if_neg (by rw [HB.out]; simp), if_neg (by rw [hi]; simp [e1, e2])])
        have hl2 := (diskB_len HB.out).2
        have hn2 : ¬ (200 ≤ (d.late.length : Int)) := by omega
        clear e1 e2 fin RS hr hi hl2
        obtain ⟨iP, hiP, hp0, hp1, hp2⟩ := info_parts Tryd.infoPut
        obtain ⟨w6, hw6⟩ : ∃ y, y = w5.alloc (.cells #[.int .i64 x, .string s] 76) := ⟨_, rfl⟩
        have b6 : Below w5.heap.size w5 w6 := by rw [hw6]; exact (Below.refl _ _).alloc (Nat.le_refl _) _
        have x6 : w6.heap[w5.heap.size]? = some (.cells #[.int .i64 x, .string s] 76 (0, 0)) := by rw [hw6]; exact World.alloc_heap_new _ _
        have SV := (show Hid (Sv 2 w6 (.slice (some ⟨w5.heap.size, 0, none⟩) 1 1) (putCells [(x, s)])) from sv_onePut x6)
        have O26 := (show Hid (OwnZ w.heap.size 76 2 w6 (.slice ma mn mc) d.late.length (putCells d.late)) from O25.out.below b6)
        have O16 := (show Hid (OwnZ w.heap.size 9 1 w6 (.slice ta tn tc) d.safe.length (strCells d.safe)) from O15.out.below b6)
        have B6 := (show Hid (Below w.heap.size w w6) from B5.out.trans (b6.mono B5.out.size))
        have HZ := (show Hid (w6.heap[w3.heap.size]? = some (.cells #[.slice ta tn tc, .slice ma mn mc] 34 (0, 0)) ∧ w6.heap[w.heap.size + 1]? = some (.cells #[.slice none 0 0, .slice none 0 0] 34 (0, 0))) from ⟨(b6.block _ (lt_of_block X45.out)).trans X45.out, (b6.block _ (lt_of_block Y25.out)).trans Y25.out⟩)
        clear b6 x6
        go_wp2_with (at_builtin
                     rw [← hw6]
                     refine wpList_appZ _ rfl (.tmp 30) (.tmp 32) 32 rfl w.heap.size 76 iP _ 2 24 Tryd.underlying32 hiP hp0 hp1 hp2 rfl (by decide) (.slice ma mn mc) d.late.length (putCells d.late) ⟨w5.heap.size, 0, none⟩ 1 1 (putCells [(x, s)]) rfl rfl O26.out SV.out (by decide) (put_oneCell _) (by omega) (by unfold maxLen; omega) B6.out.size ?_
                     intro v7 w7 row o7 g7
                     clear hw6
                     rw [← putCells_app] at o7
                     have o17 := g7.rowZ O16.out (by decide)
                     have z47 := g7.keep HZ.out.1 (by decide)
                     have z27 := g7.keep HZ.out.2 (by decide)
                     have b7 : Below w.heap.size w w7 := g7.below B6.out B6.out.size
                     obtain ⟨a7, n7, c7, rfl⟩ := rk_slice o7
                     obtain ⟨t1, t2, t3, t4⟩ := rk_two z47
                     obtain ⟨r1, r2, r3, r4⟩ := rk_two z27
                     have O7 := (show Hid (w7.ownsRow w.heap.size 76 2 (.slice a7 n7 c7) (d.late.length + 1) (putCells (d.late ++ [(x, s)]))) from o7)
                     have O17 := (show Hid (OwnZ w.heap.size 9 1 w7 (.slice ta tn tc) d.safe.length (strCells d.safe)) from o17)
                     have HZ7 := (show Hid (w7.heap[w3.heap.size]? = some (.cells #[.slice ta tn tc, .slice ma mn mc] 34 (0, 0)) ∧ w7.heap[w.heap.size + 1]? = some (.cells #[.slice none 0 0, .slice none 0 0] 34 (0, 0))) from ⟨z47, z27⟩)
                     have B7 := (show Hid (Below w.heap.size w w7) from b7)
                     clear o7 g7 o17 z47 z27 b7)
        obtain ⟨z47, z27⟩ := HZ7.out
        have hl3 := HNE.out.2
        have s1 := rk_at (k := 1) (u := .slice a7 n7 c7) z47
        have s2 := (Below.heap_setCell w7 ⟨w3.heap.size, 1, none⟩ (.slice a7 n7 c7) (w.heap.size + 1) (by show w.heap.size + 1 ≠ w3.heap.size; omega)).trans z27
        have s3 := rk_at (k := 0) (u := .slice ta tn tc) s2
        have s4 := rk_at (k := 1) (u := .slice a7 n7 c7) s3
        refine bodyPost_ret (disk_res rfl rfl rfl s4) rfl ?_
        rw [HR.out]
        refine ⟨_, rfl, ⟨_, _, _, _, _, _, rfl, ((O17.out.set z47 (by decide)).set s2 (by decide)).set s3 (by decide), .inl ?_⟩, ((B7.out.setCell (p := ⟨w3.heap.size, 1, none⟩) (by show w.heap.size ≤ w3.heap.size; omega) _).setCell (p := ⟨w.heap.size + 1, 0, none⟩) (Nat.le_succ _) _).setCell (p := ⟨w.heap.size + 1, 1, none⟩) (Nat.le_succ _) _⟩
        rw [List.length_append]
        exact rk_set (rk_set (rk_set O7.out z47 (by decide)) s2 (by decide)) s3 (by decide)
end Go.Proofs.YtiejfnnokfedkaaDoor

/- Marks of a disk whose rows may be empty without room. No condition. -/
namespace Go.Proofs.YtiejfnnokfedkaaDoor
open Go.RowKit
set_option maxRecDepth 100000
set_option linter.unusedVariables false

/-- The block that a slice can be written through. -/
def zB : Value → Option Nat
  | .slice (some a) _ (_ + 1) => some a.block
  | _ => none
/-- A row that is empty and has no room, or one of the call's own. -/
def OwnY (B e size : Nat) (w : World) (v : Value) (n : Nat) (xs : List Value) : Prop :=
  (n = 0 ∧ xs = [] ∧ ∃ a, v = .slice a 0 0 ∧ (a = none → True)) ∨ (w.ownsRow B e size v n xs ∧ ∃ g m c, v = .slice (some ⟨g, 0, none⟩) m (c + 1))
theorem OwnY.of {B e size n : Nat} {w : World} {v : Value} {xs : List Value} (h : OwnZ B e size w v n xs) : OwnY B e size w v n xs := by
  rcases h with h | ⟨h1, h2, a, h3⟩
  · have h' := h
    obtain ⟨hl, ⟨hv, h0⟩ | ⟨g, cap, cur, hv, hB, hh, hn, hm, hs, ht⟩⟩ := h'
    · subst h0
      exact .inl ⟨rfl, List.length_eq_zero_iff.mp (by simpa using hl), none, hv, fun _ => trivial⟩
    · cases cap with
      | zero =>
        obtain rfl : n = 0 := by omega
        exact .inl ⟨rfl, List.length_eq_zero_iff.mp (by simpa using hl), _, hv, fun _ => trivial⟩
      | succ c => exact .inr ⟨h, g, n, c, hv⟩
  · exact .inl ⟨h1, h2, some a, h3, fun _ => trivial⟩
theorem OwnY.below {B e size n : Nat} {w w' : World} {v : Value} {xs : List Value} (h : OwnY B e size w v n xs) (b : Below w.heap.size w w') : OwnY B e size w' v n xs := by
  rcases h with h | ⟨h, k⟩
  · exact .inl h
  · exact .inr ⟨ownsRow_below h b, k⟩
theorem OwnY.sv {B e size n : Nat} {w : World} {v : Value} {xs : List Value} (h : OwnY B e size w v n xs) : Sv size w v xs := by
  rcases h with ⟨rfl, rfl, a, rfl, _⟩ | ⟨h, _⟩
  · exact ⟨a, 0, 0, rfl, by simp, Nat.le_refl _, Nat.zero_le _, fun _ => rfl, fun i hi => by simp at hi⟩
  · exact sv_of_own h
theorem OwnY.lt {B e size n : Nat} {w : World} {v : Value} {xs : List Value} (h : OwnY B e size w v n xs) (j : Nat) (hj : zB v = some j) : B ≤ j ∧ j < w.heap.size := by
  rcases h with ⟨_, _, a, rfl, _⟩ | ⟨h, g, m, c, rfl⟩
  · cases a <;> cases hj
  · cases hj; exact World.ownsRow.lt h _ rfl
theorem OwnY.kind {B e size n : Nat} {w : World} {v : Value} {xs : List Value} (h : OwnY B e size w v n xs) {j : Nat} (hj : zB v = some j) : ∃ cs fr, w.heap[j]? = some (.cells cs e fr) := by
  rcases h with ⟨_, _, a, rfl, _⟩ | ⟨h, g, m, c, rfl⟩
  · cases a <;> cases hj
  · cases hj; exact rk_kind h rfl
theorem TwoFr.rowY {r s : Option Nat} {B e size n : Nat} {w w' : World} {v : Value} {xs : List Value} (h : TwoFr r s w w') (ho : OwnY B e size w v n xs) (hr : ∀ j, zB v = some j → some j ≠ r) (hs : ∀ j, zB v = some j → some j ≠ s) : OwnY B e size w' v n xs := by
  rcases ho with ho | ⟨ho, g, m, c, rfl⟩
  · exact .inl ho
  · refine .inr ⟨h.row ho (fun j e => ?_) (fun j e => ?_), g, m, c, rfl⟩
    · cases e; exact hr g rfl
    · cases e; exact hs g rfl
theorem TwoFr.varY {r s : Option Nat} {B size n B' size' n' e e' : Nat} {w w' : World} {v u : Value} {xs ys : List Value} (h : TwoFr r s w w') (o1 : OwnY B e size w v n xs) (o2 : OwnY B' e' size' w u n' ys) (h1 : zB v = r) (h2 : zB u = s)
    {j : Nat} {cs : Array Value} {t : TypeId} {fr : Nat × Nat} (hj : w.heap[j]? = some (.cells cs t fr)) (t1 : t ≠ e) (t2 : t ≠ e') : w'.heap[j]? = some (.cells cs t fr) := by
  refine (h.block j (lt_of_block hj) (fun er => ?_) (fun er => ?_)).trans hj
  · obtain ⟨c2, f2, k2⟩ := o1.kind (h1.trans er.symm)
    rw [hj] at k2; cases k2; exact t1 rfl
  · obtain ⟨c2, f2, k2⟩ := o2.kind (h2.trans er.symm)
    rw [hj] at k2; cases k2; exact t2 rfl

theorem OwnY.other {B e size n B' e' size' n' : Nat} {w w' : World} {v u : Value} {xs ys : List Value} (h : OwnY B e size w v n xs) (g : w.grownBy w' (zB v)) (o : OwnY B' e' size' w u n' ys) (ht : e ≠ e') : OwnY B' e' size' w' u n' ys := by
  rcases o with o | ⟨o, k⟩
  · exact .inl o
  · exact .inr ⟨rk_type o g (fun r er => by obtain ⟨c, f, hh⟩ := h.kind er; exact ⟨c, e, f, hh, ht⟩), k⟩

end Go.Proofs.YtiejfnnokfedkaaDoor
