/- The program's Escape: rune by rune, with a builder. -/
import Derived.Test.YtggfifchkecnjaaDoorU9
import Derived.Test.YtggfifchkecnjaaDoorU7
import Derived.WalkKit
import Derived.BigCall
namespace Go.Proofs.YtggfifchkecnjaaDoor
open Go.RowKit
set_option maxRecDepth 100000
set_option linter.unusedVariables false

/-- Bytes as a string. -/
def lstr (l : List UInt8) : ByteArray := ⟨l.toArray⟩

set_option maxRecDepth 100000 in
theorem escapeOf_any (r : Nat) (hr : r ≤ 2147483647) (v : Bool) (w : World) :
    Calls Tryd.prog 16 #[.int .i32 r, .bool v] w fun e w' => e = .returned (.string (lstr (refOf r v))) ∧ w' = w := by
  rcases (show r = 38 ∨ r = 160 ∨ r = 34 ∨ r = 60 ∨ r = 62 ∨ (r ≠ 38 ∧ r ≠ 160 ∧ r ≠ 34 ∧ r ≠ 60 ∧ r ≠ 62) by omega) with rfl | rfl | rfl | rfl | rfl | ⟨h1, h2, h3, h4, h5⟩
  case inr.inr.inr.inr.inr =>
    have HN : Hid (refOf r v = []) := by show refOf r v = []; unfold refOf; rw [if_neg h1, if_neg h2, if_neg (fun h => h3 h.1), if_neg (fun h => h4 h.1), if_neg (fun h => h5 h.1)]
    cases v
    all_goals
      go_enter Tryd.func16, Tryd.ntmps16
      go_wp2
      go_ret
      exact ⟨by rw [HN.out]; rfl, rfl⟩
  all_goals cases v
  all_goals
    go_enter Tryd.func16, Tryd.ntmps16
    go_wp2
    go_ret
    exact ⟨rfl, rfl⟩

theorem sub_list (s : ByteArray) (a b : Nat) : (s.extract a b).data.toList = (s.data.toList.drop a).take (b - a) := by
  rw [← Lib.toList_data, Lib.extract_toList]

theorem drop_more (l : List UInt8) (a b k : Nat) (h : a ≤ b) (hb : b ≤ l.length) : (l.drop a).take (b - a) ++ (l.drop b).take k = (l.drop a).take (b + k - a) := by
  have e : (l.drop b) = (l.drop a).drop (b - a) := by rw [List.drop_drop]; congr 1; omega
  rw [e, ← List.take_add]
  congr 1; omega

set_option maxHeartbeats 1000000 in
set_option maxRecDepth 100000 in
theorem iescape_any (s : ByteArray) (v : Bool) (w : World) (hs : s.size ≤ 1099511627776) :
    Calls Tryd.prog 6 #[.string s, .bool v] w fun e w' => e = .returned (.string (lstr (esc v s.data.toList))) ∧ Below w.heap.size w w' := by
  have hsl : s.data.toList.length = s.size := by simp
  have HSL := (show Hid _ from hsl)
  clear hsl
  go_enter Tryd.func6, Tryd.ntmps6
  go_wp2
  go_loopw [6] (fun f wr => ∃ (pos frm : Nat) (acc : List UInt8), f = .int .i64 frm ∧ Bld w.heap.size w.heap.size acc wr ∧ wr.heap[w.heap.size + 1]? = some (.stringIter s pos) ∧ Below w.heap.size w wr ∧ frm ≤ pos ∧ pos ≤ s.size ∧
    acc ++ ((s.data.toList.drop frm).take (pos - frm) ++ esc v (s.data.toList.drop pos)) = esc v s.data.toList ∧ acc.length ≤ 7 * frm) (fun _ wr => s.size - wr.iterPos (w.heap.size + 1))
  case atStart =>
    refine ⟨0, 0, [], rfl, (bld_new w).alloc _, ?_, ((Below.refl _ w).alloc (Nat.le_refl _) _).alloc (by simp) _, Nat.le_refl _, Nat.zero_le _, by simp, by simp⟩
    have := World.iter_heap (w.alloc (.cells #[.pointer none, .slice none 0 0] 40)) s 0
    simpa using this
  case round =>
    obtain ⟨pos, frm, acc, rfl, hI, hit, hbw, hfp, hps, hacc, hal⟩ := hrel
    have HA := (show Hid _ from hacc)
    clear hacc
    have hsz : w.heap.size + 1 < wr.heap.size := (Array.getElem?_eq_some_iff.1 hit).1
    by_cases hp : pos < s.size
    · have hnx : ∀ ty, (Instr.next (.pointer (some ⟨w.heap.size + 1, 0, none⟩)) true ty).run Tryd.prog wr = _ := fun ty => Lib.run_next_any_at wr (w.heap.size + 1) s pos ty hit hp
      have hwd := Lib.width_pos s pos
      have hd1 := decode_le s pos
      have hI2 := hI.iterAt hit (pos + (Utf8.decode s pos).2)
      have hit2 := Lib.iterAt_heap wr (w.heap.size + 1) s pos (pos + (Utf8.decode s pos).2) hit
      have hbw2 := Lib.below_iterAt hbw (k := w.heap.size + 1) (by omega) s (pos + (Utf8.decode s pos).2)
      have hsz2 : w.heap.size ≤ (wr.iterAt (w.heap.size + 1) s (pos + (Utf8.decode s pos).2)).heap.size := by rw [Lib.iterAt_size]; omega
      obtain ⟨b, r, hbr⟩ : ∃ b r, s.data.toList.drop pos = b :: r := by
        cases e : s.data.toList.drop pos with
        | nil => have := congrArg List.length e; rw [List.length_drop, HSL.out] at this; simp at this; omega
        | cons b r => exact ⟨b, r, rfl⟩
      have hdl : Lib.decodeL (b :: r) = Utf8.decode s pos := by rw [← hbr]; exact Lib.decodeL_drop s pos
      have hrl : r.length + 1 = s.size - pos := by have := congrArg List.length hbr; rw [List.length_drop, HSL.out] at this; simpa using this.symm
      have hpl := rune_plain v b r
      have hsg := rune_sign v b r
      rw [hdl] at hpl hsg
      have HBR := (show Hid _ from hbr)
      have HPL := (show Hid _ from hpl)
      have HSG := (show Hid _ from hsg)
      clear hbr hpl hsg hdl
      obtain ⟨d, hd⟩ : ∃ d, d = (Utf8.decode s pos) := ⟨_, rfl⟩
      rw [← hd] at HPL HSG hwd hd1 hI2 hit2 hbw2 hsz2 hnx
      clear hd
      obtain ⟨d1, d2⟩ := d
      simp only at HPL HSG hwd hd1 hI2 hit2 hbw2 hsz2
      have HE := (show Hid _ from fun w => escapeOf_any d1 hd1 v w)
      obtain ⟨ref, href⟩ : ∃ ref, ref = refOf d1 v := ⟨_, rfl⟩
      have hrle := refOf_le d1 v
      rw [← href] at HPL HSG HE hrle
      clear href
      by_cases hz : ref = []
      · subst hz
        obtain ⟨hw1, hw2⟩ := HPL.out rfl
        have H2 := (show Hid _ from hw2)
        have hq0 : lstr [] = ⟨#[]⟩ := rfl
        rw [hq0] at HE
        clear HPL HSG hw2 hq0
        go_wp2_with fail
        go_at_call 16
        refine (HE.out _).mono ?_
        rintro e w1 ⟨rfl, rfl⟩
        clear HE
        go_wp2
        go_roundw
        case rel =>
          refine ⟨pos + d2, frm, acc, rfl, hI2, hit2, hbw2, by omega, by omega, ?_, hal⟩
          rw [← HA.out, HBR.out, H2.out, ← HBR.out, List.drop_drop, ← drop_more _ frm pos d2 hfp (by rw [HSL.out]; omega), List.append_assoc]
        case measure =>
          simp only [World.iterPos, hit2, hit]
          omega
      · obtain ⟨hw0, hw1, hw2⟩ := HSG.out hz
        have H2 := (show Hid _ from hw2)
        clear HPL HSG hw2
        obtain ⟨q, hq⟩ : ∃ q, q = lstr ref := ⟨_, rfl⟩
        have hrs : q.size = ref.length := by rw [hq]; simp [lstr, ByteArray.size]
        have hrd : Hid (q.data.toList = ref) := by show q.data.toList = ref; rw [hq]; simp [lstr]
        have hne : q.toList.isEmpty = false := by
          rw [Lib.toList_data, hrd.out]
          cases ref with
          | nil => exact absurd rfl hz
          | cons => rfl
        rw [← hq] at HE
        clear hq
        obtain ⟨u, hu⟩ : ∃ u, u = s.extract frm pos := ⟨_, rfl⟩
        have HU := (show Hid _ from hu)
        have hes : u.size = pos - frm := by rw [hu]; simp; omega
        have hacc : (acc ++ u.data.toList).length = acc.length + (pos - frm) := by rw [List.length_append, ← hes]; simp
        clear hu
        go_wp2_with fail
        go_at_call 16
        refine (HE.out _).mono ?_
        rintro e w1 ⟨rfl, rfl⟩
        clear HE
        go_wp2_with fail
        go_at_call 17
        rw [← HU.out]
        refine (bld_write w.heap.size w.heap.size acc u _ hI2 (by omega) hsz2).mono ?_
        rintro e w2 ⟨rfl, h1, b1, k1⟩
        have hit3 := k1.iter hit2 (by omega)
        have hbw3 := hbw2.trans b1
        have hsz3 := Nat.le_trans hsz2 b1.size
        go_wp2_with fail
        go_at_call 17
        refine (bld_write w.heap.size w.heap.size _ q _ h1 (by omega) hsz3).mono ?_
        rintro e w4 ⟨rfl, h5, b5, k5⟩
        have hit5 := k5.iter hit3 (by omega)
        have hbw5 := hbw3.trans b5
        go_wp2_with fail
        go_at_call 18
        refine (runeLen_any d1 _).mono ?_
        rintro e w6 ⟨rfl, rfl⟩
        rw [hw0]
        go_wp2
        go_roundw
        case rel =>
          refine ⟨pos + d2, pos + d2, _, by go_num, h5, hit5, hbw5, Nat.le_refl _, by omega, ?_, ?_⟩
          · rw [← HA.out, HBR.out, H2.out, ← HBR.out, List.drop_drop, HU.out, sub_list, hrd.out]
            simp
          · rw [List.length_append, hacc, hrd.out]
            omega
        case measure =>
          simp only [World.iterPos, hit5, hit]
          omega
    · have hpe : pos = s.size := by omega
      subst hpe
      have hnx : ∀ ty, (Instr.next (.pointer (some ⟨w.heap.size + 1, 0, none⟩)) true ty).run Tryd.prog wr = _ := fun ty => Lib.run_next_end_at wr (w.heap.size + 1) s s.size ty hit hp
      have hes : (s.extract frm s.size).size = s.size - frm := by simp
      go_wp2_with fail
      go_at_call 17
      refine (bld_write w.heap.size w.heap.size acc (s.extract frm s.size) _ hI (by omega) (by omega)).mono ?_
      rintro e w2 ⟨rfl, h1, b1, k1⟩
      have hsz3 := Nat.le_trans (show w.heap.size ≤ wr.heap.size by omega) b1.size
      go_wp2_with fail
      go_at_call 19
      refine (bld_string w.heap.size w.heap.size _ _ h1 hsz3).mono ?_
      rintro e w4 ⟨rfl, h5, b5, k5⟩
      have HF : Hid (acc ++ (s.data.toList.drop frm).take (s.size - frm) = esc v s.data.toList) := by
        show acc ++ (s.data.toList.drop frm).take (s.size - frm) = esc v s.data.toList
        rw [← HA.out, ← HSL.out, List.drop_length]
        simp [esc]
      go_wp2
      go_ret
      exact ⟨by rw [HF.out]; rfl, (hbw.trans b1).trans b5⟩
end Go.Proofs.YtggfifchkecnjaaDoor
