/- The program's Escape: rune by rune, with a builder. -/
import Derived.Test.YtogdbjafibejdaaGreatX43
import Derived.Test.YtogdbjafibejdaaGreatX39
import Derived.Test.YtogdbjafibejdaaGreatX29
import Derived.WalkKit
import Derived.BigCall
import Derived.Test.YtogdbjafibejdaaGreatX27
import Derived.Test.YtogdbjafibejdaaGreatX41
import Derived.Test.YtogdbjafibejdaaGreatX12
import Derived.Test.YtogdbjafibejdaaGreatX18
namespace Go.Proofs.YtogdbjafibejdaaGreat
open Go.RowKit
set_option maxRecDepth 100000
set_option linter.unusedVariables false

/-- Bytes as a string. -/
def lstr (l : List UInt8) : ByteArray := ⟨l.toArray⟩

set_option maxRecDepth 100000 in
theorem escapeOf_any (r : Nat) (hr : r ≤ 2147483647) (v : Bool) (w : World) :
    Calls Tryz.prog 209 #[.int .i32 r, .bool v] w fun e w' => e = .returned (.string (lstr (refOf r v))) ∧ w' = w := by
  rcases (show r = 38 ∨ r = 160 ∨ r = 34 ∨ r = 60 ∨ r = 62 ∨ (r ≠ 38 ∧ r ≠ 160 ∧ r ≠ 34 ∧ r ≠ 60 ∧ r ≠ 62) by omega) with rfl | rfl | rfl | rfl | rfl | ⟨h1, h2, h3, h4, h5⟩
  case inr.inr.inr.inr.inr =>
    have HN : Hid (refOf r v = []) := by show refOf r v = []; unfold refOf; rw [if_neg h1, if_neg h2, if_neg (fun h => h3 h.1), if_neg (fun h => h4 h.1), if_neg (fun h => h5 h.1)]
    cases v
    all_goals
      go_enter Tryz.func209, Tryz.ntmps209
      go_wp2
      go_ret
      exact ⟨by rw [HN.out]; rfl, rfl⟩
  all_goals cases v
  all_goals
    go_enter Tryz.func209, Tryz.ntmps209
    go_wp2
    go_ret
    exact ⟨rfl, rfl⟩

theorem sub_list (s : ByteArray) (a b : Nat) : (s.extract a b).data.toList = (s.data.toList.drop a).take (b - a) := by
  rw [← Lib.toList_data, Lib.extract_toList]

theorem drop_more (l : List UInt8) (a b k : Nat) (h : a ≤ b) (hb : b ≤ l.length) : (l.drop a).take (b - a) ++ (l.drop b).take k = (l.drop a).take (b + k - a) := by
  have e : (l.drop b) = (l.drop a).drop (b - a) := by rw [List.drop_drop]; congr 1; omega
  rw [e, ← List.take_add]
  congr 1; omega

set_option maxHeartbeats 1000000 in
set_option maxRecDepth 100000 in
theorem iescape_any (s : ByteArray) (v : Bool) (w : World) (hs : s.size ≤ 1099511627776) :
    Calls Tryz.prog 194 #[.string s, .bool v] w fun e w' => e = .returned (.string (lstr (esc v s.data.toList))) ∧ Below w.heap.size w w' := by
  have hsl : s.data.toList.length = s.size := by simp
  have HSL := (show Hid _ from hsl)
  clear hsl
  go_enter Tryz.func194, Tryz.ntmps194
  go_wp2
  go_loopw [6] (fun f wr => ∃ (pos frm : Nat) (acc : List UInt8), f = .int .i64 frm ∧ Bld w.heap.size w.heap.size acc wr ∧ wr.heap[w.heap.size + 1]? = some (.stringIter s pos) ∧ Below w.heap.size w wr ∧ frm ≤ pos ∧ pos ≤ s.size ∧
    acc ++ ((s.data.toList.drop frm).take (pos - frm) ++ esc v (s.data.toList.drop pos)) = esc v s.data.toList ∧ acc.length ≤ 7 * frm) (fun _ wr => s.size - wr.iterPos (w.heap.size + 1))
  case atStart =>
    refine ⟨0, 0, [], rfl, (bld_new w).alloc _, ?_, ((Below.refl _ w).alloc (Nat.le_refl _) _).alloc (by simp) _, Nat.le_refl _, Nat.zero_le _, by simp, by simp⟩
    have := World.iter_heap (w.alloc (.cells #[.pointer none, .slice none 0 0] 89)) s 0
    simpa using this
  case round =>
    obtain ⟨pos, frm, acc, rfl, hI, hit, hbw, hfp, hps, hacc, hal⟩ := hrel
    have HA := (show Hid _ from hacc)
    clear hacc
    have hsz : w.heap.size + 1 < wr.heap.size := (Array.getElem?_eq_some_iff.1 hit).1
    by_cases hp : pos < s.size
    · have hnx : ∀ ty, (Instr.next (.pointer (some ⟨w.heap.size + 1, 0, none⟩)) true ty).run Tryz.prog wr = _ := fun ty => Lib.run_next_any_at wr (w.heap.size + 1) s pos ty hit hp
      have hwd := Lib.width_pos s pos
      have hd1 := decode_le s pos
      have hI2 := hI.iterAt hit (pos + (Utf8.decode s pos).2)
      have hit2 := Lib.iterAt_heap wr (w.heap.size + 1) s pos (pos + (Utf8.decode s pos).2) hit
      have hbw2 := Lib.below_iterAt hbw (k := w.heap.size + 1) (by omega) s (pos + (Utf8.decode s pos).2)
      have hsz2 : w.heap.size ≤ (wr.iterAt (w.heap.size + 1) s (pos + (Utf8.decode s pos).2)).heap.size := by rw [Lib.iterAt_size]; omega
      obtain ⟨b, r, hbr⟩ : ∃ b r, s.data.toList.drop pos = b :: r := by
        cases e : s.data.toList.drop pos with
        | nil => have := congrArg List.length e; rw [List.length_drop, HSL.out] at this; simp at this; omega
        | cons b r => exact ⟨b, r, rfl⟩
      have hdl : Lib.decodeL (b :: r) = Utf8.decode s pos := by rw [← hbr]; exact Lib.decodeL_drop s pos
      have hrl : r.length + 1 = s.size - pos := by have := congrArg List.length hbr; rw [List.length_drop, HSL.out] at this; simpa using this.symm
      have hpl := rune_plain v b r
      have hsg := rune_sign v b r
      rw [hdl] at hpl hsg
      have HBR := (show Hid _ from hbr)
      have HPL := (show Hid _ from hpl)
      have HSG := (show Hid _ from hsg)
      clear hbr hpl hsg hdl
      obtain ⟨d, hd⟩ : ∃ d, d = (Utf8.decode s pos) := ⟨_, rfl⟩
      rw [← hd] at HPL HSG hwd hd1 hI2 hit2 hbw2 hsz2 hnx
      clear hd
      obtain ⟨d1, d2⟩ := d
      simp only at HPL HSG hwd hd1 hI2 hit2 hbw2 hsz2
      have HE := (show Hid _ from fun w => escapeOf_any d1 hd1 v w)
      obtain ⟨ref, href⟩ : ∃ ref, ref = refOf d1 v := ⟨_, rfl⟩
      have hrle := refOf_le d1 v
      rw [← href] at HPL HSG HE hrle
      clear href
      by_cases hz : ref = []
      · subst hz
        obtain ⟨hw1, hw2⟩ := HPL.out rfl
        have H2 := (show Hid _ from hw2)
        have hq0 : lstr [] = ⟨#[]⟩ := rfl
        rw [hq0] at HE
        clear HPL HSG hw2 hq0
        go_wp2_with fail
        go_at_call 209
        refine (HE.out _).mono ?_
        rintro e w1 ⟨rfl, rfl⟩
        clear HE
        go_wp2
        go_roundw
        case rel =>
          refine ⟨pos + d2, frm, acc, rfl, hI2, hit2, hbw2, by omega, by omega, ?_, hal⟩
          rw [← HA.out, HBR.out, H2.out, ← HBR.out, List.drop_drop, ← drop_more _ frm pos d2 hfp (by rw [HSL.out]; omega), List.append_assoc]
        case measure =>
          simp only [World.iterPos, hit2, hit]
          omega
      · obtain ⟨hw0, hw1, hw2⟩ := HSG.out hz
        have H2 := (show Hid _ from hw2)
        clear HPL HSG hw2
        obtain ⟨q, hq⟩ : ∃ q, q = lstr ref := ⟨_, rfl⟩
        have hrs : q.size = ref.length := by rw [hq]; simp [lstr, ByteArray.size]
        have hrd : Hid (q.data.toList = ref) := by show q.data.toList = ref; rw [hq]; simp [lstr]
        have hne : q.toList.isEmpty = false := by
          rw [Lib.toList_data, hrd.out]
          cases ref with
          | nil => exact absurd rfl hz
          | cons => rfl
        rw [← hq] at HE
        clear hq
        obtain ⟨u, hu⟩ : ∃ u, u = s.extract frm pos := ⟨_, rfl⟩
        have HU := (show Hid _ from hu)
        have hes : u.size = pos - frm := by rw [hu]; simp; omega
        have hacc : (acc ++ u.data.toList).length = acc.length + (pos - frm) := by rw [List.length_append, ← hes]; simp
        clear hu
        go_wp2_with fail
        go_at_call 209
        refine (HE.out _).mono ?_
        rintro e w1 ⟨rfl, rfl⟩
        clear HE
        go_wp2_with fail
        go_at_call 76
        rw [← HU.out]
        refine (bld_write w.heap.size w.heap.size acc u _ hI2 (by omega) hsz2).mono ?_
        rintro e w2 ⟨rfl, h1, b1, k1⟩
        have hit3 := k1.iter hit2 (by omega)
        have hbw3 := hbw2.trans b1
        have hsz3 := Nat.le_trans hsz2 b1.size
        go_wp2_with fail
        go_at_call 76
        refine (bld_write w.heap.size w.heap.size _ q _ h1 (by omega) hsz3).mono ?_
        rintro e w4 ⟨rfl, h5, b5, k5⟩
        have hit5 := k5.iter hit3 (by omega)
        have hbw5 := hbw3.trans b5
        go_wp2_with fail
        go_at_call 210
        refine (runeLen_any d1 _).mono ?_
        rintro e w6 ⟨rfl, rfl⟩
        rw [hw0]
        go_wp2
        go_roundw
        case rel =>
          refine ⟨pos + d2, pos + d2, _, by go_num, h5, hit5, hbw5, Nat.le_refl _, by omega, ?_, ?_⟩
          · rw [← HA.out, HBR.out, H2.out, ← HBR.out, List.drop_drop, HU.out, sub_list, hrd.out]
            simp
          · rw [List.length_append, hacc, hrd.out]
            omega
        case measure =>
          simp only [World.iterPos, hit5, hit]
          omega
    · have hpe : pos = s.size := by omega
      subst hpe
      have hnx : ∀ ty, (Instr.next (.pointer (some ⟨w.heap.size + 1, 0, none⟩)) true ty).run Tryz.prog wr = _ := fun ty => Lib.run_next_end_at wr (w.heap.size + 1) s s.size ty hit hp
      have hes : (s.extract frm s.size).size = s.size - frm := by simp
      go_wp2_with fail
      go_at_call 76
      refine (bld_write w.heap.size w.heap.size acc (s.extract frm s.size) _ hI (by omega) (by omega)).mono ?_
      rintro e w2 ⟨rfl, h1, b1, k1⟩
      have hsz3 := Nat.le_trans (show w.heap.size ≤ wr.heap.size by omega) b1.size
      go_wp2_with fail
      go_at_call 77
      refine (bld_string w.heap.size w.heap.size _ _ h1 hsz3).mono ?_
      rintro e w4 ⟨rfl, h5, b5, k5⟩
      have HF : Hid (acc ++ (s.data.toList.drop frm).take (s.size - frm) = esc v s.data.toList) := by
        show acc ++ (s.data.toList.drop frm).take (s.size - frm) = esc v s.data.toList
        rw [← HA.out, ← HSL.out, List.drop_length]
        simp [esc]
      go_wp2
      go_ret
      exact ⟨by rw [HF.out]; rfl, (hbw.trans b1).trans b5⟩
end Go.Proofs.YtogdbjafibejdaaGreat

/- The printer's write: parts one behind the other. No condition. -/
namespace Go.Proofs.YtogdbjafibejdaaGreat
open Go.RowKit
set_option maxRecDepth 100000
set_option linter.unusedVariables false

def flatS (ts : List ByteArray) : List UInt8 := ts.flatMap fun s => s.data.toList
theorem flatS_nil : flatS [] = [] := rfl
theorem flatS_cons (s : ByteArray) (ts : List ByteArray) : flatS (s :: ts) = s.data.toList ++ flatS ts := by simp [flatS]
theorem flatS_take {ts : List ByteArray} {k : Nat} (hk : k < ts.length) : flatS (ts.take (k + 1)) = flatS (ts.take k) ++ ts[k].data.toList := by
  rw [flatS, flatS, List.take_succ_eq_append_getElem hk, List.flatMap_append, List.flatMap_singleton]
theorem flatS_le (ts : List ByteArray) (k : Nat) : (flatS (ts.take k)).length ≤ (flatS ts).length := by
  conv => rhs; rw [← List.take_append_drop k ts]
  rw [flatS, flatS, List.flatMap_append, List.length_append]
  exact Nat.le_add_right _ _
theorem PrK.keepB {B b : Nat} {w w' : World} (h : PrK B b w w') {M : Nat} {cs : Array Value} {t : TypeId} {fz : Nat × Nat} (hM : w.heap[M]? = some (.cells cs t fz)) (hb : M ≠ b) (ht : t ≠ 5) : w'.heap[M]? = some (.cells cs t fz) :=
  h.same _ _ hM (.inr (.inl ⟨hb, fun ⟨_, _, _, e, ht'⟩ => by cases e; exact ht ht'⟩))

set_option maxHeartbeats 1000000 in
set_option maxRecDepth 100000 in
theorem prParts_any {B b M n : Nat} {nv : Value} {l : List UInt8} {w : World} (h : IsPr B b nv l w) (hBw : B ≤ w.heap.size) (ts : List ByteArray) (cs : Array Value) (hcs : cs.toList = ts.map Value.string) (hM : w.heap[M]? = some (.cells cs 9 (0, 0))) (hMb : M ≠ b) (hn : n = ts.length) (hn2 : ts.length ≤ 1000) (hlen : l.length + (flatS ts).length ≤ 70368744177664) :
    Calls Tryz.prog 162 #[.pointer (some ⟨b, 0, none⟩), .slice (some ⟨M, 0, none⟩) n n] w fun e w' => e = .returned (.tuple #[]) ∧ IsPr B b nv (l ++ flatS ts) w' ∧ PrK B b w w' := by
  subst hn
  have HM := (show Hid _ from hM)
  have HC := (show Hid (∀ w1, PrK B b w w1 → ∀ k (hk : k < ts.length), w1.cell? ⟨M, k, none⟩ = some (.string ts[k])) from fun w1 hg k hk => by
    have e := hg.keepB hM hMb (by decide)
    have e2 : cs[k]? = some (.string ts[k]) := by
      rw [← Array.getElem?_toList, hcs, List.getElem?_map, List.getElem?_eq_getElem hk]; rfl
    simp [World.cell?, e, e2])
  have HI := (show Hid (IsPr B b nv l w) from h)
  have hbl := h.lt
  clear h hM hcs
  go_enter Tryz.func162, Tryz.ntmps162
  go_wp2
  go_loopw [8] (fun i wr => ∃ k : Nat, k ≤ ts.length ∧ i = .int .i64 k ∧ Hid (IsPr B b nv (l ++ flatS (ts.take k)) wr ∧ PrK B b w wr)) (fun i _ => ts.length - (intOf i).toNat)
  case atStart => exact ⟨0, Nat.zero_le _, rfl, by simpa [flatS] using HI.out, PrK.refl hbl⟩
  case round =>
    obtain ⟨k, hk, rfl, HR⟩ := hrel
    by_cases hlt : k < ts.length
    · have ck := HC.out wr HR.out.2 k hlt
      have hfl := flatS_le ts (k + 1)
      rw [flatS_take hlt, List.length_append] at hfl
      have HT := (show Hid (flatS (ts.take (k + 1)) = flatS (ts.take k) ++ ts[k].data.toList) from flatS_take hlt)
      obtain ⟨s, hs⟩ : ∃ s, s = ts[k] := ⟨_, rfl⟩
      rw [← hs] at ck hfl HT
      have CW := (show Hid _ from prWrite_any HR.out.1 s (by rw [List.length_append]; simp at hfl ⊢; omega) (Nat.le_trans hBw HR.out.2.size))
      clear hs hfl
      go_wp2_with fail
      go_at_call 76
      refine Calls.mono CW.out ?_
      rintro e w2 ⟨rfl, h2, k2⟩
      have H2 := (show Hid (IsPr B b nv (l ++ flatS (ts.take (k + 1))) w2 ∧ PrK B b w w2) from ⟨by rw [HT.out, ← List.append_assoc]; exact h2, HR.out.2.trans k2⟩)
      clear h2 k2
      go_wp2
      go_roundw
      case rel => exact ⟨k + 1, by omega, by go_num, H2⟩
      case measure => simp [intOf]; omega
    · obtain rfl : k = ts.length := by omega
      have HF := (show Hid (IsPr B b nv (l ++ flatS ts) wr ∧ PrK B b w wr) from by have := HR.out; rwa [List.take_length] at this)
      clear HR
      go_wp2
      go_end0
      exact ⟨rfl, HF.out⟩
end Go.Proofs.YtogdbjafibejdaaGreat

/- The printer's writeText. No condition. -/
namespace Go.Proofs.YtogdbjafibejdaaGreat
open Go.RowKit
set_option maxRecDepth 100000
set_option linter.unusedVariables false

theorem prNew_any {B b n : Nat} {nv : Value} {l : List UInt8} {w : World} (h : IsPr B b nv l w) (hBw : B ≤ w.heap.size) (ts : List ByteArray) (cs : Array Value) (hcs : cs.toList = ts.map Value.string) (hn : n = ts.length) (hn2 : ts.length ≤ 1000) (hlen : l.length + (flatS ts).length ≤ 70368744177664) :
    Calls Tryz.prog 162 #[.pointer (some ⟨b, 0, none⟩), .slice (some ⟨w.heap.size, 0, none⟩) n n] (w.alloc (.cells cs 9)) fun e w' => e = .returned (.tuple #[]) ∧ IsPr B b nv (l ++ flatS ts) w' ∧ PrK B b w w' := by
  have b1 : Below w.heap.size w (w.alloc (.cells cs 9)) := (Below.refl _ _).alloc (Nat.le_refl _) _
  have hb := h.lt
  refine Calls.mono (prParts_any (h.below b1) (Nat.le_trans hBw b1.size) ts cs hcs (World.alloc_heap_new _ _) (by omega) hn hn2 hlen) ?_
  rintro e w' ⟨rfl, h1, h2⟩
  exact ⟨rfl, h1, (PrK.of_below b1 hb).trans h2⟩

/-- The state while a page is written: the tree's nodes below B, the printer. -/
structure PrW (w0 : World) (b : Nat) (nv : Value) (l : List UInt8) (w : World) : Prop where
  bel : Below w0.heap.size w0 w
  pr : IsPr w0.heap.size b nv l w
theorem PrW.below {w0 : World} {b : Nat} {nv : Value} {l : List UInt8} {w w' : World} (h : PrW w0 b nv l w) (hb : Below w.heap.size w w') : PrW w0 b nv l w' := ⟨h.bel.trans (hb.mono h.bel.size), h.pr.below hb⟩
theorem PrW.next {w0 : World} {b : Nat} {nv : Value} {l l' : List UInt8} {w w' : World} (h : PrW w0 b nv l w) (h2 : IsPr w0.heap.size b nv l' w') (k : PrK w0.heap.size b w w') : PrW w0 b nv l' w' := ⟨h.bel.trans (k.below h.bel.size), h2⟩

/-- What a text is written as, below one of the name up. -/
def textAs (up : ByteArray) (tx : ByteArray) : List UInt8 := if hasB raws up then tx.data.toList else esc false tx.data.toList

set_option maxHeartbeats 400000 in
set_option maxRecDepth 100000 in
theorem prText_any {w0 : World} {b : Nat} {a : Option Addr} {cap : Nat} {ns : List PNode} (hn : NodesAt w0 (.slice a ns.length cap) ns) {l : List UInt8} {w : World} (h : PrW w0 b (.slice a ns.length cap) l w) {q : Nat} (hq : q < ns.length) (hlen : ns.length ≤ 1048576)
    (k : Int) (nm tx : ByteArray) {av kv : Value} {av1 : Option Addr} {av2 av3 : Nat} {kv1 : Option Addr} {kv2 kv3 : Nat} (hs : tx.size ≤ 1048576) (hl : l.length ≤ 35184372088832) :
    Calls Tryz.prog 164 #[.pointer (some ⟨b, 0, none⟩), .agg #[.int .i64 k, .string nm, .slice av1 av2 av3, .string tx, .int .i64 (q : Int), .slice kv1 kv2 kv3]] w fun e w' => e = .returned (.tuple #[]) ∧ PrW w0 b (.slice a ns.length cap) (l ++ textAs ns[q].name tx) w' ∧ PrK w0.heap.size b w w' := by
  have hbl := h.pr.lt
  obtain ⟨w1, hw1⟩ : ∃ x, x = w.alloc (.cells #[.int .i64 k, .string nm, .slice av1 av2 av3, .string tx, .int .i64 (q : Int), .slice kv1 kv2 kv3] 36) := ⟨_, rfl⟩
  have b1 : Below w.heap.size w w1 := by rw [hw1]; exact (Below.refl _ _).alloc (Nat.le_refl _) _
  have g1 : w1.heap[w.heap.size]? = some (.cells #[.int .i64 k, .string nm, .slice av1 av2 av3, .string tx, .int .i64 (q : Int), .slice kv1 kv2 kv3] 36 (0, 0)) := by rw [hw1]; exact World.alloc_heap_new _ _
  obtain ⟨N, hN⟩ : ∃ x, x = w.heap.size := ⟨_, rfl⟩
  rw [← hN] at g1
  have HG := (show Hid _ from g1)
  have HB := (show Hid (Below w.heap.size w w1) from b1)
  have HP := (show Hid (PrW w0 b (.slice a ns.length cap) l w1) from h.below b1)
  have hn1 := hn.below HP.out.bel
  obtain ⟨_, _, e1, _, _, hcs⟩ := hn1.slice
  cases e1
  obtain ⟨gb, go, _, _, rfl, hgl, _, c1, _⟩ := hcs q hq
  obtain ⟨up, hup⟩ : ∃ up, up = ns[q].name := ⟨_, rfl⟩
  rw [← hup] at c1 ⊢
  have f0 : ∀ n : Wd w1.heap.size w1, n.w.cell? ⟨b, 0, none⟩ = some (.slice (some ⟨gb, go, none⟩) ns.length cap) := fun n => (n.below.cell (p := ⟨b, 0, none⟩) HP.out.pr.lt).trans HP.out.pr.cell0
  have f1 : ∀ n : Wd w1.heap.size w1, n.w.cell? ⟨N, 4, none⟩ = some (.int .i64 (q : Int)) := fun n => (n.below.cell (p := ⟨N, 4, none⟩) (blk_lt g1)).trans (six_at g1).1.2.2.2.2.1
  have f2 : ∀ n : Wd w1.heap.size w1, n.w.cell? ⟨gb, go + q * 6 + 1, none⟩ = some (.string up) := fun n => (n.below.cell (p := ⟨gb, go + q * 6 + 1, none⟩) hgl).trans c1
  have hqi : (q : Int) < ns.length := by omega
  have hst : tx.data.toList.length = tx.size := by simp
  have hse := esc_le false tx.data.toList
  have hbN : N ≠ b := by omega
  have CR := (show Hid (∀ n : Wd w1.heap.size w1, Calls Tryz.prog 196 #[.string up] n.w fun e w' => e = .returned (.bool (hasB raws up)) ∧ Below n.w.heap.size n.w w') from fun n => (iisRaw_any up n.w).mono (by rintro e w' ⟨rfl, rfl⟩; exact ⟨rfl, Below.refl _ _⟩))
  clear hcs hn1 hn b1 g1 h hup
  obtain ⟨r, hr⟩ : ∃ r, r = hasB raws up := ⟨_, rfl⟩
  have HR := (show Hid (r = hasB raws up) from hr)
  rw [← hr] at CR
  clear hr
  go_enter Tryz.func164, Tryz.ntmps164
  go_upto_region 1 with fail
  rw [← hw1, ← hN]
  clear hw1 hN
  have ne := Wd.any w1.heap.size w1
  refine wp_region_below (B := w1.heap.size) (w0 := w1) (by kernel_rfl) (by kernel_rfl) (Below.refl _ _) ?_
  repeat (go_big_quiet_step ((go_at_call 196; exact quiet_below (CR.out _) (Nat.le_refl _))))
  refine wpQuiet_nil ?_
  intro w2 hq2
  have b2 := Wd.of hq2
  have HP2 := (show Hid (PrW w0 b (.slice (some ⟨gb, go, none⟩) ns.length cap) l w2) from HP.out.below b2)
  have HB2 := (show Hid (Below w.heap.size w w2) from HB.out.trans (b2.mono HB.out.size))
  have g2 := (b2.block _ (blk_lt HG.out)).trans HG.out
  have c3 := (six_at g2).1.2.2.2.1
  clear b2 g2 hq2 f0 f1 f2 c1 CR
  cases r with
  | true =>
    have HT : Hid (textAs up tx = flatS [tx]) := by show textAs up tx = flatS [tx]; simp [textAs, ← HR.out, flatS]
    go_wp2_with fail
    go_at_call 162
    refine Calls.mono (prNew_any HP2.out.pr HP2.out.bel.size [tx] _ rfl rfl (by simp) (by simp [flatS]; omega)) ?_
    rintro e w3 ⟨rfl, h3, k3⟩
    have H3 := (show Hid (PrW w0 b (.slice (some ⟨gb, go, none⟩) ns.length cap) (l ++ textAs up tx) w3 ∧ PrK w0.heap.size b w w3) from ⟨HP2.out.next (by rw [HT.out]; exact h3) k3, (PrK.of_below HB2.out hbl).trans k3⟩)
    clear h3 k3
    go_wp2
    refine bodyPost_ret (results_none rfl _ _ _) rfl ?_
    exact ⟨rfl, H3.out⟩
  | false =>
    have HT : Hid (textAs up tx = flatS [lstr (esc false tx.data.toList)]) := by show textAs up tx = flatS [lstr (esc false tx.data.toList)]; simp [textAs, ← HR.out, flatS, lstr]
    go_wp2_with fail
    go_at_call 194
    refine Calls.mono (iescape_any tx false w2 (by omega)) ?_
    rintro e w3 ⟨rfl, b3⟩
    have HP3 := (show Hid (PrW w0 b (.slice (some ⟨gb, go, none⟩) ns.length cap) l w3) from HP2.out.below b3)
    have HB3 := (show Hid (Below w.heap.size w w3) from HB2.out.trans (b3.mono HB2.out.size))
    clear b3 HP2 HB2
    obtain ⟨es, hes⟩ : ∃ es, es = lstr (esc false tx.data.toList) := ⟨_, rfl⟩
    have hesl : es.data.toList.length ≤ 6 * tx.size := by rw [hes]; simpa [lstr] using hse
    rw [← hes] at HT ⊢
    clear hes
    go_wp2_with fail
    go_at_call 162
    refine Calls.mono (prNew_any HP3.out.pr HP3.out.bel.size [es] _ rfl rfl (by simp) (by simp [flatS] at hesl ⊢; omega)) ?_
    rintro e w4 ⟨rfl, h4, k4⟩
    have H4 := (show Hid (PrW w0 b (.slice (some ⟨gb, go, none⟩) ns.length cap) (l ++ textAs up tx) w4 ∧ PrK w0.heap.size b w w4) from ⟨HP3.out.next (by rw [HT.out]; exact h4) k4, (PrK.of_below HB3.out hbl).trans k4⟩)
    clear h4 k4
    go_wp2
    go_end0
    exact ⟨rfl, H4.out⟩
end Go.Proofs.YtogdbjafibejdaaGreat

/- The printer's writeElement (written by mk/ipr3.py). No condition. -/
namespace Go.Proofs.YtogdbjafibejdaaGreat
open Go.RowKit
set_option maxRecDepth 100000
set_option linter.unusedVariables false

theorem take_flat {rs : List (ByteArray × ByteArray)} {k : Nat} (hk : k < rs.length) : (rs.take (k + 1)).flatMap attrL = (rs.take k).flatMap attrL ++ attrL rs[k] := by
  rw [List.take_succ_eq_append_getElem hk, List.flatMap_append, List.flatMap_singleton]
theorem take_le (rs : List (ByteArray × ByteArray)) (k : Nat) : ((rs.take k).flatMap attrL).length ≤ (rs.flatMap attrL).length := by
  conv => rhs; rw [← List.take_append_drop k rs]
  rw [List.flatMap_append, List.length_append]
  exact Nat.le_add_right _ _
theorem attr_parts (p : ByteArray × ByteArray) : attrL p = flatS [⟨#[32]⟩, p.1, ⟨#[61, 34]⟩, lstr (esc true p.2.data.toList), ⟨#[34]⟩] := by
  simp [attrL, flatS, lstr]
/-- What writeKids does below a node. -/
def KidsOk (w0 : World) (b : Nat) (nv : Value) (k : Nat) (out : List UInt8) : Prop :=
  ∀ (w : World) (l : List UInt8), PrW w0 b nv l w → l.length + out.length ≤ 35184372088832 →
    Calls Tryz.prog 80 #[.pointer (some ⟨b, 0, none⟩), .int .i64 (k : Int)] w fun e w' => e = .returned (.tuple #[]) ∧ PrW w0 b nv (l ++ out) w' ∧ PrK w0.heap.size b w w'

set_option maxHeartbeats 2000000 in
set_option maxRecDepth 100000 in
theorem prElem_any {w0 : World} {b : Nat} {a : Option Addr} {cap : Nat} {ns : List PNode} (hn : NodesAt w0 (.slice a ns.length cap) ns) {l : List UInt8} {w : World} (h : PrW w0 b (.slice a ns.length cap) l w) {k : Nat} (hk : k < ns.length) (hlen : ns.length ≤ 1048576) (hsm : SmallN ns[k])
    {out : List UInt8} (hK : hasB voids ns[k].name = false → KidsOk w0 b (.slice a ns.length cap) k out) (hl : l.length + (if hasB voids ns[k].name then openL ns[k] else openL ns[k] ++ out ++ closeL ns[k]).length ≤ 35184372088832) :
    Calls Tryz.prog 163 #[.pointer (some ⟨b, 0, none⟩), .int .i64 (k : Int)] w fun e w' => e = .returned (.tuple #[]) ∧ PrW w0 b (.slice a ns.length cap) (l ++ (if hasB voids ns[k].name then openL ns[k] else openL ns[k] ++ out ++ closeL ns[k])) w' ∧ PrK w0.heap.size b w w' := by
  have hbl := h.pr.lt
  have HP := (show Hid (PrW w0 b (.slice a ns.length cap) l w) from h)
  have HKO := (show Hid _ from hK)
  have HOL := (show Hid _ from openL_len hsm)
  have HSM := (show Hid _ from hsm)
  obtain ⟨_, _, e1, _, _, hcs⟩ := hn.slice
  cases e1
  obtain ⟨gb, go, av, kv, rfl, hgl, c0, c1, c2, c3, c4, c5, hav, hkv⟩ := hcs k hk
  obtain ⟨av1, acap, rfl, ha1, ha2, ha3'⟩ := hav.pair
  have ha3 : ∀ j (hj : j < ns[k].attrs.length), ∃ xb xo, av1 = some ⟨xb, xo, none⟩ ∧ ∀ W, Below w0.heap.size w0 W → W.cell? ⟨xb, xo + j * 2, none⟩ = some (.string ns[k].attrs[j].1) ∧ W.cell? ⟨xb, xo + j * 2 + 1, none⟩ = some (.string ns[k].attrs[j].2) := fun j hj => by
    obtain ⟨xb, xo, e, hx, y0, y1⟩ := ha3' j hj
    exact ⟨xb, xo, e, fun W hW => ⟨(hW.cell (p := ⟨xb, xo + j * 2, none⟩) hx).trans y0, (hW.cell (p := ⟨xb, xo + j * 2 + 1, none⟩) hx).trans y1⟩⟩
  replace c0 := (h.bel.cell (p := ⟨gb, go + k * 6, none⟩) hgl).trans c0
  replace c1 := (h.bel.cell (p := ⟨gb, go + k * 6 + 1, none⟩) hgl).trans c1
  replace c2 := (h.bel.cell (p := ⟨gb, go + k * 6 + 2, none⟩) hgl).trans c2
  replace c3 := (h.bel.cell (p := ⟨gb, go + k * 6 + 3, none⟩) hgl).trans c3
  replace c4 := (h.bel.cell (p := ⟨gb, go + k * 6 + 4, none⟩) hgl).trans c4
  replace c5 := (h.bel.cell (p := ⟨gb, go + k * 6 + 5, none⟩) hgl).trans c5
  clear ha3'
  obtain ⟨kv1, kcap, rfl, hk1, hk2, _, _⟩ := hkv
  have cP := h.pr.cell0
  obtain ⟨nd, hnd⟩ : ∃ nd, nd = ns[k] := ⟨_, rfl⟩
  rw [← hnd] at c0 c1 c2 c3 c4 c5 hav ha1 ha3 hk1 hsm HKO HOL HSM hl ⊢
  obtain ⟨res, hres⟩ : ∃ res, res = (if hasB voids nd.name then openL nd else openL nd ++ out ++ closeL nd) := ⟨_, rfl⟩
  rw [← hres] at hl ⊢
  have HRES := (show Hid (res = (if hasB voids nd.name then openL nd else openL nd ++ out ++ closeL nd)) from hres)
  clear hres
  have hr20 := hsm.rs
  have hnm := hsm.nm
  obtain ⟨nk, nm, rs, tx, par, ks⟩ := nd
  simp only at c0 c1 c2 c3 c4 c5 hav ha1 ha3 hk1 hr20 hnm HKO
  have HAV := (show Hid (∀ j (hj : j < rs.length), ∃ xb xo, av1 = some ⟨xb, xo, none⟩ ∧ ∀ W, Below w0.heap.size w0 W → W.cell? ⟨xb, xo + j * 2, none⟩ = some (.string rs[j].1) ∧ W.cell? ⟨xb, xo + j * 2 + 1, none⟩ = some (.string rs[j].2)) from ha3)
  have HB0 := (show Hid (w0.heap.size ≤ w.heap.size) from h.bel.size)
  have HN0 := (show Hid (NodesAt w0 (.slice (some ⟨gb, go, none⟩) ns.length cap) ns) from hn)
  have hki : (k : Int) < ns.length := by omega
  obtain ⟨w1, hw1⟩ : ∃ x, x = w.alloc (.cells #[.int .i64 nk, .string nm, .slice av1 rs.length acap, .string tx, .int .i64 par, .slice kv1 ks.length kcap] 36) := ⟨_, rfl⟩
  have b1 : Below w.heap.size w w1 := by rw [hw1]; exact (Below.refl _ _).alloc (Nat.le_refl _) _
  have g1 : w1.heap[w.heap.size]? = some (.cells #[.int .i64 nk, .string nm, .slice av1 rs.length acap, .string tx, .int .i64 par, .slice kv1 ks.length kcap] 36 (0, 0)) := by rw [hw1]; exact World.alloc_heap_new _ _
  obtain ⟨N, hN⟩ : ∃ x, x = w.heap.size := ⟨_, rfl⟩
  rw [← hN] at g1
  have hNb : N ≠ b := by omega
  have G1 := (show Hid _ from g1)
  have P1 := (show Hid (PrW w0 b (.slice (some ⟨gb, go, none⟩) ns.length cap) l w1) from h.below b1)
  have K1 := (show Hid (PrK w0.heap.size b w w1) from PrK.of_below b1 hbl)
  have n1 := (six_at g1).1.2.1
  have n2 := (six_at g1).1.2.2.1
  have hls : nm.data.toList.length = nm.size := by simp
  clear hcs hn hnd hsm hav ha3 b1 g1 h hK
  go_enter Tryz.func163, Tryz.ntmps163
  go_upto_region 1 with fail
  rw [← hw1, ← hN]
  clear hw1 hN c0 c1 c2 c3 c4 c5
  go_wp2_with fail
  go_at_call 162
  refine Calls.mono (prNew_any P1.out.pr P1.out.bel.size [⟨#[60]⟩, nm] _ rfl rfl (by simp) (by simp [flatS]; omega)) ?_
  rintro e w2 ⟨rfl, h2, k2⟩
  have G2 := (show Hid _ from k2.keepB G1.out hNb (by decide))
  have P2 := (show Hid (PrW w0 b (.slice (some ⟨gb, go, none⟩) ns.length cap) (l ++ flatS [⟨#[60]⟩, nm]) w2) from P1.out.next h2 k2)
  have K2 := (show Hid (PrK w0.heap.size b w w2) from K1.out.trans k2)
  have n1 := (six_at G2.out).1.2.1
  have n2 := (six_at G2.out).1.2.2.1
  clear h2 k2 G1 P1 K1
  obtain ⟨l1, hl1⟩ : ∃ l1, l1 = l ++ flatS [⟨#[60]⟩, nm] := ⟨_, rfl⟩
  rw [← hl1] at P2
  have HL1 := (show Hid (l1 = l ++ flatS [⟨#[60]⟩, nm]) from hl1)
  have hl1s : l1.length ≤ l.length + 3001 := by rw [hl1, List.length_append]; simp [flatS]; omega
  clear hl1
  have hatt : (rs.flatMap attrL).length ≤ 366000 := by
    have := HOL.out
    simp only [openL, List.length_append] at this
    omega
  go_wp2
  go_loopw [23] (fun i wr => ∃ j : Nat, j ≤ rs.length ∧ i = .int .i64 j ∧ Hid (PrW w0 b (.slice (some ⟨gb, go, none⟩) ns.length cap) (l1 ++ (rs.take j).flatMap attrL) wr ∧ PrK w0.heap.size b w wr ∧ wr.heap[N]? = some (.cells #[.int .i64 nk, .string nm, .slice av1 rs.length acap, .string tx, .int .i64 par, .slice kv1 ks.length kcap] 36 (0, 0)))) (fun i _ => rs.length - (intOf i).toNat)
  case atStart => exact ⟨0, Nat.zero_le _, rfl, by simpa using P2.out, K2.out, G2.out⟩
  case round =>
    obtain ⟨j, hj, rfl, HR⟩ := hrel
    by_cases hlt : j < rs.length
    · obtain ⟨xb, xo, rfl, hx0⟩ := HAV.out j hlt
      have hbr := HR.out.1.bel
      have kr := HR.out.2.1
      have x0r := (hx0 wr hbr).1
      have x1r := (hx0 wr hbr).2
      have hat := HSM.out.each rs[j] (List.getElem_mem hlt)
      have HTK := (show Hid ((rs.take (j + 1)).flatMap attrL = (rs.take j).flatMap attrL ++ attrL rs[j]) from take_flat hlt)
      have htl := take_le rs (j + 1)
      rw [HTK.out, List.length_append] at htl
      obtain ⟨pp, hpp⟩ : ∃ pp, pp = rs[j] := ⟨_, rfl⟩
      rw [← hpp] at x0r x1r hat HTK htl
      clear hpp hx0
      obtain ⟨an, ax⟩ := pp
      simp only at x0r x1r
      have hax : ax.size ≤ 3000 := by
        unfold attrOk at hat
        simp only [Bool.and_eq_true, decide_eq_true_eq] at hat
        exact hat.1.1.2
      obtain ⟨es, hes⟩ : ∃ es, es = lstr (esc true ax.data.toList) := ⟨_, rfl⟩
      have HAP := (show Hid (attrL (an, ax) = flatS [⟨#[32]⟩, an, ⟨#[61, 34]⟩, es, ⟨#[34]⟩]) from by rw [hes]; exact attr_parts (an, ax))
      have CE := (show Hid (∀ W, Calls Tryz.prog 194 #[.string ax, .bool true] W fun e w' => e = .returned (.string es) ∧ Below W.heap.size W w') from fun W => by rw [hes]; exact iescape_any ax true W (by omega))
      rw [HAP.out] at htl
      have HTL := (show Hid (((rs.take j).flatMap attrL).length + (flatS [⟨#[32]⟩, an, ⟨#[61, 34]⟩, es, ⟨#[34]⟩]).length ≤ 366000) from (by omega : ((rs.take j).flatMap attrL).length + (flatS [⟨#[32]⟩, an, ⟨#[61, 34]⟩, es, ⟨#[34]⟩]).length ≤ 366000))
      obtain ⟨wx, hwx⟩ : ∃ x, x = wr.alloc (.cells #[.string an, .string ax] 115) := ⟨_, rfl⟩
      have bx : Below wr.heap.size wr wx := by rw [hwx]; exact (Below.refl _ _).alloc (Nat.le_refl _) _
      have gx : wx.heap[wr.heap.size]? = some (.cells #[.string an, .string ax] 115 (0, 0)) := by rw [hwx]; exact World.alloc_heap_new _ _
      obtain ⟨X, hX⟩ : ∃ x, x = wr.heap.size := ⟨_, rfl⟩
      rw [← hX] at gx
      have PX := (show Hid (PrW w0 b (.slice (some ⟨gb, go, none⟩) ns.length cap) (l1 ++ (rs.take j).flatMap attrL) wx) from HR.out.1.below bx)
      have KX := (show Hid (PrK w0.heap.size b w wx) from kr.trans (PrK.of_below bx HR.out.1.pr.lt))
      have GN := (show Hid _ from (bx.block _ (blk_lt HR.out.2.2)).trans HR.out.2.2)
      have GX := (show Hid (wx.heap[X]? = some (.cells #[.string an, .string ax] 115 (0, 0))) from gx)
      have y0 : wx.cell? ⟨X, 0, none⟩ = some (.string an) := by simp only [World.cell?, gx]; rfl
      have y1 : wx.cell? ⟨X, 1, none⟩ = some (.string ax) := by simp only [World.cell?, gx]; rfl
      clear hat htl hes bx gx hbr kr
      go_upto_region 5 with fail
      rw [← hwx, ← hX]
      clear hwx hX x0r x1r
      go_region_with (first
        | (go_at_call 194
           refine Calls.mono (CE.out _) ?_
           rintro e w3 ⟨rfl, b3⟩
           have b3' : Below wx.heap.size wx w3 := (below_drewN 1).trans b3
           have P3 := (show Hid (PrW w0 b (.slice (some ⟨gb, go, none⟩) ns.length cap) (l1 ++ (rs.take j).flatMap attrL) w3) from PX.out.below b3')
           have K3 := (show Hid (PrK w0.heap.size b w w3) from KX.out.trans (PrK.of_below b3' PX.out.pr.lt))
           have GN3 := (show Hid _ from (b3'.block _ (blk_lt GN.out)).trans GN.out)
           have z0 : w3.cell? ⟨X, 0, none⟩ = some (.string an) := (b3'.cell (p := ⟨X, 0, none⟩) (blk_lt GX.out)).trans y0
           clear b3 b3')
        | (go_at_call 162
           refine Calls.mono (prNew_any P3.out.pr P3.out.bel.size [⟨#[32]⟩, an, ⟨#[61, 34]⟩, es, ⟨#[34]⟩] _ rfl rfl (by simp) (by have := HTL.out; rw [List.length_append]; omega)) ?_
           rintro e w4 ⟨rfl, h4, k4⟩
           have H4 := (show Hid (PrW w0 b (.slice (some ⟨gb, go, none⟩) ns.length cap) (l1 ++ (rs.take (j + 1)).flatMap attrL) w4 ∧ PrK w0.heap.size b w w4 ∧ w4.heap[N]? = some (.cells #[.int .i64 nk, .string nm, .slice (some ⟨xb, xo, none⟩) rs.length acap, .string tx, .int .i64 par, .slice kv1 ks.length kcap] 36 (0, 0))) from ⟨by rw [HTK.out, HAP.out, ← List.append_assoc]; exact P3.out.next h4 k4, K3.out.trans k4, k4.keepB GN3.out hNb (by decide)⟩)
           clear h4 k4)
        | fail)
      all_goals
        go_wp2
        go_roundw
        case rel => exact ⟨j + 1, by omega, by go_num, H4⟩
        case measure => simp [intOf]; omega
    · obtain rfl : j = rs.length := by omega
      have PR := (show Hid (PrW w0 b (.slice (some ⟨gb, go, none⟩) ns.length cap) (l1 ++ rs.flatMap attrL) wr) from by have := HR.out.1; rwa [List.take_length] at this)
      have KR := (show Hid (PrK w0.heap.size b w wr) from HR.out.2.1)
      have GN := (show Hid _ from HR.out.2.2)
      clear HR
      go_wp2_with fail
      go_at_call 162
      refine Calls.mono (prNew_any PR.out.pr PR.out.bel.size [⟨#[62]⟩] _ rfl rfl (by simp) (by rw [List.length_append, show (flatS [⟨#[62]⟩]).length = 1 from rfl]; omega)) ?_
      rintro e w5 ⟨rfl, h5, k5⟩
      have HOP : Hid (l1 ++ rs.flatMap attrL ++ flatS [⟨#[62]⟩] = l ++ openL ⟨nk, nm, rs, tx, par, ks⟩) := (by rw [HL1.out]; simp [openL, flatS] : l1 ++ rs.flatMap attrL ++ flatS [⟨#[62]⟩] = l ++ openL ⟨nk, nm, rs, tx, par, ks⟩)
      rw [HOP.out] at h5
      have P5 := (show Hid (PrW w0 b (.slice (some ⟨gb, go, none⟩) ns.length cap) (l ++ openL ⟨nk, nm, rs, tx, par, ks⟩) w5) from PR.out.next h5 k5)
      have K5 := (show Hid (PrK w0.heap.size b w w5) from KR.out.trans k5)
      have G5 := (show Hid _ from k5.keepB GN.out hNb (by decide))
      have m1 := (six_at G5.out).1.2.1
      clear h5 k5 GN PR KR HOP HL1
      go_wp2_with fail
      go_at_call 195
      refine Calls.mono (iisVoid_any nm w5) ?_
      rintro e w6 ⟨rfl, hw6⟩
      rw [hw6]
      clear hw6 w6
      cases hv : hasB voids nm with
      | true =>
        have hrs : res = openL ⟨nk, nm, rs, tx, par, ks⟩ := by rw [HRES.out]; simp [hv]
        have HF := (show Hid (PrW w0 b (.slice (some ⟨gb, go, none⟩) ns.length cap) (l ++ res) w5 ∧ PrK w0.heap.size b w w5) from by rw [hrs]; exact ⟨P5.out, K5.out⟩)
        clear hv hrs
        go_wp2
        refine bodyPost_ret (results_none rfl _ _ _) rfl ?_
        exact ⟨rfl, HF.out⟩
      | false =>
        have hrs : res = openL ⟨nk, nm, rs, tx, par, ks⟩ ++ out ++ closeL ⟨nk, nm, rs, tx, par, ks⟩ := by rw [HRES.out]; simp [hv]
        have HRS := (show Hid _ from hrs)
        have hrl := congrArg List.length hrs
        rw [List.length_append, List.length_append] at hrl
        have HRL := (show Hid _ from hrl)
        have HKC := (show Hid _ from HKO.out hv w5 _ P5.out (by have := HOL.out; rw [List.length_append]; omega))
        clear hv hrs hrl
        go_wp2_with fail
        go_at_call 80
        refine Calls.mono HKC.out ?_
        rintro e w7 ⟨rfl, h7, k7⟩
        have P7 := (show Hid (PrW w0 b (.slice (some ⟨gb, go, none⟩) ns.length cap) (l ++ openL ⟨nk, nm, rs, tx, par, ks⟩ ++ out) w7) from h7)
        have K7 := (show Hid (PrK w0.heap.size b w w7) from K5.out.trans k7)
        have G7 := (show Hid _ from k7.keepB G5.out hNb (by decide))
        have q1 := (six_at G7.out).1.2.1
        clear h7 k7 P5 K5 G5 m1 HKC
        go_wp2_with fail
        go_at_call 162
        refine Calls.mono (prNew_any P7.out.pr P7.out.bel.size [⟨#[60, 47]⟩, nm, ⟨#[62]⟩] _ rfl rfl (by simp) (by have := HRL.out; rw [List.length_append, List.length_append, show (flatS [⟨#[60, 47]⟩, nm, ⟨#[62]⟩]).length = nm.size + 3 by simp [flatS]]; omega)) ?_
        rintro e w8 ⟨rfl, h8, k8⟩
        have HE : Hid (l ++ openL ⟨nk, nm, rs, tx, par, ks⟩ ++ out ++ flatS [⟨#[60, 47]⟩, nm, ⟨#[62]⟩] = l ++ (openL ⟨nk, nm, rs, tx, par, ks⟩ ++ out ++ closeL ⟨nk, nm, rs, tx, par, ks⟩)) := (by simp [closeL, flatS] : l ++ openL ⟨nk, nm, rs, tx, par, ks⟩ ++ out ++ flatS [⟨#[60, 47]⟩, nm, ⟨#[62]⟩] = l ++ (openL ⟨nk, nm, rs, tx, par, ks⟩ ++ out ++ closeL ⟨nk, nm, rs, tx, par, ks⟩))
        rw [HE.out] at h8
        have HF := (show Hid (PrW w0 b (.slice (some ⟨gb, go, none⟩) ns.length cap) (l ++ res) w8 ∧ PrK w0.heap.size b w w8) from by rw [HRS.out]; exact ⟨P7.out.next h8 k8, K7.out.trans k8⟩)
        clear h8 k8 HE
        go_wp2
        go_end0
        exact ⟨rfl, HF.out⟩
end Go.Proofs.YtogdbjafibejdaaGreat

/- The printer's writeNode (written by mk/ipr4.py). No condition. -/
namespace Go.Proofs.YtogdbjafibejdaaGreat
open Go.RowKit
set_option maxRecDepth 100000
set_option linter.unusedVariables false

set_option maxHeartbeats 2000000 in
set_option maxRecDepth 100000 in
theorem prNode_any {w0 : World} {b : Nat} {a : Option Addr} {cap : Nat} {ns : List PNode} (hn : NodesAt w0 (.slice a ns.length cap) ns) {l : List UInt8} {w : World} (h : PrW w0 b (.slice a ns.length cap) l w) {k : Nat} (hk : k < ns.length) (hlen : ns.length ≤ 1048576) (hsm : SmallN ns[k])
    {out : List UInt8} (hK : ns[k].kind = 3 → hasB voids ns[k].name = false → KidsOk w0 b (.slice a ns.length cap) k out) (up : ByteArray) (hup : ns[k].kind = 4 → ∃ q : Nat, ns[k].parent = (q : Int) ∧ ∃ hq : q < ns.length, ns[q].name = up) (hl : l.length + (nodeL up ns[k] out).length ≤ 35184372088832) :
    Calls Tryz.prog 124 #[.pointer (some ⟨b, 0, none⟩), .int .i64 (k : Int)] w fun e w' => e = .returned (.tuple #[]) ∧ PrW w0 b (.slice a ns.length cap) (l ++ nodeL up ns[k] out) w' ∧ PrK w0.heap.size b w w' := by
  have hbl := h.pr.lt
  have HSM := (show Hid _ from hsm)
  have CE : Hid (∀ W, PrW w0 b (.slice a ns.length cap) l W → ns[k].kind = 3 → Calls Tryz.prog 163 #[.pointer (some ⟨b, 0, none⟩), .int .i64 (k : Int)] W fun e w' => e = .returned (.tuple #[]) ∧ PrW w0 b (.slice a ns.length cap) (l ++ (if hasB voids ns[k].name then openL ns[k] else openL ns[k] ++ out ++ closeL ns[k])) w' ∧ PrK w0.heap.size b W w') := fun W hW h3 => prElem_any hn hW hk hlen hsm (hK h3) (by have := hl; unfold nodeL at this; rw [if_neg (by omega), if_pos h3] at this; exact this)
  have CT : Hid (∀ W (q : Nat) (hq : q < ns.length), PrW w0 b (.slice a ns.length cap) l W → ns[q].name = up → ∀ (k : Int) (nm tx : ByteArray) (av1 : Option Addr) (av2 av3 : Nat) (kv1 : Option Addr) (kv2 kv3 : Nat), tx.size ≤ 1048576 → Calls Tryz.prog 164 #[.pointer (some ⟨b, 0, none⟩), .agg #[.int .i64 k, .string nm, .slice av1 av2 av3, .string tx, .int .i64 (q : Int), .slice kv1 kv2 kv3]] W fun e w' => e = .returned (.tuple #[]) ∧ PrW w0 b (.slice a ns.length cap) (l ++ textAs up tx) w' ∧ PrK w0.heap.size b W w') := fun W q hq hW e k nm tx av1 av2 av3 kv1 kv2 kv3 hs => by
    rw [← e]
    exact prText_any hn hW hq hlen k nm tx (av := .slice av1 av2 av3) (kv := .slice kv1 kv2 kv3) hs (by omega)
  obtain ⟨_, _, e1, _, _, hcs⟩ := hn.slice
  cases e1
  obtain ⟨gb, go, av, kv, rfl, hgl, c0, c1, c2, c3, c4, c5, hav, hkv⟩ := hcs k hk
  obtain ⟨av1, acap, rfl, _, _, _⟩ := hav.pair
  obtain ⟨kv1, kcap, rfl, hk1, hk2, _, _⟩ := hkv
  replace c0 := (h.bel.cell (p := ⟨gb, go + k * 6, none⟩) hgl).trans c0
  replace c1 := (h.bel.cell (p := ⟨gb, go + k * 6 + 1, none⟩) hgl).trans c1
  replace c2 := (h.bel.cell (p := ⟨gb, go + k * 6 + 2, none⟩) hgl).trans c2
  replace c3 := (h.bel.cell (p := ⟨gb, go + k * 6 + 3, none⟩) hgl).trans c3
  replace c4 := (h.bel.cell (p := ⟨gb, go + k * 6 + 4, none⟩) hgl).trans c4
  replace c5 := (h.bel.cell (p := ⟨gb, go + k * 6 + 5, none⟩) hgl).trans c5
  have cP := h.pr.cell0
  have HUP := (show Hid _ from hup)
  obtain ⟨nd, hnd⟩ : ∃ nd, nd = ns[k] := ⟨_, rfl⟩
  rw [← hnd] at c0 c1 c2 c3 c4 c5 hav hk1 HSM HUP CE ⊢
  obtain ⟨res, hres⟩ : ∃ res, res = nodeL up nd out := ⟨_, rfl⟩
  rw [← hres]
  have HRES := (show Hid (res = nodeL up nd out) from hres)
  have hnm := HSM.out.nm
  have htx := HSM.out.tx
  obtain ⟨nk, nm, rs, tx, par, ks⟩ := nd
  simp only at c0 c1 c2 c3 c4 c5 hav hk1 hnm htx HUP CE
  have hki : (k : Int) < ns.length := by omega
  obtain ⟨w1, hw1⟩ : ∃ x, x = w.alloc (.cells #[.int .i64 nk, .string nm, .slice av1 rs.length acap, .string tx, .int .i64 par, .slice kv1 ks.length kcap] 36) := ⟨_, rfl⟩
  have b1 : Below w.heap.size w w1 := by rw [hw1]; exact (Below.refl _ _).alloc (Nat.le_refl _) _
  have g1 : w1.heap[w.heap.size]? = some (.cells #[.int .i64 nk, .string nm, .slice av1 rs.length acap, .string tx, .int .i64 par, .slice kv1 ks.length kcap] 36 (0, 0)) := by rw [hw1]; exact World.alloc_heap_new _ _
  obtain ⟨N, hN⟩ : ∃ x, x = w.heap.size := ⟨_, rfl⟩
  rw [← hN] at g1
  have hNb : N ≠ b := by omega
  have G1 := (show Hid _ from g1)
  have P1 := (show Hid (PrW w0 b (.slice (some ⟨gb, go, none⟩) ns.length cap) l w1) from h.below b1)
  have K1 := (show Hid (PrK w0.heap.size b w w1) from PrK.of_below b1 hbl)
  obtain ⟨n0, n1, n2, n3, n4, n5⟩ := (six_at g1).1
  have hls : nm.data.toList.length = nm.size := by simp
  have hlt : tx.data.toList.length = tx.size := by simp
  have hll : l.length ≤ 35184372088832 := by omega
  clear hcs hn hnd hsm hav b1 g1 h hK hup hres hl
  go_enter Tryz.func124, Tryz.ntmps124
  go_upto_region 1 with fail
  rw [← hw1, ← hN]
  clear hw1 hN c0 c1 c2 c3 c4 c5
  by_cases h2 : nk = 2
  · subst h2
    go_wp2_with fail
    go_at_call 162
    refine Calls.mono (prNew_any P1.out.pr P1.out.bel.size [⟨#[60, 33, 68, 79, 67, 84, 89, 80, 69, 32]⟩, nm, ⟨#[62]⟩] _ rfl rfl (by simp) (by rw [show (flatS [⟨#[60, 33, 68, 79, 67, 84, 89, 80, 69, 32]⟩, nm, ⟨#[62]⟩]).length = 10 + (nm.size + 1) by (first | (simp [flatS]; done) | (simp [flatS]; omega))]; omega)) ?_
    rintro e w2 ⟨rfl, h2, k2⟩
    have hrs : res = flatS [⟨#[60, 33, 68, 79, 67, 84, 89, 80, 69, 32]⟩, nm, ⟨#[62]⟩] := by rw [HRES.out]; simp [nodeL, flatS, dtL]
    have HF := (show Hid (PrW w0 b (.slice (some ⟨gb, go, none⟩) ns.length cap) (l ++ res) w2 ∧ PrK w0.heap.size b w w2) from by rw [hrs]; exact ⟨P1.out.next h2 k2, K1.out.trans k2⟩)
    clear h2 k2 hrs
    go_wp2
    go_end0
    exact ⟨rfl, HF.out⟩
  by_cases h3 : nk = 3
  · subst h3
    go_wp2_with fail
    go_at_call 163
    refine Calls.mono (CE.out _ P1.out (by simp)) ?_
    rintro e w2 ⟨rfl, h2, k2⟩
    have hrs : res = (if hasB voids nm then openL ⟨3, nm, rs, tx, par, ks⟩ else openL ⟨3, nm, rs, tx, par, ks⟩ ++ out ++ closeL ⟨3, nm, rs, tx, par, ks⟩) := by rw [HRES.out]; simp [nodeL]
    have HF := (show Hid (PrW w0 b (.slice (some ⟨gb, go, none⟩) ns.length cap) (l ++ res) w2 ∧ PrK w0.heap.size b w w2) from by rw [hrs]; exact ⟨h2, K1.out.trans k2⟩)
    clear h2 k2 hrs
    go_wp2
    go_end0
    exact ⟨rfl, HF.out⟩
  by_cases h4 : nk = 4
  · subst h4
    obtain ⟨q, hpq, hq, hqn⟩ := HUP.out rfl
    subst hpq
    have HQ := (show Hid (ns[q].name = up) from hqn)
    clear hqn
    go_wp2_with fail
    go_at_call 164
    refine Calls.mono (CT.out _ q hq P1.out HQ.out 4 nm tx av1 rs.length acap kv1 ks.length kcap (by omega)) ?_
    rintro e w2 ⟨rfl, h2, k2⟩
    have hrs : res = textAs up tx := by rw [HRES.out]; simp [nodeL, textAs]
    have HF := (show Hid (PrW w0 b (.slice (some ⟨gb, go, none⟩) ns.length cap) (l ++ res) w2 ∧ PrK w0.heap.size b w w2) from by rw [hrs]; exact ⟨h2, K1.out.trans k2⟩)
    clear h2 k2 hrs
    go_wp2
    go_end0
    exact ⟨rfl, HF.out⟩
  by_cases h5 : nk = 5
  · subst h5
    go_wp2_with fail
    go_at_call 162
    refine Calls.mono (prNew_any P1.out.pr P1.out.bel.size [⟨#[60, 33, 45, 45]⟩, tx, ⟨#[45, 45, 62]⟩] _ rfl rfl (by simp) (by rw [show (flatS [⟨#[60, 33, 45, 45]⟩, tx, ⟨#[45, 45, 62]⟩]).length = 4 + (tx.size + 3) by (first | (simp [flatS]; done) | (simp [flatS]; omega))]; omega)) ?_
    rintro e w2 ⟨rfl, h2, k2⟩
    have hrs : res = flatS [⟨#[60, 33, 45, 45]⟩, tx, ⟨#[45, 45, 62]⟩] := by rw [HRES.out]; simp [nodeL, flatS, coL, coR]
    have HF := (show Hid (PrW w0 b (.slice (some ⟨gb, go, none⟩) ns.length cap) (l ++ res) w2 ∧ PrK w0.heap.size b w w2) from by rw [hrs]; exact ⟨P1.out.next h2 k2, K1.out.trans k2⟩)
    clear h2 k2 hrs
    go_wp2
    go_end0
    exact ⟨rfl, HF.out⟩
  have hrs : res = [] := by rw [HRES.out]; simp [nodeL, h2, h3, h4, h5]
  have HF := (show Hid (PrW w0 b (.slice (some ⟨gb, go, none⟩) ns.length cap) (l ++ res) w1 ∧ PrK w0.heap.size b w w1) from by rw [hrs, List.append_nil]; exact ⟨P1.out, K1.out⟩)
  clear hrs
  go_wp2
  go_end0
  exact ⟨rfl, HF.out⟩
end Go.Proofs.YtogdbjafibejdaaGreat
