/- The laws' helper that marks a tree, with the marks (written by mk/helpn15.py). No condition. -/
import Derived.Test.YtogdbjafibejdaaGreatY37
import Derived.Test.YtogdbjafibejdaaGreatY4
import Derived.Test.YtogdbjafibejdaaGreatY35
import Derived.Test.YtogdbjafibejdaaGreatY28
import Derived.Test.YtogdbjafibejdaaGreatY30
import Derived.Test.YtogdbjafibejdaaGreatY31
namespace Go.Proofs.YtogdbjafibejdaaGreat
open Go.RowKit
set_option maxRecDepth 100000
set_option linter.unusedVariables false

set_option maxHeartbeats 4000000 in
set_option maxRecDepth 100000 in
theorem markNodeV_row {B : Nat} {g cap : Nat} {qs : List (PNode × (Value × Value))} {w : World} (h : OwnQ B w (.slice (some ⟨g, 0, none⟩) qs.length cap) qs) (ap : Apart qs) (apa : ApartA qs) (k0 : Int) (h0 : 0 ≤ k0) (h1 : k0 ≤ 1000) (hsum : qs.length + wtS (qs.map fun q => q.1) ≤ 1048576) :
    Calls Tryz.prog 101 #[.slice (some ⟨g, 0, none⟩) qs.length cap, .int .i64 k0] w fun e w' => ∃ (k : Int) (ps : List (PNode × (Value × Value))), e = .returned (.int .i64 k) ∧ k = k0 + advS (qs.map fun q => q.1) ∧ DoneM k0 qs qs.length ps ∧ MkSt B w g cap qs ps w' := by
  have HSUM := (show Hid (qs.length + wtS (qs.map fun q => q.1) ≤ 1048576) from hsum)
  have H := (show Hid (MkSt B w g cap qs qs w) from ⟨rfl, h, .refl _ _, ap, apa⟩)
  have hqs : qs.length ≤ 1048576 := by omega
  clear h ap apa hsum
  go_enter Tryz.func101, Tryz.ntmps101
  go_wp2
  go_loopw [1, 5] (fun q i wr => ∃ (k : Nat) (r : Int), k ≤ qs.length ∧ i = .int .i64 k ∧ q = .int .i64 r ∧ k0 ≤ r ∧ Hid (r = k0 + advS ((qs.map fun q => q.1).take k)) ∧ Hid (∃ ps, MkSt B w g cap qs ps wr ∧ DoneM k0 qs k ps)) (fun _ i _ => qs.length - (intOf i).toNat)
  case atStart => exact ⟨0, k0, Nat.zero_le _, rfl, rfl, Int.le_refl _, (show k0 = k0 + advS ((qs.map fun q => q.1).take 0) by simp [advS]), ⟨_, H.out, fun i hi => absurd hi (by omega)⟩⟩
  case round =>
    obtain ⟨k, r, hk, rfl, rfl, hr0, hr1, hS⟩ := hrel
    by_cases hlt : k < qs.length
    · obtain ⟨ps, st, hdone⟩ := hS.out
      have HDN := (show Hid (DoneM k0 qs k ps) from hdone)
      clear hdone
      have hwk : (wtS ((qs.map fun q => q.1).take k) : Int) + qs[k].1.attrs.length + qs[k].1.kids.length ≤ 1048576 ∧ wtS ((qs.map fun q => q.1).take (k + 1)) = wtS ((qs.map fun q => q.1).take k) + (qs[k].1.attrs.length + qs[k].1.kids.length) := by
        have e1 := wtS_take (ns := qs.map fun q => q.1) (k := k) (by simpa using hlt)
        have e2 : wtS ((qs.map fun q => q.1).take (k + 1)) ≤ wtS (qs.map fun q => q.1) := by
          unfold wtS
          rw [← List.take_append_drop (k + 1) (qs.map fun q => q.1), List.map_append, List.sum_append]
          simp
        have e3 : wtN ((qs.map fun q => q.1)[k]'(by simpa using hlt)) = qs[k].1.attrs.length + qs[k].1.kids.length := by rw [List.getElem_map]; rfl
        have := HSUM.out
        rw [e3] at e1
        exact ⟨by omega, e1⟩
      have hrB : r ≤ 10000000 := by
        have a1 := hr1.out
        have a2 := (advS_le ((qs.map fun q => q.1).take k)).2
        have a3 := hwk.1
        have a4 := HSUM.out
        have a5 : ((qs.map fun q => q.1).take k).length ≤ qs.length := by simp; omega
        omega
      have hadv : advS ((qs.map fun q => q.1).take (k + 1)) = advS ((qs.map fun q => q.1).take k) + (4 + 2 * qs[k].1.attrs.length + qs[k].1.kids.length) := by
        rw [advS_take (by simpa using hlt), List.getElem_map]
        rfl
      have HADV := (show Hid _ from hadv)
      clear hadv
      have HWK := (show Hid _ from hwk)
      have hal : qs[k].1.attrs.length ≤ 1048576 := by have := hwk.1; omega
      have hkl : qs[k].1.kids.length ≤ 1048576 := by have := hwk.1; omega
      clear hwk
      obtain ⟨va1, va2, va3, hva⟩ : ∃ a n c, qs[k].2.1 = .slice a n c := by
        obtain ⟨⟨rs, _, hao⟩, _⟩ := st.listsAt hlt
        obtain ⟨_, h | ⟨_, _, _, h, _⟩⟩ := hao
        · exact ⟨_, _, _, h.1⟩
        · exact ⟨_, _, _, h⟩
      obtain ⟨vk1, vk2, vk3, hvk⟩ : ∃ a n c, qs[k].2.2 = .slice a n c := by
        obtain ⟨_, ⟨ks, _, hko⟩⟩ := st.listsAt hlt
        exact own_slice hko
      have HVA := (show Hid (qs[k].2.1 = .slice va1 va2 va3) from hva)
      have HVK := (show Hid (qs[k].2.2 = .slice vk1 vk2 vk3) from hvk)
      clear hva hvk
      obtain ⟨⟨z0, c0⟩, _, _, _, _, _, fz⟩ := st.cellAt hlt
      have f0 := fz (k * 6)
      obtain ⟨ps1, st1, u1⟩ := st.cellV hlt (j := 0) (by decide) (.int .i64 r) (fun n => ⟨r, n.name, n.attrs, n.text, n.parent, n.kids⟩) (fun n p => ⟨rfl, rfl, rfl⟩)
      obtain ⟨wA, hwA⟩ : ∃ z, z = wr.setCell ⟨g, k * 6, none⟩ (.int .i64 r) := ⟨_, rfl⟩
      rw [Nat.add_zero, ← hwA] at st1
      have ST1 := (show Hid _ from st1)
      have U1 := (show Hid (Upd k _ ps ps1) from u1)
      clear u1
      have CM := (show Hid (∀ (x : Int) W, x ≤ 1099511627776 → Calls Tryz.prog 146 #[.int .i64 x] W fun e w' => e = .returned (.string (mt x)) ∧ Below W.heap.size W w') from fun x W hx => markText_any x W hx)
      clear fz st st1 hS
      go_wp2_with fail
      go_at_call 146
      rw [← hwA]
      clear hwA c0 f0
      refine Calls.mono (CM.out _ _ (by omega)) ?_
      rintro e w2 ⟨rfl, b2⟩
      have st2 := ST1.out.below b2
      obtain ⟨_, ⟨z1, c1⟩, x2, _, _, _, fz⟩ := st2.cellAt hlt
      have f1 := fz (k * 6 + 1)
      obtain ⟨ps3, st3, u3⟩ := st2.cellV hlt (j := 1) (by decide) (.string (mt (r + 1))) (fun n => ⟨n.kind, mt (r + 1), n.attrs, n.text, n.parent, n.kids⟩) (fun n p => ⟨rfl, rfl, rfl⟩)
      obtain ⟨wB, hwB⟩ : ∃ z, z = w2.setCell ⟨g, k * 6 + 1, none⟩ (.string (mt (r + 1))) := ⟨_, rfl⟩
      rw [← hwB] at st3
      have ST3 := (show Hid _ from st3)
      have U3 := (show Hid (Upd k _ ps ps3) from Upd.trans U1.out u3)
      clear u3 U1
      obtain ⟨_, _, c2, _, _, _, _⟩ := st3.cellAt hlt
      obtain ⟨⟨rs, hrl, hao⟩, _⟩ := st3.listsAt hlt
      have CA := (show Hid _ from markAttrS_any hao (r + 1 + 1) (by omega) (by omega) (by omega))
      have HRL := (show Hid (rs.length = qs[k].1.attrs.length) from hrl)
      rw [HVA.out] at c2 CA x2
      clear fz st2 st3 ST1 b2 hao hrl
      go_wp2_with fail
      go_at_call 147
      rw [← hwB]
      clear hwB c1 f1 x2 c2
      refine Calls.mono CA.out ?_
      rintro e w4 ⟨rfl, o4, g4⟩
      rw [← HVA.out] at o4 g4
      obtain ⟨ps4, st4, u4⟩ := ST3.out.attrsV (rs := markPairs (r + 1 + 1) rs.length) hlt (by rw [markPairs_len]; exact HRL.out) g4 (by rw [markPairs_len]; exact o4)
      have hw1 := HWK.out.1
      have hrl := HRL.out
      obtain ⟨r4, hr4⟩ : ∃ x : Int, x = r + 1 + 1 + 2 * rs.length := ⟨_, rfl⟩
      rw [← hr4]
      have HR4 := (show Hid (r4 = r + 1 + 1 + 2 * rs.length) from hr4)
      have hr4a : r ≤ r4 ∧ r4 ≤ 20000000 := by omega
      obtain ⟨_, _, _, ⟨z3, c3⟩, _, _, fz⟩ := st4.cellAt hlt
      have f3 := fz (k * 6 + 3)
      obtain ⟨hr4b, hr4c⟩ := hr4a
      have ST4 := (show Hid _ from st4)
      have U4 := (show Hid (Upd k _ ps ps4) from Upd.trans U3.out u4)
      clear u4 U3
      clear hr4 fz st4 o4 g4 CA ST3 hw1 hrl
      go_wp2_with fail
      go_at_call 146
      refine Calls.mono (CM.out _ _ (by omega)) ?_
      rintro e w5 ⟨rfl, b5⟩
      have st5 := ST4.out.below b5
      obtain ⟨_, _, _, ⟨z5, c5⟩, ⟨z6, c6⟩, x5, fz⟩ := st5.cellAt hlt
      have f5 := fz (k * 6 + 3)
      have f6 := fz (k * 6 + 4)
      obtain ⟨ps6, st6, u6⟩ := st5.cellV hlt (j := 3) (by decide) (.string (mt r4)) (fun n => ⟨n.kind, n.name, n.attrs, mt r4, n.parent, n.kids⟩) (fun n p => ⟨rfl, rfl, rfl⟩)
      obtain ⟨ps7, st7, u7⟩ := st6.cellV hlt (j := 4) (by decide) (.int .i64 (r4 + 1)) (fun n => ⟨n.kind, n.name, n.attrs, n.text, r4 + 1, n.kids⟩) (fun n p => ⟨rfl, rfl, rfl⟩)
      obtain ⟨wC, hwC⟩ : ∃ z, z = (w5.setCell ⟨g, k * 6 + 3, none⟩ (.string (mt r4))).setCell ⟨g, k * 6 + 4, none⟩ (.int .i64 (r4 + 1)) := ⟨_, rfl⟩
      rw [← hwC] at st7
      have ST7 := (show Hid _ from st7)
      have U7 := (show Hid (Upd k _ ps ps7) from Upd.trans (Upd.trans U4.out u6) u7)
      clear u6 u7 U4
      obtain ⟨_, ⟨ks, hkl2, hko⟩⟩ := st7.listsAt hlt
      have CK := (show Hid _ from markI_any hko (k0 := r4 + 1 + 1) (by omega) (by omega) (by omega))
      have HKL := (show Hid (ks.length = qs[k].1.kids.length) from hkl2)
      rw [HVK.out] at x5 CK
      clear fz st5 st6 st7 ST4 b5 hko hkl2 c3 f3
      go_wp2_with fail
      go_at_call 148
      rw [← hwC]
      clear hwC c5 c6 f5 f6 x5
      refine Calls.mono CK.out ?_
      rintro e w8 ⟨rfl, o8, g8⟩
      rw [← HVK.out] at o8 g8
      obtain ⟨ps8, st8, u8⟩ := ST7.out.kidsV (ks := marks (fun x => x) (r4 + 1 + 1) ks.length) hlt (by rw [marks_length]; exact HKL.out) g8 o8
      have ST8 := (show Hid _ from st8)
      have HD8 := (show Hid (DoneM k0 qs (k + 1) ps8) from HDN.out.next (Upd.trans U7.out u8) (fun h h' => by
        have a1 := HKL.out
        have a2 := HRL.out
        have a3 := HR4.out
        have a4 := hr1.out
        unfold mkN
        rw [← a4, ← a1, ← a2, ← a3]))
      clear u8 U7
      clear st8 o8 g8 CK ST7
      go_wp2
      go_roundw
      case rel =>
        have a1 := HKL.out
        have a2 := HRL.out
        have a3 := HR4.out
        have a4 := HWK.out.2
        have a5 := hr1.out
        exact ⟨k + 1, _, by omega, by go_num, rfl, by omega, (show _ = _ by rw [HADV.out]; omega), ⟨_, ST8.out, HD8.out⟩⟩
      case measure => simp [intOf]; omega
    · go_wp2
      go_ret
      obtain ⟨ps, st, hdone⟩ := hS.out
      have hke : k = qs.length := by omega
      subst hke
      refine ⟨r, ps, rfl, ?_, hdone, st⟩
      have := hr1.out
      rw [List.take_of_length_le (by simp)] at this
      exact this
theorem markNodeV_any {B : Nat} {v : Value} {qs : List (PNode × (Value × Value))} {w : World} (h : OwnQ B w v qs) (ap : Apart qs) (apa : ApartA qs) (k0 : Int) (h0 : 0 ≤ k0) (h1 : k0 ≤ 1000) (hsum : qs.length + wtS (qs.map fun q => q.1) ≤ 1048576) :
    Calls Tryz.prog 101 #[v, .int .i64 k0] w fun e w' => ∃ (k : Int) (ps : List (PNode × (Value × Value))), e = .returned (.int .i64 k) ∧ k = k0 + advS (ps.map fun q => q.1) ∧ Marked k0 (ps.map fun q => q.1) ∧ LikeQ qs ps ∧ OwnQ B w' v ps ∧ MkFr B w w' := by
  have h' := h
  obtain ⟨⟨hl, ⟨rfl, hz⟩ | ⟨g, cap, cur, rfl, _⟩⟩, _⟩ := h'
  · refine (markNodeS_none k0 w).mono ?_
    rintro e w' ⟨rfl, rfl⟩
    obtain rfl : qs = [] := List.length_eq_zero_iff.mp hz
    exact ⟨k0, [], rfl, by simp [advS], fun i hi => absurd hi (by simp), rfl, h, .refl _ _⟩
  · refine (markNodeV_row h ap apa k0 h0 h1 hsum).mono ?_
    rintro e w' ⟨k, ps, rfl, hk, hd, st⟩
    have ea := st.like.adv qs.length
    rw [List.take_of_length_le (by simp [st.like.len]), List.take_of_length_le (by simp)] at ea
    exact ⟨k, ps, rfl, by rw [ea]; exact hk, hd.marked st.like, st.like, st.own, st.fr⟩

set_option maxHeartbeats 1000000 in
theorem markTreeV_any {B : Nat} {v : Value} {qs : List (PNode × (Value × Value))} {w : World} (hB : B ≤ w.heap.size) (h : OwnQ B w v qs) (ap : Apart qs) (apa : ApartA qs) (k0 : Int) (h0 : 0 ≤ k0) (h1 : k0 ≤ 1000) (hsum : qs.length + wtS (qs.map fun q => q.1) ≤ 1048576) :
    Calls Tryz.prog 39 #[.agg #[v], .int .i64 k0] w fun e w' => ∃ (k : Int) (ps : List (PNode × (Value × Value))), e = .returned (.int .i64 k) ∧ k = k0 + advS (ps.map fun q => q.1) ∧ Marked k0 (ps.map fun q => q.1) ∧ LikeQ qs ps ∧ OwnQ B w' v ps ∧ MkFr B w w' := by
  obtain ⟨a, ca, rfl, _, _, _⟩ := h.n.nodes.slice
  rw [List.length_map] at h ⊢
  obtain ⟨w2, hw2⟩ : ∃ z, z = w.alloc (.cells #[.slice a qs.length ca] 26) := ⟨_, rfl⟩
  have b2 : Below w.heap.size w w2 := by rw [hw2]; exact (Below.refl _ _).alloc (Nat.le_refl _) _
  have o2 : OwnQ B w2 (.slice a qs.length ca) qs := ⟨ownsRow_below h.1 b2, fun q hq => ⟨ownsRow_below (h.2 q hq).1 b2, (h.2 q hq).2.below b2⟩⟩
  have CM := (show Hid (Calls Tryz.prog 101 #[.slice a qs.length ca, .int .i64 k0] w2 _) from markNodeV_any o2 ap apa k0 h0 h1 hsum)
  have HW := (show Hid (w2 = _) from hw2)
  have F2 := (show Hid (MkFr B w w2) from .of_below b2)
  clear hw2 b2 o2 h
  go_enter Tryz.func39, Tryz.ntmps39
  go_wp2_with fail
  go_at_call 101
  rw [← HW.out]
  refine Calls.mono CM.out ?_
  rintro e w3 ⟨k, ps, rfl, hk, mk, lk, o3, f3⟩
  have HZ := (show Hid (LikeQ qs ps ∧ OwnQ B w3 (.slice a qs.length ca) ps ∧ MkFr B w w3) from ⟨lk, o3, F2.out.trans f3⟩)
  have HZ2 := (show Hid (_ ∧ _) from And.intro hk mk)
  clear CM lk o3 f3 hk mk
  go_wp2
  go_ret
  exact ⟨k, ps, rfl, HZ2.out.1, HZ2.out.2, HZ.out⟩
end Go.Proofs.YtogdbjafibejdaaGreat

/- The laws' helper that looks whether a tree's marks are held. No condition. -/
namespace Go.Proofs.YtogdbjafibejdaaGreat
open Go.RowKit
set_option maxRecDepth 100000
set_option linter.unusedVariables false

set_option maxHeartbeats 4000000 in
set_option maxRecDepth 100000 in
theorem heldNodeS_any {v : Value} {ms : List PNode} {k0 : Int} {w : World} (h : NodesAt w v ms) (hm : Marked k0 ms) (h0 : 0 ≤ k0) (h1 : k0 ≤ 1000) (hsum : ms.length + wtS ms ≤ 1048576) :
    Calls Tryz.prog 102 #[v, .int .i64 k0] w fun e w' => e = .returned (.int .i64 (k0 + advS ms)) ∧ Below w.heap.size w w' := by
  have HM := (show Hid (Marked k0 ms) from hm)
  have HSUM := (show Hid (ms.length + wtS ms ≤ 1048576) from hsum)
  have hlen : ms.length ≤ 1048576 := by omega
  obtain ⟨a, ca, rfl, _, _, hca⟩ := h.slice
  have HCA := (show Hid _ from hca)
  clear h hca hm hsum
  have ne := Wd.any w.heap.size w
  go_enter Tryz.func102, Tryz.ntmps102
  go_wp2
  go_loopw [1, 5] (fun q i wr => ∃ (k : Nat) (r : Int), k ≤ ms.length ∧ i = .int .i64 k ∧ q = .int .i64 r ∧ 0 ≤ r ∧ Hid (r = k0 + advS (ms.take k)) ∧ Below w.heap.size w wr) (fun _ i _ => ms.length - (intOf i).toNat)
  case atStart => exact ⟨0, k0, Nat.zero_le _, rfl, rfl, h0, (show k0 = k0 + advS (ms.take 0) by simp [advS]), Below.refl _ _⟩
  case round =>
    obtain ⟨k, r, hk, rfl, rfl, hr0, hr1, hb⟩ := hrel
    by_cases hlt : k < ms.length
    · obtain ⟨b1, o1, av, kv, rfl, l1, c0, c1, c2, c3, c4, c5, sa, sk⟩ := HCA.out k hlt
      have hadv : advS (ms.take (k + 1)) = advS (ms.take k) + (4 + 2 * ms[k].attrs.length + ms[k].kids.length) := advS_take hlt
      have hwk : wtS (ms.take k) + (ms[k].attrs.length + ms[k].kids.length) ≤ 1048576 ∧ r ≤ 10000000 := by
        have e1 : wtS (ms.take (k + 1)) = wtS (ms.take k) + (ms[k].attrs.length + ms[k].kids.length) := wtS_take hlt
        have e2 : wtS (ms.take (k + 1)) ≤ wtS ms := by
          unfold wtS
          conv => rhs; rw [← List.take_append_drop (k + 1) ms, List.map_append, List.sum_append]
          omega
        have := HSUM.out
        have e4 := (advS_le (ms.take k)).2
        have e5 := hr1.out
        have e6 : (ms.take k).length ≤ ms.length := by simp; omega
        exact ⟨by omega, by omega⟩
      have e := HM.out k hlt
      rw [← hr1.out] at e
      have q0 : ms[k].kind = r := congrArg (fun n => n.kind) e
      have q1 : ms[k].name = mt (r + 1) := congrArg (fun n => n.name) e
      have q2 : ms[k].attrs = markPairs (r + 1 + 1) ms[k].attrs.length := congrArg (fun n => n.attrs) e
      have q3 : ms[k].text = mt (r + 1 + 1 + 2 * ms[k].attrs.length) := congrArg (fun n => n.text) e
      have q4 : ms[k].parent = r + 1 + 1 + 2 * ms[k].attrs.length + 1 := congrArg (fun n => n.parent) e
      have q5 : ms[k].kids = marks (fun x => x) (r + 1 + 1 + 2 * ms[k].attrs.length + 1 + 1) ms[k].kids.length := congrArg (fun n => n.kids) e
      rw [q0] at c0
      rw [q1] at c1
      rw [q2] at sa
      rw [q3] at c3
      rw [q4] at c4
      rw [q5] at sk
      obtain ⟨la, hla⟩ : ∃ la, la = ms[k].attrs.length := ⟨_, rfl⟩
      obtain ⟨lk, hlk⟩ : ∃ lk, lk = ms[k].kids.length := ⟨_, rfl⟩
      rw [← hla] at sa c3 c4 sk hadv hwk
      rw [← hlk] at sk hadv hwk
      obtain ⟨r4, hr4⟩ : ∃ x : Int, x = r + 1 + 1 + 2 * la := ⟨_, rfl⟩
      rw [← hr4] at c3 c4 sk
      obtain ⟨hw1, hrB⟩ := hwk
      have hla2 : la ≤ 1048576 := by omega
      have hlk2 : lk ≤ 1048576 := by omega
      have hr4a : 0 ≤ r4 := by omega
      have hr4b : r4 ≤ 20000000 := by omega
      have NEXT := (show Hid (r4 + 1 + 1 + lk = k0 + advS (ms.take (k + 1))) from (by have := hr1.out; rw [hadv]; omega : r4 + 1 + 1 + (lk : Int) = k0 + advS (ms.take (k + 1))))
      have HR4 := (show Hid (r4 = r + 1 + 1 + 2 * la) from hr4)
      obtain ⟨va1, va2, rfl, _, _, _⟩ := sa.pair
      rw [markPairs_len] at c2 sa
      obtain ⟨vk1, vk2, rfl, _, _, _⟩ := id sk
      rw [marks_length] at c5 sk
      have C1 := (show Hid (∀ w, Calls Tryz.prog 146 #[.int .i64 (r + 1)] w fun e w' => e = .returned (.string (mt (r + 1))) ∧ Below w.heap.size w w') from fun w => markText_any _ _ (by omega))
      have C2 := (show Hid (∀ W, Below w.heap.size w W → Calls Tryz.prog 149 #[.slice va1 la va2, .int .i64 (r + 1 + 1)] W fun e w' => e = .returned (.int .i64 (r + 1 + 1 + 2 * la)) ∧ Below W.heap.size W w') from fun W b => heldAttrS_any (r + 1 + 1) (sa.below b) (by omega) (by omega) (by omega))
      have C3 := (show Hid (∀ w, Calls Tryz.prog 146 #[.int .i64 r4] w fun e w' => e = .returned (.string (mt r4)) ∧ Below w.heap.size w w') from fun w => markText_any _ _ (by omega))
      have C4 := (show Hid (∀ W, Below w.heap.size w W → Calls Tryz.prog 150 #[.slice vk1 lk vk2, .int .i64 (r4 + 1 + 1)] W fun e w' => e = .returned (.int .i64 (r4 + 1 + 1 + lk)) ∧ Below W.heap.size W w') from fun W b => heldI_any (sk.below b) (by omega) (by omega) (by omega))
      have D0 := (show Hid (∀ W, Below w.heap.size w W → W.cell? ⟨b1, o1 + k * 6, none⟩ = some (.int .i64 r)) from fun W b => (b.cell (p := ⟨b1, o1 + k * 6, none⟩) l1).trans c0)
      have A1 : ∀ m : Wd w.heap.size w, m.w.cell? ⟨b1, o1 + k * 6 + 1, none⟩ = some (.string (mt (r + 1))) := fun m => (m.below.cell (p := ⟨b1, o1 + k * 6 + 1, none⟩) l1).trans c1
      have D2 := (show Hid (∀ W, Below w.heap.size w W → W.cell? ⟨b1, o1 + k * 6 + 2, none⟩ = some (.slice va1 la va2)) from fun W b => (b.cell (p := ⟨b1, o1 + k * 6 + 2, none⟩) l1).trans c2)
      have A3 : ∀ m : Wd w.heap.size w, m.w.cell? ⟨b1, o1 + k * 6 + 3, none⟩ = some (.string (mt r4)) := fun m => (m.below.cell (p := ⟨b1, o1 + k * 6 + 3, none⟩) l1).trans c3
      have D4 := (show Hid (∀ W, Below w.heap.size w W → W.cell? ⟨b1, o1 + k * 6 + 4, none⟩ = some (.int .i64 (r4 + 1))) from fun W b => (b.cell (p := ⟨b1, o1 + k * 6 + 4, none⟩) l1).trans c4)
      have D5 := (show Hid (∀ W, Below w.heap.size w W → W.cell? ⟨b1, o1 + k * 6 + 5, none⟩ = some (.slice vk1 lk vk2)) from fun W b => (b.cell (p := ⟨b1, o1 + k * 6 + 5, none⟩) l1).trans c5)
      have d0 := D0.out wr hb
      clear c0 c1 c2 c3 c4 c5 sa sk e q0 q1 q2 q3 q4 q5 hla hlk hr4 hadv hw1
      go_wp2
      refine wp_region_below (by kernel_rfl) (by kernel_rfl) hb ?_
      repeat (go_big_quiet_step ((go_at_call 146; exact quiet_below (C1.out _) (Nat.le_refl _))))
      refine wpQuiet_nil ?_
      intro wq hq
      replace hq := Wd.of hq
      clear d0 hb
      have d2 := D2.out wq hq
      go_wp2_with fail
      go_at_call 149
      refine Calls.mono (C2.out _ hq) ?_
      rintro e w2 ⟨rfl, b2⟩
      rw [← HR4.out]
      replace hq := hq.trans (b2.mono hq.size)
      clear d2 b2
      go_wp2
      refine wp_region_below (by kernel_rfl) (by kernel_rfl) hq ?_
      repeat (go_big_quiet_step ((go_at_call 146; exact quiet_below (C3.out _) (Nat.le_refl _))))
      refine wpQuiet_nil ?_
      intro wz hz
      replace hz := Wd.of hz
      clear hq A1 A3
      have d4 := D4.out wz hz
      have d5 := D5.out wz hz
      go_wp2_with fail
      go_at_call 150
      refine Calls.mono (C4.out _ hz) ?_
      rintro e w3 ⟨rfl, b3⟩
      replace hz := hz.trans (b3.mono hz.size)
      clear d4 d5 b3
      go_wp2
      go_roundw
      case rel => exact ⟨k + 1, _, by omega, by go_num, rfl, by omega, NEXT.out, hz⟩
      case measure => simp [intOf]; omega
    · have hke : k = ms.length := by omega
      have hr := hr1.out
      rw [hke, List.take_length] at hr
      go_wp2
      go_ret
      exact ⟨ret_int hr, hb⟩

set_option maxHeartbeats 1000000 in
theorem heldTree_any {v : Value} {ms : List PNode} {k0 : Int} {w : World} (h : NodesAt w v ms) (hm : Marked k0 ms) (h0 : 0 ≤ k0) (h1 : k0 ≤ 1000) (hsum : ms.length + wtS ms ≤ 1048576) :
    Calls Tryz.prog 43 #[.agg #[v], .int .i64 k0] w fun e w' => e = .returned (.int .i64 (k0 + advS ms)) ∧ Below w.heap.size w w' := by
  have h' := h
  obtain ⟨a, ca, rfl, _, _, _⟩ := h.slice
  obtain ⟨w2, hw2⟩ : ∃ z, z = w.alloc (.cells #[.slice a ms.length ca] 26) := ⟨_, rfl⟩
  have b2 : Below w.heap.size w w2 := by rw [hw2]; exact (Below.refl _ _).alloc (Nat.le_refl _) _
  have CM := (show Hid (Calls Tryz.prog 102 #[.slice a ms.length ca, .int .i64 k0] w2 _) from heldNodeS_any (h'.below b2) hm h0 h1 hsum)
  have HW := (show Hid (w2 = _) from hw2)
  have B2 := (show Hid (Below w.heap.size w w2) from b2)
  have ha := (advS_le ms).1
  have hb := (advS_le ms).2
  obtain ⟨x, hx⟩ : ∃ x, x = k0 + advS ms := ⟨_, rfl⟩
  rw [← hx] at CM ⊢
  have hx0 : 0 ≤ x := by omega
  clear hw2 b2 h h' hm hx ha hb
  go_enter Tryz.func43, Tryz.ntmps43
  go_wp2_with fail
  go_at_call 102
  rw [← HW.out]
  refine Calls.mono CM.out ?_
  rintro e w3 ⟨rfl, b3⟩
  have HZ := (show Hid (Below w.heap.size w w3) from B2.out.trans (b3.mono B2.out.size))
  clear CM b3
  go_wp2
  go_ret
  exact ⟨rfl, HZ.out⟩
end Go.Proofs.YtogdbjafibejdaaGreat

/- The specification's l6Tidy (written by mk/stidy.py). No condition. -/
namespace Go.Proofs.YtogdbjafibejdaaGreat
open Go.RowKit
set_option maxRecDepth 100000
set_option linter.unusedVariables false

structure TidFr (B : Nat) (w w' : World) : Prop where
  os : w'.os = w.os
  tape : w'.tape = w.tape
  output : w'.output = w.output
  size : w.heap.size ≤ w'.heap.size
  block : ∀ j, j < w.heap.size → (j < B ∨ ∀ cs t fr, w.heap[j]? = some (.cells cs t fr) → t ≠ 36 ∧ t ≠ 3) → w'.heap[j]? = w.heap[j]?
theorem TidFr.of_below {B : Nat} {w w' : World} (h : Below w.heap.size w w') : TidFr B w w' := ⟨h.os, h.tape, h.output, h.size, fun j hj _ => h.block j hj⟩
theorem TidFr.trans {B : Nat} {w w1 w2 : World} (h : TidFr B w w1) (k : TidFr B w1 w2) : TidFr B w w2 :=
  ⟨k.os.trans h.os, k.tape.trans h.tape, k.output.trans h.output, Nat.le_trans h.size k.size, fun j hj hb => by
    have h1 := h.block j hj hb
    rw [k.block j (Nat.lt_of_lt_of_le hj h.size) (by rw [h1]; exact hb), h1]⟩
theorem TidFr.below {B : Nat} {w w' : World} (h : TidFr B w w') (hB : B ≤ w.heap.size) : Below B w w' := ⟨h.os, h.tape, h.output, h.size, fun j hj => h.block j (by omega) (.inl hj)⟩
theorem TidFr.box {B : Nat} {w w' : World} (h : TidFr B w w') {j : Nat} {cs : Array Value} {t : TypeId} {fr : Nat × Nat} (hj : w.heap[j]? = some (.cells cs t fr)) (h1 : t ≠ 36) (h2 : t ≠ 3) : w'.heap[j]? = some (.cells cs t fr) :=
  (h.block j (lt_of_block hj) (.inr (fun cs' t' fr' e => by rw [hj] at e; cases e; exact ⟨h1, h2⟩))).trans hj
theorem TidFr.of_row {B n : Nat} {w w' : World} {v : Value} {xs : List Value} (ho : w.ownsRow B 36 6 v n xs) (hg : w.grownBy w' v.ownBlock) : TidFr B w w' :=
  ⟨hg.os, hg.tape, hg.output, hg.size, fun j hj hb => hg.block j hj (fun e => by
    have hlt := (World.ownsRow.lt ho j e.symm).1
    rcases hb with hb | hb
    · omega
    · rcases ho.2 with ⟨e1, _⟩ | ⟨g, cap, cur, e1, _, hh, _⟩
      · rw [e1] at e; cases e
      · rw [e1] at e
        simp only [Value.ownBlock, Option.some.injEq] at e
        subst e
        exact (hb _ _ _ hh).1 rfl)⟩
theorem TidFr.of_turn {B g n cap : Nat} {w w' : World} {qs : List (PNode × (Value × Value))} (ho : OwnQ B w (.slice (some ⟨g, 0, none⟩) n cap) qs) (h : TurnQ g qs w w') : TidFr B w w' := ⟨h.os, h.tape, h.output, h.size, fun j hj hb => h.other (v := .slice none 0 0) ho hj hb⟩
def TidW (B : Nat) (w : World) (qs : List (PNode × (Value × Value))) (new : List PNode) (u : Value) (w' : World) : Prop :=
  ∃ qs', OwnQ B w' u qs' ∧ Apart qs' ∧ qs'.map (fun q => q.1) = qs.map (fun q => q.1) ++ new ∧ TidFr B w w'
theorem modify_mid {α : Type} (l r : List α) (a : α) (f : α → α) : (l ++ a :: r).modify l.length f = l ++ f a :: r := by
  induction l with
  | nil => rfl
  | cons x l ih => simp [ih]
theorem tdK_len (ns : List PNode) (f base : Nat) (l : List Int) : (tdK ns f base l).1.length = l.length ∧ (tdK ns f base l).2.length = (l.flatMap fun x => down ns f x.toNat).length := by
  refine snoc_ind (P := fun l => (tdK ns f base l).1.length = l.length ∧ (tdK ns f base l).2.length = (l.flatMap fun x => down ns f x.toNat).length) ⟨rfl, rfl⟩ ?_ l
  intro l x ih
  rw [tdK_snoc]
  constructor
  · rw [List.length_append, ih.1, List.length_append]; rfl
  · rw [List.length_append, ih.2, List.flatMap_append, List.length_append, tdL_len ns f x.toNat, List.flatMap_singleton]
theorem tid_more {ns : List PNode} {f n : Nat} {ks : List Int} {j : Nat} (hj : j < ks.length) {L mj mk m3 : List PNode} {a : PNode} {par : Int} {q : Nat} (hq : ks[j] = (q : Int)) (hL : L.length = n)
    (h1 : mj = L ++ linkN a par (tdK ns f n (ks.take j)).1 :: (tdK ns f n (ks.take j)).2) (h2 : mk = mj.modify n (fun x => setKids x ((tdK ns f n (ks.take j)).1 ++ [((mj.length : Nat) : Int)]))) (h3 : m3 = mk ++ tdL ns f q (n : Int) mj.length) :
    m3 = L ++ linkN a par (tdK ns f n (ks.take (j + 1))).1 :: (tdK ns f n (ks.take (j + 1))).2 := by
  have hl : mj.length = n + 1 + (tdK ns f n (ks.take j)).2.length := by rw [h1, List.length_append, List.length_cons, hL]; omega
  rw [h3, h2]
  rw [List.take_succ_eq_append_getElem hj, tdK_snoc, hq, Int.toNat_natCast, ← hl]
  generalize mj.length = m
  rw [h1]
  subst hL
  rw [modify_mid, List.append_assoc]
  rfl
theorem tid_node {qs : List (PNode × (Value × Value))} {L : List PNode} {n : Nat} {a : PNode} {r : List PNode} (h : qs.map (fun q => q.1) = L ++ a :: r) (hL : L.length = n) (hn : n < qs.length) : qs[n].1 = a := by
  have e : (qs.map (fun q => q.1))[n]? = some a := by
    rw [h, List.getElem?_append_right (by omega), hL, Nat.sub_self]
    rfl
  rw [List.getElem?_map, List.getElem?_eq_getElem hn] at e
  simpa using e
theorem wpList_appW {P : Program} (w : World) {ops : Array Oper} {rest : List Oper} {o : Oper} {a : Act} {Q : Exit → Act → World → Prop} (hgd : o.guard = none)
    (s x : Operand) (t : TypeId) (ho : o.op = Op.call { callee := Callee.builtin Builtin.append, args := #[s, x], argTypes := #[t, t] }) (B : Nat) (e : TypeId) (i : TypeInfo)
    (z : Value) (bytes : Nat) (ht : P.underlying t = some (TypeDesc.slice e)) (hi : P.info? e = some i) (hz : i.zero = some z) (hsize : i.size = 1) (hby : i.bytes = bytes)
    (hzs : z.cells.size = 1) (K : IntKind) (v : Value) (xs : List Int) (ad : Addr) (c : Nat) (ys : List Int) (hs : a.eval s = v) (hx : a.eval x = .slice (some ad) ys.length c) (hown : Own B e K w v xs) (hu : Sl K w (.slice (some ad) ys.length c) ys)
    (hb : (xs.length + ys.length) * bytes ≤ 140737488355328) (h63 : xs.length + ys.length ≤ maxLen) (hbase : B ≤ w.heap.size)
    (h : ∀ (v' : Value) (w' : World), Own B e K w' v' (xs ++ ys) → w.grownBy w' v.ownBlock → (∀ r, v'.ownBlock = some r → v.ownBlock = some r ∨ w.heap.size ≤ r) → wpList P ops Q rest (a.put o.dst v') w') :
    wpList P ops Q (o :: rest) a w := by
  rcases hown.2 with ⟨e1, h0⟩ | ⟨g, cap, cur, e1, _⟩
  · have hxs : xs = [] := List.eq_nil_of_length_eq_zero h0
    subst hxs
    refine wpList_app w hgd s x t ho w.heap.size e i z bytes ht hi hz hsize hby hzs K v _ [] ys hs hx (by rw [e1]; exact World.ownsRow_nil _ _ _ _) hu hb h63 (Nat.le_refl _) ?_
    intro v' w' o' g'
    exact h v' w' (o'.base hbase) g' (fun r hr => .inr (o'.lt r hr).1)
  · subst e1
    refine wpList_appB w hgd s x t ho B e i z bytes ht hi hz hsize hby hzs K g cap xs ad c ys hs hx hown hu hb h63 hbase ?_
    intro r' cap' w' o' g' hr
    refine h _ w' ?_ g' (fun r e2 => ?_)
    · have : xs.length + ys.length = (xs ++ ys).length := by simp
      exact o'
    · cases e2
      rcases hr with rfl | rfl
      · exact .inl rfl
      · exact .inr (Nat.le_refl _)
set_option maxHeartbeats 8000000 in
set_option maxRecDepth 100000 in
theorem stidy_any {w0 : World} {v : Value} {ns : List PNode} (hn : NodesAt w0 v ns) (hfit : ∀ n ∈ ns, NodeFit n) (hlen : ns.length ≤ 1048576) :
    ∀ (f k : Nat), deepOk ns f k → ∀ (par : Int) (B : Nat) (w : World) (ov : Value) (qs : List (PNode × (Value × Value))), w0.heap.size ≤ B → Below w0.heap.size w0 w → B ≤ w.heap.size → OwnQ B w ov qs → Apart qs → qs.length + (down ns f k).length ≤ 100000 →
      Calls Tryz.prog 132 #[.agg #[v], .int .i64 (k : Int), .int .i64 par, ov] w fun e w' => ∃ u, e = .returned u ∧ TidW B w qs (tdL ns f k par qs.length) u w' := by
  intro f
  induction f with
  | zero => intro k h; exact h.elim
  | succ f ih =>
    intro k hk par B w ov qs hB0 hbw hB hO hA hsz
    have IH := (show Hid _ from ih)
    have hklt := hk.1
    have HK := (show Hid (∀ x ∈ kidsOf ns k, 0 ≤ x ∧ deepOk ns f x.toNat) from hk.2)
    have HSZ := (show Hid (qs.length + (down ns (f + 1) k).length ≤ 100000) from hsz)
    have HO := (show Hid (OwnQ B w ov qs) from hO)
    have HA := (show Hid (Apart qs) from hA)
    have HBW := (show Hid (Below w0.heap.size w0 w) from hbw)
    obtain ⟨a, cap, rfl, hc1, hc2, hcs⟩ := hn.slice
    obtain ⟨b, off, av, kv, rfl, hblt, c0, c1, c2, c3, c4, c5, hav, hkv⟩ := hcs k hklt
    obtain ⟨av1, acap, rfl, ha1, ha2, ha3⟩ := hav.pair
    obtain ⟨kv1, kv3, rfl, hkl1, hkl2, _, hkc⟩ := hkv
    have hf := hfit _ (List.getElem_mem hklt)
    have HNW := (show Hid (NodesAt w0 (.slice (some ⟨b, off, none⟩) ns.length cap) ns) from hn)
    have HAV := (show Hid (Sv 2 w0 (.slice av1 ns[k].attrs.length acap) (pairCells ns[k].attrs)) from hav)
    have HKC := (show Hid (Cells .i64 w0 kv1 ns[k].kids) from hkc)
    rw [kidsOf_at hklt] at HK
    have HKO := (show Hid (kidsOf ns k = ns[k].kids) from kidsOf_at hklt)
    have HAL := (show Hid (aloneAt ns k = alone ns[k]) from aloneAt_at hklt)
    have hrs := hf.rs
    have hkl3 := hf.kl
    obtain ⟨nd, hnd⟩ : ∃ nd, nd = ns[k] := ⟨_, rfl⟩
    rw [← hnd] at c0 c1 c2 c3 c4 c5 HAV HKC HK HKO HAL ha1 hkl1 hrs hkl3
    obtain ⟨k0, k1, rs, k3, k4, ks⟩ := nd
    simp only at c0 c1 c2 c3 c4 c5 HAV HKC HK HKO ha1 hkl1 hrs hkl3
    replace c0 := (hbw.cell (p := ⟨b, off + k * 6, none⟩) hblt).trans c0
    replace c1 := (hbw.cell (p := ⟨b, off + k * 6 + 1, none⟩) hblt).trans c1
    replace c2 := (hbw.cell (p := ⟨b, off + k * 6 + 2, none⟩) hblt).trans c2
    replace c3 := (hbw.cell (p := ⟨b, off + k * 6 + 3, none⟩) hblt).trans c3
    replace c4 := (hbw.cell (p := ⟨b, off + k * 6 + 4, none⟩) hblt).trans c4
    replace c5 := (hbw.cell (p := ⟨b, off + k * 6 + 5, none⟩) hblt).trans c5
    have hbl := Nat.lt_of_lt_of_le hblt hbw.size
    obtain ⟨oa, ocap, rfl⟩ : ∃ a c, ov = .slice a qs.length c := by
      rcases hO.1.2 with ⟨e, h0⟩ | ⟨g, c, cur, e, _⟩
      · exact ⟨none, 0, by rw [e, h0]⟩
      · exact ⟨_, _, e⟩
    obtain ⟨ia, hia, hza0, hza1, hza2⟩ := info_parts Tryz.infoAttrRow
    obtain ⟨ii, hii, hzi0, hzi1, hzi2⟩ := info_parts Tryz.infoIntRow
    obtain ⟨iN, hiN, hzN0, hzN1, hzN2⟩ := info_parts Tryz.infoNodeRow
    have hkm : ks.length < 9223372036854775808 := by unfold maxLen at hkl2; omega
    have hki : (k : Int) < ns.length := by omega
    obtain ⟨w2, hw2⟩ : ∃ x, x = (w.alloc (.cells #[.slice (some ⟨b, off, none⟩) ns.length cap] 26)).alloc (.cells #[.int .i64 k0, .string k1, .slice av1 rs.length acap, .string k3, .int .i64 k4, .slice kv1 ks.length kv3] 36) := ⟨_, rfl⟩
    have b2 : Below w.heap.size w w2 := by rw [hw2]; exact ((Below.refl _ w).alloc (Nat.le_refl _) _).alloc (by simp) _
    have gT : w2.heap[w.heap.size]? = some (.cells #[.slice (some ⟨b, off, none⟩) ns.length cap] 26 (0, 0)) := by rw [hw2, Below.heap_alloc _ _ _ (by simp)]; exact World.alloc_heap_new _ _
    have gN : w2.heap[w.heap.size + 1]? = some (.cells #[.int .i64 k0, .string k1, .slice av1 rs.length acap, .string k3, .int .i64 k4, .slice kv1 ks.length kv3] 36 (0, 0)) := by
      rw [hw2]
      have := World.alloc_heap_new (w.alloc (.cells #[.slice (some ⟨b, off, none⟩) ns.length cap] 26)) (.cells #[.int .i64 k0, .string k1, .slice av1 rs.length acap, .string k3, .int .i64 k4, .slice kv1 ks.length kv3] 36)
      rwa [World.size_alloc] at this
    have GT := (show Hid _ from gT)
    have GN := (show Hid _ from gN)
    have B2 := (show Hid (Below w.heap.size w w2) from b2)
    obtain ⟨⟨n0, n1, n2, n3, n4, n5⟩, ⟨z0, z1, z2, z3, z4, z5⟩⟩ := six_at gN
    have hs2 : w2.heap.size = w.heap.size + 2 := by rw [hw2, World.size_alloc, World.size_alloc]
    clear gT gN b2 hcs hn hfit hbw hO hA hsz ih hk hnd hav hkc hf ha3
    go_enter Tryz.func132, Tryz.ntmps132
    go_upto_region 2 with fail
    rw [← hw2]
    clear hw2 c0 c1 c2 c3 c4 c5
    obtain ⟨w3, hw3⟩ : ∃ x, x = (w2.setCell ⟨w.heap.size + 1, 4, none⟩ (.int .i64 par)).setCell ⟨w.heap.size + 1, 5, none⟩ (.slice (some ⟨w.heap.size + 2, 0, none⟩) 0 0) := ⟨_, rfl⟩
    obtain ⟨W5, hW5⟩ : ∃ x, x = w3.alloc (.cells #[] 3) := ⟨_, rfl⟩
    have gr4 : w2.grownBy w3 (some (w.heap.size + 1)) := by rw [hw3]; exact grown_trans (grown_setCell _ _ _ _) (grown_setCell _ _ _ _)
    have hs4 : w3.heap.size = w.heap.size + 2 := by rw [hw3]; simp [World.setCell, hs2]
    have g41 : w3.heap[w.heap.size + 1]? = some (.cells #[.int .i64 k0, .string k1, .slice av1 rs.length acap, .string k3, .int .i64 par, .slice (some ⟨w.heap.size + 2, 0, none⟩) 0 0] 36 (0, 0)) := by rw [hw3]; exact setCell_at (k := 5) (u := .slice (some ⟨w.heap.size + 2, 0, none⟩) 0 0) (setCell_at (k := 4) (u := .int .i64 par) GN.out)
    have b4 : Below w.heap.size w w3 := B2.out.grown gr4 B2.out.size (fun r e => by cases e; omega)
    have g51 : W5.heap[w.heap.size + 1]? = some (.cells #[.int .i64 k0, .string k1, .slice av1 rs.length acap, .string k3, .int .i64 par, .slice (some ⟨w.heap.size + 2, 0, none⟩) 0 0] 36 (0, 0)) := by rw [hW5]; exact (Below.heap_alloc _ _ _ (by omega)).trans g41
    have ok5 : Own w.heap.size 3 .i64 W5 (.slice (some ⟨w.heap.size + 2, 0, none⟩) 0 0) [] := by
      have := empty_row w3 w.heap.size 3 1 (by omega)
      rw [hs4, ← hW5] at this
      exact this
    have b5 : Below w.heap.size w W5 := by rw [hW5]; exact b4.alloc (by omega) _
    have g50 : W5.heap[w.heap.size]? = some (.cells #[.slice (some ⟨b, off, none⟩) ns.length cap] 26 (0, 0)) := by
      rw [hW5, Below.heap_alloc _ _ _ (by omega)]
      exact (gr4.block _ (by omega) (fun e => by injection e with e; omega)).trans GT.out
    have hs5 : W5.heap.size = w.heap.size + 3 := by rw [hW5, World.size_alloc, hs4]
    have HS5 := (show Hid (W5.heap.size = w.heap.size + 3) from hs5)
    have HK5 := (show Hid (Own w.heap.size 3 .i64 W5 (.slice (some ⟨w.heap.size + 2, 0, none⟩) 0 0) []) from ok5)
    have o1 : (W5.alloc (.cells #[] 115)).ownsRow w.heap.size 115 2 (.slice (some ⟨W5.heap.size, 0, none⟩) 0 0) 0 [] := empty_row W5 w.heap.size 115 2 (by omega)
    have y5 : W5.cell? ⟨w.heap.size + 1, 2, none⟩ = some (.slice av1 rs.length acap) := by simp only [World.cell?, g51]; rfl
    have hl5 : w.heap.size + 1 < W5.heap.size := by omega
    have b6 : Below w.heap.size w (W5.alloc (.cells #[] 115)) := b5.alloc b5.size _
    have hav1 := (HAV.out.below HBW.out).below b6
    have HB6 := (show Hid _ from b6)
    have HG51 := (show Hid _ from g51)
    have HG50 := (show Hid _ from g50)
    have HW5 := (show Hid _ from hW5)
    have HW3 := (show Hid _ from hw3)
    clear g51 g50 gr4 b4 g41 ok5 hs4 b5 b6 hs5 hW5 hw3
    go_upto_region 6 with fail
    rw [← HW3.out, ← HW5.out]
    clear HW5 HW3 hs2
    go_upto_region 7 with (first
      | (at_builtin
         refine wpList_appV _ rfl (.tmp 26) (.tmp 28) 33 rfl w.heap.size 115 ia _ 2 32 Tryz.underlying33 hia hza0 hza1 hza2 rfl (by decide) (.slice (some ⟨W5.heap.size, 0, none⟩) 0 0) (.slice av1 rs.length acap) 0 rs.length _ (pairCells rs) rfl rfl o1 hav1 (pairCells_len _) (pair_oneCell _) (by omega) (by unfold maxLen; omega) (by rw [World.size_alloc, HS5.out]; omega) ?_
         intro v7 w7 o7 g7
         rw [List.nil_append, Nat.zero_add] at o7
         obtain ⟨a7, n7, c7, rfl⟩ := own_slice o7
         have k71 := (g7.block (w.heap.size + 1) (by rw [World.size_alloc, HS5.out]; omega) (fun e => by simp only [Value.ownBlock, Option.some.injEq] at e; omega)).trans ((Below.heap_alloc _ _ _ (by omega)).trans HG51.out)
         have y2 : w7.cell? ⟨w.heap.size + 1, 2, none⟩ = some (.slice av1 rs.length acap) := by simp only [World.cell?, k71]; rfl
         have q2 : w7.frozen? ⟨w.heap.size + 1, 2, none⟩ = false := by simp [World.frozen?, k71]
         have hl7 := blk_lt k71
         have HK7 := (show Hid _ from k71)
         have HO7 := (show Hid _ from o7)
         have HG7 := (show Hid _ from g7)
         clear k71 o7 g7 o1 hav1 y5 n0 n1 n2 n3 n4 n5 z0 z1 z2 z3 z4 z5)
      | fail)
    obtain ⟨W8, hW8⟩ : ∃ x, x = w7.setCell ⟨w.heap.size + 1, 2, none⟩ (.slice a7 n7 c7) := ⟨_, rfl⟩
    rw [← hW8]
    have gr8 : w7.grownBy W8 (some (w.heap.size + 1)) := by rw [hW8]; exact grown_setCell _ _ _ _
    have b7 : Below w.heap.size w w7 := HB6.out.grown HG7.out (by rw [World.size_alloc, HS5.out]; omega) (fun r e => by simp only [Value.ownBlock, Option.some.injEq] at e; omega)
    have b57 : Below W5.heap.size W5 w7 := ((Below.refl _ W5).alloc (Nat.le_refl _) _).grown HG7.out (by rw [World.size_alloc]; omega) (fun r e => by simp only [Value.ownBlock, Option.some.injEq] at e; omega)
    have b8 : Below w.heap.size w W8 := b7.grown gr8 b7.size (fun r e => by cases e; omega)
    have g81 : W8.heap[w.heap.size + 1]? = some (.cells #[.int .i64 k0, .string k1, .slice a7 n7 c7, .string k3, .int .i64 par, .slice (some ⟨w.heap.size + 2, 0, none⟩) 0 0] 36 (0, 0)) := by rw [hW8]; exact setCell_at HK7.out
    have g80 : W8.heap[w.heap.size]? = some (.cells #[.slice (some ⟨b, off, none⟩) ns.length cap] 26 (0, 0)) := (gr8.block _ (by omega) (fun e => by injection e with e; omega)).trans ((b57.block _ (by omega)).trans HG50.out)
    have ok8 : Own w.heap.size 3 .i64 W8 (.slice (some ⟨w.heap.size + 2, 0, none⟩) 0 0) [] := kept_of_type (Own.below HK5.out b57) gr8 (fun r e => by cases e; exact ⟨_, _, _, HK7.out, by decide⟩)
    have o8 : W8.ownsRow w.heap.size 115 2 (.slice a7 n7 c7) rs.length (pairCells rs) := kept_of_type HO7.out gr8 (fun r e => by cases e; exact ⟨_, _, _, HK7.out, by decide⟩)
    have hS8 : w.heap.size + 3 ≤ W8.heap.size := by have h1 := b57.size; have h2 := gr8.size; have := HS5.out; omega
    have k80 : W8.cell? ⟨w.heap.size + 1, 0, none⟩ = some (.int .i64 k0) := by simp only [World.cell?, g81]; rfl
    have k81 : W8.cell? ⟨w.heap.size + 1, 1, none⟩ = some (.string k1) := by simp only [World.cell?, g81]; rfl
    have k82 : W8.cell? ⟨w.heap.size + 1, 2, none⟩ = some (.slice a7 n7 c7) := by simp only [World.cell?, g81]; rfl
    have k83 : W8.cell? ⟨w.heap.size + 1, 3, none⟩ = some (.string k3) := by simp only [World.cell?, g81]; rfl
    have k84 : W8.cell? ⟨w.heap.size + 1, 4, none⟩ = some (.int .i64 par) := by simp only [World.cell?, g81]; rfl
    have k85 : W8.cell? ⟨w.heap.size + 1, 5, none⟩ = some (.slice (some ⟨w.heap.size + 2, 0, none⟩) 0 0) := by simp only [World.cell?, g81]; rfl
    obtain ⟨qn, hqn⟩ : ∃ z : PNode × (Value × Value), z = (⟨k0, k1, rs, k3, par, []⟩, (.slice a7 n7 c7, .slice (some ⟨w.heap.size + 2, 0, none⟩) 0 0)) := ⟨_, rfl⟩
    have hrow : (#[.int .i64 k0, .string k1, .slice a7 n7 c7, .string k3, .int .i64 par, .slice (some ⟨w.heap.size + 2, 0, none⟩) 0 0] : Array Value) = (nodeRow qn.1 qn.2).toArray := by rw [hqn]; rfl
    have x9 : (W8.alloc (.cells #[.int .i64 k0, .string k1, .slice a7 n7 c7, .string k3, .int .i64 par, .slice (some ⟨w.heap.size + 2, 0, none⟩) 0 0] 36)).heap[W8.heap.size]? = some (.cells (nodeRow qn.1 qn.2).toArray 36 (0, 0)) := by rw [← hrow]; exact World.alloc_heap_new _ _
    have b9 : Below W8.heap.size W8 (W8.alloc (.cells #[.int .i64 k0, .string k1, .slice a7 n7 c7, .string k3, .int .i64 par, .slice (some ⟨w.heap.size + 2, 0, none⟩) 0 0] 36)) := (Below.refl _ _).alloc (Nat.le_refl _) _
    have HQN := (show Hid (_ ∧ _) from (by rw [hqn]; exact ⟨ownsRow_below (ownsRow_base o8 hB) b9, (ok8.base hB).below b9⟩ : (W8.alloc (.cells #[.int .i64 k0, .string k1, .slice a7 n7 c7, .string k3, .int .i64 par, .slice (some ⟨w.heap.size + 2, 0, none⟩) 0 0] 36)).ownsRow B 115 2 qn.2.1 qn.1.attrs.length (pairCells qn.1.attrs) ∧ Own B 3 .i64 (W8.alloc (.cells #[.int .i64 k0, .string k1, .slice a7 n7 c7, .string k3, .int .i64 par, .slice (some ⟨w.heap.size + 2, 0, none⟩) 0 0] 36)) qn.2.2 qn.1.kids))
    have HO8 := (show Hid _ from (HO.out.below b8).below b9)
    have HSV := (show Hid _ from sv_oneNode x9)
    have HONE := (show Hid _ from node_oneCell HQN.out)
    have HB9 := (show Hid _ from b9)
    have HB8 := (show Hid (Below w.heap.size w W8) from b8)
    have HX9 := (show Hid _ from x9)
    have HG80 := (show Hid _ from g80)
    have HAP := (show Hid (Apart (qs ++ [qn])) from apart_snoc HA.out (fun g e q hq e2 => by
      rw [hqn] at e
      simp only [Value.ownBlock, Option.some.injEq] at e
      have := (Own.lt (HO.out.2 q hq).2 g e2).2
      omega))
    have HQM := (show Hid (qn.1 = linkN (aloneAt ns k) par []) from (by rw [HAL.out, hqn]; rfl : qn.1 = linkN (aloneAt ns k) par []))
    have hq100 : qs.length + 1 ≤ 100000 := by have := HSZ.out; rw [down, List.length_cons] at this; omega
    clear hW8 gr8 b7 b57 b8 g81 g80 ok8 o8 hrow x9 b9 HK7 HO7 HG7 HG50 HG51 HB6 HK5 HS5 y2 q2 hl7 hl5
    go_upto_region 8 with (first
      | (at_builtin
         refine wpList_appV _ rfl (.tmp 31) (.tmp 33) 24 rfl B 36 iN _ 6 96 Tryz.underlying24 hiN hzN0 hzN1 hzN2 rfl (by decide) (.slice oa qs.length ocap) (.slice (some ⟨W8.heap.size, 0, none⟩) 1 1) qs.length 1 (nodeCells qs) (nodeRow qn.1 qn.2) rfl rfl HO8.out.1 HSV.out rfl HONE.out (by omega) (by unfold maxLen; omega) (by rw [World.size_alloc]; omega) ?_
         intro v9 w9 o9 g9)
      | fail)
    have o10 := OwnQ.snoc HO8.out HQN.out o9 g9
    obtain ⟨g, gc, hv9, hgB, hgl⟩ := o10.form (by simp)
    rw [show (qs ++ [qn]).length = qs.length + 1 by simp] at hv9
    subst hv9
    have f9 : TidFr B w w9 := ((TidFr.of_below HB8.out).trans (TidFr.of_below HB9.out)).trans (TidFr.of_row HO8.out.1 g9)
    have t9 : w9.heap[w.heap.size]? = some (.cells #[.slice (some ⟨b, off, none⟩) ns.length cap] 26 (0, 0)) := ((TidFr.of_below HB9.out).trans (TidFr.of_row HO8.out.1 g9)).box HG80.out (by decide) (by decide)
    have O10 := (show Hid _ from o10)
    have F9 := (show Hid _ from f9)
    have T9 := (show Hid _ from t9)
    have M9 := (show Hid ((qs ++ [qn]).map (fun q => q.1) = qs.map (fun q => q.1) ++ linkN (aloneAt ns k) par (tdK ns f qs.length (ks.take 0)).1 :: (tdK ns f qs.length (ks.take 0)).2) from (by rw [List.map_append, List.take_zero, tdK_nil, List.map_singleton, HQM.out] : (qs ++ [qn]).map (fun q => q.1) = qs.map (fun q => q.1) ++ linkN (aloneAt ns k) par (tdK ns f qs.length (ks.take 0)).1 :: (tdK ns f qs.length (ks.take 0)).2))
    clear o9 g9 o10 f9 t9 HO8 HQN HB8 HB9 HG80 HX9 HSV HONE hgB hgl k80 k81 k82 k83 k84 k85
    go_upto_region 9 with fail
    go_loopw [3, 12] (fun v i wr => ∃ (j : Nat) (qj : List (PNode × (Value × Value))), j ≤ ks.length ∧ i = .int .i64 j ∧ (∃ g gc, v = .slice (some ⟨g, 0, none⟩) qj.length gc) ∧ Hid (OwnQ B wr v qj) ∧ Hid (Apart qj) ∧ Hid (qj.map (fun q => q.1) = qs.map (fun q => q.1) ++ linkN (aloneAt ns k) par (tdK ns f qs.length (ks.take j)).1 :: (tdK ns f qs.length (ks.take j)).2) ∧ Hid (TidFr B w wr) ∧ Hid (wr.heap[w.heap.size]? = some (.cells #[.slice (some ⟨b, off, none⟩) ns.length cap] 26 (0, 0)))) (fun _ i _ => ks.length - (intOf i).toNat)
    case atStart => exact ⟨0, qs ++ [qn], Nat.zero_le _, rfl, ⟨g, gc, by simp⟩, O10, HAP, M9, F9, T9⟩
    case round =>
      obtain ⟨j, qj, hj, rfl, ⟨g', gc', rfl⟩, OJ, AJ, MJ, FJ, TJ⟩ := hrel
      clear O10 HAP M9 F9 T9 HO HA
      have hql : qj.length = qs.length + 1 + (tdK ns f qs.length (ks.take j)).2.length := by have := congrArg List.length MJ.out; simp only [List.length_map, List.length_append, List.length_cons] at this; omega
      by_cases hlt : j < ks.length
      rotate_left
      · obtain rfl : j = ks.length := by omega
        have HM := (show Hid (qj.map (fun q => q.1) = qs.map (fun q => q.1) ++ tdL ns (f + 1) k par qs.length) from (by rw [tdL_succ, HKO.out, MJ.out, List.take_length] : qj.map (fun q => q.1) = qs.map (fun q => q.1) ++ tdL ns (f + 1) k par qs.length))
        clear hql
        go_wp2
        go_ret
        exact ⟨_, rfl, qj, OJ.out, AJ.out, HM.out, FJ.out⟩
      have HQL := (show Hid _ from hql)
      have hp : qs.length < qj.length := by omega
      have hpi : (qs.length : Int) < (qj.length : Int) := by omega
      have hji : (j : Int) < (ks.length : Int) := by omega
      have hnode := tid_node MJ.out (by simp) hp
      have hown := (OJ.out.2 qj[qs.length] (List.getElem_mem hp)).2
      have c5 : wr.cell? ⟨g', qs.length * 6 + 5, none⟩ = some qj[qs.length].2.2 := OJ.out.cellAt (j := 5) hp (by omega)
      have hkds : qj[qs.length].1.kids = (tdK ns f qs.length (ks.take j)).1 := by rw [hnode]; rfl
      rw [hkds] at hown
      obtain ⟨u1, u2, u3, hk⟩ := own_slice hown
      obtain ⟨xs, hxs⟩ : ∃ xs, xs = (tdK ns f qs.length (ks.take j)).1 := ⟨_, rfl⟩
      have hxl : xs.length = j := by rw [hxs, (tdK_len ns f qs.length (ks.take j)).1, List.length_take]; omega
      rw [← hxs] at hown
      have bd : Below wr.heap.size wr (wr.alloc (.cells #[.int .i64 (qj.length : Int)] 3)) := (Below.refl _ wr).alloc (Nat.le_refl _) _
      have BD := (show Hid _ from bd)
      have OD := (show Hid (Own B 3 .i64 (wr.alloc (.cells #[.int .i64 (qj.length : Int)] 3)) (.slice u1 u2 u3) xs) from by rw [← hk]; exact hown.below bd)
      have SD := (show Hid (Sl .i64 (wr.alloc (.cells #[.int .i64 (qj.length : Int)] 3)) (.slice (some ⟨wr.heap.size, 0, none⟩) 1 1) [(qj.length : Int)]) from sl_one 3 .i64 wr (qj.length : Int))
      rw [hk] at c5
      have HKE := (show Hid (qj[qs.length].2.2 = .slice u1 u2 u3) from hk)
      have HXS := (show Hid (xs = (tdK ns f qs.length (ks.take j)).1) from hxs)
      have hgl2 : g' < wr.heap.size := (World.ownsRow.lt OJ.out.1 g' rfl).2
      have hBW : B ≤ wr.heap.size := Nat.le_trans hB FJ.out.size
      have c5a : ∀ X, (wr.alloc X).cell? ⟨g', qs.length * 6 + 5, none⟩ = some (.slice u1 u2 u3) := fun X => (((Below.refl _ wr).alloc (Nat.le_refl _) X).cell (p := ⟨g', qs.length * 6 + 5, none⟩) hgl2).trans c5
      clear hql hnode hown hkds hk hxs bd
      go_upto_region 12 with (first
        | (at_builtin
           refine wpList_appW _ rfl (.tmp 47) (.tmp 50) 34 rfl B 3 ii _ 8 Tryz.underlying34 hii hzi0 hzi1 hzi2 rfl .i64 (.slice u1 u2 u3) xs ⟨wr.heap.size, 0, none⟩ 1 [(qj.length : Int)] rfl rfl OD.out SD.out (by simp; omega) (by unfold maxLen; simp; omega) (Nat.le_trans hBW BD.out.size) ?_
           intro v9 w9 o9 g9 r9
           obtain ⟨v1, v2, v3, rfl⟩ := own_slice o9
           have M9 := (show Hid (MoreW B g' qs.length (.slice (some ⟨g', 0, none⟩) qj.length gc') qj (xs ++ [(qj.length : Int)]) wr (w9.setCell ⟨g', qs.length * 6 + 5, none⟩ (.slice v1 v2 v3))) from moreW_mk OJ.out AJ.out hp BD.out (by rw [HKE.out]; exact g9) o9 (by rw [HKE.out]; exact r9))
           have t9 : w9.heap[g']? = (wr.alloc (Obj.cells #[.int .i64 (qj.length : Int)] 3)).heap[g']? := by
             obtain ⟨cur, hcur⟩ := OwnQ.rowCells OJ.out
             refine g9.block g' (Nat.lt_of_lt_of_le hgl2 BD.out.size) (fun e => ?_)
             have ho := (OJ.out.2 qj[qs.length] (List.getElem_mem hp)).2
             rw [HKE.out] at ho
             rcases ho.2 with ⟨e1, _⟩ | ⟨g2, cap', cur', e1, _, hh', _⟩
             · rw [e1] at e; cases e
             · rw [e1] at e
               simp only [Value.ownBlock, Option.some.injEq] at e
               subst e
               rw [hcur] at hh'
               cases hh'
           have l5 : w9.cell? ⟨g', qs.length * 6 + 5, none⟩ = some (.slice u1 u2 u3) := by
             rw [← (BD.out.cell (p := ⟨g', qs.length * 6 + 5, none⟩) hgl2).trans c5]; simp only [World.cell?, t9]
           have f5 : w9.frozen? ⟨g', qs.length * 6 + 5, none⟩ = false := by
             have := OwnQ.frozenAt (OJ.out.below BD.out) (qs.length * 6 + 5)
             rw [← this]; simp only [World.frozen?, t9]
           clear o9 g9 r9 t9)
        | fail)
      obtain ⟨W12, hW12⟩ : ∃ z, z = w9.setCell ⟨g', qs.length * 6 + 5, none⟩ (.slice v1 v2 v3) := ⟨_, rfl⟩
      rw [← hW12] at M9 ⊢
      obtain ⟨qk, mk, ok, ak, tk⟩ := M9.out
      have fk := TidFr.of_turn OJ.out tk
      have F12 := (show Hid (TidFr B w W12) from FJ.out.trans fk)
      have T12 := (show Hid _ from fk.box TJ.out (by decide) (by decide))
      have B12 := (show Hid (Below w0.heap.size w0 W12) from HBW.out.trans ((F12.out.below hB).mono hB0))
      have hkl : qk.length = qj.length := by have := congrArg List.length mk; simpa using this
      have O12 := (show Hid (OwnQ B W12 (.slice (some ⟨g', 0, none⟩) qj.length gc') qk) from ok)
      have A12 := (show Hid (Apart qk) from ak)
      have M12 := (show Hid (qk.map (fun q => q.1) = (qj.map (fun q => q.1)).modify qs.length (fun n => setKids n (xs ++ [(qj.length : Int)]))) from mk)
      have HKL := (show Hid (qk.length = qj.length) from hkl)
      have hs12 : B ≤ W12.heap.size := Nat.le_trans hB F12.out.size
      obtain ⟨cT, _⟩ := one_cell T12.out
      obtain ⟨hx0, hdx⟩ := HK.out ks[j] (List.getElem_mem hlt)
      obtain ⟨kb, ko, rfl, ck⟩ := HKC.out j hlt
      have hkb := lt_of_cell6 ck
      rw [show ks.getD j 0 = ks[j] by simp [List.getD_eq_getElem?_getD, hlt]] at ck
      obtain ⟨x, hx⟩ : ∃ x, x = ks[j] := ⟨_, rfl⟩
      rw [← hx] at hx0 hdx ck
      obtain ⟨q, rfl⟩ : ∃ q : Nat, x = (q : Int) := ⟨x.toNat, by omega⟩
      rw [Int.toNat_natCast] at hdx
      have ck12 : W12.cell? ⟨kb, ko + j, none⟩ = some (.int .i64 (q : Int)) := (B12.out.cell (p := ⟨kb, ko + j, none⟩) hkb).trans ck
      have hkb12 : kb < W12.heap.size := Nat.lt_of_lt_of_le hkb B12.out.size
      have hN12 : w.heap.size < W12.heap.size := lt_of_block T12.out
      have HX := (show Hid (ks[j] = (q : Int)) from hx.symm)
      have HDX := (show Hid (deepOk ns f q) from hdx)
      have hsz12 : qk.length + (down ns f q).length ≤ 100000 := by
        have h1 := HSZ.out
        rw [down, List.length_cons, HKO.out] at h1
        have h2 : ks = (ks.take j ++ [ks[j]]) ++ ks.drop (j + 1) := by rw [← List.take_succ_eq_append_getElem hlt, List.take_append_drop]
        have h3 : (ks.flatMap fun x => down ns f x.toNat).length = ((ks.take j).flatMap fun x => down ns f x.toNat).length + (down ns f q).length + ((ks.drop (j + 1)).flatMap fun x => down ns f x.toNat).length := by
          conv => lhs; rw [h2]
          rw [List.flatMap_append, List.flatMap_append, List.flatMap_singleton, List.length_append, List.length_append, HX.out, Int.toNat_natCast]
        have h4 := (tdK_len ns f qs.length (ks.take j)).2
        have h5 := HQL.out
        omega
      have HSZ12 := (show Hid _ from hsz12)
      clear mk ok ak tk fk hkl hx hdx hx0 ck hkb hW12 M9 c5 c5a l5 f5 OD SD BD HKE hsz12 hp hpi
      refine region_tail 7 (by kernel_rfl) (by kernel_rfl) ?_
      intro x1 K1 hX1 hK1
      have ne := One.any x1
      have d1 : ∀ n : One x1, n.w.cell? ⟨w.heap.size, 0, none⟩ = some (.slice (some ⟨b, off, none⟩) ns.length cap) := fun n => by rw [n.eq, hX1.out]; exact cT
      have d0 : ∀ n : One x1, n.w.cell? ⟨kb, ko + j, none⟩ = some (.int .i64 (q : Int)) := fun n => by rw [n.eq, hX1.out]; exact ck12
      simp only [List.take_succ_cons, List.take_zero, List.drop_succ_cons, List.drop_zero] at hK1 ⊢
      repeat (go_big_quiet_step (fail))
      refine wpQuiet_nil ?_
      refine hK1.out _ ?_
      clear hK1 d1 d0 ne
      have BX := (show Hid (Below W12.heap.size W12 x1) from by rw [hX1.out]; exact below_drewN 1)
      clear hX1
      go_wp2_with fail
      go_at_call 132
      refine (IH.out q HDX.out (qs.length : Int) B x1 _ qk hB0 (B12.out.trans (BX.out.mono B12.out.size)) (Nat.le_trans hs12 BX.out.size) (O12.out.below BX.out) A12.out HSZ12.out).mono ?_
      rintro e w13 ⟨u, rfl, q13, o13, a13, m13, f13⟩
      have h13 : 0 < q13.length := by
        have := congrArg List.length m13
        have h5 := HQL.out
        have h6 := HKL.out
        simp only [List.length_map, List.length_append] at this
        omega
      obtain ⟨g13, c13, rfl, _, _⟩ := o13.form h13
      have fx := (TidFr.of_below (B := B) BX.out).trans f13
      have R13 := (show Hid (OwnQ B w13 (.slice (some ⟨g13, 0, none⟩) q13.length c13) q13 ∧ Apart q13 ∧ q13.map (fun q => q.1) = qs.map (fun q => q.1) ++ linkN (aloneAt ns k) par (tdK ns f qs.length (ks.take (j + 1))).1 :: (tdK ns f qs.length (ks.take (j + 1))).2 ∧ TidFr B w w13 ∧ w13.heap[w.heap.size]? = some (.cells #[.slice (some ⟨b, off, none⟩) ns.length cap] 26 (0, 0))) from
        ⟨o13, a13, tid_more (mk := qk.map (fun q => q.1)) hlt HX.out (by simp) MJ.out (by rw [M12.out, HXS.out, List.length_map]) (by rw [m13, List.length_map, HKL.out]), F12.out.trans fx, fx.box T12.out (by decide) (by decide)⟩)
      clear o13 a13 m13 f13 fx h13
      go_wp2
      go_roundw
      case rel => exact ⟨j + 1, q13, by omega, by go_num, ⟨g13, c13, rfl⟩, R13.out.1, R13.out.2.1, R13.out.2.2.1, R13.out.2.2.2.1, R13.out.2.2.2.2⟩
      case measure => simp [intOf]; omega
end Go.Proofs.YtogdbjafibejdaaGreat
