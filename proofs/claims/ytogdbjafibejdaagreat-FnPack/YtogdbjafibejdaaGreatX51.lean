/- The law FnPack, from its draws. No condition. -/
import Derived.Test.YtogdbjafibejdaaGreatX50
import Derived.Test.YtogdbjafibejdaaGreatX10
import Derived.Test.YtogdbjafibejdaaGreatX37
import Derived.Test.YtogdbjafibejdaaGreatX38
import Derived.Deep.CutRange
namespace Go.Proofs.YtogdbjafibejdaaGreat
open Go.RowKit
set_option maxRecDepth 100000
set_option linter.unusedVariables false

theorem pack_inj {ns ms : List PNode} (h : goodT ns) (k : goodT ms) (e : packL ns = packL ms) : ns = ms := by
  have h1 := rdTop_form (strict := true) (room := roomI) h.1 h.2.1 roomI_ok
  have h2 := rdTop_form (strict := true) (room := roomI) k.1 k.2.1 roomI_ok
  rw [e, h2] at h1
  cases h1
  rfl
theorem fit_tree {ns : List PNode} (h : TreeOkP ns) : ∀ n ∈ ns, NodeFit n := fun n hn => by
  have h1 := kids_few h n hn
  have h2 := h.most
  obtain ⟨k, hk, e⟩ := List.getElem_of_mem hn
  have h3 := small_all h k hk
  rw [e] at h3
  have h4 := h3.rs
  exact ⟨by have := h3.nm; omega, by have := h3.tx; omega, by omega, fun p hp => by have := h3.each p hp; unfold attrOk at this; simp only [Bool.and_eq_true, inB, decide_eq_true_eq] at this; omega, by omega⟩
def ReadS (xs : List Int) (w : World) (e : Ending) (w' : World) : Prop :=
  ∃ ua ms uc f, e = .returned (.tuple #[.agg #[.slice ua (List.length (α := PNode) ms) uc], .bool f]) ∧ NodesAt w' (.slice ua ms.length uc) ms ∧ ((f = true ∧ goodT ms ∧ packL ms = xs) ∨ (f = false ∧ ms = [] ∧ ∀ ns, goodT ns → packL ns ≠ xs)) ∧ (∀ n ∈ ms, NodeFit n) ∧ ms.length ≤ 1048576 ∧ Below w.heap.size w w'
theorem readS {xs : List Int} {w w' : World} {e : Ending} (h : ReadE xs w e w') : ReadS xs w e w' := by
  obtain ⟨hor, b⟩ := h
  rcases hor with ⟨u, qs, rfl, hg, hp, o, _⟩ | ⟨hno, rfl⟩
  · have n5 := o.n.nodes
    obtain ⟨ua, ucap, rfl, _, _, _⟩ := n5.slice
    exact ⟨ua, _, ucap, true, rfl, n5, .inl ⟨rfl, hg, hp⟩, fit_tree hg.1.1, by have := hg.1.1.most; omega, b⟩
  · exact ⟨none, [], 0, false, rfl, (ownN_nil 0 _).nodes, .inr ⟨rfl, rfl, hno⟩, (by simp), (by simp), b⟩
theorem readS_same {xs : List Int} {ns nt : List PNode} {f g : Bool} (h : (f = true ∧ goodT ns ∧ packL ns = xs) ∨ (f = false ∧ ns = [] ∧ ∀ ns, goodT ns → packL ns ≠ xs)) (k : (g = true ∧ goodT nt ∧ packL nt = xs) ∨ (g = false ∧ nt = [] ∧ ∀ ns, goodT ns → packL ns ≠ xs)) : f = g := by
  rcases h with ⟨rfl, h1, h2⟩ | ⟨rfl, _, h1⟩ <;> rcases k with ⟨rfl, k1, k2⟩ | ⟨rfl, _, k1⟩
  · rfl
  · exact absurd h2 (k1 _ h1)
  · exact absurd k2 (h1 _ k1)
  · rfl
def DrawPk (w : World) (e : Ending) (w' : World) : Prop := ∃ nv ns, e = .returned (.agg #[nv]) ∧ NodesAt w' nv ns ∧ (∀ n ∈ ns, NodeFit n) ∧ ns.length ≤ 1048576 ∧ Below w.heap.size w w'
def DrawRd (w : World) (e : Ending) (w' : World) : Prop := ∃ bv ys, e = .returned bv ∧ Sl .u8 w' bv ys ∧ (∀ x ∈ ys, 0 ≤ x ∧ x ≤ 255) ∧ ys.length ≤ 1099511627776 ∧ Below w.heap.size w w'

set_option maxRecDepth 100000 in
theorem fnPack_big {v : Value} {xs : List Int} (w : World) (h : Sl .u8 w v xs) (hl : 1048576 < xs.length) :
    Calls Tryz.prog 6 #[v] w fun e w' => e = .returned (.bool true) ∧ Below w.heap.size w w' := by
  have hbig := big_any h
  rw [decide_eq_true hl] at hbig
  clear h
  go_enter Tryz.func6, Tryz.ntmps6
  go_wp2_with fail
  go_at_call 10
  refine hbig.mono ?_
  rintro e w1 ⟨rfl, rfl⟩
  go_wp2
  go_ret
  exact ⟨rfl, Below.refl _ _⟩

set_option maxHeartbeats 4000000 in
set_option maxRecDepth 100000 in
theorem fnPack_of {v : Value} {xs : List Int} (w : World) (h : Sl .u8 w v xs) (hl : ¬ 1048576 < xs.length)
    (hD : Calls Tryz.prog 28 #[v] w fun e w' => DrawPk w e w') (hE : ∀ W, Below w.heap.size w W → Calls Tryz.prog 32 #[v] W fun e w' => DrawRd W e w') :
    Calls Tryz.prog 6 #[v] w fun e w' => e = .returned (.bool true) ∧ Below w.heap.size w w' := by
  have hbig := big_any h
  rw [decide_eq_false hl] at hbig
  have HD := (show Hid _ from hD)
  have HE := (show Hid (∀ W, Below w.heap.size w W → Calls Tryz.prog 32 #[v] W fun e w' => DrawRd W e w') from hE)
  have HBG := (show Hid _ from hbig)
  obtain ⟨va, vn, vc, rfl⟩ : ∃ a n c, v = .slice a n c := by obtain ⟨a, c, e, _⟩ := h; exact ⟨_, _, _, e⟩
  clear h hl hbig hD hE
  go_enter Tryz.func6, Tryz.ntmps6
  go_wp2_with fail
  go_at_call 10
  refine Calls.mono HBG.out ?_
  rintro e w0 ⟨rfl, ew⟩
  replace ew := ew.symm
  subst ew
  clear HBG
  go_wp2_with fail
  go_at_call 28
  refine Calls.mono HD.out ?_
  rintro e w1 ⟨nv, ns, rfl, hn1, hfit, hlen, b1⟩
  clear HD
  obtain ⟨na, ncap, rfl, _, _, _⟩ := hn1.slice
  obtain ⟨w2, hw2⟩ : ∃ z, z = w1.alloc (.cells #[.slice na ns.length ncap] 26) := ⟨_, rfl⟩
  have b2 : Below w1.heap.size w1 w2 := by rw [hw2]; exact (Below.refl _ _).alloc (Nat.le_refl _) _
  have g2 : w2.heap[w1.heap.size]? = some (.cells #[.slice na ns.length ncap] 26 (0, 0)) := by rw [hw2]; exact World.alloc_heap_new _ _
  obtain ⟨A, hA⟩ : ∃ A, A = w1.heap.size := ⟨_, rfl⟩
  rw [← hA] at g2
  have B2 := (show Hid (Below w.heap.size w w2) from b1.trans (b2.mono b1.size))
  have KA := (show Hid (∀ W, Below w2.heap.size w2 W → NodesAt W (.slice na ns.length ncap) ns ∧ W.cell? ⟨A, 0, none⟩ = some (.slice na ns.length ncap) ∧ A < W.heap.size) from fun W b => ⟨(hn1.below b2).below b, (one_cell ((b.block _ (blk_lt g2)).trans g2)).1, Nat.lt_of_lt_of_le (blk_lt g2) b.size⟩)
  have HFT := (show Hid (∀ n ∈ ns, NodeFit n) from hfit)
  have HLN := (show Hid (ns.length ≤ 1048576) from hlen)
  have KB := (show Hid (∀ W, Below w2.heap.size w2 W → Below w.heap.size w W) from fun W b => B2.out.trans (b.mono B2.out.size))
  clear hn1 hfit hlen b1 b2 g2
  go_upto_region 4 with fail
  rw [← hw2, ← hA]
  clear hw2 hA
  obtain ⟨_, cA, lA⟩ := KA.out w2 (Below.refl _ _)
  go_wp2_with fail
  go_at_call 29
  refine Calls.mono (itreePack_any (KA.out w2 (Below.refl _ _)).1 HFT.out HLN.out) ?_
  rintro e w3 ⟨pv, r3, rfl, hp3, b3⟩
  have B3 := (show Hid (Below w2.heap.size w2 w3) from b3)
  have P3 := (show Hid (PackA ns w2.heap.size pv r3 w3) from hp3)
  clear cA lA b3
  obtain ⟨_, cA, lA⟩ := KA.out w3 B3.out
  obtain ⟨p1, p2, p3, rfl⟩ : ∃ a n c, pv = .slice a n c := by rcases hp3 with ⟨_, _, o⟩ | ⟨_, _, o⟩ <;> exact own_slice o
  clear hp3
  go_wp2_with fail
  go_at_call 30
  refine Calls.mono (streePack_any (KA.out w3 B3.out).1 HFT.out HLN.out) ?_
  rintro e w4 ⟨qv, r4, rfl, hp4, b4⟩
  have B4 := (show Hid (Below w2.heap.size w2 w4) from B3.out.trans (b4.mono B3.out.size))
  have P4 := (show Hid (Below w3.heap.size w3 w4) from b4)
  have hr : (r3 = true ∧ r4 = true ∧ goodT ns) ∨ (r3 = false ∧ r4 = false) := by
    rcases P3.out with ⟨e3, h3, _⟩ | ⟨e3, h3, _⟩ <;> rcases hp4 with ⟨e4, h4, _⟩ | ⟨e4, h4, _⟩
    · exact .inl ⟨e3, e4, h3⟩
    · exact absurd h3 h4
    · exact absurd h4 h3
    · exact .inr ⟨e3, e4⟩
  obtain ⟨q1, q2, q3, rfl⟩ : ∃ a n c, qv = .slice a n c := by rcases hp4 with ⟨_, _, o⟩ | ⟨_, _, o⟩ <;> exact own_slice o
  clear hp4 b4 cA lA
  have HRR := (show Hid _ from hr)
  have hne : (r3 != r4) = false := by rcases hr with ⟨e1, e2, _⟩ | ⟨e1, e2⟩ <;> rw [e1, e2] <;> rfl
  have hre : r3 = r4 := by rcases hr with ⟨e1, e2, _⟩ | ⟨e1, e2⟩ <;> rw [e1, e2]
  subst hre
  clear hr hne
  go_upto_if 34 with fail
  go_cut [] from 35 (fun wx => Hid (Below w.heap.size w wx))
  case first =>
    rcases HRR.out with ⟨e1, _, hg⟩ | ⟨e1, _⟩
    rotate_left
    · subst e1
      go_wp2_with fail
      go_meet
      exact KB.out _ B4.out
    subst e1
    have HG := (show Hid (goodT ns) from hg)
    have O3 := (show Hid (Own w2.heap.size 5 .u8 w3 (.slice p1 p2 p3) (packL ns)) from (by rcases P3.out with h | h; exact h.2.2; exact absurd h.1 (by decide)))
    have CR := (show Hid _ from itreeRead_any ((Own.below O3.out P4.out).sl) (packL_byte hg.1.1) (by have := packL_small hg.1.1; omega))
    clear P3 HRR hg
    go_wp2_with fail
    go_at_call 31
    refine Calls.mono CR.out ?_
    rintro e w5 ⟨hor, b5⟩
    clear CR
    rcases hor with ⟨u, qs, rfl, hg5, hp5, o5, a5⟩ | ⟨hno, _⟩
    rotate_left
    · exact absurd rfl (hno ns HG.out)
    have hqs : qs.map (fun q => q.1) = ns := pack_inj hg5 HG.out hp5
    have B5 := (show Hid (Below w2.heap.size w2 w5) from B4.out.trans (b5.mono B4.out.size))
    have n5 : NodesAt w5 u ns := by rw [← hqs]; exact o5.n.nodes
    obtain ⟨ua, ucap, rfl, _, _, _⟩ := n5.slice
    obtain ⟨w6, hw6⟩ : ∃ z, z = w5.alloc (.cells #[.slice ua ns.length ucap] 26) := ⟨_, rfl⟩
    have b6 : Below w5.heap.size w5 w6 := by rw [hw6]; exact (Below.refl _ _).alloc (Nat.le_refl _) _
    have g6 : w6.heap[w5.heap.size]? = some (.cells #[.slice ua ns.length ucap] 26 (0, 0)) := by rw [hw6]; exact World.alloc_heap_new _ _
    obtain ⟨C, hC⟩ : ∃ C, C = w5.heap.size := ⟨_, rfl⟩
    rw [← hC] at g6
    have B6 := (show Hid (Below w2.heap.size w2 w6) from B5.out.trans (b6.mono B5.out.size))
    have N6 := (show Hid (NodesAt w6 (.slice ua ns.length ucap) ns) from n5.below b6)
    have G6 := (show Hid _ from g6)
    clear hg5 hp5 o5 a5 hqs n5 b5 b6
    go_upto_region 10 with fail
    rw [← hw6, ← hC]
    clear hw6 hC
    obtain ⟨_, cA, lA⟩ := KA.out w6 B6.out
    obtain ⟨cC, _⟩ := one_cell g6
    have lC := blk_lt g6
    have CS := (show Hid _ from itreeSame_of (fun {_ _ _} a b c => itidy_any a b c) N6.out (KA.out w6 B6.out).1 HFT.out HFT.out HLN.out HLN.out HG.out.1.1 HG.out.1.1)
    clear g6
    go_wp2_with fail
    go_at_call 16
    refine Calls.mono CS.out ?_
    rintro e w7 ⟨r7, rfl, hr7, b7⟩
    obtain rfl : r7 = true := by simpa using hr7
    have B7 := (show Hid (Below w2.heap.size w2 w7) from B6.out.trans (b7.mono B6.out.size))
    have cC7 := (b7.cell (p := ⟨C, 0, none⟩) lC).trans cC
    have lC7 := Nat.lt_of_lt_of_le lC b7.size
    obtain ⟨_, cA7, lA7⟩ := KA.out w7 B7.out
    clear hr7 b7 cA lA cC lC CS
    go_wp2_with fail
    go_meet
    exact KB.out _ B7.out
  case rest =>
    have BC := (show Hid (Below w.heap.size w wc) from hcut.out)
    clear KA KB P3 HRR B2 B3 B4 P4 HFT HLN
    go_wp2_with fail
    go_at_call 32
    refine Calls.mono (HE.out wc BC.out) ?_
    rintro e w8 ⟨bv, ys, rfl, hsl, hby, hyl, b8⟩
    obtain ⟨ba, bcap, rfl, g1, g2, g3, g4⟩ := hsl
    have B8 := (show Hid (Below w.heap.size w w8) from BC.out.trans (b8.mono BC.out.size))
    have SL8 := (show Hid (Sl .u8 w8 (.slice ba ys.length bcap) ys) from ⟨_, _, rfl, g1, g2, g3, g4⟩)
    have HBY := (show Hid (∀ x ∈ ys, 0 ≤ x ∧ x ≤ 255) from hby)
    have HYL := (show Hid (ys.length ≤ 1099511627776) from hyl)
    have C1 := (show Hid _ from itreeRead_any SL8.out HBY.out HYL.out)
    clear HE b8 hby hyl g1 g2 g3 g4 BC
    go_wp2_with fail
    go_at_call 31
    refine Calls.mono C1.out ?_
    rintro e w9 h9
    obtain ⟨ua, ms, uc, f, rfl, n9, hf, hfit, hlen, b9⟩ := readS h9
    clear C1 h9
    obtain ⟨w10, hw10⟩ : ∃ z, z = w9.alloc (.cells #[.slice ua ms.length uc] 26) := ⟨_, rfl⟩
    have b10 : Below w9.heap.size w9 w10 := by rw [hw10]; exact (Below.refl _ _).alloc (Nat.le_refl _) _
    have g10 : w10.heap[w9.heap.size]? = some (.cells #[.slice ua ms.length uc] 26 (0, 0)) := by rw [hw10]; exact World.alloc_heap_new _ _
    obtain ⟨C, hC⟩ : ∃ C, C = w9.heap.size := ⟨_, rfl⟩
    rw [← hC] at g10
    have BA := (show Hid (Below w8.heap.size w8 w10) from b9.trans (b10.mono b9.size))
    have KC := (show Hid (∀ W, Below w10.heap.size w10 W → NodesAt W (.slice ua ms.length uc) ms ∧ W.cell? ⟨C, 0, none⟩ = some (.slice ua ms.length uc) ∧ C < W.heap.size) from fun W b => ⟨(n9.below b10).below b, (one_cell ((b.block _ (blk_lt g10)).trans g10)).1, Nat.lt_of_lt_of_le (blk_lt g10) b.size⟩)
    have HFT := (show Hid (∀ n ∈ ms, NodeFit n) from hfit)
    have HLN := (show Hid (ms.length ≤ 1048576) from hlen)
    have HF := (show Hid _ from hf)
    clear n9 b9 b10 g10 hfit hlen hf
    have C2 := (show Hid _ from streeRead_any (SL8.out.below (BA.out.mono (Nat.le_refl _))) HBY.out HYL.out)
    go_upto_region 10 with fail
    rw [← hw10, ← hC]
    clear hw10 hC
    refine Calls.mono C2.out ?_
    rintro e w11 h11
    obtain ⟨sa, ks, sc, g, rfl, _, hg, _, _, b11⟩ := readS h11
    obtain rfl : f = g := readS_same HF.out hg
    clear C2 h11 hg
    have BB := (show Hid (Below w10.heap.size w10 w11) from b11)
    have B11 := (show Hid (Below w.heap.size w w11) from B8.out.trans ((BA.out.trans (b11.mono BA.out.size)).mono B8.out.size))
    clear b11
    obtain ⟨_, cC, lC⟩ := KC.out w11 BB.out
    have hff : (f != f) = false := by simp
    go_wp2_with fail
    obtain ⟨w12, hw12⟩ : ∃ z, z = w11.alloc (.cells #[.slice sa ks.length sc] 26) := ⟨_, rfl⟩
    have b12 : Below w11.heap.size w11 w12 := by rw [hw12]; exact (Below.refl _ _).alloc (Nat.le_refl _) _
    have B12 := (show Hid (Below w.heap.size w w12) from B11.out.trans (b12.mono B11.out.size))
    have BD := (show Hid (Below w10.heap.size w10 w12) from BB.out.trans (b12.mono BB.out.size))
    rw [← hw12]
    clear hw12 b12 cC lC BB B11
    have C3 := (show Hid _ from itreePack_any (KC.out w12 BD.out).1 HFT.out HLN.out)
    refine Calls.mono C3.out ?_
    rintro e w13 ⟨av, gd, rfl, hp, b13⟩
    clear C3
    have B13 := (show Hid (Below w.heap.size w w13) from B12.out.trans (b13.mono B12.out.size))
    have BE := (show Hid (Below w10.heap.size w10 w13) from BD.out.trans (b13.mono BD.out.size))
    obtain ⟨aa, an, ac, rfl⟩ : ∃ a n c, av = .slice a n c := by rcases hp with ⟨_, _, o⟩ | ⟨_, _, o⟩ <;> exact own_slice o
    obtain ⟨_, cC, lC⟩ := KC.out w13 BE.out
    have SY := (show Hid (Sl .u8 w13 (.slice ba ys.length bcap) ys) from SL8.out.below ((BA.out.trans (BE.out.mono BA.out.size)).mono (Nat.le_refl _)))
    rcases HF.out with ⟨rfl, hgd, hpk⟩ | ⟨rfl, rfl, hno⟩
    · obtain ⟨rfl, o13⟩ : gd = true ∧ Own w12.heap.size 5 .u8 w13 (.slice aa an ac) (packL ms) := by
        rcases hp with ⟨h1, _, h3⟩ | ⟨_, h2, _⟩
        · exact ⟨h1, h3⟩
        · exact absurd hgd h2
      rw [hpk] at o13
      obtain rfl : an = ys.length := by obtain ⟨_, _, e1, _⟩ := o13.sl; cases e1; rfl
      obtain ⟨S0, hS0⟩ : ∃ s, s = strOf ys := ⟨_, rfl⟩
      have cv1 := conv_sl o13.sl
      have cv2 := conv_sl SY.out
      rw [← hS0] at cv1 cv2
      clear hp hgd hpk hS0 o13
      go_wp2_with fail
      go_ret
      exact ⟨rfl, B13.out⟩
    · clear hp hno
      go_wp2_with fail
      go_ret
      exact ⟨rfl, B13.out⟩
end Go.Proofs.YtogdbjafibejdaaGreat
