/- The program's TextOf. No condition. -/
import Derived.Test.YtogdbjafibejdaaGreatX35
import Derived.Test.YtogdbjafibejdaaGreatX36
import Derived.Test.YtogdbjafibejdaaGreatX27
import Derived.Test.YtogdbjafibejdaaGreatX43
import Derived.Test.YtogdbjafibejdaaGreatX44
namespace Go.Proofs.YtogdbjafibejdaaGreat
open Go.RowKit Go.Shelf
set_option maxRecDepth 100000
set_option linter.unusedVariables false
attribute [local go_sem] Oper.semAt_some

/-- A builder stays where its block and all bytes stay. -/
theorem bld_agree {B b n0 n1 : Nat} {S : Nat → Prop} {l : List UInt8} {W W' : World} (h : Bld2 B b l W) (ha : Agree n0 n1 (fun t => t = 5) S W W') (hS : S b) : Bld2 B b l W' := by
  have key : ∀ p, Lib.BuilderAtF 89 5 B b p (Lib.byteCells l) W → Lib.BuilderAtF 89 5 B b p (Lib.byteCells l) W' := by
    rintro p ⟨hB, v, hb, hown, hne⟩
    refine ⟨hB, v, ha.same _ _ hb (.inr (.inl ⟨hS, rfl⟩)), ?_, hne⟩
    obtain ⟨h1, h2 | ⟨g, cap, cur, fz, e1, e2, e3, e4⟩⟩ := hown
    · exact ⟨h1, .inl h2⟩
    · exact ⟨h1, .inr ⟨g, cap, cur, fz, e1, e2, ha.same _ _ e3 (.inr (.inr (.inl ⟨_, _, _, rfl, rfl⟩))), e4⟩⟩
  rcases h with h | h
  · exact .inl (key _ h)
  · exact .inr (key _ h)
theorem bld_cells {B b : Nat} {l : List UInt8} {W : World} (h : Bld2 B b l W) : ∃ cs, W.heap[b]? = some (.cells cs 89 (0, 0)) := by
  rcases h with ⟨_, v, hb, _⟩ | ⟨_, v, hb, _⟩ <;> exact ⟨_, hb⟩
theorem bld_lt {B b : Nat} {l : List UInt8} {W : World} (h : Bld2 B b l W) : b < W.heap.size := by
  obtain ⟨cs, hcs⟩ := bld_cells h
  exact blk_lt hcs
theorem bld_below {B b : Nat} {l : List UInt8} {W W' : World} (h : Bld2 B b l W) (hb : Below W.heap.size W W') : Bld2 B b l W' := bld_agree (n0 := 0) (n1 := 0) (S := fun _ => True) h (Agree.of_below hb) trivial
theorem agree_below {n0 n1 : Nat} {T : TypeId → Prop} {S : Nat → Prop} {w0 W W' : World} (h : Below n0 w0 W) (hn : n0 ≤ W.heap.size) (ha : Agree n0 n1 T S W W') : Below n0 w0 W' :=
  ⟨ha.os.trans h.os, ha.tape.trans h.tape, ha.output.trans h.output, Nat.le_trans h.size ha.size, fun k hk => by
    have hlt : k < W.heap.size := by omega
    have e := ha.same k W.heap[k] (by simp [hlt]) (.inl hk)
    rw [e, ← h.block k hk]
    simp [hlt]⟩

set_option maxHeartbeats 2000000 in
set_option maxRecDepth 100000 in
theorem itextOf_any {w : World} {v : Value} {ns : List PNode} (hn : NodesAt w v ns) (hfit : ∀ n ∈ ns, NodeFit n) (hlen : ns.length ≤ 1048576) (at' : Int) :
    Calls Tryz.prog 22 #[.agg #[v], .int .i64 at'] w fun e w' => ∃ s, e = .returned (.string s) ∧ ((TreeOkP ns ∧ 0 ≤ at' ∧ at' < ns.length → s = ⟨(textL ns ns.length at'.toNat).toArray⟩) ∧ (¬ (TreeOkP ns ∧ 0 ≤ at' ∧ at' < ns.length) → s = ⟨#[]⟩)) ∧ Below w.heap.size w w' := by
  have HN := (show Hid (NodesAt w v ns) from hn)
  have HFIT := (show Hid (∀ n ∈ ns, NodeFit n) from hfit)
  obtain ⟨a, cap, rfl, hc1, hc2, hcs⟩ := hn.slice
  have HCS := (show Hid _ from hcs)
  clear hn hfit hcs
  obtain ⟨w1, hw1⟩ : ∃ x, x = w.alloc (.cells #[.slice a ns.length cap] 26) := ⟨_, rfl⟩
  have b1 : Below w.heap.size w w1 := by rw [hw1]; exact (Below.refl _ _).alloc (Nat.le_refl _) _
  have g1 : w1.heap[w.heap.size]? = some (.cells #[.slice a ns.length cap] 26 (0, 0)) := by rw [hw1]; exact World.alloc_heap_new _ _
  have HG1 := (show Hid _ from g1)
  clear g1
  refine (callsIn_wide (n := 5)).1 ?_
  refine callsIn_of_wp_marks Tryz.func22 rfl trivial ?_ rfl
  simp only [Tryz.ntmps22, List.size_toArray, List.length_cons, List.length_nil, Nat.reduceAdd, Nat.reduceSub, Array.replicate_succ, Array.replicate_zero, List.push_toArray, List.append_toArray, List.nil_append, List.cons_append]
  gi_wp2
  rw [← hw1]
  refine ⟨trivial, (callsIn_wide.2 (itreeOk_any (HN.out.below b1) HFIT.out hlen)).mono ?_⟩
  rintro e w2 ⟨r, rfl, hr, b2⟩
  clear hw1
  have hb2 := b1.trans (b2.mono b1.size)
  have HB2 := (show Hid (Below w.heap.size w w2) from hb2)
  have g2 := (b2.block _ (blk_lt HG1.out)).trans HG1.out
  have k0 : w2.cell? ⟨w.heap.size, 0, none⟩ = some (.slice a ns.length cap) := by simp only [World.cell?, g2]; rfl
  have hl2 := blk_lt g2
  clear g2 b2 hb2 b1 HG1
  cases r
  · have HF : Hid (¬ TreeOkP ns) := fun h => by have := hr.mpr h; cases this
    clear hr
    gi_wp2
    refine leaves_dmarks (by simp) w.heap.size [] _ List.nodup_nil (fun d hd => by cases hd) ?_
    intro w' bw kw
    exact ⟨_, results_tmp rfl _ _ _, ⟨#[]⟩, rfl, ⟨fun h => absurd h.1 HF.out, fun _ => rfl⟩, HB2.out.trans bw⟩
  have HT : Hid (TreeOkP ns) := hr.mp rfl
  clear hr
  obtain ⟨w4, hw4⟩ : ∃ x, x = (w2.alloc (.cells #[.slice a ns.length cap] 77)).alloc (.cells #[.pointer (some ⟨w2.heap.size, 0, none⟩)] 64) := ⟨_, rfl⟩
  have b24 : Below w2.heap.size w2 w4 := by rw [hw4]; exact ((Below.refl _ w2).alloc (Nat.le_refl _) _).alloc (by simp) _
  have hs4 : w4.heap.size = w2.heap.size + 1 + 1 := by rw [hw4, World.size_alloc, World.size_alloc]
  have gA : w4.heap[w2.heap.size]? = some (.cells #[.slice a ns.length cap] 77 (0, 0)) := by rw [hw4, Below.heap_alloc _ _ _ (by simp)]; exact World.alloc_heap_new _ _
  have gP : w4.heap[w2.heap.size + 1]? = some (.cells #[.pointer (some ⟨w2.heap.size, 0, none⟩)] 64 (0, 0)) := by
    rw [hw4]
    have := World.alloc_heap_new (w2.alloc (.cells #[.slice a ns.length cap] 77)) (.cells #[.pointer (some ⟨w2.heap.size, 0, none⟩)] 64)
    rwa [World.size_alloc] at this
  have cA : w4.cell? ⟨w2.heap.size, 0, none⟩ = some (.slice a ns.length cap) := by simp only [World.cell?, gA]; rfl
  have cP : w4.cell? ⟨w2.heap.size + 1, 0, none⟩ = some (.pointer (some ⟨w2.heap.size, 0, none⟩)) := by simp only [World.cell?, gP]; rfl
  have hb4 : Below w.heap.size w w4 := HB2.out.trans (b24.mono HB2.out.size)
  have HB4 := (show Hid (Below w.heap.size w w4) from hb4)
  have HN4 := (show Hid (NodesAt w4 (.slice a ns.length cap) ns) from HN.out.below hb4)
  have hge4 : w.heap.size ≤ w4.heap.size := hb4.size
  have hPl := blk_lt gP
  have hAl := blk_lt gA
  have HS4 := (show Hid _ from hs4)
  clear b24 hb4 gA hs4
  gi_wp2
  rw [← hw4]
  refine ⟨trivial, (callsIn_wide.2 (ihas_any cA at')).mono ?_⟩
  rintro e wx ⟨rfl, hx⟩
  rw [hx]
  clear hw4 hx wx
  by_cases hin : 0 ≤ at' ∧ at' < ns.length
  · rw [decide_eq_true hin]
    obtain ⟨k, rfl⟩ : ∃ k : Nat, at' = (k : Int) := ⟨at'.toNat, by omega⟩
    have hk : k < ns.length := by omega
    have HDP := (show Hid (deepOk ns ns.length k) from tree_deep HT.out hk)
    have hbn := bld_new2 w4
    have b45 : Below w4.heap.size w4 (w4.alloc (.cells #[.pointer none, .slice none 0 0] 89)) := (Below.refl _ _).alloc (Nat.le_refl _) _
    have hs5 : (w4.alloc (.cells #[.pointer none, .slice none 0 0] 89)).heap.size = w4.heap.size + 1 := by simp
    obtain ⟨w5, hw5⟩ : ∃ x, x = w4.alloc (.cells #[.pointer none, .slice none 0 0] 89) := ⟨_, rfl⟩
    rw [← hw5] at hbn b45 hs5
    obtain ⟨w6, hw6⟩ : ∃ x, x = (w5.alloc (.cells #[.pointer (some ⟨w2.heap.size, 0, none⟩)] 64)).alloc (.cells #[.int .i64 (k : Int)] 3) := ⟨_, rfl⟩
    have b56 : Below w5.heap.size w5 w6 := by rw [hw6]; exact ((Below.refl _ w5).alloc (Nat.le_refl _) _).alloc (by simp) _
    have hs6 : w6.heap.size = w5.heap.size + 1 + 1 := by rw [hw6, World.size_alloc, World.size_alloc]
    have gY : w6.heap[w5.heap.size]? = some (.cells #[.pointer (some ⟨w2.heap.size, 0, none⟩)] 64 (0, 0)) := by rw [hw6, Below.heap_alloc _ _ _ (by simp)]; exact World.alloc_heap_new _ _
    have gZ : w6.heap[w5.heap.size + 1]? = some (.cells #[.int .i64 (k : Int)] 3 (0, 0)) := by
      rw [hw6]
      have := World.alloc_heap_new (w5.alloc (.cells #[.pointer (some ⟨w2.heap.size, 0, none⟩)] 64)) (.cells #[.int .i64 (k : Int)] 3)
      rwa [World.size_alloc] at this
    have cY : w6.cell? ⟨w5.heap.size, 0, none⟩ = some (.pointer (some ⟨w2.heap.size, 0, none⟩)) := by simp only [World.cell?, gY]; rfl
    have cZ : w6.cell? ⟨w5.heap.size + 1, 0, none⟩ = some (.int .i64 (k : Int)) := by simp only [World.cell?, gZ]; rfl
    have b46 : Below w4.heap.size w4 w6 := b45.trans (b56.mono b45.size)
    have hbn6 : Bld2 w4.heap.size w4.heap.size [] w6 := bld_below hbn b56
    have HS5 := (show Hid _ from hs5)
    have HS6 := (show Hid _ from hs6)
    clear gY gZ hbn hs5 hs6
    gi_wp2
    rw [← hw5]
    refine ⟨trivial, (from_in _ _ _ _).mono ?_⟩
    rintro e wx ⟨rfl, hx⟩
    rw [hx, ← hw6]
    clear hx wx hw6 hw5
    gi_wp2
    refine wpIn_tells2 (T := fun t => t = 5) (w0 := w6) (n0 := w4.heap.size) (all := down ns ns.length k) (gf := 121) (lb := #[.pointer (some ⟨w5.heap.size, 0, none⟩), .pointer (some ⟨w5.heap.size + 1, 0, none⟩)]) rfl (enters_of Tryz.func121 (by kernel_rfl) rfl)
      (from_tells2 (w := w6) ⟨by decide, by decide, by decide⟩ HN4.out hAl cA (by omega) HDP.out b46 cY cZ (by have := HS5.out; have := HS6.out; omega) (by have := HS5.out; have := HS6.out; omega)) (Below.refl _ _) b46.size
      (fun S pre Wq => (∀ j, S j ↔ j = w4.heap.size) ∧ Bld2 w4.heap.size w4.heap.size (pre.flatMap fun x => txAt ns x.toNat) Wq ∧ Below w4.heap.size w4 Wq)
      ?hF (fun j => j = w4.heap.size) (fun j hj => by have := HS5.out; have := HS6.out; omega) ⟨fun j => Iff.rfl, hbn6, b46⟩
      (fun x => { tmps := #[.agg #[.slice a ns.length cap], .int .i64 (k : Int), .pointer (some ⟨w.heap.size, 0, none⟩), undef, .string ⟨#[]⟩, .pointer (some ⟨w2.heap.size + 1, 0, none⟩), .pointer (some ⟨w4.heap.size, 0, none⟩), .int .i64 x, undef, .agg #[.slice a ns.length cap], .bool true, .bool false, .pointer (some ⟨w.heap.size, 0, none⟩), .slice a ns.length cap, .agg #[.slice a ns.length cap], .pointer (some ⟨w2.heap.size, 0, none⟩), .pointer (some ⟨w2.heap.size, 0, none⟩), .int .i64 (k : Int), .bool true, .bool false, .pointer (some ⟨w2.heap.size, 0, none⟩), .int .i64 (k : Int), .func (.func 121) #[] #[.pointer (some ⟨w5.heap.size, 0, none⟩), .pointer (some ⟨w5.heap.size + 1, 0, none⟩)], .int .i64 x, undef, undef, undef, undef, undef, undef, undef, undef, undef, undef, undef, undef, undef, undef], defers := [] }) ?assign ?body ?done
    case hF =>
      rintro S pre Wa Wb ⟨h1, h2, h3⟩ hag
      exact ⟨h1, bld_agree h2 hag ((h1 _).mpr rfl), agree_below h3 h3.size hag⟩
    case assign =>
      intro l m x Wa K' hK'
      gi_wp2
      exact hK'
    case body =>
      rintro l m S pre x W hx ⟨h1, h2, h3⟩ hSW
      obtain ⟨d, hd⟩ := HT.out.linked k hk
      obtain ⟨hx0, hx1, _⟩ := down_dep HT.out.fit ns.length d k hd x (hx.subset (by simp))
      obtain ⟨j, rfl⟩ : ∃ j : Nat, x = (j : Int) := ⟨x.toNat, by omega⟩
      have hj : j < ns.length := by omega
      have hpl : ((pre ++ [(j : Int)]).flatMap fun x => txAt ns x.toNat).length ≤ 524288000 := by
        obtain ⟨r, hr⟩ := hx
        have h5 := text_len HT.out (fun n hn => (HFIT.out n hn).tx) hk
        rw [text_down, ← hr, List.flatMap_append, List.length_append] at h5
        omega
      rw [List.flatMap_append, List.length_append, List.flatMap_singleton] at hpl
      obtain ⟨b, off, av, kv, rfl, hblt, c0, c1, c2, c3, c4, c5, hav, hkv⟩ := HCS.out j hj
      have hbW := HB4.out.trans (h3.mono HB4.out.size)
      replace c0 := (hbW.cell (p := ⟨b, off + j * 6, none⟩) hblt).trans c0
      replace c1 := (hbW.cell (p := ⟨b, off + j * 6 + 1, none⟩) hblt).trans c1
      replace c2 := (hbW.cell (p := ⟨b, off + j * 6 + 2, none⟩) hblt).trans c2
      replace c3 := (hbW.cell (p := ⟨b, off + j * 6 + 3, none⟩) hblt).trans c3
      replace c4 := (hbW.cell (p := ⟨b, off + j * 6 + 4, none⟩) hblt).trans c4
      replace c5 := (hbW.cell (p := ⟨b, off + j * 6 + 5, none⟩) hblt).trans c5
      obtain ⟨av1, av2, av3, rfl, _⟩ := hav
      obtain ⟨kv1, kv3, rfl, _⟩ := hkv
      have cPW := (h3.cell (p := ⟨w2.heap.size + 1, 0, none⟩) hPl).trans cP
      have cAW := (h3.cell (p := ⟨w2.heap.size, 0, none⟩) hAl).trans cA
      have HTX : Hid (txAt ns ((j : Int)).toNat = txL ns[j]) := (by rw [show ((j : Int)).toNat = j by simp, txAt_at hj] : txAt ns ((j : Int)).toNat = txL ns[j])
      obtain ⟨nd, hnd⟩ : ∃ nd, nd = ns[j] := ⟨_, rfl⟩
      have hnf := HFIT.out ns[j] (List.getElem_mem hj)
      rw [HTX.out] at hpl
      rw [← hnd] at c0 c1 c3 c4 c5 HTX hnf hpl
      obtain ⟨k0', k1', rs', k3', k4', ks'⟩ := nd
      simp only at c0 c1 c3 c4 c5
      have htxs := hnf.tx
      simp only at htxs
      obtain ⟨W1, hW1⟩ : ∃ q, q = W.alloc (.cells #[.int .i64 k0', .string k1', .slice av1 av2 av3, .string k3', .int .i64 k4', .slice kv1 ks'.length kv3] 36) := ⟨_, rfl⟩
      have bW1 : Below W.heap.size W W1 := by rw [hW1]; exact (Below.refl _ _).alloc (Nat.le_refl _) _
      have hBl1 : Bld2 w4.heap.size w4.heap.size (pre.flatMap fun x => txAt ns x.toNat) W1 := bld_below h2 bW1
      have hs3 := h3.size
      have HK1 := (show Hid (Kz w4.heap.size (fun t => t = 5) S S W W1) from Kz.of_below bW1 hSW)
      have HH1 := (show Hid (∀ j, S j ↔ j = w4.heap.size) from h1)
      have H31 := (show Hid (Below w4.heap.size w4 W1) from h3.trans (bW1.mono hs3))
      have HBL := (show Hid (Bld2 w4.heap.size w4.heap.size (pre.flatMap fun x => txAt ns x.toNat) W1) from hBl1)
      clear hnd hnf hbW h1 h2 h3 bW1 hBl1
      have hsum0 : (pre ++ [(j : Int)]).flatMap (fun x => txAt ns x.toNat) = pre.flatMap (fun x => txAt ns x.toNat) ++ txL ⟨k0', k1', rs', k3', k4', ks'⟩ := by rw [List.flatMap_append, List.flatMap_singleton, HTX.out]
      have HSUM := (show Hid ((pre ++ [(j : Int)]).flatMap (fun x => txAt ns x.toNat) = pre.flatMap (fun x => txAt ns x.toNat) ++ txL ⟨k0', k1', rs', k3', k4', ks'⟩) from hsum0)
      clear hsum0
      by_cases h4 : k0' = 4
      · subst h4
        have htl : txL ⟨4, k1', rs', k3', k4', ks'⟩ = k3'.data.toList := by simp [txL]
        rw [htl] at hpl HSUM
        have CW := (show Hid _ from bld_write2 w4.heap.size w4.heap.size (pre.flatMap fun x => txAt ns x.toNat) k3' W1 HBL.out (by simp at hpl ⊢; omega) H31.out.size)
        clear hpl htl
        gi_wp2
        refine ⟨trivial, (fun h => by cases h), ?_⟩
        rw [← hW1]
        refine (CallsIn.inRound l (callsIn_wide.2 CW.out)).mono ?_
        rintro e W2 ⟨rfl, hb2, hbel2, hok2⟩
        have hbs : w4.heap.size < W1.heap.size := bld_lt HBL.out
        have hK2 : Kz w4.heap.size (fun t => t = 5) S S W1 W2 := by
          refine ⟨hbel2.os, hbel2.tape, hbel2.output, hbel2.size, fun q o hq ho => ?_, fun q hq => ⟨by have := (HH1.out q).mp hq; have := hbel2.size; omega, .inl hq⟩⟩
          rcases ho with ho | ho | ho
          · rw [hbel2.block q ho]; exact hq
          · refine hok2 q o hq (fun e => ho.1 ((HH1.out q).mpr (by injection e))) (fun c fz e => ho.2 ⟨_, _, _, e, rfl⟩)
          · refine hok2 q o hq (fun e => ?_) (fun c fz e => by rw [e] at ho; cases ho)
            injection e with e
            rw [e] at hq
            obtain ⟨cs, hcs'⟩ := bld_cells HBL.out
            rw [hcs'] at hq
            cases hq
            cases ho
        have hb2' : Bld2 w4.heap.size w4.heap.size ((pre ++ [(j : Int)]).flatMap fun x => txAt ns x.toNat) W2 := by rw [HSUM.out]; exact hb2
        have END := (show Hid (∃ S', Kz w4.heap.size (fun t => t = 5) S S' W W2 ∧ (∀ j, S' j ↔ j = w4.heap.size) ∧ Bld2 w4.heap.size w4.heap.size ((pre ++ [(j : Int)]).flatMap fun x => txAt ns x.toNat) W2 ∧ Below w4.heap.size w4 W2) from ⟨S, HK1.out.trans hK2, HH1.out, hb2', H31.out.trans hbel2⟩)
        clear hK2 hb2 hb2' hbel2 hok2
        gi_wp2
        simpa using END.out
      · have htl : txL ⟨k0', k1', rs', k3', k4', ks'⟩ = [] := by simp [txL, h4]
        rw [htl, List.append_nil] at HSUM
        have END := (show Hid (∃ S', Kz w4.heap.size (fun t => t = 5) S S' W W1 ∧ (∀ j, S' j ↔ j = w4.heap.size) ∧ Bld2 w4.heap.size w4.heap.size ((pre ++ [(j : Int)]).flatMap fun x => txAt ns x.toNat) W1 ∧ Below w4.heap.size w4 W1) from ⟨S, HK1.out, HH1.out, (by rw [HSUM.out]; exact HBL.out), H31.out⟩)
        clear htl hpl
        gi_wp2
        rw [← hW1]
        simpa using END.out
    case done =>
      rintro D S' Wd hD ⟨h1, h2, h3⟩ hKd hDD
      have CS := (show Hid _ from bld_string2 w4.heap.size w4.heap.size _ Wd h2 h3.size)
      rw [← text_down] at CS
      have H3 := (show Hid (Below w4.heap.size w4 Wd) from h3)
      clear h2 h3
      gi_wp2
      refine ⟨trivial, (callsIn_wide.2 CS.out).mono ?_⟩
      rintro e We ⟨rfl, hb2, hbel2, hok2⟩
      have hDe : We.heap[D]? = some (.deferred (some [])) := hok2 D _ hDD (fun e => by injection e with e; have := HS5.out; have := HS6.out; omega) (fun c fz e => by cases e)
      have HE := (show Hid (Below w.heap.size w We) from (HB4.out.trans (H3.out.mono HB4.out.size)).trans (hbel2.mono HB4.out.size))
      have HDE := (show Hid _ from hDe)
      have hDw : w.heap.size ≤ D := by have := HS5.out; have := HS6.out; omega
      clear hb2 hbel2 hok2 hDe
      gi_wp2
      refine leaves_dmarks (by simp) w.heap.size [D] _ (by simp) (fun d hd => by simp only [List.mem_cons, List.not_mem_nil, or_false] at hd; subst hd; exact ⟨hDw, HDE.out⟩) ?_
      intro w' bw kw
      refine ⟨_, results_tmp rfl _ _ _, _, rfl, ⟨fun _ => by simp, fun h => absurd ⟨HT.out, by omega, by omega⟩ h⟩, HE.out.trans bw⟩
  · rw [decide_eq_false hin]
    have HF : Hid (¬ (0 ≤ at' ∧ at' < ns.length)) := hin
    clear hin
    gi_wp2
    refine leaves_dmarks (by simp) w.heap.size [] _ List.nodup_nil (fun d hd => by cases hd) ?_
    intro w' bw kw
    exact ⟨_, results_tmp rfl _ _ _, ⟨#[]⟩, rfl, ⟨fun h => absurd h.2 HF.out, fun _ => rfl⟩, HB4.out.trans bw⟩
end Go.Proofs.YtogdbjafibejdaaGreat

/- The printer's writeKids, PrintOf. No condition. -/
namespace Go.Proofs.YtogdbjafibejdaaGreat
open Go.RowKit Go.Shelf
set_option maxRecDepth 100000
set_option linter.unusedVariables false
attribute [local go_sem] Oper.semAt_some

set_option maxHeartbeats 800000 in
/-- As kids_tells2; the block that has the nodes may be turned, but for them. -/
theorem kids_tells3 {w0 w : World} {T : TypeId → Prop} {v : Value} {ns : List PNode} {A Ba Bt k : Nat} (hn : NodesAt w0 v ns) (hA : A < w.heap.size) (cA : w.cell? ⟨A, 0, none⟩ = some v) (hlen : ns.length ≤ 1048576) (hk : k < ns.length) (hw : Below w0.heap.size w0 w)
    (ca : w.cell? ⟨Ba, 0, none⟩ = some (.pointer (some ⟨A, 0, none⟩))) (ct : w.cell? ⟨Bt, 0, none⟩ = some (.int .i64 (k : Int))) (hBa : Ba < w.heap.size) (hBt : Bt < w.heap.size) :
    SeqTells2 Tryz.prog T 158 #[.pointer (some ⟨Ba, 0, none⟩), .pointer (some ⟨Bt, 0, none⟩)] w0.heap.size (kidsOf ns k) w := by
  intro n l n1 J S W hWw hn1 hn0 hSW hF hY h0
  have hW : Below w0.heap.size w0 W := hw.trans (hWw.mono hw.size)
  have hBa' := (hWw.cell (p := ⟨Ba, 0, none⟩) hBa).trans ca
  have hBt' := (hWw.cell (p := ⟨Bt, 0, none⟩) hBt).trans ct
  have hA' := (hWw.cell (p := ⟨A, 0, none⟩) hA).trans cA
  obtain ⟨a, cap, rfl, hc1, hc2, hcs⟩ := hn.slice
  obtain ⟨b, off, av, kv, rfl, hblt, _, _, _, _, _, c5, _, hsl⟩ := hcs k hk
  have c5' := (hW.cell (p := ⟨b, off + k * 6 + 5, none⟩) hblt).trans c5
  obtain ⟨ka, kcap, rfl, hk1, hk2, _, hkc⟩ := hsl
  have hkm : kcap < 9223372036854775808 := Nat.lt_of_le_of_lt hk2 (by decide)
  rw [← kidsOf_at hk] at hkc c5' hk1
  obtain ⟨zs, hzs⟩ : ∃ zs, zs = kidsOf ns k := ⟨_, rfl⟩
  rw [← hzs] at hkc c5' hk1 hY ⊢
  have HKC := (show Hid (Cells .i64 w0 ka zs) from hkc)
  have HW := (show Hid (Below w0.heap.size w0 W) from hW)
  clear hcs hkc c5 hW hn hzs ca ct cA
  refine (callsIn_wide (n := n)).2 ((callsIn_wide (n := 5)).1 ?_)
  refine callsIn_of_wp Tryz.func158 rfl trivial ?_ rfl
  simp only [Tryz.ntmps158, List.size_toArray, List.length_cons, List.length_nil, Nat.reduceAdd, Nat.reduceSub, Array.replicate_succ, Array.replicate_zero, List.push_toArray, List.append_toArray, List.nil_append, List.cons_append]
  gi_wp2
  gi_quiet (fail)
  have hbq : Below W.heap.size W (W.drewN nq) := ⟨rfl, rfl, rfl, Nat.le_refl _, fun _ _ => rfl⟩
  have h0' : J S [] (W.drewN nq) := hF _ _ _ _ h0 (Agree.of_below hbq)
  have hk0 : Kz w0.heap.size T S S W (W.drewN nq) := Kz.of_below hbq hSW
  gi_wp2
  gi_loopw [15] (fun i wr => ∃ (j : Nat) (S' : Nat → Prop), j ≤ zs.length ∧ i = .int .i64 j ∧ J S' (zs.take j) wr ∧ Kz w0.heap.size T S S' W wr) (fun i _ => zs.length - (intOf i).toNat)
  case atStart => exact ⟨0, S, Nat.zero_le _, rfl, by simpa using h0', hk0⟩
  case round =>
    obtain ⟨j, S', hj, rfl, hJs, hks⟩ := hrel
    by_cases hlt : j < zs.length
    · have hnx : Below w0.heap.size w0 wr := HW.out.trans (hks.below hn0)
      obtain ⟨kb, ko, rfl, ck⟩ := HKC.out j hlt
      rw [show zs.getD j 0 = zs[j] by simp [List.getD_eq_getElem?_getD, hlt]] at ck
      have hkb : kb < w0.heap.size := by
        by_cases h : kb < w0.heap.size
        · exact h
        · exfalso; simp [World.cell?, Array.getElem?_eq_none (Nat.le_of_not_lt h)] at ck
      have ck' := (hnx.cell (p := ⟨kb, ko + j, none⟩) hkb).trans ck
      have HP : Hid (zs.take j ++ [zs[j]] = zs.take (j + 1)) := (take_snoc zs hlt).symm
      obtain ⟨fn, tmps, assign, body, hy, hR⟩ := hY 4 S' (zs.take j) zs[j] wr (by rw [HP.out]; exact List.take_prefix _ _) hJs (fun i hi => (hks.sub i hi).1)
      have HKS := (show Hid (Kz w0.heap.size T S S' W wr) from hks)
      clear ck hnx hks
      gi_wp2
      refine hR.mono ?_
      rintro e W3 ⟨rfl, S3, hJ3, hk3⟩
      gi_wp2
      go_roundw
      case rel => exact ⟨j + 1, S3, by omega, by go_num, by rw [← HP.out]; exact hJ3, HKS.out.trans hk3⟩
      case measure => simp [intOf]; omega
    · obtain rfl : j = zs.length := by omega
      rw [List.take_length] at hJs
      gi_wp2
      go_end0
      exact ⟨⟨_, rfl⟩, S', hJs, hks⟩

theorem PrK.keepP {B b : Nat} {w w' : World} (h : PrK B b w w') {M : Nat} {cs : Array Value} (hM : w.heap[M]? = some (.cells cs 100 (0, 0))) (hb : M ≠ b) : w'.heap[M]? = some (.cells cs 100 (0, 0)) := h.keepB hM hb (by decide)

set_option maxHeartbeats 1000000 in
set_option maxRecDepth 100000 in
/-- writeKids at each depth. -/
theorem prKids_any {w0 : World} {b : Nat} {a : Option Addr} {cap : Nat} {ns : List PNode} (hn : NodesAt w0 (.slice a ns.length cap) ns) (hlen : ns.length ≤ 1048576) (ok : TreeOkP ns) :
    ∀ f k, deepOk ns f k → KidsOk w0 b (.slice a ns.length cap) k (printL ns f k) := by
  intro f
  induction f with
  | zero => intro k h; exact h.elim
  | succ f ih =>
    intro k hd w l h hl
    have hk := hd.1
    have HD := (show Hid (∀ x ∈ kidsOf ns k, 0 ≤ x ∧ deepOk ns f x.toNat) from hd.2)
    have HIH := (show Hid _ from ih)
    have HN := (show Hid (NodesAt w0 (.slice a ns.length cap) ns) from hn)
    have HOK := (show Hid (TreeOkP ns) from ok)
    have HL := (show Hid (l.length + (printL ns (f + 1) k).length ≤ 35184372088832) from hl)
    have hbl := h.pr.lt
    obtain ⟨g, hg⟩ : ∃ g : Int → List UInt8, g = fun x => nodeL (ndAt ns k).name (ndAt ns x.toNat) (printL ns f x.toNat) := ⟨_, rfl⟩
    have HG := (show Hid (g = fun x => nodeL (ndAt ns k).name (ndAt ns x.toNat) (printL ns f x.toNat)) from hg)
    have hpl : printL ns (f + 1) k = (kidsOf ns k).flatMap g := by rw [printL, hg]
    have HPL := (show Hid (printL ns (f + 1) k = (kidsOf ns k).flatMap g) from hpl)
    clear hpl
    -- a node below it
    have CN := (show Hid (∀ (pre : List Int) (j : Nat) (W : World), pre ++ [(j : Int)] <+: kidsOf ns k → PrW w0 b (.slice a ns.length cap) (l ++ pre.flatMap g) W → Calls Tryz.prog 124 #[.pointer (some ⟨b, 0, none⟩), .int .i64 (j : Int)] W fun e w' => e = .returned (.tuple #[]) ∧ PrW w0 b (.slice a ns.length cap) (l ++ (pre ++ [(j : Int)]).flatMap g) w' ∧ PrK w0.heap.size b W w') from fun pre j W hp hW => by
      have hx : (j : Int) ∈ kidsOf ns k := hp.subset (by simp)
      have hdj := (HD.out _ hx).2
      rw [Int.toNat_natCast] at hdj
      have hj := deepOk_lt hdj
      have hfk := fit_kid HOK.out.fit hx
      rw [Int.toNat_natCast] at hfk
      have e1 : (pre ++ [(j : Int)]).flatMap g = pre.flatMap g ++ nodeL ns[k].name ns[j] (printL ns f j) := by
        rw [List.flatMap_append, List.flatMap_singleton, HG.out]
        simp only [Int.toNat_natCast, ndAt_at hj, ndAt_at hk]
      have hle : l.length + ((pre ++ [(j : Int)]).flatMap g).length ≤ 35184372088832 := by
        obtain ⟨r, hr⟩ := hp
        have h1 := HL.out
        rw [HPL.out, ← hr, List.flatMap_append, List.length_append] at h1
        omega
      rw [e1] at hle ⊢
      rw [List.length_append] at hle
      by_cases hv : ns[j].kind = 3 ∧ hasB voids ns[j].name = false
      · rw [← List.append_assoc]
        exact prNode_any HN.out hW hj hlen (small_all HOK.out j hj) (fun _ _ => HIH.out j hdj) ns[k].name (fun h4 => absurd hv.1 (by omega)) (by rw [List.length_append]; omega)
      · have e2 : nodeL ns[k].name ns[j] (printL ns f j) = nodeL ns[k].name ns[j] [] := by
          unfold nodeL
          by_cases h3 : ns[j].kind = 3
          · have hv' : hasB voids ns[j].name = true := by
              cases hh : hasB voids ns[j].name with
              | true => rfl
              | false => exact absurd ⟨h3, hh⟩ hv
            simp [h3, hv']
          · simp [h3]
        rw [e2] at hle ⊢
        rw [← List.append_assoc]
        exact prNode_any HN.out hW hj hlen (small_all HOK.out j hj) (fun h3 hh => absurd ⟨h3, hh⟩ hv) ns[k].name (fun _ => ⟨k, by rw [← parOf_at hj]; exact hfk.2.2.2, hk, rfl⟩) (by rw [List.length_append]; omega))
    have HOKF := (show Hid (∀ x ∈ kidsOf ns k, 0 ≤ x) from fun x hx => (HD.out x hx).1)
    clear ih hn ok hd hl hg HIH HD HG
    have HPW := (show Hid (PrW w0 b (.slice a ns.length cap) l w) from h)
    obtain ⟨w1, hw1⟩ : ∃ x, x = w.alloc (.cells #[.pointer (some ⟨b, 0, none⟩)] 100) := ⟨_, rfl⟩
    have b1 : Below w.heap.size w w1 := by rw [hw1]; exact (Below.refl _ _).alloc (Nat.le_refl _) _
    have g1 : w1.heap[w.heap.size]? = some (.cells #[.pointer (some ⟨b, 0, none⟩)] 100 (0, 0)) := by rw [hw1]; exact World.alloc_heap_new _ _
    have c1 : w1.cell? ⟨w.heap.size, 0, none⟩ = some (.pointer (some ⟨b, 0, none⟩)) := by simp only [World.cell?, g1]; rfl
    have G1 := (show Hid _ from g1)
    have B1 := (show Hid (Below w.heap.size w w1) from b1)
    clear g1 b1 h
    refine (callsIn_wide (n := 5)).1 ?_
    refine callsIn_of_wp_marks Tryz.func80 rfl trivial ?_ rfl
    simp only [Tryz.ntmps80, List.size_toArray, List.length_cons, List.length_nil, Nat.reduceAdd, Nat.reduceSub, Array.replicate_succ, Array.replicate_zero, List.push_toArray, List.append_toArray, List.nil_append, List.cons_append]
    gi_wp2
    rw [← hw1]
    clear hw1
    refine ⟨trivial, (kids_in _ _ _ _).mono ?_⟩
    rintro e w' ⟨rfl, rfl⟩
    gi_wp2
    obtain ⟨W5, hW5⟩ : ∃ W5, W5 = (w1.alloc (.cells #[.pointer (some ⟨b, 0, none⟩)] 64)).alloc (.cells #[.int .i64 (k : Int)] 3) := ⟨_, rfl⟩
    have b5 : Below w1.heap.size w1 W5 := by rw [hW5]; exact ((Below.refl _ w1).alloc (Nat.le_refl _) _).alloc (by simp) _
    have sz5 : W5.heap.size = w1.heap.size + 2 := by rw [hW5]; simp
    have gY : W5.heap[w1.heap.size]? = some (.cells #[.pointer (some ⟨b, 0, none⟩)] 64 (0, 0)) := by
      rw [hW5, Below.heap_alloc _ _ _ (by simp)]
      exact World.alloc_heap_new _ _
    have gZ : W5.heap[w1.heap.size + 1]? = some (.cells #[.int .i64 (k : Int)] 3 (0, 0)) := by
      rw [hW5]
      have := World.alloc_heap_new (w1.alloc (.cells #[.pointer (some ⟨b, 0, none⟩)] 64)) (.cells #[.int .i64 (k : Int)] 3)
      rwa [World.size_alloc] at this
    have cY : W5.cell? ⟨w1.heap.size, 0, none⟩ = some (.pointer (some ⟨b, 0, none⟩)) := by simp only [World.cell?, gY]; rfl
    have cZ : W5.cell? ⟨w1.heap.size + 1, 0, none⟩ = some (.int .i64 (k : Int)) := by simp only [World.cell?, gZ]; rfl
    have b05 : Below w.heap.size w W5 := B1.out.trans (b5.mono B1.out.size)
    have hPW5 := HPW.out.below b05
    have g15 := (b5.block _ (blk_lt G1.out)).trans G1.out
    have hbel : Below w0.heap.size w0 W5 := hPW5.bel
    have hwl : w.heap.size < w1.heap.size := blk_lt G1.out
    have hb0 := HPW.out.pr.ge
    have h0w := HPW.out.bel.size
    rw [← hW5]
    clear hW5
    refine wpIn_tells2 (T := fun t => t = 5) (w0 := W5) (n0 := w0.heap.size) (all := kidsOf ns k) (gf := 158) (lb := #[.pointer (some ⟨w1.heap.size, 0, none⟩), .pointer (some ⟨w1.heap.size + 1, 0, none⟩)]) rfl (enters_of Tryz.func158 (by kernel_rfl) rfl)
      (kids_tells3 HN.out hPW5.pr.lt hPW5.pr.cell0 hlen hk hbel cY cZ (by omega) (by omega)) (Below.refl _ _) hbel.size
      (fun S pre Wq => (∀ j, S j ↔ j = b) ∧ PrW w0 b (.slice a ns.length cap) (l ++ pre.flatMap g) Wq ∧ Kz w0.heap.size (fun t => t = 5) (fun j => j = b) S W5 Wq)
      ?hI (fun j => j = b) (fun j hj => by have := hPW5.pr.lt; omega) ⟨fun j => Iff.rfl, by simpa using hPW5, Kz.refl (fun j hj => by have := hPW5.pr.lt; omega)⟩
      (fun x => { tmps := #[.pointer (some ⟨b, 0, none⟩), .int .i64 (k : Int), .pointer (some ⟨w.heap.size, 0, none⟩), undef, .int .i64 x, .pointer (some ⟨b, 0, none⟩), .pointer (some ⟨b, 0, none⟩), .pointer (some ⟨b, 0, none⟩), .int .i64 (k : Int), .func (.func 158) #[] #[.pointer (some ⟨w1.heap.size, 0, none⟩), .pointer (some ⟨w1.heap.size + 1, 0, none⟩)], .int .i64 x, undef, undef, undef], defers := [] }) ?assign ?body ?done
    case hI =>
      rintro S pre Wa Wb ⟨h1, h2, h3⟩ hag
      refine ⟨h1, ⟨agree_below h2.bel h2.bel.size hag, h2.pr.kept (fun j o hj ho => hag.same j o hj (by
        rcases ho with rfl | ho
        · obtain ⟨cs, hcs⟩ := h2.pr.cells
          rw [hcs] at hj
          cases hj
          exact .inr (.inl ⟨(h1 _).mpr rfl, rfl⟩)
        · exact .inr (.inr (.inl ho))))⟩, hag.os.trans h3.os, hag.tape.trans h3.tape, hag.output.trans h3.output, Nat.le_trans h3.size hag.size, fun j o hj ho => hag.same j o (h3.same j o hj ho) (.inr (.inr (.inr (by have := blk_lt hj; omega)))), fun j hj => ⟨Nat.lt_of_lt_of_le (h3.sub j hj).1 hag.size, (h3.sub j hj).2⟩⟩
    case assign =>
      intro l' m' x Wa K' hK'
      gi_wp2
      exact hK'
    case body =>
      rintro l' m' Sb pre x Wb hpx ⟨hSb1, hPb, hKb⟩ hSb
      have gB := hKb.same _ _ g15 (.inr (.inl ⟨by omega, fun ⟨_, _, _, e, ht⟩ => by cases e; exact absurd ht (by decide)⟩))
      have cB : Wb.cell? ⟨w.heap.size, 0, none⟩ = some (.pointer (some ⟨b, 0, none⟩)) := by simp only [World.cell?, gB]; rfl
      have hx : x ∈ kidsOf ns k := hpx.subset (by simp)
      have hx0 : 0 ≤ x := (HOKF.out x hx)
      obtain ⟨j, rfl⟩ : ∃ j : Nat, x = j := ⟨x.toNat, by omega⟩
      have CC := (show Hid _ from CN.out pre j Wb hpx hPb)
      have HSB := (show Hid (∀ j, Sb j ↔ j = b) from hSb1)
      have HKB := (show Hid (Kz w0.heap.size (fun t => t = 5) (fun j => j = b) Sb W5 Wb) from hKb)
      clear hSb1 hPb hKb gB
      gi_wp2
      refine ⟨trivial, (fun h => by cases h), (CallsIn.inRound l' (callsIn_wide.2 CC.out)).mono ?_⟩
      rintro e Wc ⟨rfl, hPc, hKc⟩
      have hSe : Sb = fun j => j = b := funext fun j => propext (HSB.out j)
      have END := (show Hid (∃ S', Kz w0.heap.size (fun t => t = 5) Sb S' Wb Wc ∧ (∀ j, S' j ↔ j = b) ∧ PrW w0 b (.slice a ns.length cap) (l ++ (pre ++ [(j : Int)]).flatMap g) Wc ∧ Kz w0.heap.size (fun t => t = 5) (fun j => j = b) S' W5 Wc) from ⟨fun j => j = b, by rw [hSe]; exact hKc, fun j => Iff.rfl, hPc, (by have := HKB.out; rw [hSe] at this; exact this.trans hKc)⟩)
      clear hPc hKc hSe
      gi_wp2
      simpa using END.out
    case done =>
      rintro D Sd Wd hD ⟨hSd, hPd, hKd⟩ hKdd hDd
      have hSe : Sd = fun j => j = b := funext fun j => propext (hSd j)
      rw [hSe] at hKd
      have HPD := (show Hid (PrW w0 b (.slice a ns.length cap) (l ++ printL ns (f + 1) k) Wd) from by rw [HPL.out]; exact hPd)
      have HKD := (show Hid (PrK w0.heap.size b w Wd) from (PrK.of_below b05 hbl).trans hKd)
      have HDD := (show Hid _ from hDd)
      have hDw : W5.heap.size ≤ D := hD
      clear hPd hKd hKdd hDd hSd hSe
      gi_wp2
      refine leaves_dmarks (by simp) W5.heap.size [D] _ (by simp) (fun d hd => by simp only [List.mem_cons, List.not_mem_nil, or_false] at hd; subst hd; exact ⟨hDw, HDD.out⟩) ?_
      intro w' bw kw
      have h5 := b05.size
      refine ⟨_, results_none rfl _ _ _, rfl, ⟨HPD.out.bel.trans (bw.mono (by have := hbel.size; omega)), HPD.out.pr.kept (fun j o hj ho => kw j o hj (by
        rcases ho with rfl | ⟨_, _, _, e, _⟩
        · obtain ⟨cs, hcs⟩ := HPD.out.pr.cells
          rw [hcs] at hj
          cases hj
          rfl
        · rw [e]; rfl))⟩, bw.os.trans HKD.out.os, bw.tape.trans HKD.out.tape, bw.output.trans HKD.out.output, Nat.le_trans HKD.out.size bw.size, fun j o hj ho => ?_, fun j hj => ⟨Nat.lt_of_lt_of_le (HKD.out.sub j hj).1 bw.size, (HKD.out.sub j hj).2⟩⟩
      rw [bw.block j (by have := blk_lt hj; omega)]
      exact HKD.out.same j o hj ho
end Go.Proofs.YtogdbjafibejdaaGreat
