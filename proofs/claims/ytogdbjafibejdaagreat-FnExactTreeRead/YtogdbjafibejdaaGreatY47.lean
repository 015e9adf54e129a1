/- The program's treeReader: name, fill. No condition. -/
import Derived.Test.YtogdbjafibejdaaGreatY43
import Derived.Test.YtogdbjafibejdaaGreatY23
import Derived.Test.YtogdbjafibejdaaGreatY45
import Derived.Test.YtogdbjafibejdaaGreatY44
import Derived.Test.YtogdbjafibejdaaGreatY42
namespace Go.Proofs.YtogdbjafibejdaaGreat
open Go.RowKit
set_option maxRecDepth 100000
set_option linter.unusedVariables false

theorem RdrT.five {w0 : World} {g : Nat} {v : Value} {xs : List Int} {a b c : Value} {i : Int} {w : World} (h : RdrT w0 g v xs [a, b, c] i w) : w.cell? ⟨g, 0, none⟩ = some v ∧ w.cell? ⟨g, 1, none⟩ = some (.int .i64 i) ∧ w.cell? ⟨g, 2, none⟩ = some a ∧ w.cell? ⟨g, 3, none⟩ = some b ∧ w.cell? ⟨g, 4, none⟩ = some c ∧ w.frozen? ⟨g, 2, none⟩ = false ∧ w.frozen? ⟨g, 3, none⟩ = false ∧ w.frozen? ⟨g, 4, none⟩ = false := by
  have hh := h.2.2.2.2
  refine ⟨?_, ?_, ?_, ?_, ?_, ?_, ?_, ?_⟩
  all_goals first | (simp only [World.cell?, hh]; rfl) | (simp only [World.frozen?, hh]; rfl)

set_option maxHeartbeats 1000000 in
set_option maxRecDepth 100000 in
theorem nameT_any {w0 : World} {g B : Nat} {v nv a c : Value} {xs : List Int} {nm : List ByteArray} {i : Nat} {w : World} (h : RdrT w0 g v xs [nv, a, c] i w) (hb : ∀ x ∈ xs, 0 ≤ x ∧ x ≤ 255) (o : OwnS B w nv nm) (hnl : nm.length ≤ 1000000000000) :
    Calls Tryz.prog 197 #[.pointer (some ⟨g, 0, none⟩)] w fun e w' => ((∃ (s : ByteArray) (j : Nat), rdM xs nm i = some (s, j) ∧ e = .returned (.string s) ∧ RdrT w0 g v xs [nv, a, c] j w') ∨ (rdM xs nm i = none ∧ Bad e ∧ ∃ j, RdrT w0 g v xs [nv, a, c] j w')) ∧ w.grownBy w' (some g) := by
  have C := (show Hid _ from pT_any h hb)
  have hg := h.2.2.2.2
  obtain ⟨c0, c1, c2, c3, c4, _, _, _⟩ := h.five
  have hlt := h.lt
  have HO := (show Hid (∀ w', w.grownBy w' (some g) → OwnS B w' nv nm) from fun w' gr => kept_of_type o gr (fun r e => by cases e; exact ⟨_, _, _, hg, by decide⟩))
  obtain ⟨na, nn, nc, rfl⟩ := own_slice o
  obtain ⟨enn, _⟩ := str_cell (OwnS.sv o)
  subst enn
  clear h o hg
  go_enter Tryz.func197, Tryz.ntmps197
  go_wp2_with fail
  go_at_call 136
  refine Calls.mono C.out ?_
  rintro e w2 ⟨⟨k, j, hk, rfl, r2⟩ | ⟨hk, ⟨t, s, rfl⟩, j, r2⟩, g2⟩
  rotate_left
  · have END := (show Hid (_ ∧ _ ∧ _) from ⟨(by unfold rdM; rw [hk] : rdM xs nm i = none), r2, g2⟩)
    clear hk r2 g2
    go_wp2
    exact ⟨rfl, .inr ⟨END.out.1, ⟨_, _, rfl⟩, _, END.out.2.1⟩, END.out.2.2⟩
  obtain ⟨_, SC⟩ := str_cell (OwnS.sv (HO.out w2 g2))
  obtain ⟨d0, d1, d2, d3, d4, _, _, _⟩ := r2.five
  have hl2 := r2.lt
  have R2 := (show Hid (_ ∧ _) from And.intro r2 g2)
  by_cases hlt : k < nm.length
  · obtain ⟨bb, oo, rfl, lbb, cs⟩ := SC k hlt
    have HM := (show Hid (rdM xs nm i = some (nm[k], j)) from (by unfold rdM; rw [hk]; simp only [if_pos hlt]; simp [List.getD_eq_getElem?_getD, hlt] : rdM xs nm i = some (nm[k], j)))
    have hki : (k : Int) < (nm.length : Int) := by omega
    have hd : decide ((k : Int) < (nm.length : Int)) = true := by simp; omega
    clear hk r2 g2 SC
    go_wp2_with fail
    go_at_call 135
    refine (need_yes _).mono ?_
    rintro e w4 ⟨rfl, ew⟩
    replace ew := ew.symm
    subst ew
    go_wp2
    go_ret
    exact ⟨.inl ⟨_, _, HM.out, rfl, R2.out.1⟩, R2.out.2⟩
  · have HM := (show Hid (rdM xs nm i = none) from (by unfold rdM; rw [hk]; simp only [if_neg hlt] : rdM xs nm i = none))
    have hd : decide ((k : Int) < (nm.length : Int)) = false := by simp; omega
    clear hk r2 g2 SC
    go_wp2_with fail
    go_at_call 135
    refine (need_no _).mono ?_
    rintro e w4 ⟨⟨t, s, rfl⟩, ew⟩
    replace ew := ew.symm
    subst ew
    go_wp2
    exact ⟨rfl, .inr ⟨HM.out, ⟨_, _, rfl⟩, _, R2.out.1⟩, R2.out.2⟩
end Go.Proofs.YtogdbjafibejdaaGreat

/- The program's packer: node (written by mk/ipk3.py). No condition. -/
namespace Go.Proofs.YtogdbjafibejdaaGreat
open Go.RowKit Go.Maps
set_option maxRecDepth 100000
set_option linter.unusedVariables false

def PkD (w0 w : World) (K N M : Nat) (nm : List ByteArray) (P : Nat) (row : Array Value) (out : List Int) (W : World) : Prop :=
  PkI w0 K N M nm out W ∧ BytFr w0.heap.size K w W ∧ W.heap[P]? = some (.cells row 36 (0, 0)) ∧ P ≠ K
theorem PkD.next {w0 w : World} {K N M : Nat} {nm : List ByteArray} {P : Nat} {row : Array Value} {out out2 : List Int} {W W' : World} (h : PkD w0 w K N M nm P row out W) (h2 : PkI w0 K N M nm out2 W') (f : BytFr w0.heap.size K W W') : PkD w0 w K N M nm P row out2 W' :=
  ⟨h2, h.2.1.trans f, f.box h.2.2.1 (by decide) h.2.2.2, h.2.2.2⟩
theorem PkI.below {w0 : World} {K N M : Nat} {nm : List ByteArray} {out : List Int} {W W' : World} (h : PkI w0 K N M nm out W) (b : Below W.heap.size W W') : PkI w0 K N M nm out W' := by
  obtain ⟨h1, h2, h3, v, h4, h5⟩ := h
  exact ⟨h1, h2.trans (b.mono h2.size), h3.below b, v, (b.block _ (blk_lt h4)).trans h4, Own.below h5 b⟩
theorem PkI.lt {w0 : World} {K N M : Nat} {nm : List ByteArray} {out : List Int} {W : World} (h : PkI w0 K N M nm out W) : K < W.heap.size := by
  obtain ⟨_, _, _, v, h4, _⟩ := h
  exact blk_lt h4
theorem PkD.box {w0 w : World} {K N M : Nat} {nm : List ByteArray} {P : Nat} {row : Array Value} {out : List Int} {W : World} (h : PkD w0 w K N M nm P row out W) (o : Obj) : PkD w0 w K N M nm P row out (W.alloc o) := by
  have b : Below W.heap.size W (W.alloc o) := (Below.refl _ _).alloc (Nat.le_refl _) _
  exact h.next (h.1.below b) (BytFr.of_below b)

set_option maxHeartbeats 8000000 in
set_option maxRecDepth 100000 in
theorem ipkNode_any {w0 w : World} {K N M : Nat} {nm : List ByteArray} {out : List Int} {n : PNode} {av : Value} {p1 : Option Addr} {p3 : Nat} (h : PkI w0 K N M nm out w) (hav : Sv 2 w0 av (pairCells n.attrs)) (t : Tells nm n) (sm : SmallN n) (hsn : ∀ s ∈ nm, s.size ≤ 3000) (hnl : nm.length ≤ 10500) (hl : out.length ≤ 70000000) :
    Calls Tryz.prog 131 #[.pointer (some ⟨K, 0, none⟩), .agg #[.int .i64 n.kind, .string n.name, av, .string n.text, .int .i64 n.parent, .slice p1 n.kids.length p3]] w fun e w' => e = .returned (.tuple #[]) ∧ PkI w0 K N M nm (out ++ nodeF nm n) w' ∧ BytFr w0.heap.size K w w' := by
  obtain ⟨y1, y3, rfl, ha1, ha2, ha3⟩ := hav.pair
  have HSM := (show Hid (SmallN n) from sm)
  have HTL := (show Hid (Tells nm n) from t)
  have hkk := t.kind
  have hkl := t.kids
  have hal := sm.rs
  obtain ⟨X0, hX0⟩ : ∃ X, X = out := ⟨_, rfl⟩
  rw [← hX0] at h hl ⊢
  clear hX0 out
  obtain ⟨nk, nn, na, nt, np, nks⟩ := n
  simp only at ha1 ha3 hkk hkl hal ⊢
  have A3 := (show Hid _ from ha3)
  have hKl := h.lt
  obtain ⟨w2, hw2⟩ : ∃ q, q = w.alloc (.cells #[.int .i64 nk, .string nn, .slice y1 na.length y3, .string nt, .int .i64 np, .slice p1 nks.length p3] 36) := ⟨_, rfl⟩
  have b2 : Below w.heap.size w w2 := by rw [hw2]; exact (Below.refl _ _).alloc (Nat.le_refl _) _
  have g2 : w2.heap[w.heap.size]? = some (.cells #[.int .i64 nk, .string nn, .slice y1 na.length y3, .string nt, .int .i64 np, .slice p1 nks.length p3] 36 (0, 0)) := by rw [hw2]; exact World.alloc_heap_new _ _
  have N0 := (show Hid (PkD w0 w K N M nm w.heap.size #[.int .i64 nk, .string nn, .slice y1 na.length y3, .string nt, .int .i64 np, .slice p1 nks.length p3] X0 w2) from ⟨h.below b2, BytFr.of_below b2, g2, by omega⟩)
  obtain ⟨⟨n0, n1, n2, n3, n4, n5⟩, _⟩ := six_at g2
  have lP := blk_lt g2
  clear ha3 hav h b2 g2 hKl sm t
  go_enter Tryz.func131, Tryz.ntmps131
  go_wp2_with fail
  rw [← hw2]
  clear hw2
  go_at_call 129
  refine Calls.mono (ipkNum_any N0.out.1 nk (by omega) (by omega) (by omega)) ?_
  rintro e wa1 ⟨rfl, ha1, fa1⟩
  obtain ⟨X1, hX1⟩ : ∃ X, X = X0 ++ form nk := ⟨_, rfl⟩
  rw [← hX1] at ha1
  have hlf1 : (form nk).length ≤ 10000 := by exact Nat.le_trans (form_len _) (by omega)
  have hl1 : X1.length ≤ (X0).length + 10000 := by rw [hX1, List.length_append]; omega
  have N1 := (show Hid _ from PkD.next N0.out ha1 fa1)
  have HX1 := (show Hid _ from hX1)
  clear n0 n1 n2 n3 n4 n5 N0 ha1 fa1 hX1 hlf1
  obtain ⟨⟨n0, n1, n2, n3, n4, n5⟩, _⟩ := six_at N1.out.2.2.1
  have lP1 := blk_lt N1.out.2.2.1
  go_wp2_with fail
  go_at_call 129
  refine Calls.mono (ipkNum_any N1.out.1 (nks.length : Nat) (by omega) (by omega) (by omega)) ?_
  rintro e wa2 ⟨rfl, ha2, fa2⟩
  obtain ⟨X2, hX2⟩ : ∃ X, X = X1 ++ form (nks.length : Nat) := ⟨_, rfl⟩
  rw [← hX2] at ha2
  have hlf2 : (form (nks.length : Nat)).length ≤ 10000 := by exact Nat.le_trans (form_len _) (by omega)
  have hl2 : X2.length ≤ (X1).length + 10000 := by rw [hX2, List.length_append]; omega
  have N2 := (show Hid _ from PkD.next N1.out ha2 fa2)
  have HX2 := (show Hid _ from hX2)
  clear n0 n1 n2 n3 n4 n5 N1 ha2 fa2 hX2 hlf2
  obtain ⟨⟨n0, n1, n2, n3, n4, n5⟩, _⟩ := six_at N2.out.2.2.1
  have lP2 := blk_lt N2.out.2.2.1
  by_cases e1 : nk = 1
  · subst e1
    have HE := (show Hid (X0 ++ nodeF nm (⟨1, nn, na, nt, np, nks⟩ : PNode) = X2) from (by rw [HX2.out, HX1.out]; simp [nodeF, restF] : X0 ++ nodeF nm (⟨1, nn, na, nt, np, nks⟩ : PNode) = X2))
    go_wp2
    go_end0
    rw [HE.out]
    exact ⟨rfl, N2.out.1, N2.out.2.1⟩
  by_cases e2 : nk = 2
  · subst e2
    go_wp2_with fail
    go_at_call 168
    refine Calls.mono (ipkName_any N2.out.1 (HTL.out.name (by simp)) (by have := hsn _ (HTL.out.name (by simp)); simp only at this; omega) (by omega) (by omega)) ?_
    rintro e wa3 ⟨rfl, ha3, fa3⟩
    obtain ⟨X3, hX3⟩ : ∃ X, X = X2 ++ form (fndS nm nn) := ⟨_, rfl⟩
    rw [← hX3] at ha3
    have hlf3 : (form (fndS nm nn)).length ≤ 10000 := by exact Nat.le_trans (form_len _) (by omega)
    have hl3 : X3.length ≤ (X2).length + 10000 := by rw [hX3, List.length_append]; omega
    have N3 := (show Hid _ from PkD.next N2.out ha3 fa3)
    have HX3 := (show Hid _ from hX3)
    clear n0 n1 n2 n3 n4 n5 N2 ha3 fa3 hX3 hlf3
    obtain ⟨⟨n0, n1, n2, n3, n4, n5⟩, _⟩ := six_at N3.out.2.2.1
    have lP3 := blk_lt N3.out.2.2.1
    have HE := (show Hid (X0 ++ nodeF nm (⟨2, nn, na, nt, np, nks⟩ : PNode) = X3) from (by rw [HX3.out, HX2.out, HX1.out]; simp [nodeF, restF] : X0 ++ nodeF nm (⟨2, nn, na, nt, np, nks⟩ : PNode) = X3))
    go_wp2
    go_end0
    rw [HE.out]
    exact ⟨rfl, N3.out.1, N3.out.2.1⟩
  by_cases e3 : nk = 3
  · subst e3
    go_wp2_with fail
    go_at_call 168
    refine Calls.mono (ipkName_any N2.out.1 (HTL.out.name (by simp)) (by have := hsn _ (HTL.out.name (by simp)); simp only at this; omega) (by omega) (by omega)) ?_
    rintro e wa3 ⟨rfl, ha3, fa3⟩
    obtain ⟨X3, hX3⟩ : ∃ X, X = X2 ++ form (fndS nm nn) := ⟨_, rfl⟩
    rw [← hX3] at ha3
    have hlf3 : (form (fndS nm nn)).length ≤ 10000 := by exact Nat.le_trans (form_len _) (by omega)
    have hl3 : X3.length ≤ (X2).length + 10000 := by rw [hX3, List.length_append]; omega
    have N3 := (show Hid _ from PkD.next N2.out ha3 fa3)
    have HX3 := (show Hid _ from hX3)
    clear n0 n1 n2 n3 n4 n5 N2 ha3 fa3 hX3 hlf3
    obtain ⟨⟨n0, n1, n2, n3, n4, n5⟩, _⟩ := six_at N3.out.2.2.1
    have lP3 := blk_lt N3.out.2.2.1
    go_wp2_with fail
    go_at_call 129
    refine Calls.mono (ipkNum_any N3.out.1 (na.length : Nat) (by omega) (by omega) (by omega)) ?_
    rintro e wa4 ⟨rfl, ha4, fa4⟩
    obtain ⟨X4, hX4⟩ : ∃ X, X = X3 ++ form (na.length : Nat) := ⟨_, rfl⟩
    rw [← hX4] at ha4
    have hlf4 : (form (na.length : Nat)).length ≤ 10000 := by exact Nat.le_trans (form_len _) (by omega)
    have hl4 : X4.length ≤ (X3).length + 10000 := by rw [hX4, List.length_append]; omega
    have N4 := (show Hid _ from PkD.next N3.out ha4 fa4)
    have HX4 := (show Hid _ from hX4)
    clear n0 n1 n2 n3 n4 n5 N3 ha4 fa4 hX4 hlf4
    obtain ⟨⟨n0, n1, n2, n3, n4, n5⟩, _⟩ := six_at N4.out.2.2.1
    have lP4 := blk_lt N4.out.2.2.1
    have M4 := (show Hid (PkD w0 w K N M nm w.heap.size #[.int .i64 3, .string nn, .slice y1 na.length y3, .string nt, .int .i64 np, .slice p1 nks.length p3] (X4 ++ (na.take 0).flatMap (attrF nm)) wa4) from (by rw [List.take_zero, List.flatMap_nil, List.append_nil]; exact N4.out : PkD w0 w K N M nm w.heap.size #[.int .i64 3, .string nn, .slice y1 na.length y3, .string nt, .int .i64 np, .slice p1 nks.length p3] (X4 ++ (na.take 0).flatMap (attrF nm)) wa4))
    clear N4
    go_upto_region 10 with fail
    clear n0 n1 n2 n3 n4 n5
    go_loopw [37] (fun i wx => ∃ (j : Nat), j ≤ na.length ∧ i = .int .i64 j ∧ Hid (PkD w0 w K N M nm w.heap.size #[.int .i64 3, .string nn, .slice y1 na.length y3, .string nt, .int .i64 np, .slice p1 nks.length p3] (X4 ++ (na.take j).flatMap (attrF nm)) wx)) (fun i _ => na.length - (intOf i).toNat)
    case atStart => exact ⟨0, Nat.zero_le _, rfl, M4⟩
    case round =>
      clear M4
      obtain ⟨j, hj, rfl, J⟩ := hrel
      have hla := attrsF_small (nm := nm) HSM.out j
      simp only at hla
      by_cases hjt : j < na.length
      · obtain ⟨bb, oo, rfl, l1, t1, t2⟩ := A3.out j hjt
        replace t1 := (J.out.1.2.1.cell (p := ⟨bb, oo + j * 2, none⟩) l1).trans t1
        replace t2 := (J.out.1.2.1.cell (p := ⟨bb, oo + j * 2 + 1, none⟩) l1).trans t2
        have lbb : bb < wr.heap.size := Nat.lt_of_lt_of_le l1 J.out.1.2.1.size
        have HTJ := (show Hid ((na.take (j + 1)).flatMap (attrF nm) = (na.take j).flatMap (attrF nm) ++ attrF nm na[j]) from (by rw [List.take_succ_eq_append_getElem hjt, List.flatMap_append, List.flatMap_singleton] : (na.take (j + 1)).flatMap (attrF nm) = (na.take j).flatMap (attrF nm) ++ attrF nm na[j]))
        have hpa := HTL.out.attrs (by simp) _ (List.getElem_mem hjt)
        have hsz := HSM.out.each _ (List.getElem_mem hjt)
        obtain ⟨p, hp⟩ : ∃ p, p = na[j] := ⟨_, rfl⟩
        rw [← hp] at t1 t2 HTJ
        have hpa' : na[j].1 ∈ nm := hpa.1
        have hsz' : attrOk na[j] = true := hsz
        clear hpa hsz
        rw [← hp] at hpa' hsz'
        obtain ⟨pa, pv⟩ := p
        unfold attrOk at hsz'
        simp only [Bool.and_eq_true, inB, decide_eq_true_eq] at hsz'
        simp only at hpa' t1 t2
        have hpv : pv.size ≤ 3000 := by omega
        have hpn : pa.size ≤ 3000 := by omega
        have HPA := (show Hid (pa ∈ nm) from hpa')
        have hji : (j : Int) < (na.length : Int) := by omega
        clear hp hsz' hpa' l1
        obtain ⟨X5, hX5⟩ : ∃ X5, X5 = X4 ++ (na.take j).flatMap (attrF nm) := ⟨_, rfl⟩
        have hl5 : X5.length ≤ X4.length + 60360 := by rw [hX5, List.length_append]; omega
        rw [← hX5] at J
        have HX5 := (show Hid _ from hX5)
        clear hX5 hla
        obtain ⟨w5, hw5⟩ : ∃ z, z = wr.alloc (.cells #[.string pa, .string pv] 115) := ⟨_, rfl⟩
        have N5 := (show Hid (PkD w0 w K N M nm w.heap.size #[.int .i64 3, .string nn, .slice (some ⟨bb, oo, none⟩) na.length y3, .string nt, .int .i64 np, .slice p1 nks.length p3] X5 w5) from (by rw [hw5]; exact PkD.box J.out _ : PkD w0 w K N M nm w.heap.size #[.int .i64 3, .string nn, .slice (some ⟨bb, oo, none⟩) na.length y3, .string nt, .int .i64 np, .slice p1 nks.length p3] X5 w5))
        have g5 : w5.heap[wr.heap.size]? = some (.cells #[.string pa, .string pv] 115 (0, 0)) := by rw [hw5]; exact World.alloc_heap_new _ _
        have hAK : wr.heap.size ≠ K := by have := PkI.lt J.out.1; omega
        have G5 := (show Hid _ from g5)
        obtain ⟨q0, q1, _, _⟩ := two_cells g5
        have lq := blk_lt g5
        obtain ⟨A, hA⟩ : ∃ A, A = wr.heap.size := ⟨_, rfl⟩
        rw [← hA] at q0 q1 G5 lq hAK
        clear g5 J
        go_upto_region 12 with fail
        rw [← hw5, ← hA]
        clear hw5 hA t1 t2 lbb
        go_wp2_with fail
        go_at_call 168
        refine Calls.mono (ipkName_any N5.out.1 HPA.out (by omega) (by omega) (by omega)) ?_
        rintro e w6 ⟨rfl, ha6, fa6⟩
        obtain ⟨X6, hX6⟩ : ∃ X, X = X5 ++ form (fndS nm pa) := ⟨_, rfl⟩
        rw [← hX6] at ha6
        have hl6 : X6.length ≤ X5.length + 9 := by have := form_len (fndS nm pa); rw [hX6, List.length_append]; omega
        have N6 := (show Hid _ from PkD.next N5.out ha6 fa6)
        have g6 := fa6.box G5.out (by decide) hAK
        have HX6 := (show Hid _ from hX6)
        clear q0 q1 N5 G5 ha6 fa6 hX6
        obtain ⟨q0, q1, _, _⟩ := two_cells g6
        have lq6 := blk_lt g6
        clear g6
        go_wp2_with fail
        go_at_call 130
        refine Calls.mono (ipkText_any N6.out.1 pv (by omega) (by omega)) ?_
        rintro e w7 ⟨rfl, ha7, fa7⟩
        have N7 := (show Hid _ from PkD.next N6.out ha7 fa7)
        clear q0 q1 N6 ha7 fa7
        have HE := (show Hid (X4 ++ (na.take (j + 1)).flatMap (attrF nm) = X6 ++ textForm pv) from (by rw [HTJ.out, ← List.append_assoc, ← HX5.out, HX6.out]; simp [attrF] : X4 ++ (na.take (j + 1)).flatMap (attrF nm) = X6 ++ textForm pv))
        go_wp2
        go_roundw
        case rel => exact ⟨j + 1, by omega, by go_num, by rw [HE.out]; exact N7.out⟩
        case measure => simp [intOf]; omega
      · obtain rfl : j = na.length := by omega
        have HE := (show Hid (X0 ++ nodeF nm (⟨3, nn, na, nt, np, nks⟩ : PNode) = X4 ++ (na.take na.length).flatMap (attrF nm)) from (by rw [HX4.out, HX3.out, HX2.out, HX1.out, List.take_length]; simp [nodeF, restF] : X0 ++ nodeF nm (⟨3, nn, na, nt, np, nks⟩ : PNode) = X4 ++ (na.take na.length).flatMap (attrF nm)))
        go_wp2
        go_end0
        rw [HE.out]
        exact ⟨rfl, J.out.1, J.out.2.1⟩
  by_cases e4 : nk = 4
  · subst e4
    go_wp2_with fail
    go_at_call 130
    refine Calls.mono (ipkText_any N2.out.1 nt (by have := HSM.out.tx; simp only at this; omega) (by omega)) ?_
    rintro e wa3 ⟨rfl, ha3, fa3⟩
    obtain ⟨X3, hX3⟩ : ∃ X, X = X2 ++ textForm nt := ⟨_, rfl⟩
    rw [← hX3] at ha3
    have hlf3 : (textForm nt).length ≤ 10000 := by have h := textForm_len nt; have h2 := HSM.out.tx; simp only at h2; omega
    have hl3 : X3.length ≤ (X2).length + 10000 := by rw [hX3, List.length_append]; omega
    have N3 := (show Hid _ from PkD.next N2.out ha3 fa3)
    have HX3 := (show Hid _ from hX3)
    clear n0 n1 n2 n3 n4 n5 N2 ha3 fa3 hX3 hlf3
    obtain ⟨⟨n0, n1, n2, n3, n4, n5⟩, _⟩ := six_at N3.out.2.2.1
    have lP3 := blk_lt N3.out.2.2.1
    have HE := (show Hid (X0 ++ nodeF nm (⟨4, nn, na, nt, np, nks⟩ : PNode) = X3) from (by rw [HX3.out, HX2.out, HX1.out]; simp [nodeF, restF] : X0 ++ nodeF nm (⟨4, nn, na, nt, np, nks⟩ : PNode) = X3))
    go_wp2
    go_end0
    rw [HE.out]
    exact ⟨rfl, N3.out.1, N3.out.2.1⟩
  obtain rfl : nk = 5 := by omega
  go_wp2_with fail
  go_at_call 130
  refine Calls.mono (ipkText_any N2.out.1 nt (by have := HSM.out.tx; simp only at this; omega) (by omega)) ?_
  rintro e wa3 ⟨rfl, ha3, fa3⟩
  obtain ⟨X3, hX3⟩ : ∃ X, X = X2 ++ textForm nt := ⟨_, rfl⟩
  rw [← hX3] at ha3
  have hlf3 : (textForm nt).length ≤ 10000 := by have h := textForm_len nt; have h2 := HSM.out.tx; simp only at h2; omega
  have hl3 : X3.length ≤ (X2).length + 10000 := by rw [hX3, List.length_append]; omega
  have N3 := (show Hid _ from PkD.next N2.out ha3 fa3)
  have HX3 := (show Hid _ from hX3)
  clear n0 n1 n2 n3 n4 n5 N2 ha3 fa3 hX3 hlf3
  obtain ⟨⟨n0, n1, n2, n3, n4, n5⟩, _⟩ := six_at N3.out.2.2.1
  have lP3 := blk_lt N3.out.2.2.1
  have HE := (show Hid (X0 ++ nodeF nm (⟨5, nn, na, nt, np, nks⟩ : PNode) = X3) from (by rw [HX3.out, HX2.out, HX1.out]; simp [nodeF, restF] : X0 ++ nodeF nm (⟨5, nn, na, nt, np, nks⟩ : PNode) = X3))
  go_wp2
  go_end0
  rw [HE.out]
  exact ⟨rfl, N3.out.1, N3.out.2.1⟩
end Go.Proofs.YtogdbjafibejdaaGreat

/- The specification's l7Below, by the plain reader. No condition. -/
namespace Go.Proofs.YtogdbjafibejdaaGreat
open Go.RowKit
set_option maxRecDepth 100000
set_option linter.unusedVariables false

def room500 (n : Nat) : Bool := n != 500
theorem room500_fit (n : Nat) (h : n ≤ 500) (hr : room500 n = true) : n + 1 ≤ 500 := by
  unfold room500 at hr
  simp at hr
  omega
def BelE (R : Option (List PNode × Nat)) (B : Nat) (w : World) (e : Ending) (w' : World) : Prop :=
  ((∃ u qs j, R = some (qs.map (fun q => q.1), j) ∧ e = .returned (.tuple #[u, .int .i64 (j : Nat), .bool true]) ∧ OwnQ B w' u qs ∧ Apart qs) ∨
    (∃ u1 u2 u3 k, R = none ∧ e = .returned (.tuple #[.slice u1 u2 u3, .int .i64 k, .bool false]))) ∧ TidFr B w w'

set_option maxHeartbeats 8000000 in
set_option maxRecDepth 100000 in
theorem sl7Below_any {w0 : World} {v nv : Value} {xs : List Int} {nm : List ByteArray} (h : Sl .u8 w0 v xs) (hb : ∀ x ∈ xs, 0 ≤ x ∧ x ≤ 255) (hn : xs.length ≤ 20000) (hs : Sv 1 w0 nv (nm.map Value.string)) (hnl : nm.length ≤ 1000000000000) (hfs : FitS xs.length nm) :
    ∀ (f i : Nat) (me : Int) (B : Nat) (w : World) (ov : Value) (qs : List (PNode × (Value × Value))), xs.length < f + i → i ≤ xs.length → w0.heap.size ≤ B → Below w0.heap.size w0 w → B ≤ w.heap.size → OwnQ B w ov qs → Apart qs → qs.length ≤ 500 → (∀ n ∈ qs.map (fun q => q.1), ReadN xs.length n ∧ n.kids.length ≤ i + 1) → qs.length ≤ i →
      Calls Tryz.prog 97 #[v, .int .i64 (i : Int), .int .i64 me, nv, ov] w fun e w' => BelE (rdN xs nm false room500 f me (qs.map (fun q => q.1)) i) B w e w' := by
  have HB := (show Hid _ from hb)
  have HFS := (show Hid _ from hfs)
  have CN := (show Hid (∀ W (i : Nat), Below w0.heap.size w0 W → Calls Tryz.prog 142 #[v, .int .i64 (i : Int), nv] W fun e w' => NodE xs nm i W e w') from fun W i b => sl7Node_any (h.below b) hb hn (hs.below b) hnl hfs)
  obtain ⟨a, ca, rfl, _, _, _, _⟩ := h
  obtain ⟨sa, sn, sc, rfl⟩ : ∃ a n c, nv = .slice a n c := by obtain ⟨a, n, c, e, _⟩ := hs; exact ⟨a, n, c, e⟩
  clear hb hs hfs
  intro f
  induction f using Nat.strongRecOn with
  | ind f ih =>
  intro i me B w ov qs hf hi hB0 hbw hB hO hA hlen hrl hfew
  have HRL := (show Hid _ from hrl)
  clear hrl
  have IH := (show Hid _ from ih)
  have HO := (show Hid (OwnQ B w ov qs) from hO)
  have HA := (show Hid (Apart qs) from hA)
  have HBW := (show Hid (Below w0.heap.size w0 w) from hbw)
  have HF := (show Hid _ from hf)
  have HI := (show Hid _ from hi)
  obtain ⟨oa, ocap, rfl⟩ : ∃ a c, ov = .slice a qs.length c := by
    rcases hO.1.2 with ⟨e, h0⟩ | ⟨g, c, cur, e, _⟩
    · exact ⟨none, 0, by rw [e, h0]⟩
    · exact ⟨_, _, e⟩
  obtain ⟨ii, hii, hzi0, hzi1, hzi2⟩ := info_parts Tryz.infoIntRow
  obtain ⟨iN, hiN, hzN0, hzN1, hzN2⟩ := info_parts Tryz.infoNodeRow
  clear ih hO hA hbw hf hi
  go_enter Tryz.func97, Tryz.ntmps97
  go_wp2_with fail
  go_at_call 142
  refine Calls.mono (CN.out w i HBW.out) ?_
  rintro e w3 ⟨hor, b3⟩
  have B3 := (show Hid _ from b3)
  rcases hor with ⟨n, kd, j0, av, h1, rfl, oav⟩ | ⟨k, s, a1, a2, a3, t, p, k1, j1, h1, rfl⟩
  rotate_left
  · have HR := (show Hid (rdN xs nm false room500 f me (qs.map (fun q => q.1)) i = none) from rdN_no1 h1)
    have FR := (show Hid (TidFr B w (w3.alloc (.cells #[.int .i64 k, .string s, .slice a1 a2 a3, .string t, .int .i64 p, .slice none 0 0] 36))) from TidFr.of_below (b3.trans ((Below.refl _ _).alloc (Nat.le_refl _) _ |>.mono b3.size)))
    clear h1 b3
    go_wp2
    go_ret3
    exact ⟨.inr ⟨_, _, _, _, HR.out, rfl⟩, FR.out⟩
  have e1 := rdOne_some HB.out HFS.out h1
  have H1 := (show Hid (rdOne xs nm false i = some (n, kd, j0)) from h1)
  have OAV := (show Hid (w3.ownsRow w.heap.size 115 2 av n.attrs.length (pairCells n.attrs)) from oav)
  obtain ⟨v1, v2, v3, rfl⟩ := own_slice oav
  obtain ⟨w4, hw4⟩ : ∃ z, z = w3.alloc (.cells #[.int .i64 n.kind, .string n.name, .slice v1 v2 v3, .string n.text, .int .i64 (-1), .slice none 0 0] 36) := ⟨_, rfl⟩
  have b4 : Below w3.heap.size w3 w4 := by rw [hw4]; exact (Below.refl _ _).alloc (Nat.le_refl _) _
  have g4 : w4.heap[w3.heap.size]? = some (.cells #[.int .i64 n.kind, .string n.name, .slice v1 v2 v3, .string n.text, .int .i64 (-1), .slice none 0 0] 36 (0, 0)) := by rw [hw4]; exact World.alloc_heap_new _ _
  obtain ⟨P, hP⟩ : ∃ P, P = w3.heap.size := ⟨_, rfl⟩
  have B4 := (show Hid (Below w.heap.size w w4) from b3.trans (b4.mono b3.size))
  have OA4 := (show Hid (w4.ownsRow w.heap.size 115 2 (.slice v1 v2 v3) n.attrs.length (pairCells n.attrs)) from ownsRow_below oav b4)
  rw [← hP] at g4
  have hwP : w.heap.size ≤ P := by rw [hP]; exact b3.size
  have G4 := (show Hid _ from g4)
  obtain ⟨⟨n0, n1, n2, n3, n4, n5⟩, ⟨x0, x1, x2, x3, x4, x5⟩⟩ := six_at g4
  have lP := blk_lt g4
  obtain ⟨nk, nn, na, nt, np, nks⟩ := n
  have hpar := e1.2.2.2.1
  have hkids := e1.2.2.2.2.1
  have hrs := e1.2.2.1.rs
  simp only at hpar hkids hrs G4 n0 n1 n2 n3 n4 n5 OA4
  subst hpar hkids
  have hj0 : i + 2 ≤ j0 ∧ j0 ≤ xs.length := ⟨e1.1, e1.2.1⟩
  have hkd := e1.2.2.2.2.2
  clear h1 e1 b3 oav b4 g4 OAV
  go_upto_region 2 with fail
  rw [← hw4, ← hP]
  clear hw4 hP
  by_cases hfull : qs.length = 500
  · have hff : (qs.length : Int) = 500 := by omega
    have HR := (show Hid (rdN xs nm false room500 f me (qs.map (fun q => q.1)) i = none) from rdN_no2 (by rw [List.length_map, hfull]; decide))
    have FR := (show Hid (TidFr B w w4) from TidFr.of_below B4.out)
    clear hfull
    go_wp2
    go_ret3
    exact ⟨.inr ⟨_, _, _, _, HR.out, rfl⟩, FR.out⟩
  have hff : ((qs.length : Int) == 500) = false := by simp; omega
  have hroom : room500 (qs.map (fun q => q.1)).length = true := by rw [List.length_map]; unfold room500; simp [hfull]
  have HR := (show Hid (rdN xs nm false room500 f me (qs.map (fun q => q.1)) i = rdB xs nm false room500 f kd (qs.map (fun q => q.1)).length (qs.map (fun q => q.1) ++ [linkN ⟨nk, nn, na, nt, -1, []⟩ me []]) j0) from rdN_is hroom H1.out)
  have h499 : qs.length ≤ 499 := by omega
  obtain ⟨W8, hW8⟩ : ∃ x, x = w4.setCell ⟨P, 4, none⟩ (.int .i64 me) := ⟨_, rfl⟩
  have g8 : W8.heap[P]? = some (.cells #[.int .i64 nk, .string nn, .slice v1 v2 v3, .string nt, .int .i64 me, .slice none 0 0] 36 (0, 0)) := by rw [hW8]; exact setCell_at (k := 4) (u := .int .i64 me) G4.out
  have gr8 : w4.grownBy W8 (some P) := by rw [hW8]; exact grown_setCell _ _ _ _
  have b8 : Below w.heap.size w W8 := B4.out.grown gr8 B4.out.size (fun r e => by cases e; exact hwP)
  have o8 : W8.ownsRow w.heap.size 115 2 (.slice v1 v2 v3) na.length (pairCells na) := kept_of_type OA4.out gr8 (fun r e => by cases e; exact ⟨_, _, _, G4.out, by decide⟩)
  obtain ⟨qn, hqn⟩ : ∃ z : PNode × (Value × Value), z = (⟨nk, nn, na, nt, me, []⟩, (.slice v1 v2 v3, .slice none 0 0)) := ⟨_, rfl⟩
  have hrow : (#[.int .i64 nk, .string nn, .slice v1 v2 v3, .string nt, .int .i64 me, .slice none 0 0] : Array Value) = (nodeRow qn.1 qn.2).toArray := by rw [hqn]; rfl
  have x9 : (W8.alloc (.cells #[.int .i64 nk, .string nn, .slice v1 v2 v3, .string nt, .int .i64 me, .slice none 0 0] 36)).heap[W8.heap.size]? = some (.cells (nodeRow qn.1 qn.2).toArray 36 (0, 0)) := by rw [← hrow]; exact World.alloc_heap_new _ _
  have b9 : Below W8.heap.size W8 (W8.alloc (.cells #[.int .i64 nk, .string nn, .slice v1 v2 v3, .string nt, .int .i64 me, .slice none 0 0] 36)) := (Below.refl _ _).alloc (Nat.le_refl _) _
  have HQN := (show Hid (_ ∧ _) from (by rw [hqn]; exact ⟨ownsRow_below (ownsRow_base o8 hB) b9, own_nil _ _ _ _⟩ : (W8.alloc (.cells #[.int .i64 nk, .string nn, .slice v1 v2 v3, .string nt, .int .i64 me, .slice none 0 0] 36)).ownsRow B 115 2 qn.2.1 qn.1.attrs.length (pairCells qn.1.attrs) ∧ Own B 3 .i64 (W8.alloc (.cells #[.int .i64 nk, .string nn, .slice v1 v2 v3, .string nt, .int .i64 me, .slice none 0 0] 36)) qn.2.2 qn.1.kids))
  have HO8 := (show Hid _ from (HO.out.below b8).below b9)
  have HSV := (show Hid _ from sv_oneNode x9)
  have HONE := (show Hid _ from node_oneCell HQN.out)
  have HB9 := (show Hid _ from b9)
  have HB8 := (show Hid (Below w.heap.size w W8) from b8)
  have HAP := (show Hid (Apart (qs ++ [qn])) from apart_snoc HA.out (fun g e q hq e2 => by rw [hqn] at e; cases e))
  have HL0 := (show Hid (ReadL xs (qs.map (fun q => q.1) ++ [linkN ⟨nk, nn, na, nt, -1, []⟩ me []]) j0) from ReadL.of_snoc HB.out HFS.out H1.out HRL.out (by rw [List.length_map]; exact hfew) me)
  have HQM := (show Hid (qn.1 = linkN ⟨nk, nn, na, nt, -1, []⟩ me []) from (by rw [hqn]; rfl : qn.1 = linkN ⟨nk, nn, na, nt, -1, []⟩ me []))
  have hs8 : B ≤ W8.heap.size := Nat.le_trans hB b8.size
  have GX := (show Hid _ from g8)
  obtain ⟨⟨k0, k1, k2, k3, k4, k5⟩, _⟩ := six_at g8
  have lX := blk_lt g8
  clear gr8 b8 g8 o8 hrow x9 b9 OA4 G4 B4
  go_upto_region 6 with fail
  rw [← hW8]
  clear hW8 n0 n1 n2 n3 n4 n5 x0 x1 x2 x3 x4 x5 lP
  go_upto_region 7 with (first
    | (at_builtin
       refine wpList_appV _ rfl (.tmp 39) (.tmp 41) 24 rfl B 36 iN _ 6 96 Tryz.underlying24 hiN hzN0 hzN1 hzN2 rfl (by decide) (.slice oa qs.length ocap) (.slice (some ⟨W8.heap.size, 0, none⟩) 1 1) qs.length 1 (nodeCells qs) (nodeRow qn.1 qn.2) rfl rfl HO8.out.1 HSV.out rfl HONE.out (by omega) (by unfold maxLen; omega) (by rw [World.size_alloc]; omega) ?_
       intro v9 w9 o9 g9)
    | fail)
  have o10 := OwnQ.snoc HO8.out HQN.out o9 g9
  obtain ⟨g, gc, hv9, hgB, hgl⟩ := o10.form (by simp)
  rw [show (qs ++ [qn]).length = qs.length + 1 by simp] at hv9
  subst hv9
  have f9 : TidFr B w w9 := ((TidFr.of_below HB8.out).trans (TidFr.of_below HB9.out)).trans (TidFr.of_row HO8.out.1 g9)
  have O10 := (show Hid _ from o10)
  have F9 := (show Hid _ from f9)
  have M9 := (show Hid ((qs ++ [qn]).map (fun q => q.1) = qs.map (fun q => q.1) ++ [linkN ⟨nk, nn, na, nt, -1, []⟩ me []]) from (by rw [List.map_append, List.map_singleton, HQM.out] : (qs ++ [qn]).map (fun q => q.1) = qs.map (fun q => q.1) ++ [linkN ⟨nk, nn, na, nt, -1, []⟩ me []]))
  clear o9 g9 o10 f9 HO8 HQN HB8 HB9 GX HSV HONE hgB hgl k0 k1 k2 k3 k4 k5 lX
  rw [List.length_map] at HR
  obtain ⟨R, hR⟩ : ∃ R, R = rdN xs nm false room500 f me (qs.map (fun q => q.1)) i := ⟨_, rfl⟩
  rw [← hR] at HR
  have HRE := (show Hid (rdN xs nm false room500 f me (qs.map (fun q => q.1)) i = R) from hR.symm)
  have HRR := (show Hid (R = rdB xs nm false room500 f kd (qs.length : Nat) (qs.map (fun q => q.1) ++ [linkN ⟨nk, nn, na, nt, -1, []⟩ me []]) j0) from HR.out)
  clear hR HR
  go_upto_region 8 with fail
  go_loopw [1, 4, 15, 17] (fun at' lv o i' wr => ∃ (q j f' : Nat) (qj : List (PNode × (Value × Value))), q ≤ kd ∧ at' = .int .i64 (j : Int) ∧ o = .bool true ∧ i' = .int .i64 (q : Int) ∧ (∃ g gc, lv = .slice (some ⟨g, 0, none⟩) qj.length gc) ∧ Hid (OwnQ B wr lv qj) ∧ Hid (Apart qj) ∧ Hid (TidFr B w wr) ∧ Hid (rdB xs nm false room500 f' (kd - q) (qs.length : Nat) (qj.map (fun q => q.1)) j = R ∧ xs.length + 1 < f' + j ∧ f' ≤ f ∧ ReadL xs (qj.map (fun q => q.1)) j ∧ qs.length < qj.length ∧ qj.length ≤ 500)) (fun _ _ _ i' _ => kd - (intOf i').toNat)
  case atStart => exact ⟨0, j0, f, qs ++ [qn], Nat.zero_le _, rfl, rfl, rfl, ⟨g, gc, by simp⟩, O10, HAP, F9, by
    rw [M9.out, Nat.sub_zero]
    have := HF.out
    exact ⟨HRR.out.symm, by omega, Nat.le_refl _, HL0.out, by simp, by simp; omega⟩⟩
  case round =>
    obtain ⟨q, j, f', qj, hq, rfl, rfl, rfl, ⟨g', gc', rfl⟩, OJ, AJ, FJ, EJ⟩ := hrel
    clear O10 HAP M9 F9 HO HA HRR
    by_cases hlt : q < kd
    rotate_left
    · obtain rfl : q = kd := by omega
      have HE := (show Hid (R = some (qj.map (fun q => q.1), j)) from (by have := EJ.out.1; rw [Nat.sub_self, rdB_zero] at this; exact this.symm : R = some (qj.map (fun q => q.1), j)))
      go_wp2
      go_ret3
      exact ⟨.inl ⟨_, qj, _, HRE.out.trans HE.out, rfl, OJ.out, AJ.out⟩, FJ.out⟩
    have hqi : (q : Int) < (kd : Int) := by omega
    obtain ⟨h1, h2, h3, h4, h5, h6⟩ := EJ.out
    have hmost := h4.most
    obtain ⟨f1, rfl⟩ : ∃ f1, f' = f1 + 1 := ⟨f' - 1, by omega⟩
    obtain ⟨k1, hk1⟩ : ∃ k1, kd - q = k1 + 1 := ⟨kd - q - 1, by omega⟩
    have hk2 : kd - (q + 1) = k1 := by omega
    rw [hk1] at h1
    have HST := (show Hid _ from rdB_step h1)
    have hp : qs.length < qj.length := h5
    have hpi : (qs.length : Int) < (qj.length : Int) := by omega
    have hown := (OJ.out.2 qj[qs.length] (List.getElem_mem hp)).2
    have c5 : wr.cell? ⟨g', qs.length * 6 + 5, none⟩ = some qj[qs.length].2.2 := OJ.out.cellAt (j := 5) hp (by omega)
    obtain ⟨u1, u2, u3, hk⟩ := own_slice hown
    obtain ⟨ys, hys⟩ : ∃ ys, ys = qj[qs.length].1.kids := ⟨_, rfl⟩
    rw [← hys] at hown
    have bd : Below wr.heap.size wr (wr.alloc (.cells #[.int .i64 (qj.length : Int)] 3)) := (Below.refl _ wr).alloc (Nat.le_refl _) _
    have BD := (show Hid _ from bd)
    have OD := (show Hid (Own B 3 .i64 (wr.alloc (.cells #[.int .i64 (qj.length : Int)] 3)) (.slice u1 u2 u3) ys) from by rw [← hk]; exact hown.below bd)
    have SD := (show Hid (Sl .i64 (wr.alloc (.cells #[.int .i64 (qj.length : Int)] 3)) (.slice (some ⟨wr.heap.size, 0, none⟩) 1 1) [(qj.length : Int)]) from sl_one 3 .i64 wr (qj.length : Int))
    rw [hk] at c5
    have HKE := (show Hid (qj[qs.length].2.2 = .slice u1 u2 u3) from hk)
    have HYS := (show Hid (ys = qj[qs.length].1.kids) from hys)
    have hyl : ys.length ≤ 1000000 := by
      have h7 := h4.node qj[qs.length].1 (List.mem_map_of_mem (List.getElem_mem hp))
      have h8 := h4.most
      rw [hys]
      omega
    have hgl2 : g' < wr.heap.size := (World.ownsRow.lt OJ.out.1 g' rfl).2
    have hBW : B ≤ wr.heap.size := Nat.le_trans hB FJ.out.size
    have c5a : ∀ X, (wr.alloc X).cell? ⟨g', qs.length * 6 + 5, none⟩ = some (.slice u1 u2 u3) := fun X => (((Below.refl _ wr).alloc (Nat.le_refl _) X).cell (p := ⟨g', qs.length * 6 + 5, none⟩) hgl2).trans c5
    have E6 := (show Hid (xs.length + 1 < f1 + 1 + j ∧ f1 + 1 ≤ f ∧ j ≤ xs.length ∧ qj.length ≤ 500) from ⟨h2, h3, h4.most, h6⟩)
    have L6 := (show Hid (ReadL xs (qj.map (fun q => q.1)) j) from h4)
    clear hown hk hys bd h1 h2 h3 h4 h6 EJ
    go_upto_region 11 with (first
      | (at_builtin
         refine wpList_appW _ rfl (.tmp 54) (.tmp 57) 34 rfl B 3 ii _ 8 Tryz.underlying34 hii hzi0 hzi1 hzi2 rfl .i64 (.slice u1 u2 u3) ys ⟨wr.heap.size, 0, none⟩ 1 [(qj.length : Int)] rfl rfl OD.out SD.out (by simp; omega) (by unfold maxLen; simp; omega) (Nat.le_trans hBW BD.out.size) ?_
         intro v9 w9 o9 g9 r9
         obtain ⟨v1, v2, v3, rfl⟩ := own_slice o9
         have M9 := (show Hid (MoreW B g' qs.length (.slice (some ⟨g', 0, none⟩) qj.length gc') qj (ys ++ [(qj.length : Int)]) wr (w9.setCell ⟨g', qs.length * 6 + 5, none⟩ (.slice v1 v2 v3))) from moreW_mk OJ.out AJ.out hp BD.out (by rw [HKE.out]; exact g9) o9 (by rw [HKE.out]; exact r9))
         have t9 : w9.heap[g']? = (wr.alloc (Obj.cells #[.int .i64 (qj.length : Int)] 3)).heap[g']? := by
           obtain ⟨cur, hcur⟩ := OwnQ.rowCells OJ.out
           refine g9.block g' (Nat.lt_of_lt_of_le hgl2 BD.out.size) (fun e => ?_)
           have ho := (OJ.out.2 qj[qs.length] (List.getElem_mem hp)).2
           rw [HKE.out] at ho
           rcases ho.2 with ⟨e1, _⟩ | ⟨g2, cap', cur', e1, _, hh', _⟩
           · rw [e1] at e; cases e
           · rw [e1] at e
             simp only [Value.ownBlock, Option.some.injEq] at e
             subst e
             rw [hcur] at hh'
             cases hh'
         have l5 : w9.cell? ⟨g', qs.length * 6 + 5, none⟩ = some (.slice u1 u2 u3) := by
           rw [← (BD.out.cell (p := ⟨g', qs.length * 6 + 5, none⟩) hgl2).trans c5]; simp only [World.cell?, t9]
         have f5 : w9.frozen? ⟨g', qs.length * 6 + 5, none⟩ = false := by
           have := OwnQ.frozenAt (OJ.out.below BD.out) (qs.length * 6 + 5)
           rw [← this]; simp only [World.frozen?, t9]
         clear o9 g9 r9 t9)
      | fail)
    obtain ⟨W12, hW12⟩ : ∃ z, z = w9.setCell ⟨g', qs.length * 6 + 5, none⟩ (.slice v1 v2 v3) := ⟨_, rfl⟩
    rw [← hW12] at M9 ⊢
    obtain ⟨qk, mk, ok, ak, tk⟩ := M9.out
    have fk := TidFr.of_turn OJ.out tk
    have F12 := (show Hid (TidFr B w W12) from FJ.out.trans fk)
    have B12 := (show Hid (Below w0.heap.size w0 W12) from HBW.out.trans ((F12.out.below hB).mono hB0))
    have hkl : qk.length = qj.length := by have := congrArg List.length mk; simpa using this
    have O12 := (show Hid (OwnQ B W12 (.slice (some ⟨g', 0, none⟩) qj.length gc') qk) from ok)
    have A12 := (show Hid (Apart qk) from ak)
    have M12 := (show Hid (qk.map (fun q => q.1) = kidAdd (qj.map (fun q => q.1)) (qs.length : Nat)) from (by
      rw [mk]
      refine kidAdd_is (fun a ha => ?_) (by simp)
      rw [List.getElem?_map, List.getElem?_eq_getElem hp] at ha
      simp only [Option.map_some, Option.some.injEq] at ha
      rw [← ha, HYS.out] : qk.map (fun q => q.1) = kidAdd (qj.map (fun q => q.1)) (qs.length : Nat)))
    have HKL := (show Hid (qk.length = qj.length) from hkl)
    have hs12 : B ≤ W12.heap.size := Nat.le_trans hB F12.out.size
    clear mk ok ak tk fk hkl hW12 M9 c5 c5a l5 f5 OD SD BD HKE HYS hyl
    go_wp2_with fail
    go_at_call 97
    refine (IH.out f1 (by have := E6.out; omega) j (qs.length : Nat) B W12 _ qk (by have := E6.out; omega) E6.out.2.2.1 hB0 B12.out hs12 O12.out A12.out (by rw [HKL.out]; exact E6.out.2.2.2) (by rw [M12.out]; exact kidAdd_read L6.out.node _) (by have := L6.out.few; rw [List.length_map] at this; rw [HKL.out]; exact this)).mono ?_
    rintro e w13 ⟨hor, f13⟩
    rw [M12.out] at hor
    rcases hor with ⟨u, q13, j13, h13, rfl, o13, a13⟩ | ⟨x1, x2, x3, x4, h13, rfl⟩
    rotate_left
    · have HE := (show Hid (R = none) from HST.out.2 h13)
      have FE := (show Hid (TidFr B w w13) from F12.out.trans f13)
      clear h13 f13
      go_wp2
      go_ret3
      exact ⟨.inr ⟨_, _, _, _, HRE.out.trans HE.out, rfl⟩, FE.out⟩
    have hle := rdN_le HB.out HFS.out room500_fit h13 (by rw [kidAdd_len, List.length_map]; exact E6.out.2.2.2)
    rw [kidAdd_len, List.length_map, List.length_map] at hle
    obtain ⟨g13, c13, rfl, _, _⟩ := o13.form (by omega)
    have R13 := (show Hid _ from HST.out.1 _ _ h13)
    have L13 := (show Hid (ReadL xs (q13.map (fun q => q.1)) j13) from (rdN_some HB.out HFS.out h13 (kidAdd_read L6.out.node _) (by rw [kidAdd_len]; exact L6.out.few)).1)
    have O13 := (show Hid (OwnQ B w13 (.slice (some ⟨g13, 0, none⟩) q13.length c13) q13) from o13)
    have A13 := (show Hid (Apart q13) from a13)
    have F13 := (show Hid (TidFr B w w13) from F12.out.trans f13)
    clear o13 a13 f13 h13
    go_wp2
    go_roundw
    case rel => exact ⟨q + 1, j13, f1, q13, by omega, rfl, rfl, by go_num, ⟨g13, c13, rfl⟩, O13, A13, F13, by
      rw [hk2]
      have := E6.out
      exact ⟨R13.out, by omega, by omega, L13.out, by omega, hle.2.2.2⟩⟩
    case measure => simp [intOf]; omega
end Go.Proofs.YtogdbjafibejdaaGreat
