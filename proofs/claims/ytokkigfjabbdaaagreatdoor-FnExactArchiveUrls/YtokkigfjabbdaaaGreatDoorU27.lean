/- What a law on disks and bytes holds while it goes on, by lists. No condition. -/
import Derived.Test.YtokkigfjabbdaaaGreatDoorU26
import Derived.Test.YtokkigfjabbdaaaGreatDoorU19
import Derived.Test.YtokkigfjabbdaaaGreatDoorU0
namespace Go.Proofs.YtokkigfjabbdaaaGreatDoor
open Go.RowKit
set_option maxRecDepth 100000
set_option linter.unusedVariables false

/-- A disk of the call's own; what is empty may have no room. -/
def OwnDy (B : Nat) (w : World) (v : Value) (d : PDisk) : Prop := ∃ sa sn sc la ln lc, v = .agg #[.slice sa sn sc, .slice la ln lc] ∧ OwnY B 9 1 w (.slice sa sn sc) d.safe.length (strCells d.safe) ∧ OwnY B 88 2 w (.slice la ln lc) d.late.length (putCells d.late)
theorem OwnDy.of {B : Nat} {w : World} {v : Value} {d : PDisk} (h : OwnDz B w v d) : OwnDy B w v d := by
  obtain ⟨sa, sn, sc, la, ln, lc, e, h1, h2⟩ := h
  exact ⟨sa, sn, sc, la, ln, lc, e, .of h1, .of h2⟩
theorem OwnDz.of {B : Nat} {w : World} {v : Value} {d : PDisk} (h : OwnDk B w v d) : OwnDz B w v d := by
  obtain ⟨sa, sn, sc, la, ln, lc, e, h1, h2⟩ := h
  exact ⟨sa, sn, sc, la, ln, lc, e, .inl h1, .inl h2⟩
theorem OwnDy.at {B : Nat} {w : World} {v : Value} {d : PDisk} (h : OwnDy B w v d) : DiskAt w v d := by
  obtain ⟨sa, sn, sc, la, ln, lc, e, h1, h2⟩ := h
  exact ⟨sa, sn, sc, la, ln, lc, e, h1.sv, h2.sv⟩
theorem OwnDy.below {B : Nat} {w w' : World} {v : Value} {d : PDisk} (h : OwnDy B w v d) (b : Below w.heap.size w w') : OwnDy B w' v d := by
  obtain ⟨sa, sn, sc, la, ln, lc, e, h1, h2⟩ := h
  exact ⟨sa, sn, sc, la, ln, lc, e, h1.below b, h2.below b⟩
theorem OwnY.row {row : Option Nat} {B e size n : Nat} {w w' : World} {v : Value} {xs : List Value} (h : w.grownBy w' row) (ho : OwnY B e size w v n xs) (hr : ∀ j, zB v = some j → some j ≠ row) : OwnY B e size w' v n xs := by
  rcases ho with ho | ⟨ho, g, m, c, rfl⟩
  · exact .inl ho
  · refine .inr ⟨ho.kept h (.inr fun er => ?_), g, m, c, rfl⟩
    exact hr g rfl er
/-- A block of another kind is turned. -/
theorem OwnDy.turned {B : Nat} {w w' : World} {v : Value} {d : PDisk} {r : Option Nat} (h : OwnDy B w v d) (g : w.grownBy w' r) (hr : ∀ j, r = some j → ∃ cs t fr, w.heap[j]? = some (.cells cs t fr) ∧ t ≠ 9 ∧ t ≠ 88) : OwnDy B w' v d := by
  obtain ⟨sa, sn, sc, la, ln, lc, e, h1, h2⟩ := h
  refine ⟨sa, sn, sc, la, ln, lc, e, h1.row g (fun j hj er => ?_), h2.row g (fun j hj er => ?_)⟩
  · obtain ⟨cs, t, fr, k1, k2, k3⟩ := hr j er.symm
    obtain ⟨c2, f2, k⟩ := h1.kind hj
    rw [k1] at k; cases k; exact k2 rfl
  · obtain ⟨cs, t, fr, k1, k2, k3⟩ := hr j er.symm
    obtain ⟨c2, f2, k⟩ := h2.kind hj
    rw [k1] at k; cases k; exact k3 rfl
/-- The blocks of a disk's rows lie below 'hi'. -/
def hiD (hi : Nat) (v : Value) : Prop := ∀ a b, v = .agg #[a, b] → (∀ j, zB a = some j → j < hi) ∧ (∀ j, zB b = some j → j < hi)
theorem OwnDy.hi {B : Nat} {w : World} {v : Value} {d : PDisk} (h : OwnDy B w v d) : hiD w.heap.size v := by
  obtain ⟨sa, sn, sc, la, ln, lc, e, h1, h2⟩ := h
  intro a b e'
  rw [e] at e'; cases e'
  exact ⟨fun j hj => (h1.lt j hj).2, fun j hj => (h2.lt j hj).2⟩
/-- A disk as it is marked. -/
def markDk (d : PDisk) : PDisk := ⟨markStrs 1 d.safe.length, markPuts (1 + d.safe.length) d.late.length⟩

/-- The listed blocks, disks and rows of bytes, in a world that is w with more. -/
structure Lw (w : World) (L : List (Nat × Array Value × TypeId)) (R : List (Nat × Nat × Value × PDisk)) (Y : List (Nat × Nat × Value × List Int)) (W : World) : Prop where
  hl : Hl w L W
  rows : ∀ r ∈ R, OwnDy r.1 W r.2.2.1 r.2.2.2 ∧ hiD r.2.1 r.2.2.1
  bys : ∀ y ∈ Y, Own y.1 5 .u8 W y.2.2.1 y.2.2.2 ∧ ∀ k, y.2.2.1.ownBlock = some k → k < y.2.1
theorem lawK_open1 : (0 : Nat) = 0 := rfl
section
variable {w : World} {L : List (Nat × Array Value × TypeId)} {R : List (Nat × Nat × Value × PDisk)} {Y : List (Nat × Nat × Value × List Int)} {W W' : World}
theorem Lw.refl (w : World) : Lw w [] [] [] w := ⟨.refl w, fun r hr => by simp at hr, fun r hr => by simp at hr⟩
theorem Lw.below (h : Lw w L R Y W) (b : Below W.heap.size W W') : Lw w L R Y W' := ⟨h.hl.below b, fun r hr => ⟨(h.rows r hr).1.below b, (h.rows r hr).2⟩, fun y hy => ⟨(h.bys y hy).1.below b, (h.bys y hy).2⟩⟩
theorem Lw.new (h : Lw w L R Y W) (cs : Array Value) (t : TypeId) : Lw w ((W.heap.size, cs, t) :: L) R Y (W.alloc (.cells cs t)) := by
  have hb : Below W.heap.size W (W.alloc (.cells cs t)) := (Below.refl _ _).alloc (Nat.le_refl _) _
  exact ⟨h.hl.new cs t, (h.below hb).rows, (h.below hb).bys⟩
theorem Lw.add {lo : Nat} {v : Value} {d : PDisk} (h : Lw w L R Y W) (o : OwnDy lo W v d) : Lw w L ((lo, W.heap.size, v, d) :: R) Y W := ⟨h.hl, fun r hr => by
    rcases List.mem_cons.mp hr with rfl | hr
    · exact ⟨o, o.hi⟩
    · exact h.rows r hr, h.bys⟩
theorem Lw.addY {lo : Nat} {v : Value} {xs : List Int} (h : Lw w L R Y W) (o : Own lo 5 .u8 W v xs) : Lw w L R ((lo, W.heap.size, v, xs) :: Y) W := ⟨h.hl, h.rows, fun r hr => by
    rcases List.mem_cons.mp hr with rfl | hr
    · exact ⟨o, fun k hk => (o.lt k hk).2⟩
    · exact h.bys r hr⟩
theorem Lw.tail {p : Nat × Array Value × TypeId} (h : Lw w (p :: L) R Y W) : Lw w L R Y W := ⟨h.hl.tail, h.rows, h.bys⟩
theorem Lw.sub {L' : List (Nat × Array Value × TypeId)} {R' : List (Nat × Nat × Value × PDisk)} {Y' : List (Nat × Nat × Value × List Int)} (h : Lw w L R Y W) (h1 : ∀ p ∈ L', p ∈ L) (h2 : ∀ p ∈ R', p ∈ R) (h3 : ∀ p ∈ Y', p ∈ Y) : Lw w L' R' Y' W := ⟨h.hl.sub h1, fun r hr => h.rows r (h2 r hr), fun r hr => h.bys r (h3 r hr)⟩
/-- A block of a struct's is turned; what is listed besides it is kept. -/
theorem Lw.past (h : Lw w L R Y W) {N k : Nat} {u : Value} {cs : Array Value} {t : TypeId} {fr : Nat × Nat} (hN : W.heap[N]? = some (.cells cs t fr)) (hw : w.heap.size ≤ N) (hL : ∀ p ∈ L, p.1 ≠ N) (t1 : t ≠ 9) (t2 : t ≠ 88) (t3 : t ≠ 5) : Lw w L R Y (W.setCell ⟨N, k, none⟩ u) :=
  ⟨h.hl.past (grown_setCell _ _ _ _) (fun r e => by cases e; exact ⟨hw, hL⟩),
   fun r hr => ⟨(h.rows r hr).1.turned (grown_setCell _ _ _ _) (fun j e => by cases e; exact ⟨_, _, _, hN, t1, t2⟩), (h.rows r hr).2⟩,
   fun y hy => ⟨rk_set (h.bys y hy).1 hN t3, (h.bys y hy).2⟩⟩
theorem Lw.set {N : Nat} {cs : Array Value} {t : TypeId} (h : Lw w ((N, cs, t) :: L) R Y W) (hw : w.heap.size ≤ N) (hL : ∀ p ∈ L, p.1 ≠ N) (t1 : t ≠ 9) (t2 : t ≠ 88) (t3 : t ≠ 5) (k : Nat) (u : Value) : Lw w ((N, cs.setIfInBounds k u, t) :: L) R Y (W.setCell ⟨N, k, none⟩ u) := by
  have h' := h.tail.past (k := k) (u := u) h.hl.at0 hw hL t1 t2 t3
  exact ⟨h.hl.set hw hL k u, h'.rows, h'.bys⟩
theorem Lw.set2 {N : Nat} {x y : Value} (h : Lw w ((N, #[x, y], 35) :: L) R Y W) (hw : w.heap.size ≤ N) (hL : ∀ p ∈ L, p.1 ≠ N) (a b : Value) : Lw w ((N, #[a, b], 35) :: L) R Y ((W.setCell ⟨N, 0, none⟩ a).setCell ⟨N, 1, none⟩ b) :=
  (h.set hw hL (by decide) (by decide) (by decide) 0 a).set hw hL (by decide) (by decide) (by decide) 1 b
/-- A disk is marked: the others are kept. -/
theorem Lw.mkD {lo hi : Nat} {v : Value} {d : PDisk} (h : Lw w L ((lo, hi, v, d) :: R) Y W) (hf : DiskFit d) (hlo : w.heap.size ≤ lo) (hR : ∀ r ∈ R, r.2.1 ≤ lo ∨ hi ≤ r.1) (hL : ∀ p ∈ L, p.2.2 ≠ 9 ∧ p.2.2 ≠ 88) :
    Calls Tryz.prog 41 #[v, .int .i64 1] W fun e W' => e = .returned (.int .i64 (1 + d.safe.length + 2 * d.late.length)) ∧ Lw w L ((lo, hi, v, markDk d) :: R) Y W' := by
  obtain ⟨⟨sa, sn, sc, la, ln, lc, e, h1, h2⟩, hh⟩ := h.rows _ (List.mem_cons_self ..)
  simp only at e h1 h2 hh
  subst e
  obtain ⟨g1, g2⟩ := hh _ _ rfl
  refine (markDisk_Y h1 h2 hf).mono ?_
  rintro e W' ⟨rfl, m1, m2, fr⟩
  refine ⟨rfl, ⟨h.hl.1.trans (fr.below h.hl.1.size (fun j e => by have := (h1.lt j e).1; omega) (fun j e => by have := (h2.lt j e).1; omega)), fun p hp => fr.varY h1 h2 rfl rfl (h.hl.2 p hp) (hL p hp).1 (hL p hp).2⟩, fun r hr => ?_, fun y hy => ?_⟩
  · rcases List.mem_cons.mp hr with rfl | hr'
    · refine ⟨⟨sa, sn, sc, la, ln, lc, rfl, ?_, ?_⟩, hh⟩
      · show OwnY _ _ _ _ _ (markStrs 1 d.safe.length).length _
        rw [markStrs_len]; exact m1
      · show OwnY _ _ _ _ _ (markPuts (1 + d.safe.length) d.late.length).length _
        rw [markPuts_len]; exact m2
    · obtain ⟨⟨xa, xn, xc, ya, yn, yc, e, o1, o2⟩, ho⟩ := h.rows r (List.mem_cons_of_mem _ hr')
      obtain ⟨k1, k2⟩ := ho _ _ e
      refine ⟨⟨xa, xn, xc, ya, yn, yc, e, fr.rowY o1 (fun j e e2 => ?_) (fun j e e2 => ?_), fr.rowY o2 (fun j e e2 => ?_) (fun j e e2 => ?_)⟩, ho⟩
      · rcases hR r hr' with q | q
        · have := k1 j e; have := (h1.lt j e2.symm).1; omega
        · have := (o1.lt j e).1; have := g1 j e2.symm; omega
      · rcases hR r hr' with q | q
        · have := k1 j e; have := (h2.lt j e2.symm).1; omega
        · have := (o1.lt j e).1; have := g2 j e2.symm; omega
      · rcases hR r hr' with q | q
        · have := k2 j e; have := (h1.lt j e2.symm).1; omega
        · have := (o2.lt j e).1; have := g1 j e2.symm; omega
      · rcases hR r hr' with q | q
        · have := k2 j e; have := (h2.lt j e2.symm).1; omega
        · have := (o2.lt j e).1; have := g2 j e2.symm; omega
  · refine ⟨fr.row (h.bys y hy).1 (fun j e e2 => ?_) (fun j e e2 => ?_), (h.bys y hy).2⟩
    · obtain ⟨c1, f1, q1⟩ := rk_kind (h.bys y hy).1 e
      obtain ⟨c2, f2, q2⟩ := h1.kind e2.symm
      rw [q1] at q2; cases q2
    · obtain ⟨c1, f1, q1⟩ := rk_kind (h.bys y hy).1 e
      obtain ⟨c2, f2, q2⟩ := h2.kind e2.symm
      rw [q1] at q2; cases q2
theorem lawK_end2 : (0 : Nat) = 0 := rfl
end
theorem OwnDy.base {B B' : Nat} {w : World} {v : Value} {d : PDisk} (h : OwnDy B w v d) (hB : B' ≤ B) : OwnDy B' w v d := by
  obtain ⟨sa, sn, sc, la, ln, lc, e, h1, h2⟩ := h
  have f : ∀ {e size n : Nat} {v : Value} {xs : List Value}, OwnY B e size w v n xs → OwnY B' e size w v n xs := fun h => by
    rcases h with h | ⟨h, k⟩
    · exact .inl h
    · exact .inr ⟨rk_base h hB, k⟩
  exact ⟨sa, sn, sc, la, ln, lc, e, f h1, f h2⟩
theorem size_set2 (W : World) (p q : Addr) (a b : Value) : W.heap.size ≤ ((W.setCell p a).setCell q b).heap.size := by simp [World.setCell]
theorem size_new (W : World) (o : Obj) : W.heap.size ≤ (W.alloc o).heap.size := by rw [World.size_alloc]; omega
theorem lawK_open3 : (0 : Nat) = 0 := rfl
section
variable {w : World} {L : List (Nat × Array Value × TypeId)} {R : List (Nat × Nat × Value × PDisk)} {Y : List (Nat × Nat × Value × List Int)} {W : World}
theorem Lw.toD {v : Value} {d : PDisk} (h : Lw w L R Y W) (hd : DiskAt w v d) (hf : DiskFit d) : Calls Tryz.prog 32 #[v] W fun e W' => ∃ sa sn sc la ln lc, e = .returned (.agg #[.slice sa sn sc, .slice la ln lc]) ∧ Lw w L R Y W' ∧ OwnDy W.heap.size W' (.agg #[.slice sa sn sc, .slice la ln lc]) d ∧ Below W.heap.size W W' := by
  refine (toDisk_any (hd.below h.hl.1) hf).mono ?_
  rintro e W' ⟨v', rfl, o, b⟩
  have o' := OwnDy.of (OwnDz.of o)
  obtain ⟨sa, sn, sc, la, ln, lc, rfl, _⟩ := o
  exact ⟨_, _, _, _, _, _, rfl, h.below b, o', b⟩
theorem Lw.eqD {u v : Value} {d : PDisk} (h : Lw w L R Y W) (hu : DiskAt W u d) (hv : DiskAt W v d) (hf : DiskFit d) : Calls Tryz.prog 36 #[u, v] W fun e W' => e = .returned (.bool true) ∧ Lw w L R Y W' ∧ Below W.heap.size W W' := by
  refine (eqDisk_any hu hv hf hf).mono ?_
  rintro e W' ⟨rfl, b⟩
  exact ⟨by rw [same_dk], h.below b, b⟩
theorem Lw.heldD {v : Value} {d : PDisk} (h : Lw w L R Y W) (hv : DiskAt W v (markDk d)) (hf : DiskFit d) : Calls Tryz.prog 48 #[v, .int .i64 1] W fun e W' => e = .returned (.int .i64 (1 + d.safe.length + 2 * d.late.length)) ∧ Lw w L R Y W' ∧ Below W.heap.size W W' := by
  obtain ⟨sa, sn, sc, la, ln, lc, rfl, h1, h2⟩ := hv
  refine (heldDisk_any h1 h2 hf.sl hf.ll).mono ?_
  rintro e W' ⟨rfl, b⟩
  exact ⟨rfl, h.below b, b⟩
theorem lawK_end : (0 : Nat) = 0 := rfl
end
end Go.Proofs.YtokkigfjabbdaaaGreatDoor
