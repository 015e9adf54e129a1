/- The specification's l6TidyOf. No condition. -/
import Derived.Test.YtogdbjafibejdaaGreatY38
namespace Go.Proofs.YtogdbjafibejdaaGreat
open Go.RowKit
set_option maxRecDepth 100000
set_option linter.unusedVariables false

set_option maxHeartbeats 2000000 in
set_option maxRecDepth 100000 in
theorem stidyOf_any {w : World} {v : Value} {ns : List PNode} (hn : NodesAt w v ns) (hfit : ∀ n ∈ ns, NodeFit n) (hlen : ns.length ≤ 1048576) {f : Nat} (hd : deepOk ns f 0) (hsz : (down ns f 0).length ≤ 100000) :
    Calls Tryz.prog 86 #[.agg #[v]] w fun e w' => ∃ u qs, e = .returned (.agg #[u]) ∧ OwnQ w.heap.size w' u qs ∧ Apart qs ∧ qs.map (fun q => q.1) = tdL ns f 0 (-1) 0 ∧ Below w.heap.size w w' := by
  obtain ⟨a, cap, rfl, _, _, _⟩ := hn.slice
  obtain ⟨w3, hw3⟩ : ∃ x, x = ((w.alloc (.cells #[.slice a ns.length cap] 26)).alloc (.cells #[.slice none 0 0] 26)).alloc (.cells #[] 36) := ⟨_, rfl⟩
  have b3 : Below w.heap.size w w3 := by rw [hw3]; exact (((Below.refl _ w).alloc (Nat.le_refl _) _).alloc (by simp) _).alloc (by simp; omega) _
  have o3 : OwnQ w.heap.size w3 (.slice (some ⟨w.heap.size + 1 + 1, 0, none⟩) 0 0) [] := by
    refine ⟨?_, fun q hq => by cases hq⟩
    rw [hw3]
    have := empty_row ((w.alloc (.cells #[.slice a ns.length cap] 26)).alloc (.cells #[.slice none 0 0] 26)) w.heap.size 36 6 (by simp; omega)
    rwa [World.size_alloc, World.size_alloc] at this
  have g3 : w3.heap[w.heap.size + 1]? = some (.cells #[.slice none 0 0] 26 (0, 0)) := by
    rw [hw3, Below.heap_alloc _ _ _ (by simp)]
    have := World.alloc_heap_new (w.alloc (.cells #[.slice a ns.length cap] 26)) (.cells #[.slice none 0 0] 26)
    rwa [World.size_alloc] at this
  have hs3 : w.heap.size ≤ w3.heap.size := b3.size
  have C0 := stidy_any hn hfit hlen f 0 hd (-1) w.heap.size w3 _ [] (Nat.le_refl _) b3 hs3 o3 apart_nil (by simpa using hsz)
  rw [show (((0 : Nat) : Nat) : Int) = 0 from rfl] at C0
  have C := (show Hid _ from C0)
  have G3 := (show Hid _ from g3)
  have B3 := (show Hid _ from b3)
  clear b3 o3 g3 hs3 hn hfit hlen hd hsz C0
  go_enter Tryz.func86, Tryz.ntmps86
  go_wp2_with fail
  rw [← hw3]
  go_at_call 132
  refine Calls.mono C.out ?_
  rintro e w4 ⟨u, rfl, qs, o4, a4, m4, f4⟩
  obtain ⟨ua, un, uc, hu⟩ := own_slice o4.1
  have g4 := f4.box G3.out (by decide) (by decide)
  obtain ⟨c4, z4⟩ := one_cell g4
  have hl4 := blk_lt g4
  have gs : (w4.setCell ⟨w.heap.size + 1, 0, none⟩ u).heap[w.heap.size + 1]? = some (.cells #[u] 26 (0, 0)) := setCell_at (k := 0) (u := u) g4
  have o5 : OwnQ w.heap.size (w4.setCell ⟨w.heap.size + 1, 0, none⟩ u) u qs := o4.kept (grown_setCell _ _ _ _) (fun r e => by cases e; exact ⟨_, _, _, g4, by decide, by decide, by decide⟩)
  have b5 : Below w.heap.size w (w4.setCell ⟨w.heap.size + 1, 0, none⟩ u) := (B3.out.trans (f4.below B3.out.size)).setCell (p := ⟨w.heap.size + 1, 0, none⟩) (by show w.heap.size ≤ w.heap.size + 1; omega) _
  have R := (show Hid _ from And.intro o5 (And.intro a4 (And.intro m4 b5)))
  have GS := (show Hid _ from gs)
  clear o4 a4 m4 f4 g4 gs o5 b5 C hw3
  subst hu
  go_wp2
  refine bodyPost_ret (results_cell_row rfl _ _ (w.heap.size + 1) 26 _ (0, 0) _ rfl GS.out Tryz.underlying26 rfl rfl) rfl ?_
  exact ⟨_, qs, rfl, R.out.1, R.out.2.1, R.out.2.2.1, R.out.2.2.2⟩
end Go.Proofs.YtogdbjafibejdaaGreat
