/- The program's elementKind, specialSet, isOfKind and the seven kinds (written by mk/ikind2.py). -/
import Derived.Test.YthdfhckmgneioaaGreatIKind1
namespace Go.Proofs.YthdfhckmgneioaaGreat
open Go.RowKit Go.Maps
set_option maxRecDepth 100000
set_option linter.unusedVariables false

/-- The datum D is a set of the names that f tells. -/
def SetF (D : DataW Unit) (f : ByteArray → Bool) : Prop := IsMap D ∧ ∀ s : ByteArray, has D (.string s.data.toList) = f s
/-- A set of the names that f tells, in a block of the call's own. -/
def Kept (w : World) (f : ByteArray → Bool) (b : Nat) (w' : World) : Prop := ∃ m D, m ≤ 1000 ∧ w.heap.size ≤ b ∧ w'.ownsMap Tryz.prog 9 unitElem b m D ∧ SetF D f ∧ Below w.heap.size w w'

def RowOk (w : World) (p : Nat × List ByteArray) : Prop := p.1 < w.heap.size ∧ Txt w p.1 p.2 ∧ p.2.length ≤ 100 ∧ ∀ s ∈ p.2, s.size ≤ 100
theorem Txt.below {w w' : World} {B g : Nat} {xs : List ByteArray} (h : Txt w g xs) (hb : Below B w w') (hg : g < B) : Txt w' g xs :=
  fun j hj => (hb.cell hg).trans (h j hj)
theorem RowOk.below {w w' : World} {p : Nat × List ByteArray} (h : RowOk w p) (hb : Below w.heap.size w w') : RowOk w' p :=
  ⟨Nat.lt_of_lt_of_le h.1 hb.size, h.2.1.below hb h.1, h.2.2⟩

theorem small_formats : formats.length ≤ 100 ∧ ∀ s ∈ formats, s.size ≤ 100 := by decide
theorem small_blocks : blocks.length ≤ 100 ∧ ∀ s ∈ blocks, s.size ≤ 100 := by decide
theorem small_headings : headings.length ≤ 100 ∧ ∀ s ∈ headings, s.size ≤ 100 := by decide
theorem small_heads : heads.length ≤ 100 ∧ ∀ s ∈ heads, s.size ≤ 100 := by decide
theorem small_otherSpecials : otherSpecials.length ≤ 100 ∧ ∀ s ∈ otherSpecials, s.size ≤ 100 := by decide
theorem small_implieds : implieds.length ≤ 100 ∧ ∀ s ∈ implieds, s.size ≤ 100 := by decide
theorem small_bounds : bounds.length ≤ 100 ∧ ∀ s ∈ bounds, s.size ≤ 100 := by decide

theorem alloc_size9 (w : World) (o : Obj) : (w.alloc o).heap.size = w.heap.size + 1 := by simp

theorem rows_alloc {w : World} (ps : List (Nat × List ByteArray)) (h : ∀ p ∈ ps, RowOk w p) (cs : Array Value) (t : TypeId)
    (hcs : cs.toList = ps.map fun p => Value.slice (some ⟨p.1, 0, none⟩) p.2.length p.2.length) : Rows (w.alloc (.cells cs t)) w.heap.size ps := by
  refine ⟨by simp, fun k hk => ?_⟩
  obtain ⟨r1, r2, r3, r4⟩ := (h ps[k] (List.getElem_mem hk)).below ((Below.refl w.heap.size w).alloc (Nat.le_refl _) (.cells cs t))
  refine ⟨?_, r1, r2, r3, r4⟩
  have e2 : cs[k]? = some (.slice (some ⟨ps[k].1, 0, none⟩) ps[k].2.length ps[k].2.length) := by
    have : cs.toList[k]? = some (.slice (some ⟨ps[k].1, 0, none⟩) ps[k].2.length ps[k].2.length) := by rw [hcs]; simp [hk]
    simpa using this
  simp only [World.cell?, heap_alloc_new]
  simpa using e2

theorem SetOf.setF {D : DataW Unit} {ps : List (Nat × List ByteArray)} (h : SetOf D (allOf ps)) {xs : List ByteArray} (e : allOf ps = xs) : SetF D (hasB xs) := ⟨h.1, by rw [← e]; exact h.2⟩

def specialF (s : ByteArray) : Bool := hasB (blocks ++ (headings ++ (heads ++ otherSpecials))) s && (!(s.toList == dialogB.toList) && !(s.toList == searchB.toList))

theorem SetF.del {D : DataW Unit} {f : ByteArray → Bool} (h : SetF D f) {D' : DataW Unit} (t : ByteArray) (hi : IsMap D') (e : D' = D.del (.string t.data.toList)) : SetF D' (fun s => f s && !(s.toList == t.toList)) := by
  refine ⟨hi, fun s => ?_⟩
  rw [e]
  show _ = (f s && !(s.toList == t.toList))
  by_cases hst : s = t
  · subst hst
    rw [has_del_same]
    simp
  · rw [has_del_other (data_ne hst), h.2 s, toList_no hst]
    simp

theorem specialSet_any (w : World) : Calls Tryz.prog 82 #[] w fun e w' => ∃ b, e = .returned (.map (some b)) ∧ Kept w specialF b w' := by
  go_enter Tryz.func82, Tryz.ntmps82
  go_wp2_with fail
  go_at_call 79
  refine (blocksNames_any w).mono ?_
  rintro e w1 ⟨rfl, t1, s1, b1⟩
  have R1 : Hid (RowOk w1 (w.heap.size, blocks)) := ⟨s1, t1, small_blocks⟩
  clear t1
  go_wp2_with fail
  go_at_call 80
  refine (headingsNames_any w1).mono ?_
  rintro e w2 ⟨rfl, t2, s2, b2⟩
  have R2 : Hid (RowOk w2 (w1.heap.size, headings)) := ⟨s2, t2, small_headings⟩
  replace R1 : Hid (RowOk w2 (w.heap.size, blocks)) := R1.out.below b2
  clear t2
  go_wp2_with fail
  go_at_call 81
  refine (headsNames_any w2).mono ?_
  rintro e w3 ⟨rfl, t3, s3, b3⟩
  have R3 : Hid (RowOk w3 (w2.heap.size, heads)) := ⟨s3, t3, small_heads⟩
  replace R1 : Hid (RowOk w3 (w.heap.size, blocks)) := R1.out.below b3
  replace R2 : Hid (RowOk w3 (w1.heap.size, headings)) := R2.out.below b3
  clear t3
  go_wp2_with fail
  go_at_call 97
  refine (otherSpecialsNames_any w3).mono ?_
  rintro e w4 ⟨rfl, t4, s4, b4⟩
  have R4 : Hid (RowOk w4 (w3.heap.size, otherSpecials)) := ⟨s4, t4, small_otherSpecials⟩
  replace R1 : Hid (RowOk w4 (w.heap.size, blocks)) := R1.out.below b4
  replace R2 : Hid (RowOk w4 (w1.heap.size, headings)) := R2.out.below b4
  replace R3 : Hid (RowOk w4 (w2.heap.size, heads)) := R3.out.below b4
  clear t4
  go_wp2_with fail
  go_at_call 61
  refine (nameSetOf_any (rows_alloc [(w.heap.size, blocks), (w1.heap.size, headings), (w2.heap.size, heads), (w3.heap.size, otherSpecials)] (by
    intro p hp
    simp only [List.mem_cons, List.not_mem_nil, or_false] at hp
    rcases hp with rfl | rfl | rfl | rfl
    · exact R1.out
    · exact R2.out
    · exact R3.out
    · exact R4.out) _ _ rfl) (by simp) rfl).mono ?_
  clear R1 R2 R3 R4
  rintro e w5 ⟨m, D, hm, rfl, own, set, b5⟩
  rw [alloc_size9] at own b5
  have B5 : Hid (Below w.heap.size w w5 ∧ w.heap.size ≤ w4.heap.size + 1) := by
    refine ⟨(((((b1.trans (b2.mono (by omega))).trans (b3.mono (by omega))).trans (b4.mono (by omega))).alloc (by omega) _).trans (b5.mono (by omega))), by omega⟩
  have S5 : Hid (SetF D (hasB (blocks ++ (headings ++ (heads ++ otherSpecials))))) := set.setF (by simp [allOf])
  clear set b1 b2 b3 b4 b5
  go_wp2_with (first
    | (at_delete; refine wpList_delete_own _ rfl _ _ 78 9 rfl 96 lawSet Tryz.underlying78 _ _ m D rfl own _ _ rfl (keyOf_set (s := dialogB) (by decide)) ?_; intro w6 own6 turn6)
    | (at_delete; refine wpList_delete_own _ rfl _ _ 78 9 rfl 96 lawSet Tryz.underlying78 _ _ m _ rfl own6 _ _ rfl (keyOf_set (s := searchB) (by decide)) ?_; intro w7 own7 turn7))
  have S7 := (S5.out.del dialogB own6.isMap rfl).del searchB own7.isMap rfl
  have B7 := (B5.out.1.grown turn6.grown B5.out.1.size (fun j hj => by cases hj; exact B5.out.2))
  have B8 := B7.grown turn7.grown B7.size (fun j hj => by cases hj; exact B5.out.2)
  go_ret
  exact ⟨_, rfl, m, _, hm, B5.out.2, own7, ⟨S7.1, fun s => (S7.2 s).trans (Bool.and_assoc _ _ _)⟩, B8⟩

theorem element_format (w : World) : Calls Tryz.prog 52 #[.int .i64 0] w fun e w' => ∃ b, e = .returned (.iface 78 (.map (some b))) ∧ Kept w (hasB formats) b w' := by
  go_enter Tryz.func52, Tryz.ntmps52
  go_wp2_with fail
  go_at_call 78
  refine (formatsNames_any w).mono ?_
  rintro e w1 ⟨rfl, t1, s1, b1⟩
  have R1 : Hid (RowOk w1 (w.heap.size, formats)) := ⟨s1, t1, small_formats⟩
  clear t1
  go_wp2_with fail
  go_at_call 61
  refine (nameSetOf_any (rows_alloc [(w.heap.size, formats)] (by
    intro p hp
    simp only [List.mem_cons, List.not_mem_nil, or_false] at hp
    subst hp
    exact R1.out) _ _ rfl) (by simp) rfl).mono ?_
  clear R1
  rintro e w2 ⟨m, D, hm, rfl, own, set, b2⟩
  rw [alloc_size9] at own b2
  have HK : Hid (Kept w (hasB formats) (w1.heap.size + 1) w2) := ⟨m, D, hm, by omega, own, set.setF (by simp [allOf]), (b1.alloc (by omega) _).trans (b2.mono (by omega))⟩
  clear own set b1 b2
  go_wp2
  go_ret
  exact ⟨_, rfl, HK.out⟩

theorem element_block (w : World) : Calls Tryz.prog 52 #[.int .i64 1] w fun e w' => ∃ b, e = .returned (.iface 78 (.map (some b))) ∧ Kept w (hasB blocks) b w' := by
  go_enter Tryz.func52, Tryz.ntmps52
  go_wp2_with fail
  go_at_call 79
  refine (blocksNames_any w).mono ?_
  rintro e w1 ⟨rfl, t1, s1, b1⟩
  have R1 : Hid (RowOk w1 (w.heap.size, blocks)) := ⟨s1, t1, small_blocks⟩
  clear t1
  go_wp2_with fail
  go_at_call 61
  refine (nameSetOf_any (rows_alloc [(w.heap.size, blocks)] (by
    intro p hp
    simp only [List.mem_cons, List.not_mem_nil, or_false] at hp
    subst hp
    exact R1.out) _ _ rfl) (by simp) rfl).mono ?_
  clear R1
  rintro e w2 ⟨m, D, hm, rfl, own, set, b2⟩
  rw [alloc_size9] at own b2
  have HK : Hid (Kept w (hasB blocks) (w1.heap.size + 1) w2) := ⟨m, D, hm, by omega, own, set.setF (by simp [allOf]), (b1.alloc (by omega) _).trans (b2.mono (by omega))⟩
  clear own set b1 b2
  go_wp2
  go_ret
  exact ⟨_, rfl, HK.out⟩

theorem element_heading (w : World) : Calls Tryz.prog 52 #[.int .i64 2] w fun e w' => ∃ b, e = .returned (.iface 78 (.map (some b))) ∧ Kept w (hasB headings) b w' := by
  go_enter Tryz.func52, Tryz.ntmps52
  go_wp2_with fail
  go_at_call 80
  refine (headingsNames_any w).mono ?_
  rintro e w1 ⟨rfl, t1, s1, b1⟩
  have R1 : Hid (RowOk w1 (w.heap.size, headings)) := ⟨s1, t1, small_headings⟩
  clear t1
  go_wp2_with fail
  go_at_call 61
  refine (nameSetOf_any (rows_alloc [(w.heap.size, headings)] (by
    intro p hp
    simp only [List.mem_cons, List.not_mem_nil, or_false] at hp
    subst hp
    exact R1.out) _ _ rfl) (by simp) rfl).mono ?_
  clear R1
  rintro e w2 ⟨m, D, hm, rfl, own, set, b2⟩
  rw [alloc_size9] at own b2
  have HK : Hid (Kept w (hasB headings) (w1.heap.size + 1) w2) := ⟨m, D, hm, by omega, own, set.setF (by simp [allOf]), (b1.alloc (by omega) _).trans (b2.mono (by omega))⟩
  clear own set b1 b2
  go_wp2
  go_ret
  exact ⟨_, rfl, HK.out⟩

theorem element_head (w : World) : Calls Tryz.prog 52 #[.int .i64 3] w fun e w' => ∃ b, e = .returned (.iface 78 (.map (some b))) ∧ Kept w (hasB heads) b w' := by
  go_enter Tryz.func52, Tryz.ntmps52
  go_wp2_with fail
  go_at_call 81
  refine (headsNames_any w).mono ?_
  rintro e w1 ⟨rfl, t1, s1, b1⟩
  have R1 : Hid (RowOk w1 (w.heap.size, heads)) := ⟨s1, t1, small_heads⟩
  clear t1
  go_wp2_with fail
  go_at_call 61
  refine (nameSetOf_any (rows_alloc [(w.heap.size, heads)] (by
    intro p hp
    simp only [List.mem_cons, List.not_mem_nil, or_false] at hp
    subst hp
    exact R1.out) _ _ rfl) (by simp) rfl).mono ?_
  clear R1
  rintro e w2 ⟨m, D, hm, rfl, own, set, b2⟩
  rw [alloc_size9] at own b2
  have HK : Hid (Kept w (hasB heads) (w1.heap.size + 1) w2) := ⟨m, D, hm, by omega, own, set.setF (by simp [allOf]), (b1.alloc (by omega) _).trans (b2.mono (by omega))⟩
  clear own set b1 b2
  go_wp2
  go_ret
  exact ⟨_, rfl, HK.out⟩

theorem element_special (w : World) : Calls Tryz.prog 52 #[.int .i64 4] w fun e w' => ∃ b, e = .returned (.iface 78 (.map (some b))) ∧ Kept w specialF b w' := by
  go_enter Tryz.func52, Tryz.ntmps52
  go_wp2_with fail
  go_at_call 82
  refine (specialSet_any w).mono ?_
  rintro e w1 ⟨b, rfl, hb⟩
  have HB := (show Hid _ from hb)
  clear hb
  go_wp2
  go_ret
  exact ⟨b, rfl, HB.out⟩

theorem element_implied (w : World) : Calls Tryz.prog 52 #[.int .i64 5] w fun e w' => ∃ b, e = .returned (.iface 78 (.map (some b))) ∧ Kept w (hasB implieds) b w' := by
  go_enter Tryz.func52, Tryz.ntmps52
  go_wp2_with fail
  go_at_call 83
  refine (impliedsNames_any w).mono ?_
  rintro e w1 ⟨rfl, t1, s1, b1⟩
  have R1 : Hid (RowOk w1 (w.heap.size, implieds)) := ⟨s1, t1, small_implieds⟩
  clear t1
  go_wp2_with fail
  go_at_call 61
  refine (nameSetOf_any (rows_alloc [(w.heap.size, implieds)] (by
    intro p hp
    simp only [List.mem_cons, List.not_mem_nil, or_false] at hp
    subst hp
    exact R1.out) _ _ rfl) (by simp) rfl).mono ?_
  clear R1
  rintro e w2 ⟨m, D, hm, rfl, own, set, b2⟩
  rw [alloc_size9] at own b2
  have HK : Hid (Kept w (hasB implieds) (w1.heap.size + 1) w2) := ⟨m, D, hm, by omega, own, set.setF (by simp [allOf]), (b1.alloc (by omega) _).trans (b2.mono (by omega))⟩
  clear own set b1 b2
  go_wp2
  go_ret
  exact ⟨_, rfl, HK.out⟩

theorem element_bound (w : World) : Calls Tryz.prog 52 #[.int .i64 6] w fun e w' => ∃ b, e = .returned (.iface 78 (.map (some b))) ∧ Kept w (hasB bounds) b w' := by
  go_enter Tryz.func52, Tryz.ntmps52
  go_wp2_with fail
  go_at_call 62
  refine (boundsNames_any w).mono ?_
  rintro e w1 ⟨rfl, t1, s1, b1⟩
  have R1 : Hid (RowOk w1 (w.heap.size, bounds)) := ⟨s1, t1, small_bounds⟩
  clear t1
  go_wp2_with fail
  go_at_call 61
  refine (nameSetOf_any (rows_alloc [(w.heap.size, bounds)] (by
    intro p hp
    simp only [List.mem_cons, List.not_mem_nil, or_false] at hp
    subst hp
    exact R1.out) _ _ rfl) (by simp) rfl).mono ?_
  clear R1
  rintro e w2 ⟨m, D, hm, rfl, own, set, b2⟩
  rw [alloc_size9] at own b2
  have HK : Hid (Kept w (hasB bounds) (w1.heap.size + 1) w2) := ⟨m, D, hm, by omega, own, set.setF (by simp [allOf]), (b1.alloc (by omega) _).trans (b2.mono (by omega))⟩
  clear own set b1 b2
  go_wp2
  go_ret
  exact ⟨_, rfl, HK.out⟩

theorem assertSet (W : World) (v : Value) : (Instr.typeAssert (.iface 78 v) 20 78 true).run Tryz.prog W = .ok (.tuple #[v, .bool true]) W := by kernel_rfl

theorem isetHas_any {b : Nat} {f : ByteArray → Bool} {w0 w : World} (hk : Kept w0 f b w) (s : ByteArray) (hs : s.size ≤ maxLen) :
    Calls Tryz.prog 53 #[.map (some b), .string s] w fun e w' => e = .returned (.bool (f s)) ∧ Below w.heap.size w w' := by
  obtain ⟨m, D, hm, hb, own, set, bel⟩ := hk
  have HF : Hid (has D (.string s.data.toList) = f s) := set.2 s
  clear set
  have hkey := keyOf_set (s := s) hs
  go_enter Tryz.func53, Tryz.ntmps53
  go_wp2_with (at_lookup; refine wpList_lookup_own_unit _ rfl _ _ 78 rfl 9 96 lawSet Tryz.underlying78 (zeroSet _) b m D rfl own _ _ rfl hkey ?_)
  go_ret
  refine ⟨ret_bool HF.out, ?_⟩
  exact (Below.refl _ _).alloc (Nat.le_refl _) _

theorem isOfKind_of {k : Int} {f : ByteArray → Bool} (hk : ∀ w, Calls Tryz.prog 52 #[.int .i64 k] w fun e w' => ∃ b, e = .returned (.iface 78 (.map (some b))) ∧ Kept w f b w') (s : ByteArray) (hs : s.size ≤ maxLen) (w : World) :
    Calls Tryz.prog 28 #[.string s, .int .i64 k] w fun e w' => e = .returned (.bool (f s)) ∧ Below w.heap.size w w' := by
  have HK := (show Hid _ from hk)
  clear hk
  have hass := assertSet
  go_enter Tryz.func28, Tryz.ntmps28
  go_wp2_with fail
  go_at_call 52
  refine Calls.mono (HK.out w) ?_
  rintro e w1 ⟨b, rfl, kept⟩
  have HP := (show Hid _ from kept)
  have bel : Below w.heap.size w w1 := by obtain ⟨_, _, _, _, _, _, h⟩ := kept; exact h
  clear kept HK
  go_wp2_with fail
  go_at_call 53
  refine Calls.mono (isetHas_any HP.out s hs) ?_
  rintro e w2 ⟨rfl, b2⟩
  go_wp2
  go_ret
  exact ⟨rfl, bel.trans (b2.mono bel.size)⟩

theorem iisImplied_any (s : ByteArray) (hs : s.size ≤ maxLen) (w : World) : Calls Tryz.prog 13 #[.string s] w fun e w' => e = .returned (.bool (hasB implieds s)) ∧ Below w.heap.size w w' := by
  go_enter Tryz.func13, Tryz.ntmps13
  go_wp2_with fail
  go_at_call 28
  refine (isOfKind_of element_implied s hs w).mono ?_
  rintro e w1 ⟨rfl, b1⟩
  go_wp2
  go_ret
  exact ⟨rfl, b1⟩

end Go.Proofs.YthdfhckmgneioaaGreat
