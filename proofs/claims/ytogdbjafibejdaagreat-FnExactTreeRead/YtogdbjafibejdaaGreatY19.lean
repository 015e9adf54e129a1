/- 'copy' of rows of several cells an element. -/
import Derived.Test.YtogdbjafibejdaaGreatY17
import Derived.Laws.CopyOwn
import Derived.Test.YtogdbjafibejdaaGreatY18
import Derived.Test.YtogdbjafibejdaaGreatY12
namespace Go.Proofs.YtogdbjafibejdaaGreat
open Go.RowKit
set_option maxRecDepth 100000
set_option linter.unusedVariables false
end Go.Proofs.YtogdbjafibejdaaGreat

/- The lists of names of chapter 9, and the program's functions that answer them (written by mk/ikind.py). -/
namespace Go.Proofs.YtogdbjafibejdaaGreat
open Go.RowKit Go.Maps
set_option maxRecDepth 100000
set_option linter.unusedVariables false
end Go.Proofs.YtogdbjafibejdaaGreat

/- A number and a text are read from their forms as they were. No condition. -/
namespace Go.Proofs.YtogdbjafibejdaaGreat
open Go.RowKit
set_option maxRecDepth 100000
set_option linter.unusedVariables false

theorem parts128 (x p : Int) : x % 128 * p + x / 128 * (p * 128) = x * p := by
  have e : x = x % 128 + 128 * (x / 128) := by omega
  have e2 : x * p = (x % 128 + 128 * (x / 128)) * p := by rw [← e]
  rw [e2, Int.add_mul, Int.mul_comm p 128, ← Int.mul_assoc, Int.mul_comm (x / 128) 128]

theorem rdA_nf {m k : Nat} {x acc : Int} {rest : List Int} (h : Bd m x) (h0 : ¬ (x = 0 ∧ 0 < k)) : rdA (m + 1) k acc (nf m x ++ rest) = some (acc + x * 128 ^ k, k + (nf m x).length) := by
  induction m generalizing k x acc with
  | zero =>
    have h1 := h.2
    simp at h1
    have e : nf 0 x = [x] := rfl
    rw [e, List.singleton_append, rdA_end h1 h0]
    rfl
  | succ m ih =>
    by_cases hx : x < 128
    · rw [nf_lt hx, List.singleton_append, rdA_end hx h0]
      rfl
    · obtain ⟨n, e, hb⟩ := h.next (by omega)
      cases e
      have hx0 := h.1
      rw [nf_ge (by omega), List.cons_append, rdA_on (by omega), ih hb (by omega)]
      have e1 : (128 + x % 128) % 128 = x % 128 := by omega
      rw [e1, Int.pow_succ, Int.add_assoc, parts128, List.length_cons]
      congr 2
      omega

theorem rdI_form {x : Int} (h0 : 0 ≤ x) (h1 : x ≤ 9223372036854775807) (pre rest : List Int) : rdI (pre ++ form x ++ rest) (pre.length : Nat) = some (x, (form x).length) := by
  rw [rdI_nat, List.append_assoc, List.drop_left]
  unfold form
  rw [if_neg (by omega), rdA_nf (bd_of h0 h1) (by omega)]
  simp

end Go.Proofs.YtogdbjafibejdaaGreat

/- A token among the arguments, opened as its five cells. -/
namespace Go.Proofs.YtogdbjafibejdaaGreat
open Go.RowKit Go.ChangeShapes Go.WideShapes
set_option maxRecDepth 100000
set_option linter.unusedVariables false

section
variable {H : Type} {enc : TypeId × Value → H} {P : Program} {w : World} {base : Nat} {spare : Nat → Bool} {held : Bool}
end
end Go.Proofs.YtogdbjafibejdaaGreat

/- Nodes in memory: a slice of nodes, each with its attributes and its kids. No condition. -/
namespace Go.Proofs.YtogdbjafibejdaaGreat
open Go.RowKit
set_option maxRecDepth 100000
set_option linter.unusedVariables false

structure PNode where
  kind : Int
  name : ByteArray
  attrs : List (ByteArray × ByteArray)
  text : ByteArray
  parent : Int
  kids : List Int

def nodeRow (n : PNode) (p : Value × Value) : List Value := [.int .i64 n.kind, .string n.name, p.1, .string n.text, .int .i64 n.parent, p.2]
def nodeCells (qs : List (PNode × (Value × Value))) : List Value := qs.flatMap fun q => nodeRow q.1 q.2
theorem nodeCells_len (qs : List (PNode × (Value × Value))) : (nodeCells qs).length = qs.length * 6 := by
  induction qs with
  | nil => rfl
  | cons q qs ih => simp only [nodeCells, nodeRow, List.flatMap_cons, List.length_append, List.length_cons, List.length_nil] at ih ⊢; omega
theorem nodeCells_at (qs : List (PNode × (Value × Value))) (k j : Nat) (h : k < qs.length) (hj : j < 6) : (nodeCells qs).getD (k * 6 + j) undef = (nodeRow qs[k].1 qs[k].2).getD j undef := by
  induction qs generalizing k with
  | nil => simp at h
  | cons q qs ih =>
    cases k with
    | zero =>
      simp only [nodeCells, List.flatMap_cons, List.getD_eq_getElem?_getD, Nat.zero_mul, Nat.zero_add, List.getElem_cons_zero]
      rw [List.getElem?_append_left (by simp [nodeRow]; omega)]
    | succ k =>
      have := ih k (by simpa using h)
      simp only [nodeCells, List.flatMap_cons, List.getD_eq_getElem?_getD, List.getElem_cons_succ] at this ⊢
      rw [List.getElem?_append_right (by simp [nodeRow]; omega), ← this]
      congr 2
      simp [nodeRow]; omega

def NodesAt (w : World) (v : Value) (ns : List PNode) : Prop :=
  ∃ qs : List (PNode × (Value × Value)), qs.map (fun q => q.1) = ns ∧ Sv 6 w v (nodeCells qs) ∧ ∀ q ∈ qs, Sv 2 w q.2.1 (pairCells q.1.attrs) ∧ Sl .i64 w q.2.2 q.1.kids

theorem NodesAt.below {w w' : World} {v : Value} {ns : List PNode} (h : NodesAt w v ns) (hb : Below w.heap.size w w') : NodesAt w' v ns := by
  obtain ⟨qs, h1, h2, h3⟩ := h
  exact ⟨qs, h1, h2.below hb, fun q hq => ⟨(h3 q hq).1.below hb, (h3 q hq).2.below hb⟩⟩

theorem NodesAt.slice {w : World} {v : Value} {ns : List PNode} (h : NodesAt w v ns) : ∃ a cap, v = .slice a ns.length cap ∧ ns.length ≤ cap ∧ cap ≤ maxLen ∧
    ∀ k (hk : k < ns.length), ∃ b off av kv, a = some ⟨b, off, none⟩ ∧ b < w.heap.size ∧ w.cell? ⟨b, off + k * 6, none⟩ = some (.int .i64 ns[k].kind) ∧ w.cell? ⟨b, off + k * 6 + 1, none⟩ = some (.string ns[k].name) ∧
      w.cell? ⟨b, off + k * 6 + 2, none⟩ = some av ∧ w.cell? ⟨b, off + k * 6 + 3, none⟩ = some (.string ns[k].text) ∧ w.cell? ⟨b, off + k * 6 + 4, none⟩ = some (.int .i64 ns[k].parent) ∧ w.cell? ⟨b, off + k * 6 + 5, none⟩ = some kv ∧
      Sv 2 w av (pairCells ns[k].attrs) ∧ Sl .i64 w kv ns[k].kids := by
  obtain ⟨qs, rfl, ⟨a, len, cap, rfl, hl, h1, h2, h3, hc⟩, hq⟩ := h
  have hlen : len = qs.length := by rw [nodeCells_len] at hl; omega
  subst hlen
  refine ⟨a, cap, by simp, by simpa using h1, h2, fun k hk => ?_⟩
  have hk' : k < qs.length := by simpa using hk
  have key : ∀ j, j < 6 → ∃ b off, a = some ⟨b, off, none⟩ ∧ w.cell? ⟨b, off + k * 6 + j, none⟩ = some ((nodeRow qs[k].1 qs[k].2).getD j undef) := fun j hj => by
    obtain ⟨b, off, e, c⟩ := hc (k * 6 + j) (by rw [nodeCells_len]; omega)
    rw [nodeCells_at qs k j hk' hj, ← Nat.add_assoc] at c
    exact ⟨b, off, e, c⟩
  obtain ⟨b, off, rfl, c0⟩ := key 0 (by omega)
  obtain ⟨_, _, e1, c1⟩ := key 1 (by omega); cases e1
  obtain ⟨_, _, e2, c2⟩ := key 2 (by omega); cases e2
  obtain ⟨_, _, e3, c3⟩ := key 3 (by omega); cases e3
  obtain ⟨_, _, e4, c4⟩ := key 4 (by omega); cases e4
  obtain ⟨_, _, e5, c5⟩ := key 5 (by omega); cases e5
  have hlt : b < w.heap.size := by
    by_cases hlt : b < w.heap.size
    · exact hlt
    · exfalso; simp [World.cell?, Array.getElem?_eq_none (Nat.le_of_not_lt hlt)] at c0
  have hm := hq qs[k] (List.getElem_mem hk')
  refine ⟨b, off, qs[k].2.1, qs[k].2.2, rfl, hlt, ?_, ?_, ?_, ?_, ?_, ?_, ?_, ?_⟩
  · simpa [nodeRow] using c0
  · simpa [nodeRow] using c1
  · simpa [nodeRow] using c2
  · simpa [nodeRow] using c3
  · simpa [nodeRow] using c4
  · simpa [nodeRow] using c5
  · simpa using hm.1
  · simpa using hm.2
end Go.Proofs.YtogdbjafibejdaaGreat

/- Attributes as pairs of strings, and contracts of the specification's functions on them. -/
namespace Go.Proofs.YtogdbjafibejdaaGreat
open Go.RowKit
set_option maxRecDepth 100000
set_option linter.unusedVariables false

def attrOf : List (ByteArray × ByteArray) → ByteArray → ByteArray × Bool
  | [], _ => (⟨#[]⟩, false)
  | p :: ps, nm => if p.1 = nm then (p.2, true) else attrOf ps nm
def attrOk (p : ByteArray × ByteArray) : Bool := inB p.1.size 1 60 && decide (p.2.size ≤ 3000) && utfOk (bs p.1) && utfOk (bs p.2)
def attrsTo (rs : List (ByteArray × ByteArray)) : Bool := rs.all attrOk && decide (rs.Pairwise fun p q => p.1 ≠ q.1)
def attrsOk (rs : List (ByteArray × ByteArray)) : Bool := decide (rs.length ≤ 20) && attrsTo rs
theorem attrOf_drop {rs : List (ByteArray × ByteArray)} {nm : ByteArray} {k : Nat} (h : k < rs.length) : attrOf (rs.drop k) nm = if rs[k].1 = nm then (rs[k].2, true) else attrOf (rs.drop (k + 1)) nm := by
  rw [List.drop_eq_getElem_cons h]; rfl

set_option maxHeartbeats 1000000 in
set_option maxRecDepth 100000 in
theorem l4Attr_any (p : ByteArray × ByteArray) (w : World) (h1 : p.1.size ≤ 1099511627776) (h2 : p.2.size ≤ 1099511627776) :
    Calls Tryz.prog 152 #[.agg #[.string p.1, .string p.2]] w fun e w' => e = .returned (.bool (attrOk p)) ∧ Below w.heap.size w w' := by
  obtain ⟨n, v⟩ := p
  simp only at h1 h2 ⊢
  have c1 := fun w => l1In_any n.size 1 60 w
  have c2 := fun w => l1Ok_any n w h1
  have c3 := fun w => l1Ok_any v w h2
  have b1 : Below w.heap.size w (w.alloc (.cells #[.string n, .string v] 115)) := (Below.refl _ _).alloc (Nat.le_refl _) _
  obtain ⟨q1, e1⟩ : ∃ q, q = inB n.size 1 60 := ⟨_, rfl⟩
  obtain ⟨q2, e2⟩ : ∃ q, q = utfOk (bs n) := ⟨_, rfl⟩
  obtain ⟨q3, e3⟩ : ∃ q, q = utfOk (bs v) := ⟨_, rfl⟩
  have hv : attrOk (n, v) = (q1 && decide (v.size ≤ 3000) && q2 && q3) := by rw [e1, e2, e3]; rfl
  rw [hv]
  rw [← e1] at c1
  rw [← e2] at c2
  rw [← e3] at c3
  have C1 := (show Hid _ from c1)
  have C2 := (show Hid _ from c2)
  have C3 := (show Hid _ from c3)
  clear c1 c2 c3 e1 e2 e3 hv
  cases q1
  · go_enter Tryz.func152, Tryz.ntmps152
    go_wp2_with fail
    go_at_call 57
    refine (C1.out _).mono ?_
    rintro e w1 ⟨rfl, rfl⟩
    go_wp2
    go_ret
    exact ⟨ret_bool (by simp), b1⟩
  · by_cases hv : v.size ≤ 3000
    · cases q2
      · go_enter Tryz.func152, Tryz.ntmps152
        go_wp2_with fail
        go_at_call 57
        refine (C1.out _).mono ?_
        rintro e w1 ⟨rfl, rfl⟩
        go_wp2_with fail
        go_at_call 71
        refine (C2.out _).mono ?_
        rintro e w2 ⟨rfl, b2⟩
        replace b2 := b1.trans (b2.mono b1.size)
        go_wp2
        go_ret
        exact ⟨ret_bool (by simp), b2⟩
      · go_enter Tryz.func152, Tryz.ntmps152
        go_wp2_with fail
        go_at_call 57
        refine (C1.out _).mono ?_
        rintro e w1 ⟨rfl, rfl⟩
        go_wp2_with fail
        go_at_call 71
        refine (C2.out _).mono ?_
        rintro e w2 ⟨rfl, b2⟩
        have d1 : w2.cell? ⟨w.heap.size, 1, none⟩ = some (.string v) := by
          rw [b2.cell (p := ⟨w.heap.size, 1, none⟩) (by simp)]
          simp
        replace b2 := b1.trans (b2.mono b1.size)
        go_wp2_with fail
        go_at_call 71
        refine (C3.out _).mono ?_
        rintro e w3 ⟨rfl, b3⟩
        replace b3 := b2.trans (b3.mono b2.size)
        go_wp2
        go_ret
        exact ⟨ret_bool (by simp [hv]), b3⟩
    · go_enter Tryz.func152, Tryz.ntmps152
      go_wp2_with fail
      go_at_call 57
      refine (C1.out _).mono ?_
      rintro e w1 ⟨rfl, rfl⟩
      go_wp2
      go_ret
      exact ⟨ret_bool (by simp <;> omega), b1⟩
end Go.Proofs.YtogdbjafibejdaaGreat
