/- Contracts of NameOk, the program's and the specification's, at every string of at most 2^40 bytes. -/
import Derived.Test.YtokkigfjabbdaaaGreatDoorU7
import Derived.Test.YtokkigfjabbdaaaGreatDoorU21
import Derived.Deep.RegionHeld
import Derived.Test.YtokkigfjabbdaaaGreatDoorU11
namespace Go.Proofs.YtokkigfjabbdaaaGreatDoor
open Go.RowKit
set_option maxRecDepth 100000
set_option linter.unusedVariables false

def badB (x : Int) : Bool := isBlank x || inB x 65 90 || isBar x
def nameOk (xs : List Int) : Bool := inB xs.length 1 60 && utfOk xs && inB (xs.getD 0 0) 97 122 && !(xs.any badB)

theorem wrap_byte {x : Int} (h0 : 0 ≤ x) (h1 : x ≤ 255) : IntKind.i64.wrap x = x := by
  have h : x % 2 ^ 64 = x := by omega
  simp only [IntKind.wrap, IntKind.bits, h]
  rw [if_neg]
  simp; omega

theorem any_succ {xs : List Int} {k : Nat} (h : k < xs.length) : (xs.take (k + 1)).any badB = ((xs.take k).any badB || badB (xs.getD k 0)) := by
  have hg : xs.getD k 0 = xs[k] := by simp [List.getD_eq_getElem?_getD, h]
  rw [List.take_succ_eq_append_getElem h, hg, List.any_append]
  simp only [List.any_cons, List.any_nil, Bool.or_false]
theorem any_of {xs : List Int} {k : Nat} (h : k < xs.length) (hb : badB (xs.getD k 0) = true) : xs.any badB = true := by
  have hg : xs.getD k 0 = xs[k] := by simp [List.getD_eq_getElem?_getD, h]
  rw [hg] at hb
  exact List.any_eq_true.mpr ⟨_, List.getElem_mem h, hb⟩

end Go.Proofs.YtokkigfjabbdaaaGreatDoor

/- Contracts of the specification's NameOk, at every string of at most 2^40 bytes. -/
namespace Go.Proofs.YtokkigfjabbdaaaGreatDoor
open Go.RowKit
set_option maxRecDepth 100000
set_option linter.unusedVariables false

theorem isBar_iff (x : Int) : isBar x = true ↔ x = 0 ∨ x = 47 ∨ x = 62 := by simp [isBar, or_assoc]

end Go.Proofs.YtokkigfjabbdaaaGreatDoor

/- Attributes as pairs of strings, and contracts of the specification's functions on them. -/
namespace Go.Proofs.YtokkigfjabbdaaaGreatDoor
open Go.RowKit
set_option maxRecDepth 100000
set_option linter.unusedVariables false

/-- The value of the first of that name, and true; nothing and false when there is none. -/
def attrOf : List (ByteArray × ByteArray) → ByteArray → ByteArray × Bool
  | [], _ => (⟨#[]⟩, false)
  | p :: ps, nm => if p.1 = nm then (p.2, true) else attrOf ps nm
def attrOk (p : ByteArray × ByteArray) : Bool := inB p.1.size 1 60 && decide (p.2.size ≤ 3000) && utfOk (bs p.1) && utfOk (bs p.2)
/-- The first i are right, and no two of them have one name. -/
def attrsTo (rs : List (ByteArray × ByteArray)) : Bool := rs.all attrOk && decide (rs.Pairwise fun p q => p.1 ≠ q.1)
def attrsOk (rs : List (ByteArray × ByteArray)) : Bool := decide (rs.length ≤ 20) && attrsTo rs
def attrAdd (rs : List (ByteArray × ByteArray)) (a : ByteArray × ByteArray) : List (ByteArray × ByteArray) := if (attrOf rs a.1).2 || decide (20 ≤ rs.length) || !attrOk a then rs else rs ++ [a]
def attrsSame (a b : List (ByteArray × ByteArray)) : Bool := decide (a.length = b.length) && a.all fun p => decide (attrOf b p.1 = (p.2, true))

theorem attrOf_drop {rs : List (ByteArray × ByteArray)} {nm : ByteArray} {k : Nat} (h : k < rs.length) : attrOf (rs.drop k) nm = if rs[k].1 = nm then (rs[k].2, true) else attrOf (rs.drop (k + 1)) nm := by
  rw [List.drop_eq_getElem_cons h]; rfl

end Go.Proofs.YtokkigfjabbdaaaGreatDoor

/- The specification's IndexFind. No condition. -/
namespace Go.Proofs.YtokkigfjabbdaaaGreatDoor
open Go.RowKit
set_option maxRecDepth 100000
set_option linter.unusedVariables false

end Go.Proofs.YtokkigfjabbdaaaGreatDoor

/- The specification's IndexPack. No condition. -/
namespace Go.Proofs.YtokkigfjabbdaaaGreatDoor
open Go.RowKit
set_option maxRecDepth 100000
set_option linter.unusedVariables false

def recE (p : ByteArray × ByteArray) : PRec := ⟨1, p.1, p.2⟩
def packE : List (ByteArray × ByteArray) → Option (List Int)
  | [] => some []
  | p :: ps => if recB (recE p) = true then (packE ps).map (recL (recE p) ++ ·) else none
def packX (ps : List (ByteArray × ByteArray)) : List Int × Bool := match packE ps with
  | some l => (l, true)
  | none => ([], false)
theorem packE_drop {ps : List (ByteArray × ByteArray)} {k : Nat} (h : k < ps.length) : packE (ps.drop k) = if recB (recE ps[k]) = true then (packE (ps.drop (k + 1))).map (recL (recE ps[k]) ++ ·) else none := by
  rw [List.drop_eq_getElem_cons h]; rfl
theorem recL_len {r : PRec} (h : recB r = true) : (recL r).length ≤ 87 + r.body.size := by
  obtain ⟨_, hu, _⟩ := recB_kind h
  have h1 := form_len r.kind
  have h2 := textForm_len r.url
  have h3 := textForm_len r.body
  have h4 : r.url.size ≤ 60 := by
    simp only [urlB, inB, Bool.and_eq_true, decide_eq_true_eq] at hu
    omega
  unfold recL
  rw [List.length_append, List.length_append]
  split
  · omega
  · simp; omega

end Go.Proofs.YtokkigfjabbdaaaGreatDoor

/- The index, plainly. No condition. -/
namespace Go.Proofs.YtokkigfjabbdaaaGreatDoor
open Go.RowKit
set_option maxRecDepth 100000
set_option linter.unusedVariables false

/-- One text is less than another, byte by byte. -/
def slt (a b : ByteArray) : Bool := Op.bytesLess a.toList b.toList
/-- A record is put into the index; 'put' says that nothing is to be put any more. -/
def insE (r : PRec) : Bool → List (ByteArray × ByteArray) → List (ByteArray × ByteArray)
  | put, [] => if put = true then [] else [(r.url, r.body)]
  | put, e :: es => (if (!put && !(slt e.1 r.url)) = true then [(r.url, r.body)] else []) ++ (if e.1 = r.url then [] else [e]) ++ insE r (put || !(slt e.1 r.url)) es
def idxN : List PRec → List (ByteArray × ByteArray) → List (ByteArray × ByteArray)
  | [], out => out
  | r :: rs, out => idxN rs (insE r (decide (r.kind ≠ 1)) out)
def idxOf (rs : List PRec) : List (ByteArray × ByteArray) := idxN rs []
theorem insE_drop {r : PRec} {put : Bool} {es : List (ByteArray × ByteArray)} {k : Nat} (h : k < es.length) : insE r put (es.drop k) = (if (!put && !(slt es[k].1 r.url)) = true then [(r.url, r.body)] else []) ++ (if es[k].1 = r.url then [] else [es[k]]) ++ insE r (put || !(slt es[k].1 r.url)) (es.drop (k + 1)) := by
  rw [List.drop_eq_getElem_cons h]; rfl
theorem insE_len (r : PRec) (put : Bool) (es : List (ByteArray × ByteArray)) : (insE r put es).length ≤ es.length + (if put = true then 0 else 1) := by
  induction es generalizing put with
  | nil => cases put <;> simp [insE]
  | cons e es ih =>
    rw [insE, List.length_append, List.length_append, List.length_cons]
    have := ih (put || !(slt e.1 r.url))
    cases put <;> cases hs : slt e.1 r.url <;> simp [hs] at this ⊢ <;> split <;> simp <;> omega
theorem idxN_len (rs : List PRec) (out : List (ByteArray × ByteArray)) : (idxN rs out).length ≤ out.length + rs.length := by
  induction rs generalizing out with
  | nil => simp [idxN]
  | cons r rs ih =>
    have h1 := ih (insE r (decide (r.kind ≠ 1)) out)
    have h2 := insE_len r (decide (r.kind ≠ 1)) out
    rw [idxN, List.length_cons]
    split at h2 <;> omega
theorem idxN_drop {rs : List PRec} {k : Nat} (h : k < rs.length) (out : List (ByteArray × ByteArray)) : idxN (rs.drop k) out = idxN (rs.drop (k + 1)) (insE rs[k] (decide (rs[k].kind ≠ 1)) out) := by
  rw [List.drop_eq_getElem_cons h]; rfl

theorem recCells_at {rs : List PRec} {k : Nat} (hk : k < rs.length) : (recCells rs)[k * 3]? = some (.int .i64 rs[k].kind) ∧ (recCells rs)[k * 3 + 1]? = some (.string rs[k].url) ∧ (recCells rs)[k * 3 + 2]? = some (.string rs[k].body) := by
  induction rs generalizing k with
  | nil => simp at hk
  | cons r rs ih =>
    cases k with
    | zero => exact ⟨rfl, rfl, rfl⟩
    | succ k =>
      have := ih (k := k) (by simpa using hk)
      rw [recCells_cons, show (k + 1) * 3 = k * 3 + 3 by omega]
      exact this
/-- A slice of records. -/
theorem Sv.recs {w : World} {v : Value} {rs : List PRec} (h : Sv 3 w v (recCells rs)) : ∃ a cap, v = .slice a rs.length cap ∧ rs.length ≤ cap ∧ cap ≤ maxLen ∧
    ∀ k (hk : k < rs.length), ∃ b off, a = some ⟨b, off, none⟩ ∧ b < w.heap.size ∧ w.cell? ⟨b, off + k * 3, none⟩ = some (.int .i64 rs[k].kind) ∧ w.cell? ⟨b, off + k * 3 + 1, none⟩ = some (.string rs[k].url) ∧ w.cell? ⟨b, off + k * 3 + 2, none⟩ = some (.string rs[k].body) := by
  obtain ⟨a, len, cap, rfl, h1, h2, h3, h4, hc⟩ := h
  have hl := recCells_len rs
  have hlen : len = rs.length := by omega
  subst hlen
  refine ⟨a, cap, rfl, h2, h3, fun k hk => ?_⟩
  obtain ⟨r0, r1, r2⟩ := recCells_at hk
  obtain ⟨b, off, rfl, c0⟩ := hc (k * 3) (by omega)
  obtain ⟨b', off', e, c1⟩ := hc (k * 3 + 1) (by omega)
  injection e with e
  cases e
  obtain ⟨b', off', e, c2⟩ := hc (k * 3 + 2) (by omega)
  injection e with e
  cases e
  rw [List.getD_eq_getElem?_getD, r0] at c0
  rw [List.getD_eq_getElem?_getD, r1] at c1
  rw [List.getD_eq_getElem?_getD, r2] at c2
  have hlt : b < w.heap.size := by
    by_cases hlt : b < w.heap.size
    · exact hlt
    · exfalso; simp [World.cell?, Array.getElem?_eq_none (Nat.le_of_not_lt hlt)] at c0
  exact ⟨b, off, rfl, hlt, c0, c1, c2⟩
end Go.Proofs.YtokkigfjabbdaaaGreatDoor
