/- The draw of a right disk. No condition. -/
import Derived.Test.YtokkigfjabbdaaaGreatDoorU17
import Derived.Test.YtokkigfjabbdaaaGreatDoorU16
import Derived.Deep.RegionHeld3
import Derived.Deep.CutRange
import Derived.Test.YtokkigfjabbdaaaGreatDoorU14
namespace Go.Proofs.YtokkigfjabbdaaaGreatDoor
open Go.RowKit
set_option maxRecDepth 100000
set_option linter.unusedVariables false

theorem row_low {B e size n : Nat} {w w' : World} {v : Value} {xs : List Value} {row : Option Nat} (h : w.ownsRow B e size v n xs) (hg : w.grownBy w' row) (hr : ∀ k, row = some k → k < B) : w'.ownsRow B e size v n xs := by
  refine h.kept hg ?_
  cases hv : v.ownBlock with
  | none => exact .inl rfl
  | some k =>
    refine .inr fun e => ?_
    have h1 := (World.ownsRow.lt h k hv).1
    have h2 := hr k e.symm
    omega
theorem OwnDk.low {B : Nat} {w w' : World} {v : Value} {d : PDisk} {row : Option Nat} (h : OwnDk B w v d) (hg : w.grownBy w' row) (hr : ∀ k, row = some k → k < B) : OwnDk B w' v d := by
  obtain ⟨sa, sn, sc, la, ln, lc, e, h1, h2⟩ := h
  exact ⟨sa, sn, sc, la, ln, lc, e, row_low h1 hg hr, row_low h2 hg hr⟩
theorem OwnDk.base {B B' : Nat} {w : World} {v : Value} {d : PDisk} (h : OwnDk B w v d) (hB : B' ≤ B) : OwnDk B' w v d := by
  obtain ⟨sa, sn, sc, la, ln, lc, e, h1, h2⟩ := h
  exact ⟨sa, sn, sc, la, ln, lc, e, rk_base h1 hB, rk_base h2 hB⟩
theorem OwnDk.set {B b k : Nat} {w : World} {v u : Value} {d : PDisk} (h : OwnDk B w v d) {cs : Array Value} {fr : Nat × Nat} (hb : w.heap[b]? = some (.cells cs 35 fr)) : OwnDk B (w.setCell ⟨b, k, none⟩ u) v d := by
  obtain ⟨sa, sn, sc, la, ln, lc, e, h1, h2⟩ := h
  exact ⟨sa, sn, sc, la, ln, lc, e, rk_set h1 hb (by decide), rk_set h2 hb (by decide)⟩
theorem fit_right {d : PDisk} (h : diskB d = true) : DiskFit d := by
  obtain ⟨h1, h2⟩ := diskB_len h
  refine ⟨by omega, by omega, fun s hs => ?_, fun p hp => ?_⟩
  · obtain ⟨k, hk, rfl⟩ := List.getElem_of_mem hs; rw [diskB_safe h hk]; decide
  · obtain ⟨k, hk, rfl⟩ := List.getElem_of_mem hp; rw [(diskB_late h hk).2.2]; decide
theorem right_new : diskB newDk = true := by
  refine diskB_yes (by decide) (by decide) (fun k hk => ?_) (fun k hk => absurd hk (by simp [newDk]))
  have : newDk.safe[k] = zeros64 := List.getElem_replicate (by simpa [newDk] using hk)
  rw [this]; exact zeros64_size
theorem right_snoc {d : PDisk} (h : diskB d = true) {x : Int} {s : ByteArray} (hx : inB x 0 129 = true) (hs : s.size = 64) (hl : d.late.length < 200) : diskB ⟨d.safe, d.late ++ [(x, s)]⟩ = true := by
  simp only [diskB, Bool.and_eq_true, decide_eq_true_eq, List.all_append, List.all_cons, List.all_nil, Bool.and_true, List.length_append, List.length_singleton] at h ⊢
  exact ⟨⟨⟨h.1.1.1, by omega⟩, h.1.2⟩, h.2, hx, hs⟩
theorem right_put {d : PDisk} (h : diskB d = true) {x : Int} {s : ByteArray} (hp : (putDk d x s).2 = true) : diskB (putDk d x s).1 = true := by
  unfold putDk at hp ⊢
  rw [if_neg (by rw [h]; simp)] at hp ⊢
  split at hp
  · cases hp
  · rename_i hn
    rw [if_neg hn]
    have h2 := (diskB_len h).2
    have hx : inB x 0 129 = true := by
      cases e : inB x 0 129
      · exact absurd (.inl e) hn
      · rfl
    have hs : s.size = 64 := by
      by_cases e : s.size = 64
      · exact e
      · exact absurd (.inr (.inl e)) hn
    have hl : d.late.length ≠ 200 := fun e => hn (.inr (.inr e))
    exact right_snoc h hx hs (by omega)
theorem right_done {d : PDisk} (h : diskB d = true) (keep : Int) : diskB (doneDk keep d) = true := by
  have hl := diskB_len h
  refine diskB_yes ((doneN_len _ _ _ _).trans hl.1) (Nat.zero_le _) (fun k hk => ?_) (fun k hk => absurd hk (by simp [doneDk]))
  have h1 : ∀ n, ∀ t ∈ doneN keep d.safe d.late n, t.size = 64 := by
    intro n
    induction n with
    | zero => intro t ht; obtain ⟨i, hi, rfl⟩ := List.getElem_of_mem ht; exact diskB_safe h hi
    | succ n ih =>
      by_cases hlt : n < d.late.length
      · rw [doneN_succ hlt]
        split
        · intro t ht
          rcases List.mem_or_eq_of_mem_set ht with e | e
          · exact ih t e
          · rw [e]; exact (diskB_late h hlt).2.2
        · exact ih
      · intro t ht
        rw [doneN, List.getElem?_eq_none (by omega)] at ht
        exact ih t ht
  exact h1 _ _ (List.getElem_mem hk)
theorem right_sync {d : PDisk} (h : diskB d = true) : (syncDk d).2 = true ∧ diskB (syncDk d).1 = true := by
  unfold syncDk
  rw [if_neg (by rw [h]; simp)]
  exact ⟨rfl, right_done h _⟩

end Go.Proofs.YtokkigfjabbdaaaGreatDoor

/- Areas, plainly. No condition. -/
namespace Go.Proofs.YtokkigfjabbdaaaGreatDoor
open Go.RowKit
set_option maxRecDepth 100000
set_option linter.unusedVariables false

/-- The number of sector k of area a. -/
def secOf (a : Int) (k : Nat) : Int := 2 + 64 * a + k
/-- Byte k of area a. -/
def byteD (d : PDisk) (a : Int) (k : Nat) : Int := (bs (sectorD d (secOf a (k / 64)))).getD (k % 64) 0
def getL (d : PDisk) (a : Int) (at' n : Nat) : List Int := (List.range n).map fun j => byteD d a (at' + j)
theorem getL_len (d : PDisk) (a : Int) (at' n : Nat) : (getL d a at' n).length = n := by simp [getL]
theorem getL_succ (d : PDisk) (a : Int) (at' n : Nat) : getL d a at' (n + 1) = getL d a at' n ++ [byteD d a (at' + n)] := by simp [getL, List.range_succ]
/-- What AreaGet answers. -/
def getOk (d : PDisk) (a at' n : Int) : Bool := diskB d && (decide (a = 0) || decide (a = 1)) && inB at' 0 4096 && inB n 0 (4096 - at')
def getDk (d : PDisk) (a at' n : Int) : List Int × Bool := if getOk d a at' n = true then (getL d a at'.toNat n.toNat, true) else ([], false)

/-- A byte of bs stands in sector k, when it is put from at' on. -/
def touch (at' n k : Nat) : Bool := decide (at' < 64 * k + 64) && decide (64 * k < at' + n) && decide (0 < n)
/-- The new text of a sector. -/
def newL (old b : List Int) (at' k : Nat) : List Int := (List.range 64).map fun i => if at' ≤ 64 * k + i ∧ 64 * k + i < at' + b.length then b.getD (64 * k + i - at') 0 else old.getD i 0
theorem newL_len (old b : List Int) (at' k : Nat) : (newL old b at' k).length = 64 := by simp [newL]
def newS (d : PDisk) (a : Int) (b : List Int) (at' k : Nat) : ByteArray := strOf (newL (bs (sectorD d (secOf a k))) b at' k)
theorem newS_size (d : PDisk) (a : Int) (b : List Int) (at' k : Nat) : (newS d a b at' k).size = 64 := by rw [newS, strOf_size, newL_len]
/-- The disk when k sectors of the area have been looked at. -/
def areaN (d : PDisk) (a : Int) (b : List Int) (at' : Nat) : Nat → Option PDisk
  | 0 => some d
  | k + 1 => match areaN d a b at' k with
    | none => none
    | some e => if touch at' b.length k = true then (if e.late.length < 200 then some ⟨e.safe, e.late ++ [(secOf a k, newS e a b at' k)]⟩ else none) else some e
def putOkA (d : PDisk) (a at' : Int) (b : List Int) : Bool := (decide (a = 0) || decide (a = 1)) && inB at' 0 4096 && decide ((b.length : Int) ≤ 4096 - at')
def areaDk (d : PDisk) (a at' : Int) (b : List Int) : PDisk × Bool :=
  if diskB d = false then (zeroDk, false) else if putOkA d a at' b = false then (d, false) else match areaN d a b at'.toNat 64 with
    | some e => (e, true)
    | none => (d, false)
theorem areaN_succ {d : PDisk} {a : Int} {b : List Int} {at' k : Nat} {e : PDisk} (h : areaN d a b at' k = some e) : areaN d a b at' (k + 1) = if touch at' b.length k = true then (if e.late.length < 200 then some ⟨e.safe, e.late ++ [(secOf a k, newS e a b at' k)]⟩ else none) else some e := by
  simp [areaN, h]
theorem areaN_none {d : PDisk} {a : Int} {b : List Int} {at' k : Nat} (h : areaN d a b at' k = none) (m : Nat) : areaN d a b at' (k + m) = none := by
  induction m with
  | zero => exact h
  | succ m ih => rw [← Nat.add_assoc]; simp [areaN, ih]
theorem secOf_in {a : Int} (ha : a = 0 ∨ a = 1) {k : Nat} (hk : k < 64) : inB (secOf a k) 0 129 = true := by
  unfold secOf
  rcases ha with rfl | rfl
  · exact inB_yes (by omega) (by omega)
  · exact inB_yes (by omega) (by omega)
/-- What is put keeps the disk right. -/
theorem areaN_right {d : PDisk} (hd : diskB d = true) {a : Int} (ha : a = 0 ∨ a = 1) {b : List Int} {at' : Nat} : ∀ {k : Nat} {e : PDisk}, k ≤ 64 → areaN d a b at' k = some e → diskB e = true := by
  intro k
  induction k with
  | zero => intro e _ h; simp [areaN] at h; rw [← h]; exact hd
  | succ k ih =>
    intro e hk h
    cases hq : areaN d a b at' k with
    | none => simp [areaN, hq] at h
    | some e' =>
      have hr := ih (by omega) hq
      rw [areaN_succ hq] at h
      split at h
      · split at h
        · rename_i hl
          simp only [Option.some.injEq] at h
          rw [← h]
          exact right_snoc hr (secOf_in ha (by omega)) (newS_size _ _ _ _ _) hl
        · cases h
      · simp only [Option.some.injEq] at h
        rw [← h]; exact hr
theorem sector_put (d : PDisk) (x : Int) (s : ByteArray) (i : Int) : sectorD ⟨d.safe, d.late ++ [(x, s)]⟩ i = if x = i then s else sectorD d i := by
  unfold sectorD
  simp only [putAt_snoc]
  by_cases h : x = i
  · simp [h]
  · simp [h]
/-- Sectors that are not of this area, or not yet looked at, are as they were; those looked at have their new text. -/
theorem areaN_sector {d : PDisk} {a : Int} {b : List Int} {at' : Nat} : ∀ {k : Nat} {e : PDisk}, areaN d a b at' k = some e →
    (∀ x : Int, (∀ j, j < k → x ≠ secOf a j) → sectorD e x = sectorD d x) ∧ (∀ j, j < k → sectorD e (secOf a j) = if touch at' b.length j = true then newS d a b at' j else sectorD d (secOf a j)) := by
  intro k
  induction k with
  | zero => intro e h; simp [areaN] at h; rw [← h]; exact ⟨fun _ _ => rfl, fun j hj => absurd hj (by omega)⟩
  | succ k ih =>
    intro e h
    cases hq : areaN d a b at' k with
    | none => simp [areaN, hq] at h
    | some e' =>
      obtain ⟨i1, i2⟩ := ih hq
      rw [areaN_succ hq] at h
      have hk : sectorD e' (secOf a k) = sectorD d (secOf a k) := i1 _ (fun j hj => by unfold secOf; omega)
      have hn : newS e' a b at' k = newS d a b at' k := by unfold newS; rw [hk]
      split at h
      · rename_i ht
        split at h
        · simp only [Option.some.injEq] at h
          rw [← h]
          refine ⟨fun x hx => ?_, fun j hj => ?_⟩
          · rw [sector_put, if_neg (fun e => hx k (by omega) e.symm)]
            exact i1 x (fun j hj => hx j (by omega))
          · rw [sector_put]
            by_cases e : j = k
            · subst e; rw [if_pos rfl, if_pos ht, hn]
            · rw [if_neg (by unfold secOf; omega)]
              exact i2 j (by omega)
        · cases h
      · rename_i ht
        simp only [Option.some.injEq] at h
        rw [← h]
        refine ⟨fun x hx => i1 x (fun j hj => hx j (by omega)), fun j hj => ?_⟩
        by_cases e : j = k
        · subst e; rw [if_neg ht, hk]
        · exact i2 j (by omega)
end Go.Proofs.YtokkigfjabbdaaaGreatDoor
