/- A region that draws its order, in which all but the last operations only read: one walk, and the last ones in their order, whatever they do. No condition. -/
import Derived.Test.YtogdbjafibejdaaGreatY0
import Derived.StillTail
import Derived.BigQuiet
import Derived.Test.YtogdbjafibejdaaGreatRows
import Derived.Test.YtogdbjafibejdaaGreatY2
import Derived.Test.YtogdbjafibejdaaGreatY3
namespace Go.Proofs.YtogdbjafibejdaaGreat
open Go.RowKit
set_option maxRecDepth 100000
set_option linter.unusedVariables false

def One (w1 : World) : Type := { w : World // w = w1 }
def One.w {w1 : World} (n : One w1) : World := n.1
theorem One.eq {w1 : World} (n : One w1) : n.w = w1 := n.2
theorem One.any (w1 : World) : Nonempty (One w1) := ⟨⟨w1, rfl⟩⟩

theorem still_of_quiet {P : Program} {ops : Array Oper} {w1 : World} {Q : Act → Prop} : ∀ (l : List Oper) (a : Act),
    wpQuiet P ops (fun w' => ∃ n : One w1, w' = n.w) Q l a → wpStill P ops w1 Q l a := by
  intro l
  induction l with
  | nil => exact fun a h => h
  | cons o rest ih =>
    intro a h
    unfold wpQuiet at h
    unfold wpStill
    by_cases hw : Region.wanted o (yielded ops a.tmps) = true
    · rw [if_pos hw] at h ⊢
      obtain ⟨v, h1, h2⟩ := h
      have h3 := h1 w1 ⟨⟨w1, rfl⟩, rfl⟩
      have h4 := ih _ h2
      unfold Oper.quietAt at h3
      unfold Oper.still
      generalize (execOp a.eval o).run P w1 = r at *
      cases r with
      | ok n w' =>
        cases n <;> simp only [Oper.quietUpon] at h3 <;> simp only [Oper.stillUpon]
        case value u =>
          obtain ⟨e1, e2⟩ := h3
          exact ⟨e1, by rw [e2]; exact h4⟩
        case skip =>
          obtain ⟨e1, e2⟩ := h3
          exact ⟨e1, by rw [← e2]; exact h4⟩
        case enter f args =>
          obtain ⟨e1, hc⟩ := h3
          exact ⟨e1, v, hc.mono (fun e w'' ⟨he, n, hn⟩ => ⟨he, hn.trans n.eq⟩), h4⟩
      | halt x w' => simp only [Oper.quietUpon] at h3
    · rw [if_neg hw] at h ⊢
      exact ih _ h

theorem region_tail {P : Program} {id : Nat} {Q : Exit → Act → World → Prop} {a : Act} {w : World} {l : List Oper} (n : Nat) (hm : P.follows .mixedOrders = true) (hB : Region.lexTailB .any l.toArray n = true)
    (h : ∀ (w1 : World) (K : Act → Prop), Hid (w1 = w.drew) → Hid (∀ a', wpList P l.toArray Q (l.drop n) a' w1 → K a') → wpQuiet P l.toArray (fun w' => ∃ n : One w1, w' = n.w) K (l.take n) a) : (Code.region id l.toArray true).wp P Q a w :=
  wp_region_still_tail n hm hB (still_of_quiet _ _ (h w.drew _ rfl (fun _ h => h)))
end Go.Proofs.YtogdbjafibejdaaGreat

/- A region that draws its order, and whose calls may make memory but write nothing that was there: one walk, in the order of the text. -/
namespace Go.Proofs.YtogdbjafibejdaaGreat
open Go.RowKit
set_option maxRecDepth 100000
set_option linter.unusedVariables false

def Wd (B : Nat) (w0 : World) : Type := { w : World // Below B w0 w }
def Wd.w {B : Nat} {w0 : World} (n : Wd B w0) : World := n.1
theorem Wd.below {B : Nat} {w0 : World} (n : Wd B w0) : Below B w0 n.w := n.2
theorem Wd.of {B : Nat} {w0 w : World} (h : ∃ n : Wd B w0, w = n.w) : Below B w0 w := by
  obtain ⟨n, rfl⟩ := h
  exact n.below
theorem Wd.any (B : Nat) (w0 : World) : Nonempty (Wd B w0) := ⟨⟨w0, Below.refl _ _⟩⟩

theorem wp_region_below {P : Program} {id : Nat} {Q : Exit → Act → World → Prop} {a : Act} {w w0 : World} {B : Nat} {l : List Oper} (hm : P.follows .mixedOrders = true) (hB : Region.lexB .any l.toArray = true)
    (hb : Below B w0 w) (h : wpQuiet P l.toArray (fun w' => ∃ n : Wd B w0, w' = n.w) (fun a' => ∀ w', (∃ n : Wd B w0, w' = n.w) → Q .normal a' w') l a) : (Code.region id l.toArray true).wp P Q a w :=
  wp_region_quiet (C := fun w' => ∃ n : Wd B w0, w' = n.w) hm hB ⟨⟨_, hb.trans (below_drewN 1)⟩, rfl⟩ (by simpa using h)

theorem quiet_below {P : Program} {f : FuncId} {args : Array Value} {B : Nat} {w0 : World} {n : Wd B w0} {v : Value}
    (h : Calls P f args n.w fun e w' => e = .returned v ∧ Below n.w.heap.size n.w w') (hB : B ≤ w0.heap.size) : Calls P f args n.w fun e w'' => e = .returned v ∧ ∃ m : Wd B w0, w'' = m.w :=
  h.mono fun _ _ ⟨he, hb⟩ => ⟨he, ⟨_, n.below.trans (hb.mono (Nat.le_trans hB n.below.size))⟩, rfl⟩
end Go.Proofs.YtogdbjafibejdaaGreat

/- The plain mathematics of reading points from bytes, as lists of integers. No condition. -/
namespace Go.Proofs.YtogdbjafibejdaaGreat

def loOf (b : Int) : Int := if b = 224 then 160 else if b = 240 then 144 else 128
def hiOf (b : Int) : Int := if b = 237 then 159 else if b = 244 then 143 else 191

def tailOf (p : Int) : Nat → Int → Int → List Int → Int × List Int
  | 0, _, _, r => (p, r)
  | _ + 1, _, _, [] => (65533, [])
  | k + 1, lo, hi, c :: r => if lo ≤ c ∧ c ≤ hi then tailOf (p * 64 + c - 128) k 128 191 r else (65533, c :: r)

def stepOf (b : Int) (r : List Int) : Int × List Int :=
  if b < 128 then (b, r)
  else if 194 ≤ b ∧ b ≤ 223 then tailOf (b - 192) 1 (loOf b) (hiOf b) r
  else if 224 ≤ b ∧ b ≤ 239 then tailOf (b - 224) 2 (loOf b) (hiOf b) r
  else if 240 ≤ b ∧ b ≤ 244 then tailOf (b - 240) 3 (loOf b) (hiOf b) r
  else (65533, r)

theorem tailOf_le (p : Int) (k : Nat) (lo hi : Int) (r : List Int) : (tailOf p k lo hi r).2.length ≤ r.length := by
  induction k generalizing p lo hi r with
  | zero => simp [tailOf]
  | succ k ih =>
    cases r with
    | nil => simp [tailOf]
    | cons c r =>
      unfold tailOf; split
      · exact Nat.le_trans (ih ..) (by simp)
      · simp
theorem stepOf_le (b : Int) (r : List Int) : (stepOf b r).2.length ≤ r.length := by
  unfold stepOf; repeat' split
  all_goals first | exact tailOf_le .. | exact Nat.le_refl _

def decF : Nat → List Int → List Int
  | 0, _ => []
  | _ + 1, [] => []
  | n + 1, b :: r => (stepOf b r).1 :: decF n (stepOf b r).2
def dec (l : List Int) : List Int := decF l.length l

theorem decF_more (n m : Nat) (l : List Int) (hn : l.length ≤ n) (hm : l.length ≤ m) : decF n l = decF m l := by
  induction n generalizing m l with
  | zero =>
    have : l = [] := List.length_eq_zero_iff.mp (by omega)
    subst this
    cases m <;> rfl
  | succ n ih =>
    cases l with
    | nil => cases m <;> rfl
    | cons b r =>
      cases m with
      | zero => simp at hm
      | succ m =>
        have h := stepOf_le b r
        simp at hn hm
        show (stepOf b r).1 :: decF n (stepOf b r).2 = (stepOf b r).1 :: decF m (stepOf b r).2
        rw [ih m (stepOf b r).2 (by omega) (by omega)]
theorem dec_nil : dec [] = [] := rfl
theorem dec_cons (b : Int) (r : List Int) : dec (b :: r) = (stepOf b r).1 :: dec (stepOf b r).2 := by
  show (stepOf b r).1 :: decF r.length (stepOf b r).2 = _
  rw [decF_more r.length (stepOf b r).2.length _ (stepOf_le b r) (Nat.le_refl _)]
  rfl
theorem dec_len (n : Nat) (l : List Int) (h : l.length ≤ n) : (dec l).length ≤ l.length := by
  induction n generalizing l with
  | zero => have : l = [] := List.length_eq_zero_iff.mp (by omega)
            subst this; simp [dec_nil]
  | succ n ih =>
    cases l with
    | nil => simp [dec_nil]
    | cons b r =>
      rw [dec_cons]
      have h1 := stepOf_le b r
      have h2 := ih (stepOf b r).2 (by simp at h; omega)
      simp; omega

theorem dec_ascii {b : Int} (r : List Int) (h : b < 128) : dec (b :: r) = b :: dec r := by rw [dec_cons]; simp [stepOf, h]
theorem dec_bad {b : Int} (r : List Int) (h : 128 ≤ b ∧ b < 194 ∨ 244 < b) : dec (b :: r) = 65533 :: dec r := by
  have e : stepOf b r = (65533, r) := by
    unfold stepOf
    rw [if_neg (by omega), if_neg (by omega), if_neg (by omega), if_neg (by omega)]
  rw [dec_cons, e]
theorem dec_two {b : Int} (r : List Int) (h : 194 ≤ b ∧ b ≤ 223) : dec (b :: r) = (tailOf (b - 192) 1 (loOf b) (hiOf b) r).1 :: dec (tailOf (b - 192) 1 (loOf b) (hiOf b) r).2 := by
  have e : stepOf b r = tailOf (b - 192) 1 (loOf b) (hiOf b) r := by
    unfold stepOf
    rw [if_neg (by omega), if_pos h]
  rw [dec_cons, e]
theorem dec_three {b : Int} (r : List Int) (h : 224 ≤ b ∧ b ≤ 239) : dec (b :: r) = (tailOf (b - 224) 2 (loOf b) (hiOf b) r).1 :: dec (tailOf (b - 224) 2 (loOf b) (hiOf b) r).2 := by
  have e : stepOf b r = tailOf (b - 224) 2 (loOf b) (hiOf b) r := by
    unfold stepOf
    rw [if_neg (by omega), if_neg (by omega), if_pos h]
  rw [dec_cons, e]
theorem dec_four {b : Int} (r : List Int) (h : 240 ≤ b ∧ b ≤ 244) : dec (b :: r) = (tailOf (b - 240) 3 (loOf b) (hiOf b) r).1 :: dec (tailOf (b - 240) 3 (loOf b) (hiOf b) r).2 := by
  have e : stepOf b r = tailOf (b - 240) 3 (loOf b) (hiOf b) r := by
    unfold stepOf
    rw [if_neg (by omega), if_neg (by omega), if_neg (by omega), if_pos h]
  rw [dec_cons, e]
theorem tail_end (p : Int) (k : Nat) (lo hi : Int) : tailOf p (k + 1) lo hi [] = (65533, []) := rfl
theorem tail_out {c : Int} (p : Int) (k : Nat) {lo hi : Int} (r : List Int) (h : c < lo ∨ hi < c) : tailOf p (k + 1) lo hi (c :: r) = (65533, c :: r) := by
  rw [tailOf, if_neg (by omega)]
theorem tail_in {c : Int} (p : Int) (k : Nat) {lo hi : Int} (r : List Int) (h : lo ≤ c) (h' : c ≤ hi) : tailOf p (k + 1) lo hi (c :: r) = tailOf (p * 64 + c - 128) k 128 191 r := by
  rw [tailOf, if_pos ⟨h, h'⟩]
theorem lo_hi (b : Int) : 128 ≤ loOf b ∧ loOf b ≤ 160 ∧ 143 ≤ hiOf b ∧ hiOf b ≤ 191 := by
  unfold loOf hiOf; repeat' split
  all_goals omega

def unmark (bs : List Int) : List Int := if bs.take 3 = [239, 187, 191] then bs.drop 3 else bs
def utfRead (bs : List Int) : List Int := if bs.length ≤ 3000 then dec (unmark bs) else []
theorem unmark_len (bs : List Int) : (unmark bs).length ≤ bs.length := by unfold unmark; split <;> simp
theorem utfRead_len (bs : List Int) : (utfRead bs).length ≤ 3000 := by
  unfold utfRead; split
  · have h1 := dec_len _ (unmark bs) (Nat.le_refl _)
    have h2 := unmark_len bs
    omega
  · simp
end Go.Proofs.YtogdbjafibejdaaGreat

/- The contract of the specification's small question whether a number lies between two bounds. No condition. -/
namespace Go.Proofs.YtogdbjafibejdaaGreat
open Go.RowKit
set_option maxRecDepth 100000
set_option linter.unusedVariables false

def inB (x lo hi : Int) : Bool := decide (lo ≤ x) && decide (x ≤ hi)
theorem inB_yes {x lo hi : Int} (h : lo ≤ x) (h' : x ≤ hi) : inB x lo hi = true := by simp [inB, h, h']
theorem inB_no {x lo hi : Int} (h : x < lo ∨ hi < x) : inB x lo hi = false := by
  rcases h with h | h
  · simp [inB]; omega
  · simp [inB]; omega

theorem l1In_any (x lo hi : Int) (w : World) : Calls Tryz.prog 57 #[.int .i64 x, .int .i64 lo, .int .i64 hi] w fun e w' => e = .returned (.bool (inB x lo hi)) ∧ w' = w := by
  rcases (show x < lo ∨ (lo ≤ x ∧ hi < x) ∨ (lo ≤ x ∧ x ≤ hi) by omega) with h | ⟨h, h'⟩ | ⟨h, h'⟩
  · rw [inB_no (.inl h)]
    go_enter Tryz.func57, Tryz.ntmps57
    go_wp2
    go_ret
    exact ⟨rfl, rfl⟩
  · rw [inB_no (.inr h')]
    go_enter Tryz.func57, Tryz.ntmps57
    go_wp2
    go_ret
    exact ⟨ret_bool (by first | (simp; done) | (simp; omega)), rfl⟩
  · rw [inB_yes h h']
    go_enter Tryz.func57, Tryz.ntmps57
    go_wp2
    go_ret
    exact ⟨ret_bool (by first | (simp; done) | (simp; omega)), rfl⟩
end Go.Proofs.YtogdbjafibejdaaGreat

/- Contracts of PointOk and PointPut, the program's and the specification's, at every number. -/
namespace Go.Proofs.YtogdbjafibejdaaGreat
open Go.RowKit
set_option maxRecDepth 100000
set_option linter.unusedVariables false

theorem iok_any (x : Int) (w : World) : Calls Tryz.prog 212 #[.int .i64 x] w fun e w' => e = .returned (.bool (pointOk x)) ∧ w' = w := by
  rcases (show x < 0 ∨ (0 ≤ x ∧ x < 55296) ∨ (55296 ≤ x ∧ x ≤ 57343) ∨ (57343 < x ∧ x ≤ 1114111) ∨ 1114111 < x by omega) with h | ⟨h, h'⟩ | ⟨h, h'⟩ | ⟨h, h'⟩ | h
  all_goals
    go_enter Tryz.func212, Tryz.ntmps212
    go_wp2
    go_ret
    exact ⟨ret_bool (by rw [eq_comm, Bool.eq_iff_iff, pointOk_iff]; simp <;> omega), rfl⟩

theorem sok_any (x : Int) (w : World) : Calls Tryz.prog 216 #[.int .i64 x] w fun e w' => e = .returned (.bool (pointOk x)) ∧ w' = w := by
  rcases (show x < 0 ∨ (0 ≤ x ∧ x < 55296) ∨ (55296 ≤ x ∧ x ≤ 57343) ∨ (57343 < x ∧ x ≤ 1114111) ∨ 1114111 < x by omega) with h | ⟨h, h'⟩ | ⟨h, h'⟩ | ⟨h, h'⟩ | h
  all_goals
    go_enter Tryz.func216, Tryz.ntmps216
    go_wp2
    go_ret
    exact ⟨ret_bool (by rw [eq_comm, Bool.eq_iff_iff, pointOk_iff]; simp <;> omega), rfl⟩

theorem iput_pt (x : Int) (w : World) (hp : pointOk x = true) :
    Calls Tryz.prog 202 #[.int .i64 x] w fun e w' => ∃ v, e = .returned v ∧ Own w.heap.size 5 .u8 w' v (enc x) ∧ Below w.heap.size w w' := by
  have hb := (pointOk_iff x).mp hp
  obtain ⟨h0, h1, -⟩ := hb
  rcases (show x < 128 ∨ (128 ≤ x ∧ x < 2048) ∨ (2048 ≤ x ∧ x < 65536) ∨ 65536 ≤ x by omega) with h | ⟨h, h'⟩ | ⟨h, h'⟩ | h
  · rw [enc1 h]
    go_enter Tryz.func202, Tryz.ntmps202
    go_wp2_with (first | (go_at_call 212; refine (iok_any _ _).mono ?_; rintro e w' ⟨rfl, rfl⟩) | go_in)
    go_ret
    exact ⟨_, rfl, World.ownsRow_lit _ _ 1 (Nat.le_refl _) (by unfold maxLen; omega) rfl, (Below.refl _ _).alloc (Nat.le_refl _) _⟩
  · rw [enc2 h h']
    go_enter Tryz.func202, Tryz.ntmps202
    go_wp2_with (first | (go_at_call 212; refine (iok_any _ _).mono ?_; rintro e w' ⟨rfl, rfl⟩) | go_in)
    go_ret
    exact ⟨_, rfl, World.ownsRow_lit _ _ 2 (Nat.le_refl _) (by unfold maxLen; omega) rfl, (Below.refl _ _).alloc (Nat.le_refl _) _⟩
  · rw [enc3 h h']
    go_enter Tryz.func202, Tryz.ntmps202
    go_wp2_with (first | (go_at_call 212; refine (iok_any _ _).mono ?_; rintro e w' ⟨rfl, rfl⟩) | go_in)
    go_ret
    exact ⟨_, rfl, World.ownsRow_lit _ _ 3 (Nat.le_refl _) (by unfold maxLen; omega) rfl, (Below.refl _ _).alloc (Nat.le_refl _) _⟩
  · rw [enc4 h]
    go_enter Tryz.func202, Tryz.ntmps202
    go_wp2_with (first | (go_at_call 212; refine (iok_any _ _).mono ?_; rintro e w' ⟨rfl, rfl⟩) | go_in)
    go_ret
    exact ⟨_, rfl, World.ownsRow_lit _ _ 4 (Nat.le_refl _) (by unfold maxLen; omega) rfl, (Below.refl _ _).alloc (Nat.le_refl _) _⟩

theorem sput_pt (x : Int) (w : World) (hp : pointOk x = true) :
    Calls Tryz.prog 206 #[.int .i64 x] w fun e w' => ∃ v, e = .returned v ∧ Own w.heap.size 5 .u8 w' v (enc x) ∧ Below w.heap.size w w' := by
  have hb := (pointOk_iff x).mp hp
  obtain ⟨h0, h1, -⟩ := hb
  rcases (show x < 128 ∨ (128 ≤ x ∧ x < 2048) ∨ (2048 ≤ x ∧ x < 65536) ∨ 65536 ≤ x by omega) with h | ⟨h, h'⟩ | ⟨h, h'⟩ | h
  · rw [enc1 h]
    go_enter Tryz.func206, Tryz.ntmps206
    go_wp2_with (first | (go_at_call 216; refine (sok_any _ _).mono ?_; rintro e w' ⟨rfl, rfl⟩) | go_in)
    go_ret
    exact ⟨_, rfl, World.ownsRow_lit _ _ 1 (Nat.le_refl _) (by unfold maxLen; omega) rfl, (Below.refl _ _).alloc (Nat.le_refl _) _⟩
  · rw [enc2 h h']
    go_enter Tryz.func206, Tryz.ntmps206
    go_wp2_with (first | (go_at_call 216; refine (sok_any _ _).mono ?_; rintro e w' ⟨rfl, rfl⟩) | go_in)
    go_ret
    exact ⟨_, rfl, World.ownsRow_lit _ _ 2 (Nat.le_refl _) (by unfold maxLen; omega) rfl, (Below.refl _ _).alloc (Nat.le_refl _) _⟩
  · rw [enc3 h h']
    go_enter Tryz.func206, Tryz.ntmps206
    go_wp2_with (first | (go_at_call 216; refine (sok_any _ _).mono ?_; rintro e w' ⟨rfl, rfl⟩) | go_in)
    go_ret
    exact ⟨_, rfl, World.ownsRow_lit _ _ 3 (Nat.le_refl _) (by unfold maxLen; omega) rfl, (Below.refl _ _).alloc (Nat.le_refl _) _⟩
  · rw [enc4 h]
    go_enter Tryz.func206, Tryz.ntmps206
    go_wp2_with (first | (go_at_call 216; refine (sok_any _ _).mono ?_; rintro e w' ⟨rfl, rfl⟩) | go_in)
    go_ret
    exact ⟨_, rfl, World.ownsRow_lit _ _ 4 (Nat.le_refl _) (by unfold maxLen; omega) rfl, (Below.refl _ _).alloc (Nat.le_refl _) _⟩

theorem iput_any (x : Int) (w : World) :
    Calls Tryz.prog 202 #[.int .i64 x] w fun e w' => ∃ v, e = .returned v ∧ Own w.heap.size 5 .u8 w' v (put x) ∧ Below w.heap.size w w' := by
  unfold put
  cases hp : pointOk x
  · rw [pt_not x hp, enc3 (by omega) (by omega)]
    go_enter Tryz.func202, Tryz.ntmps202
    go_wp2_with (first | (go_at_call 212; refine (iok_any _ _).mono ?_; rintro e w' ⟨rfl, rfl⟩) | go_in)
    go_ret
    exact ⟨_, rfl, World.ownsRow_lit _ _ 3 (Nat.le_refl _) (by unfold maxLen; omega) rfl, (Below.refl _ _).alloc (Nat.le_refl _) _⟩
  · rw [pt_of x hp]
    exact iput_pt x w hp

theorem sput_any (x : Int) (w : World) :
    Calls Tryz.prog 206 #[.int .i64 x] w fun e w' => ∃ v, e = .returned v ∧ Own w.heap.size 5 .u8 w' v (put x) ∧ Below w.heap.size w w' := by
  unfold put
  cases hp : pointOk x
  · rw [pt_not x hp, enc3 (by omega) (by omega)]
    go_enter Tryz.func206, Tryz.ntmps206
    go_wp2_with (first | (go_at_call 216; refine (sok_any _ _).mono ?_; rintro e w' ⟨rfl, rfl⟩) | go_in)
    go_ret
    exact ⟨_, rfl, World.ownsRow_lit _ _ 3 (Nat.le_refl _) (by unfold maxLen; omega) rfl, (Below.refl _ _).alloc (Nat.le_refl _) _⟩
  · rw [pt_of x hp]
    exact sput_pt x w hp

end Go.Proofs.YtogdbjafibejdaaGreat

/- A loop over an iterator whose own functions hold such loops: a law of our own, for bodies that always go on. No condition. -/
namespace Go.Proofs.YtogdbjafibejdaaGreat
open Go.RowKit
set_option maxRecDepth 100000
set_option linter.unusedVariables false

structure Kq (n0 n1 : Nat) (W W' : World) : Prop where
  os : W'.os = W.os
  tape : W'.tape = W.tape
  output : W'.output = W.output
  size : W.heap.size ≤ W'.heap.size
  same : ∀ (k : Nat) (o : Obj), W.heap[k]? = some o → (k < n0 ∨ n1 ≤ k ∨ o.isCells = false) → W'.heap[k]? = some o
theorem Kq.refl (n0 n1 : Nat) (W : World) : Kq n0 n1 W W := ⟨rfl, rfl, rfl, Nat.le_refl _, fun _ _ h _ => h⟩
theorem Kq.trans {n0 n1 : Nat} {A B C : World} (h : Kq n0 n1 A B) (k : Kq n0 n1 B C) : Kq n0 n1 A C :=
  ⟨k.os.trans h.os, k.tape.trans h.tape, k.output.trans h.output, Nat.le_trans h.size k.size, fun i o hi ho => k.same i o (h.same i o hi ho) ho⟩
theorem Kq.below {n0 n1 : Nat} {A B : World} (h : Kq n0 n1 A B) (hn : n0 ≤ A.heap.size) : Below n0 A B :=
  ⟨h.os, h.tape, h.output, h.size, fun k hk => by
    have hlt : k < A.heap.size := by omega
    rw [h.same k A.heap[k] (by simp [hlt]) (.inl hk)]
    simp [hlt]⟩
theorem Kq.keeps {n0 n1 : Nat} {A B : World} (h : Kq n0 n1 A B) : KeepsOthers A B := ⟨h.size, fun k o hk ho => h.same k o hk (.inr (.inr ho))⟩
theorem Kq.of_below {n0 n1 : Nat} {A B : World} (h : Below A.heap.size A B) : Kq n0 n1 A B :=
  ⟨h.os, h.tape, h.output, h.size, fun k o hk _ => (h.block k (blk_lt hk)).trans hk⟩
theorem Kq.alloc (n0 n1 : Nat) (W : World) (o : Obj) : Kq n0 n1 W (W.alloc o) := Kq.of_below ((Below.refl _ W).alloc (Nat.le_refl _) _)
theorem Kq.own {n0 n1 B : Nat} {W0 W W' : World} {row : Option Nat} (h : Kq n0 n1 W0 W) (hB : W0.heap.size ≤ B) (hg : W.grownBy W' row) (hr : ∀ r, row = some r → B ≤ r ∧ ∃ o : Obj, W.heap[r]? = some o ∧ o.isCells = false) : Kq n0 n1 W0 W' :=
  ⟨hg.os.trans h.os, hg.tape.trans h.tape, hg.output.trans h.output, Nat.le_trans h.size hg.size, fun k o hk ho => blk_from (B := B) (h.same k o hk ho) (by have := blk_lt hk; omega) hg hr⟩

def FreeFrom {β : Type} (B : Nat) (J : β → World → Prop) : Prop := ∀ s W W' row, J s W → W.grownBy W' row → (∀ r, row = some r → B ≤ r) → J s W'
theorem FreeFrom.own {β : Type} {B : Nat} {J : β → World → Prop} (h : FreeFrom B J) {C : Nat} (hC : B ≤ C) : OwnFrom C J := fun s W W' row hs hg hr => h s W W' row hs hg (fun r e => Nat.le_trans hC (hr r e).1)
theorem blk_free {B : Nat} {k : Nat} {o : Obj} {W W' : World} {row : Option Nat} (h : W.heap[k]? = some o) (hk : k < B) (hg : W.grownBy W' row) (hr : ∀ r, row = some r → B ≤ r) : W'.heap[k]? = some o := by
  rw [hg.block k (blk_lt h) (fun e => by have := hr k e.symm; omega)]
  exact h
theorem below_free {n0 B : Nat} {w0 W W' : World} {row : Option Nat} (h : Below n0 w0 W) (h0 : n0 ≤ w0.heap.size) (hB : n0 ≤ B) (hg : W.grownBy W' row) (hr : ∀ r, row = some r → B ≤ r) : Below n0 w0 W' :=
  h.grown hg (by have := h.size; omega) (fun r e => by have := hr r e; omega)

def SeqTells (P : Program) (g : Nat) (lb : Array Value) (n0 : Nat) (all : List Int) (w : World) : Prop :=
  ∀ (n l n1 : Nat) (J : List Int → World → Prop) (W : World), Below w.heap.size w W → n1 ≤ W.heap.size → FreeFrom n1 J →
    (∀ m pre x W1, J pre W1 → YieldAt Fence.wide m P l #[.int .i64 x] W1 fun e W' => e = .returned (.bool true) ∧ J (pre ++ [x]) W' ∧ Kq n0 n1 W1 W') →
    J [] W → CallsIn Fence.wide n P g (#[.func (.yield l) #[] #[]] ++ lb) W fun e W' => (∃ v, e = .returned v) ∧ J all W' ∧ Kq n0 n1 W W'

theorem wpIn_tells {P : Program} {n : Nat} {g : Operand} {p : Tmp} {assign body : Code} {Q : Exit → Act → World → Prop} {a : Act} {w w0 : World} {n0 : Nat} {all : List Int}
    {gf : Nat} {lb : Array Value} (hg : a.eval g = .func (.func gf) #[] lb) (eg : ∀ args w, (callFunc gf args).run P w = .ok (.enter gf args) w)
    (hseq : SeqTells P gf lb n0 all w0) (hb0 : Below w0.heap.size w0 w) (hn0 : n0 ≤ w.heap.size)
    (I : List Int → World → Prop) (hF : FreeFrom w.heap.size I) (h0 : I [] w) (a1 : Int → Act)
    (hassign : ∀ (l m : Nat) (x : Int) (W : World) (K : Act → World → Prop), K (a1 x) W → assign.wpIn (Fence.wide.inRound l) m P (Exit.then K (fun _ _ _ => False)) { tmps := a.tmps.setIfInBounds p (.int .i64 x), defers := [] } W)
    (hbody : ∀ (l m : Nat) (pre : List Int) (x : Int) (W : World), I pre W → body.wpIn (Fence.wide.inRound l) m P (fun e _ W' => e = .normal ∧ Kq n0 w.heap.size W W' ∧ I (pre ++ [x]) W') (a1 x) W)
    (hdone : ∀ (D : Nat) (W : World), w.heap.size ≤ D → I all W → Kq n0 w.heap.size w W → W.heap[D]? = some (.deferred (some [])) → Q .normal { a with defers := { target := .collected D, args := #[] } :: a.defers } W) :
    (Code.rangeFunc g #[p] assign body).wpIn Fence.wide n P Q a w := by
  have hI := hF.own (Nat.le_refl _)
  refine wpIn_rangeFunc fun fn hfn => ?_
  let rc : LoopState → Loop := fun st => { state := st, pending := none, fn, tmps := a.tmps, params := #[p], assign, body, defers := w.heap.size }
  have hW1 : Below w.heap.size w ((w.alloc (.deferred (some []))).alloc (.loop (rc .ready))) := ((Below.refl _ w).alloc (Nat.le_refl _) _).alloc (by simp) _
  have hl1 : ((w.alloc (.deferred (some []))).alloc (.loop (rc .ready))).heap[w.heap.size + 1]? = some (.loop (rc .ready)) := by
    have := World.alloc_heap_new (w.alloc (.deferred (some []))) (.loop (rc .ready)); rwa [World.size_alloc] at this
  have hd1 : ((w.alloc (.deferred (some []))).alloc (.loop (rc .ready))).heap[w.heap.size]? = some (.deferred (some [])) := (Below.heap_alloc _ _ _ (by simp)).trans (World.alloc_heap_new w _)
  refine ⟨w.heap.size + 1, [{ target := .collected w.heap.size, args := #[] }], ((w.alloc (.deferred (some []))).alloc (.loop (rc .ready))), { target := .fn (.func gf) lb, args := #[.func (.yield (w.heap.size + 1)) #[] #[]] }, ((w.alloc (.deferred (some []))).alloc (.loop (rc .ready))), gf, #[.func (.yield (w.heap.size + 1)) #[] #[]] ++ lb, ((w.alloc (.deferred (some []))).alloc (.loop (rc .ready))), run_enterLoop_outer _ _ _ _ _, ?_, fun _ _ => trivial, ?_, fun h => (by cases h), ?_⟩
  · simp only [resolve, hg]
    simp [go_sem]
  · simp [invoke, go_sem, eg]
  · have hJ : FreeFrom (w.heap.size + 2) (fun pre W => I pre W ∧ W.heap[w.heap.size + 1]? = some (.loop (rc .ready)) ∧ W.heap[w.heap.size]? = some (.deferred (some []))) := fun pre A B row hs hgr hr =>
      ⟨hF pre A B row hs.1 hgr (fun r e => by have := hr r e; omega), blk_free hs.2.1 (by omega) hgr hr, blk_free hs.2.2 (by omega) hgr hr⟩
    refine (hseq (n - 1) (w.heap.size + 1) (w.heap.size + 2) _ _ (hb0.trans (hW1.mono hb0.size)) (by simp) hJ ?_ ⟨hI.alloc _ (hI.alloc _ h0), hl1, hd1⟩).mono ?_
    · rintro m pre x W ⟨hi, hl, hd⟩
      have hy := run_yield (P := P) (args := #[Value.int .i64 x]) hl rfl
      have htm : ((rc .ready).params.zip #[Value.int .i64 x]).foldl (fun tmps (t, a) => tmps.setIfInBounds t a) (rc .ready).tmps = a.tmps.setIfInBounds p (.int .i64 x) := by simp [rc]
      rw [htm] at hy
      refine ⟨fn, _, assign, body, hy, roundIn_of_wpIn hfn (hassign _ _ x W _ ⟨_, run_beginRound hl rfl, ?_⟩)⟩
      have hlt := blk_lt hl
      have hl2 : (W.putObj (w.heap.size + 1) (.loop { rc .ready with state := .busy })).heap[w.heap.size + 1]? = some (.loop { rc .ready with state := .busy }) := World.putObj_heap_same hlt
      refine wpIn_mono (hbody _ _ pre x _ (hI.putObj _ hi (by omega) hl rfl)) ?_
      rintro e a3 W3 ⟨rfl, hk3, hi3⟩
      have hl3 := hk3.same _ _ hl2 (.inr (.inr rfl))
      have he := run_endRound (P := P) none hl3
      refine ⟨_, _, he, rfl, ⟨hI.putObj _ hi3 (by omega) hl3 rfl, World.putObj_heap_same (blk_lt hl3), ?_⟩, hk3.os, hk3.tape, hk3.output, ?_, fun k o hk ho => ?_⟩
      · rw [World.putObj_heap_other (by omega)]
        exact hk3.same _ _ ((World.putObj_heap_other (by omega)).trans hd) (.inr (.inr rfl))
      · have := hk3.size; simpa using this
      · by_cases hkl : k = w.heap.size + 1
        · subst hkl
          rw [hl] at hk
          cases hk
          exact World.putObj_heap_same (blk_lt hl3)
        · rw [World.putObj_heap_other hkl]
          refine hk3.same k o ((World.putObj_heap_other hkl).trans hk) ?_
          rcases ho with ho | ho | ho
          · exact .inl ho
          · exact .inr (.inl (by omega))
          · exact .inr (.inr ho)
    · rintro e W2 ⟨⟨v, rfl⟩, ⟨hi, hl, hd⟩, hk⟩
      refine ⟨none, _, run_endLoop (P := P) hl (by simp [rc]), hdone _ _ (Nat.le_refl _) (hI.putObj _ hi (by omega) hl rfl) ?_ ((World.putObj_heap_other (by omega)).trans hd)⟩
      refine ⟨hk.os, hk.tape, hk.output, ?_, fun k o hk1 ho => ?_⟩
      · have := hk.size; simp at this ⊢; omega
      · have hkw := blk_lt hk1
        rw [World.putObj_heap_other (by omega)]
        refine hk.same k o ((hW1.block k hkw).trans hk1) ?_
        rcases ho with ho | ho | ho
        · exact .inl ho
        · omega
        · exact .inr (.inr ho)
end Go.Proofs.YtogdbjafibejdaaGreat

/- Contracts of the small functions of the laws' package (copies, comparisons, marks of slices of integers), for every slice of up to 2^40 of them. -/
namespace Go.Proofs.YtogdbjafibejdaaGreat
open Go.RowKit
set_option maxRecDepth 100000
set_option linter.unusedVariables false

theorem eqI_any {v1 v2 : Value} {xs ys : List Int} {w : World} (h1 : Sl .i64 w v1 xs) (h2 : Sl .i64 w v2 ys) (hx : xs.length ≤ 1099511627776) (hy : ys.length ≤ 1099511627776) :
    Calls Tryz.prog 179 #[v1, v2] w fun e w' => e = .returned (.bool (decide (xs = ys))) ∧ Below w.heap.size w w' := by
  obtain ⟨a, ca, rfl, _, _, _, ha⟩ := h1
  obtain ⟨b, cb, rfl, _, _, _, hb⟩ := h2
  by_cases hl : xs.length = ys.length
  · have hl1 : ((xs.length : Int) != (ys.length : Int)) = false := by simp [hl]
    have HL : Hid (xs.length = ys.length) := hl
    clear hl
    go_enter Tryz.func179, Tryz.ntmps179
    go_wp2
    go_loopw [5] (fun i wr => ∃ k : Nat, k ≤ xs.length ∧ i = .int .i64 k ∧ xs.take k = ys.take k ∧ ∃ n, wr = w.drewN n) (fun i _ => xs.length - (intOf i).toNat)
    case atStart => exact ⟨0, Nat.zero_le _, rfl, by simp, 0, rfl⟩
    case round =>
      obtain ⟨k, hk, rfl, ht, n, rfl⟩ := hrel
      by_cases hlt : k < xs.length
      · have hlt2 : k < ys.length := by rw [← HL.out]; exact hlt
        obtain ⟨b1, o1, rfl, c1⟩ := ha k hlt
        obtain ⟨b2, o2, rfl, c2⟩ := hb k hlt2
        have HT : Hid (xs.take k = ys.take k) := ht
        clear ht ha hb
        go_wp2
        go_quiet (fail)
        go_wp2
        · go_ret
          have hne : (xs[k] != ys[k]) = true := by assumption
          exact ⟨ret_bool (by simp at hne; simp; intro h; subst h; exact hne rfl), (below_drewN _).trans (below_drewN _)⟩
        · have hne : (xs[k] != ys[k]) = false := by assumption
          go_roundw
          case rel => exact ⟨k + 1, by omega, by go_num, take_eq_succ hlt hlt2 HT.out (by simp at hne; simpa [List.getD_eq_getElem?_getD, hlt, hlt2] using hne), _, rfl⟩
          case measure => simp [intOf]; omega
      · have HT : Hid (xs.take k = ys.take k) := ht
        clear ht ha hb
        go_wp2
        go_ret
        have hke : k = xs.length := by omega
        exact ⟨ret_bool (by have h := HT.out; rw [hke] at h; simp [eq_of_take HL.out h]), below_drewN n⟩
  · have hl1 : ((xs.length : Int) != (ys.length : Int)) = true := by simp; omega
    go_enter Tryz.func179, Tryz.ntmps179
    go_wp2
    go_ret
    exact ⟨ret_bool (by simp; intro h; exact hl (by rw [h])), Below.refl _ _⟩

theorem heldI_any {v : Value} {n : Nat} {k0 : Int} {w : World} (h : Sl .i64 w v (marks (fun x => x) k0 n)) (hn : n ≤ 1099511627776) (hk0 : 0 ≤ k0) (hk1 : k0 ≤ 1099511627776) :
    Calls Tryz.prog 150 #[v, .int .i64 k0] w fun e w' => e = .returned (.int .i64 (k0 + n)) ∧ Below w.heap.size w w' := by
  obtain ⟨a, ca, rfl, _, _, _, ha⟩ := h
  rw [marks_length]
  go_enter Tryz.func150, Tryz.ntmps150
  go_wp2
  go_loop [1, 5] (fun q i => ∃ k : Nat, k ≤ n ∧ i = .int .i64 k ∧ q = .int .i64 (k0 + k)) (fun _ i => n - (intOf i).toNat)
  case atStart => exact ⟨0, Nat.zero_le _, rfl, by go_num⟩
  case round =>
    obtain ⟨k, hk, rfl, rfl⟩ := hrel
    by_cases hlt : k < n
    · obtain ⟨b1, o1, rfl, c1⟩ := ha k (by rw [marks_length]; exact hlt)
      rw [marks_getD _ _ _ _ hlt] at c1
      clear ha
      go_wp2
      go_round
      case rel => exact ⟨k + 1, by omega, by go_num, by go_num⟩
      case measure => simp [intOf]; omega
    · clear ha
      go_wp2
      go_ret
      have hke : k = n := by omega
      exact ⟨ret_int (by rw [hke]), Below.refl _ _⟩

theorem markI_any {B : Nat} {v : Value} {xs : List Int} {k0 : Int} {w : World} (h : Own B 3 .i64 w v xs) (hn : xs.length ≤ 1099511627776) (hk0 : 0 ≤ k0) (hk1 : k0 ≤ 1099511627776) :
    Calls Tryz.prog 148 #[v, .int .i64 k0] w fun e w' => e = .returned (.int .i64 (k0 + xs.length)) ∧ Own B 3 .i64 w' v (marks (fun x => x) k0 xs.length) ∧ w.grownBy w' v.ownBlock := by
  rcases h.shape with ⟨rfl, rfl⟩ | ⟨g, cap, rfl, hB, hg, hc, hm⟩
  · go_enter Tryz.func148, Tryz.ntmps148
    go_wp2
    refine wp_loop_rounds 1 ?_
    rw [rounds_succ]
    go_wp2
    go_ret
    exact ⟨ret_int (by simp), h, World.grownBy.refl _ _⟩
  · go_enter Tryz.func148, Tryz.ntmps148
    go_wp2
    go_loopw [1, 5] (fun q i wr => ∃ k : Nat, k ≤ xs.length ∧ i = .int .i64 k ∧ q = .int .i64 (k0 + k) ∧ wr.ownsRow B 3 1 (.slice (some ⟨g, 0, none⟩) xs.length cap) xs.length ((marks (fun x => x) k0 k ++ xs.drop k).map (Value.int .i64)) ∧ w.grownBy wr (some g)) (fun _ i _ => xs.length - (intOf i).toNat)
    case atStart => exact ⟨0, Nat.zero_le _, rfl, by go_num, h, World.grownBy.refl _ _⟩
    case round =>
      obtain ⟨k, hk, rfl, rfl, hown, hgr⟩ := hrel
      by_cases hlt : k < xs.length
      · obtain ⟨z, hcell⟩ : ∃ z, wr.cell? ⟨g, k, none⟩ = some (.int .i64 z) := by
          have hc := hown.cellAt k (by omega)
          have hlk : k < (marks (fun x => x) k0 k ++ xs.drop k).length := by simp [marks_length]; omega
          rw [hc, List.getElem?_map, List.getElem?_eq_getElem hlk]; exact ⟨_, rfl⟩
        have hfz := hown.frozenAt k
        have HO : Hid (wr.ownsRow B 3 1 (.slice (some ⟨g, 0, none⟩) xs.length cap) xs.length ((marks (fun x => x) k0 k ++ xs.drop k).map (Value.int .i64))) := hown
        clear hown
        go_wp2
        have hst := HO.out.stored k (.int .i64 (k0 + k))
        rw [← List.map_set, marked_succ (fun x => x) k0 xs k hlt] at hst
        go_roundw
        case rel => exact ⟨k + 1, by omega, by go_num, by go_num, hst.1, grown_trans hgr hst.2⟩
        case measure => simp [intOf]; omega
      · go_wp2
        go_ret
        have hke : k = xs.length := by omega
        rw [hke, List.drop_length, List.append_nil] at hown
        refine ⟨ret_int (by rw [hke]), ?_, hgr⟩
        unfold Own; rw [marks_length]; exact hown

theorem Tryz.infoI : (Tryz.prog.info? 3).map (fun i => (i.zero, i.size, i.bytes)) = some (some (.int .i64 0), 1, 8) := by kernel_rfl

end Go.Proofs.YtogdbjafibejdaaGreat

/- Reading a number form off a list of bytes. No condition. -/
namespace Go.Proofs.YtogdbjafibejdaaGreat
open Go.RowKit
set_option maxRecDepth 100000
set_option linter.unusedVariables false

def rdA : Nat → Nat → Int → List Int → Option (Int × Nat)
  | 0, _, _, _ => none
  | _ + 1, _, _, [] => none
  | m + 1, k, acc, d :: ds => if d < 128 then (if d = 0 ∧ 0 < k then none else some (acc + d * 128 ^ k, k + 1)) else rdA m (k + 1) (acc + d % 128 * 128 ^ k) ds

def rdI (xs : List Int) (i : Int) : Option (Int × Nat) := if i < 0 then none else rdA 9 0 0 (xs.drop i.toNat)

theorem rdA_nil {m k : Nat} {acc : Int} : rdA m k acc [] = none := by cases m <;> rfl
theorem rdA_zero {k : Nat} {acc : Int} {ds : List Int} : rdA 0 k acc ds = none := rfl
theorem rdA_end {m k : Nat} {acc d : Int} {ds : List Int} (h : d < 128) (h0 : ¬ (d = 0 ∧ 0 < k)) : rdA (m + 1) k acc (d :: ds) = some (acc + d * 128 ^ k, k + 1) := by
  simp only [rdA, if_pos h, if_neg h0]
theorem rdA_bad {m k : Nat} {acc d : Int} {ds : List Int} (h : d < 128) (h0 : d = 0 ∧ 0 < k) : rdA (m + 1) k acc (d :: ds) = none := by
  simp only [rdA, if_pos h, if_pos h0]
theorem rdA_on {m k : Nat} {acc d : Int} {ds : List Int} (h : ¬ d < 128) : rdA (m + 1) k acc (d :: ds) = rdA m (k + 1) (acc + d % 128 * 128 ^ k) ds := by
  simp only [rdA, if_neg h]
theorem rdI_neg {xs : List Int} {i : Int} (h : i < 0) : rdI xs i = none := by simp [rdI, h]
theorem rdI_out {xs : List Int} {i : Int} (h : (xs.length : Int) ≤ i) : rdI xs i = none := by
  unfold rdI
  rw [if_neg (by omega), List.drop_eq_nil_of_le (by omega), rdA_nil]
theorem rdI_nat (xs : List Int) (k : Nat) : rdI xs k = rdA 9 0 0 (xs.drop k) := by
  unfold rdI
  rw [if_neg (by omega), Int.toNat_natCast]

theorem pow_pos7 (k : Nat) : (1 : Int) ≤ 128 ^ k := by
  induction k with
  | zero => simp
  | succ k ih => rw [Int.pow_succ]; omega
theorem pow_le7 {k : Nat} (h : k ≤ 8) : (128 : Int) ^ k ≤ 72057594037927936 := by
  have : ∀ k, k ≤ 8 → (128 : Int) ^ k ≤ 72057594037927936 := by decide
  exact this k h
theorem acc_step {k : Nat} {acc d : Int} (h0 : 0 ≤ acc) (h1 : acc < 128 ^ k) (d0 : 0 ≤ d) (d1 : d < 128) : 0 ≤ acc + d * 128 ^ k ∧ acc + d * 128 ^ k < 128 ^ (k + 1) := by
  have hp := pow_pos7 k
  rw [Int.pow_succ]
  generalize (128 : Int) ^ k = p at *
  have e1 : 0 ≤ d * p := Int.mul_nonneg d0 (by omega)
  have e2 : d * p ≤ 127 * p := Int.mul_le_mul_of_nonneg_right (by omega) (by omega)
  omega
theorem rdA_some {m k : Nat} {acc y : Int} {n : Nat} {ds : List Int} (h : rdA m k acc ds = some (y, n)) (hb : ∀ x ∈ ds, 0 ≤ x ∧ x ≤ 255) (h0 : 0 ≤ acc) (h1 : acc < 128 ^ k) (hm : k + m ≤ 9) :
    k < n ∧ n ≤ k + ds.length ∧ n ≤ 9 ∧ 0 ≤ y ∧ y ≤ 9223372036854775807 := by
  induction m generalizing k acc ds with
  | zero => rw [rdA_zero] at h; cases h
  | succ m ih =>
    cases ds with
    | nil => rw [rdA_nil] at h; cases h
    | cons d ds =>
      have hd := hb d (by simp)
      by_cases hl : d < 128
      · by_cases hz : d = 0 ∧ 0 < k
        · rw [rdA_bad hl hz] at h; cases h
        · rw [rdA_end hl hz] at h
          cases h
          have hs := acc_step (k := k) h0 h1 hd.1 hl
          have hp := pow_le7 (k := k) (by omega)
          rw [Int.pow_succ] at hs
          simp only [List.length_cons]
          omega
      · rw [rdA_on hl] at h
        have hs := acc_step (k := k) (d := d % 128) h0 h1 (by omega) (by omega)
        have := ih h (fun x hx => hb x (by simp [hx])) hs.1 hs.2 (by omega)
        simp only [List.length_cons]
        omega
theorem rdI_some {xs : List Int} {i y : Int} {n : Nat} (h : rdI xs i = some (y, n)) (hb : ∀ x ∈ xs, 0 ≤ x ∧ x ≤ 255) : 0 ≤ i ∧ i < xs.length ∧ 0 < n ∧ i + n ≤ xs.length ∧ n ≤ 9 ∧ 0 ≤ y ∧ y ≤ 9223372036854775807 := by
  by_cases h0 : i < 0
  · rw [rdI_neg h0] at h; cases h
  · by_cases h1 : (xs.length : Int) ≤ i
    · rw [rdI_out h1] at h; cases h
    · unfold rdI at h
      rw [if_neg h0] at h
      have := rdA_some h (fun x hx => hb x (List.mem_of_mem_drop hx)) (by omega) (by simp) (by omega)
      rw [List.length_drop] at this
      omega
end Go.Proofs.YtogdbjafibejdaaGreat

/- Contracts of PointsPut, the program's and the specification's, at every list of integers. -/
namespace Go.Proofs.YtogdbjafibejdaaGreat
open Go.RowKit
set_option maxRecDepth 100000
set_option linter.unusedVariables false

def pointsPut (xs : List Int) : List Int := if xs.length ≤ 3000 then puts xs else []

theorem iputs_any {v : Value} {xs : List Int} {w : World} (h : Sl .i64 w v xs) (hn : xs.length ≤ 1099511627776) :
    Calls Tryz.prog 181 #[v] w fun e w' => ∃ v', e = .returned v' ∧ Own w.heap.size 5 .u8 w' v' (pointsPut xs) ∧ Below w.heap.size w w' := by
  obtain ⟨a, ca, rfl, _, _, _, ha⟩ := h
  unfold pointsPut
  by_cases hlen : xs.length ≤ 3000
  · rw [if_pos hlen]
    obtain ⟨i0, hi, hz0, hz1, hz2⟩ := info_parts Tryz.infoB
    go_enter Tryz.func181, Tryz.ntmps181
    go_wp2_with (at_make; refine wpList_mk0 _ rfl _ (.tmp 11) 22 rfl 5 i0 (.int .u8 0) Tryz.underlying22 hi hz0 hz1 .u8 xs.length xs.length rfl rfl rfl (by rw [hz2]; omega) (by unfold maxLen; omega) ?_; intro v0 w1 hown0 hbel0)
    go_loopw [3, 15] (fun v i wr => ∃ k : Nat, k ≤ xs.length ∧ i = .int .i64 k ∧ Own w.heap.size 5 .u8 wr v (puts (xs.take k)) ∧ Below w.heap.size w wr) (fun _ i _ => xs.length - (intOf i).toNat)
    case atStart => exact ⟨0, Nat.zero_le _, rfl, hown0, hbel0⟩
    case round =>
      clear hown0 hbel0
      obtain ⟨k, hk, rfl, hown, hbel⟩ := hrel
      by_cases hlt : k < xs.length
      · have ha' := ha.below hbel
        obtain ⟨b1, o1, rfl, c1⟩ := ha' k hlt
        clear ha ha'
        have hpl := puts_len (xs.take k)
        have htl : (xs.take k).length ≤ k := List.length_take_le _ _
        have hql := (put_len xs[k]).2
        go_wp2_with fail
        go_at_call 202
        refine (iput_any xs[k] _).mono ?_
        rintro e w2 ⟨u, rfl, ou, bu⟩
        replace hown := hown.below bu
        have hbs := hbel.size
        replace hbel := hbel.trans (bu.mono hbs)
        have hbs2 := hbel.size
        clear bu
        go_wp2_with (at_builtin; refine wpList_app _ rfl (.tmp 19) (.tmp 21) 22 rfl w.heap.size 5 i0 (.int .u8 0) 1 Tryz.underlying22 hi hz0 hz1 hz2 rfl .u8 _ _ (puts (xs.take k)) (put xs[k]) rfl rfl hown ou.sl (by omega) (by unfold maxLen; omega) hbs2 ?_; intro v' w3 o3 g3)
        go_roundw
        case rel => exact ⟨k + 1, by omega, by go_num, by rw [puts_take_succ xs k hlt]; exact o3, hbel.grown g3 hbs2 hown.grownAt⟩
        case measure => simp [intOf]; omega
      · go_wp2
        go_ret
        have hke : k = xs.length := by omega
        rw [hke, List.take_length] at hown
        exact ⟨_, rfl, hown, hbel⟩
  · rw [if_neg hlen]
    go_enter Tryz.func181, Tryz.ntmps181
    go_wp2
    go_ret
    exact ⟨_, rfl, own_empty _ _ _, (Below.refl _ _).alloc (Nat.le_refl _) _⟩

theorem l1Put_any {v : Value} {xs : List Int} {w : World} (h : Sl .i64 w v xs) (hn : xs.length ≤ 1099511627776) :
    Calls Tryz.prog 192 #[v] w fun e w' => ∃ v', e = .returned v' ∧ Own w.heap.size 5 .u8 w' v' (puts xs) ∧ Below w.heap.size w w' := by
  obtain ⟨a, ca, rfl, _, _, _, ha⟩ := h
  obtain ⟨i0, hi, hz0, hz1, hz2⟩ := info_parts Tryz.infoB
  have hown0 := own_empty 5 .u8 w
  have hbel0 : Below w.heap.size w (w.alloc (.cells #[] 5)) := (Below.refl _ _).alloc (Nat.le_refl _) _
  go_enter Tryz.func192, Tryz.ntmps192
  go_wp2
  go_loopw [3, 4] (fun v i wr => ∃ k : Nat, k ≤ xs.length ∧ i = .int .i64 k ∧ Own w.heap.size 5 .u8 wr v (puts (xs.take k)) ∧ Below w.heap.size w wr) (fun _ i _ => xs.length - (intOf i).toNat)
  case atStart => exact ⟨0, Nat.zero_le _, rfl, hown0, hbel0⟩
  case round =>
    clear hown0 hbel0
    obtain ⟨k, hk, rfl, hown, hbel⟩ := hrel
    by_cases hlt : k < xs.length
    · have ha' := ha.below hbel
      obtain ⟨b1, o1, rfl, c1⟩ := ha' k hlt
      clear ha ha'
      have hpl := puts_len (xs.take k)
      have htl : (xs.take k).length ≤ k := List.length_take_le _ _
      have hql := (put_len xs[k]).2
      go_wp2_with fail
      go_at_call 206
      refine (sput_any xs[k] _).mono ?_
      rintro e w2 ⟨u, rfl, ou, bu⟩
      replace hown := hown.below bu
      have hbs := hbel.size
      replace hbel := hbel.trans (bu.mono hbs)
      have hbs2 := hbel.size
      clear bu
      go_wp2_with (at_builtin; refine wpList_app _ rfl (.tmp 12) (.tmp 17) 22 rfl w.heap.size 5 i0 (.int .u8 0) 1 Tryz.underlying22 hi hz0 hz1 hz2 rfl .u8 _ _ (puts (xs.take k)) (put xs[k]) rfl rfl hown ou.sl (by omega) (by unfold maxLen; omega) hbs2 ?_; intro v' w3 o3 g3)
      go_roundw
      case rel => exact ⟨k + 1, by omega, by go_num, by rw [puts_take_succ xs k hlt]; exact o3, hbel.grown g3 hbs2 hown.grownAt⟩
      case measure => simp [intOf]; omega
    · go_wp2
      go_ret
      have hke : k = xs.length := by omega
      rw [hke, List.take_length] at hown
      exact ⟨_, rfl, hown, hbel⟩

theorem sputs_any {v : Value} {xs : List Int} {w : World} (h : Sl .i64 w v xs) (hn : xs.length ≤ 1099511627776) :
    Calls Tryz.prog 159 #[v] w fun e w' => ∃ v', e = .returned v' ∧ Own w.heap.size 5 .u8 w' v' (pointsPut xs) ∧ Below w.heap.size w w' := by
  have h0 := h
  obtain ⟨a, ca, rfl, _, _, _, ha⟩ := h
  unfold pointsPut
  by_cases hlen : xs.length ≤ 3000
  · rw [if_pos hlen]
    go_enter Tryz.func159, Tryz.ntmps159
    go_wp2_with fail
    go_at_call 192
    refine (l1Put_any h0 hn).mono ?_
    rintro e w2 ⟨u, rfl, ou, bu⟩
    go_wp2
    go_ret
    exact ⟨_, rfl, ou, bu⟩
  · rw [if_neg hlen]
    go_enter Tryz.func159, Tryz.ntmps159
    go_wp2
    go_ret
    exact ⟨_, rfl, own_empty _ _ _, (Below.refl _ _).alloc (Nat.le_refl _) _⟩

end Go.Proofs.YtogdbjafibejdaaGreat
