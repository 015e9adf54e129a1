import Derived.WalkKit
import Derived.Test.YtiojilmclocmkaaGreatDoorRows
import Derived.Test.YtiojilmclocmkaaGreatDoorB0
import Derived.Test.YtiojilmclocmkaaGreatDoorB1
/- The plain mathematics of points and their bytes: what is put, as lists of integers. No condition. -/
namespace Go.Proofs.YtiojilmclocmkaaGreatDoor

/-- 'x is a point'. -/
def pointOk (x : Int) : Bool := decide (0 ≤ x) && decide (x ≤ 1114111) && !(decide (55296 ≤ x) && decide (x ≤ 57343))
/-- A number as a point: the stand-in for what is none. -/
def pt (x : Int) : Int := bif pointOk x then x else 65533
/-- The bytes of a point. -/
def enc (x : Int) : List Int :=
  if x < 128 then [x]
  else if x < 2048 then [192 + x / 64, 128 + x % 64]
  else if x < 65536 then [224 + x / 4096, 128 + x / 64 % 64, 128 + x % 64]
  else [240 + x / 262144, 128 + x / 4096 % 64, 128 + x / 64 % 64, 128 + x % 64]
def put (x : Int) : List Int := enc (pt x)
/-- The bytes of several numbers. -/
def puts (xs : List Int) : List Int := xs.flatMap put

theorem pointOk_iff (x : Int) : pointOk x = true ↔ (0 ≤ x ∧ x ≤ 1114111 ∧ (x < 55296 ∨ 57343 < x)) := by
  simp [pointOk]; omega
theorem pt_ok (x : Int) : 0 ≤ pt x ∧ pt x ≤ 1114111 ∧ (pt x < 55296 ∨ 57343 < pt x) := by
  unfold pt
  cases h : pointOk x
  · simp
  · simpa using (pointOk_iff x).mp h
theorem pt_of (x : Int) (h : pointOk x = true) : pt x = x := by simp [pt, h]
theorem pt_not (x : Int) (h : pointOk x = false) : pt x = 65533 := by simp [pt, h]
theorem pointOk_pt (x : Int) : pointOk (pt x) = true := (pointOk_iff _).mpr (pt_ok x)
theorem enc1 {x : Int} (h : x < 128) : enc x = [x] := by simp [enc, h]
theorem enc2 {x : Int} (h : 128 ≤ x) (h' : x < 2048) : enc x = [192 + x / 64, 128 + x % 64] := by
  have : ¬ x < 128 := by omega
  simp [enc, h', this]
theorem enc3 {x : Int} (h : 2048 ≤ x) (h' : x < 65536) : enc x = [224 + x / 4096, 128 + x / 64 % 64, 128 + x % 64] := by
  have h1 : ¬ x < 128 := by omega
  have h2 : ¬ x < 2048 := by omega
  simp [enc, h', h1, h2]
theorem enc4 {x : Int} (h : 65536 ≤ x) : enc x = [240 + x / 262144, 128 + x / 4096 % 64, 128 + x / 64 % 64, 128 + x % 64] := by
  have h1 : ¬ x < 128 := by omega
  have h2 : ¬ x < 2048 := by omega
  have h3 : ¬ x < 65536 := by omega
  simp [enc, h1, h2, h3]
theorem enc_len (x : Int) : 1 ≤ (enc x).length ∧ (enc x).length ≤ 4 := by
  unfold enc; repeat (split <;> try simp)
theorem put_len (x : Int) : 1 ≤ (put x).length ∧ (put x).length ≤ 4 := enc_len _
theorem puts_len (xs : List Int) : (puts xs).length ≤ 4 * xs.length := by
  induction xs with
  | nil => simp [puts]
  | cons x xs ih => have := (put_len x).2; simp [puts] at ih ⊢; omega
theorem puts_snoc (xs : List Int) (x : Int) : puts (xs ++ [x]) = puts xs ++ put x := by simp [puts]
theorem puts_take_succ (xs : List Int) (k : Nat) (h : k < xs.length) : puts (xs.take (k + 1)) = puts (xs.take k) ++ put xs[k] := by
  rw [List.take_succ_eq_append_getElem h, puts_snoc]
end Go.Proofs.YtiojilmclocmkaaGreatDoor

/- Contracts of PointOk and PointPut, the program's and the specification's, at every number. -/
namespace Go.Proofs.YtiojilmclocmkaaGreatDoor
open Go.RowKit
set_option maxRecDepth 100000
set_option linter.unusedVariables false

theorem iok_any (x : Int) (w : World) : Calls Tryz.prog 29 #[.int .i64 x] w fun e w' => e = .returned (.bool (pointOk x)) ∧ w' = w := by
  rcases (show x < 0 ∨ (0 ≤ x ∧ x < 55296) ∨ (55296 ≤ x ∧ x ≤ 57343) ∨ (57343 < x ∧ x ≤ 1114111) ∨ 1114111 < x by omega) with h | ⟨h, h'⟩ | ⟨h, h'⟩ | ⟨h, h'⟩ | h
  all_goals
    go_enter Tryz.func29, Tryz.ntmps29
    go_wp2
    go_ret
    exact ⟨ret_bool (by rw [eq_comm, Bool.eq_iff_iff, pointOk_iff]; simp <;> omega), rfl⟩

theorem sok_any (x : Int) (w : World) : Calls Tryz.prog 85 #[.int .i64 x] w fun e w' => e = .returned (.bool (pointOk x)) ∧ w' = w := by
  rcases (show x < 0 ∨ (0 ≤ x ∧ x < 55296) ∨ (55296 ≤ x ∧ x ≤ 57343) ∨ (57343 < x ∧ x ≤ 1114111) ∨ 1114111 < x by omega) with h | ⟨h, h'⟩ | ⟨h, h'⟩ | ⟨h, h'⟩ | h
  all_goals
    go_enter Tryz.func85, Tryz.ntmps85
    go_wp2
    go_ret
    exact ⟨ret_bool (by rw [eq_comm, Bool.eq_iff_iff, pointOk_iff]; simp <;> omega), rfl⟩

theorem iput_pt (x : Int) (w : World) (hp : pointOk x = true) :
    Calls Tryz.prog 73 #[.int .i64 x] w fun e w' => ∃ v, e = .returned v ∧ Own w.heap.size 5 .u8 w' v (enc x) ∧ Below w.heap.size w w' := by
  have hb := (pointOk_iff x).mp hp
  obtain ⟨h0, h1, -⟩ := hb
  rcases (show x < 128 ∨ (128 ≤ x ∧ x < 2048) ∨ (2048 ≤ x ∧ x < 65536) ∨ 65536 ≤ x by omega) with h | ⟨h, h'⟩ | ⟨h, h'⟩ | h
  · rw [enc1 h]
    go_enter Tryz.func73, Tryz.ntmps73
    go_wp2_with (first | (go_at_call 29; refine (iok_any _ _).mono ?_; rintro e w' ⟨rfl, rfl⟩) | go_in)
    go_ret
    exact ⟨_, rfl, World.ownsRow_lit _ _ 1 (Nat.le_refl _) (by unfold maxLen; omega) rfl, (Below.refl _ _).alloc (Nat.le_refl _) _⟩
  · rw [enc2 h h']
    go_enter Tryz.func73, Tryz.ntmps73
    go_wp2_with (first | (go_at_call 29; refine (iok_any _ _).mono ?_; rintro e w' ⟨rfl, rfl⟩) | go_in)
    go_ret
    exact ⟨_, rfl, World.ownsRow_lit _ _ 2 (Nat.le_refl _) (by unfold maxLen; omega) rfl, (Below.refl _ _).alloc (Nat.le_refl _) _⟩
  · rw [enc3 h h']
    go_enter Tryz.func73, Tryz.ntmps73
    go_wp2_with (first | (go_at_call 29; refine (iok_any _ _).mono ?_; rintro e w' ⟨rfl, rfl⟩) | go_in)
    go_ret
    exact ⟨_, rfl, World.ownsRow_lit _ _ 3 (Nat.le_refl _) (by unfold maxLen; omega) rfl, (Below.refl _ _).alloc (Nat.le_refl _) _⟩
  · rw [enc4 h]
    go_enter Tryz.func73, Tryz.ntmps73
    go_wp2_with (first | (go_at_call 29; refine (iok_any _ _).mono ?_; rintro e w' ⟨rfl, rfl⟩) | go_in)
    go_ret
    exact ⟨_, rfl, World.ownsRow_lit _ _ 4 (Nat.le_refl _) (by unfold maxLen; omega) rfl, (Below.refl _ _).alloc (Nat.le_refl _) _⟩

theorem sput_pt (x : Int) (w : World) (hp : pointOk x = true) :
    Calls Tryz.prog 38 #[.int .i64 x] w fun e w' => ∃ v, e = .returned v ∧ Own w.heap.size 5 .u8 w' v (enc x) ∧ Below w.heap.size w w' := by
  have hb := (pointOk_iff x).mp hp
  obtain ⟨h0, h1, -⟩ := hb
  rcases (show x < 128 ∨ (128 ≤ x ∧ x < 2048) ∨ (2048 ≤ x ∧ x < 65536) ∨ 65536 ≤ x by omega) with h | ⟨h, h'⟩ | ⟨h, h'⟩ | h
  · rw [enc1 h]
    go_enter Tryz.func38, Tryz.ntmps38
    go_wp2_with (first | (go_at_call 85; refine (sok_any _ _).mono ?_; rintro e w' ⟨rfl, rfl⟩) | go_in)
    go_ret
    exact ⟨_, rfl, World.ownsRow_lit _ _ 1 (Nat.le_refl _) (by unfold maxLen; omega) rfl, (Below.refl _ _).alloc (Nat.le_refl _) _⟩
  · rw [enc2 h h']
    go_enter Tryz.func38, Tryz.ntmps38
    go_wp2_with (first | (go_at_call 85; refine (sok_any _ _).mono ?_; rintro e w' ⟨rfl, rfl⟩) | go_in)
    go_ret
    exact ⟨_, rfl, World.ownsRow_lit _ _ 2 (Nat.le_refl _) (by unfold maxLen; omega) rfl, (Below.refl _ _).alloc (Nat.le_refl _) _⟩
  · rw [enc3 h h']
    go_enter Tryz.func38, Tryz.ntmps38
    go_wp2_with (first | (go_at_call 85; refine (sok_any _ _).mono ?_; rintro e w' ⟨rfl, rfl⟩) | go_in)
    go_ret
    exact ⟨_, rfl, World.ownsRow_lit _ _ 3 (Nat.le_refl _) (by unfold maxLen; omega) rfl, (Below.refl _ _).alloc (Nat.le_refl _) _⟩
  · rw [enc4 h]
    go_enter Tryz.func38, Tryz.ntmps38
    go_wp2_with (first | (go_at_call 85; refine (sok_any _ _).mono ?_; rintro e w' ⟨rfl, rfl⟩) | go_in)
    go_ret
    exact ⟨_, rfl, World.ownsRow_lit _ _ 4 (Nat.le_refl _) (by unfold maxLen; omega) rfl, (Below.refl _ _).alloc (Nat.le_refl _) _⟩

theorem iput_any (x : Int) (w : World) :
    Calls Tryz.prog 73 #[.int .i64 x] w fun e w' => ∃ v, e = .returned v ∧ Own w.heap.size 5 .u8 w' v (put x) ∧ Below w.heap.size w w' := by
  unfold put
  cases hp : pointOk x
  · rw [pt_not x hp, enc3 (by omega) (by omega)]
    go_enter Tryz.func73, Tryz.ntmps73
    go_wp2_with (first | (go_at_call 29; refine (iok_any _ _).mono ?_; rintro e w' ⟨rfl, rfl⟩) | go_in)
    go_ret
    exact ⟨_, rfl, World.ownsRow_lit _ _ 3 (Nat.le_refl _) (by unfold maxLen; omega) rfl, (Below.refl _ _).alloc (Nat.le_refl _) _⟩
  · rw [pt_of x hp]
    exact iput_pt x w hp

theorem sput_any (x : Int) (w : World) :
    Calls Tryz.prog 38 #[.int .i64 x] w fun e w' => ∃ v, e = .returned v ∧ Own w.heap.size 5 .u8 w' v (put x) ∧ Below w.heap.size w w' := by
  unfold put
  cases hp : pointOk x
  · rw [pt_not x hp, enc3 (by omega) (by omega)]
    go_enter Tryz.func38, Tryz.ntmps38
    go_wp2_with (first | (go_at_call 85; refine (sok_any _ _).mono ?_; rintro e w' ⟨rfl, rfl⟩) | go_in)
    go_ret
    exact ⟨_, rfl, World.ownsRow_lit _ _ 3 (Nat.le_refl _) (by unfold maxLen; omega) rfl, (Below.refl _ _).alloc (Nat.le_refl _) _⟩
  · rw [pt_of x hp]
    exact sput_pt x w hp

end Go.Proofs.YtiojilmclocmkaaGreatDoor

/- Contracts of PointsPut, the program's and the specification's, at every list of integers. -/
namespace Go.Proofs.YtiojilmclocmkaaGreatDoor
open Go.RowKit
set_option maxRecDepth 100000
set_option linter.unusedVariables false

/-- What PointsPut answers. -/
def pointsPut (xs : List Int) : List Int := if xs.length ≤ 3000 then puts xs else []

theorem iputs_any {v : Value} {xs : List Int} {w : World} (h : Sl .i64 w v xs) (hn : xs.length ≤ 1099511627776) :
    Calls Tryz.prog 57 #[v] w fun e w' => ∃ v', e = .returned v' ∧ Own w.heap.size 5 .u8 w' v' (pointsPut xs) ∧ Below w.heap.size w w' := by
  obtain ⟨a, ca, rfl, _, _, _, ha⟩ := h
  unfold pointsPut
  by_cases hlen : xs.length ≤ 3000
  · rw [if_pos hlen]
    obtain ⟨i0, hi, hz0, hz1, hz2⟩ := info_parts Tryz.infoB
    go_enter Tryz.func57, Tryz.ntmps57
    go_wp2_with (at_make; refine wpList_mk0 _ rfl _ (.tmp 11) 22 rfl 5 i0 (.int .u8 0) Tryz.underlying22 hi hz0 hz1 .u8 xs.length xs.length rfl rfl rfl (by rw [hz2]; omega) (by unfold maxLen; omega) ?_; intro v0 w1 hown0 hbel0)
    go_loopw [3, 15] (fun v i wr => ∃ k : Nat, k ≤ xs.length ∧ i = .int .i64 k ∧ Own w.heap.size 5 .u8 wr v (puts (xs.take k)) ∧ Below w.heap.size w wr) (fun _ i _ => xs.length - (intOf i).toNat)
    case atStart => exact ⟨0, Nat.zero_le _, rfl, hown0, hbel0⟩
    case round =>
      clear hown0 hbel0
      obtain ⟨k, hk, rfl, hown, hbel⟩ := hrel
      by_cases hlt : k < xs.length
      · have ha' := ha.below hbel
        obtain ⟨b1, o1, rfl, c1⟩ := ha' k hlt
        clear ha ha'
        have hpl := puts_len (xs.take k)
        have htl : (xs.take k).length ≤ k := List.length_take_le _ _
        have hql := (put_len xs[k]).2
        go_wp2_with fail
        go_at_call 73
        refine (iput_any xs[k] _).mono ?_
        rintro e w2 ⟨u, rfl, ou, bu⟩
        replace hown := hown.below bu
        have hbs := hbel.size
        replace hbel := hbel.trans (bu.mono hbs)
        have hbs2 := hbel.size
        clear bu
        go_wp2_with (at_builtin; refine wpList_app _ rfl (.tmp 19) (.tmp 21) 22 rfl w.heap.size 5 i0 (.int .u8 0) 1 Tryz.underlying22 hi hz0 hz1 hz2 rfl .u8 _ _ (puts (xs.take k)) (put xs[k]) rfl rfl hown ou.sl (by omega) (by unfold maxLen; omega) hbs2 ?_; intro v' w3 o3 g3)
        go_roundw
        case rel => exact ⟨k + 1, by omega, by go_num, by rw [puts_take_succ xs k hlt]; exact o3, hbel.grown g3 hbs2 hown.grownAt⟩
        case measure => simp [intOf]; omega
      · go_wp2
        go_ret
        have hke : k = xs.length := by omega
        rw [hke, List.take_length] at hown
        exact ⟨_, rfl, hown, hbel⟩
  · rw [if_neg hlen]
    go_enter Tryz.func57, Tryz.ntmps57
    go_wp2
    go_ret
    exact ⟨_, rfl, own_empty _ _ _, (Below.refl _ _).alloc (Nat.le_refl _) _⟩

theorem l1Put_any {v : Value} {xs : List Int} {w : World} (h : Sl .i64 w v xs) (hn : xs.length ≤ 1099511627776) :
    Calls Tryz.prog 23 #[v] w fun e w' => ∃ v', e = .returned v' ∧ Own w.heap.size 5 .u8 w' v' (puts xs) ∧ Below w.heap.size w w' := by
  obtain ⟨a, ca, rfl, _, _, _, ha⟩ := h
  obtain ⟨i0, hi, hz0, hz1, hz2⟩ := info_parts Tryz.infoB
  have hown0 := own_empty 5 .u8 w
  have hbel0 : Below w.heap.size w (w.alloc (.cells #[] 5)) := (Below.refl _ _).alloc (Nat.le_refl _) _
  go_enter Tryz.func23, Tryz.ntmps23
  go_wp2
  go_loopw [3, 4] (fun v i wr => ∃ k : Nat, k ≤ xs.length ∧ i = .int .i64 k ∧ Own w.heap.size 5 .u8 wr v (puts (xs.take k)) ∧ Below w.heap.size w wr) (fun _ i _ => xs.length - (intOf i).toNat)
  case atStart => exact ⟨0, Nat.zero_le _, rfl, hown0, hbel0⟩
  case round =>
    clear hown0 hbel0
    obtain ⟨k, hk, rfl, hown, hbel⟩ := hrel
    by_cases hlt : k < xs.length
    · have ha' := ha.below hbel
      obtain ⟨b1, o1, rfl, c1⟩ := ha' k hlt
      clear ha ha'
      have hpl := puts_len (xs.take k)
      have htl : (xs.take k).length ≤ k := List.length_take_le _ _
      have hql := (put_len xs[k]).2
      go_wp2_with fail
      go_at_call 38
      refine (sput_any xs[k] _).mono ?_
      rintro e w2 ⟨u, rfl, ou, bu⟩
      replace hown := hown.below bu
      have hbs := hbel.size
      replace hbel := hbel.trans (bu.mono hbs)
      have hbs2 := hbel.size
      clear bu
      go_wp2_with (at_builtin; refine wpList_app _ rfl (.tmp 12) (.tmp 17) 22 rfl w.heap.size 5 i0 (.int .u8 0) 1 Tryz.underlying22 hi hz0 hz1 hz2 rfl .u8 _ _ (puts (xs.take k)) (put xs[k]) rfl rfl hown ou.sl (by omega) (by unfold maxLen; omega) hbs2 ?_; intro v' w3 o3 g3)
      go_roundw
      case rel => exact ⟨k + 1, by omega, by go_num, by rw [puts_take_succ xs k hlt]; exact o3, hbel.grown g3 hbs2 hown.grownAt⟩
      case measure => simp [intOf]; omega
    · go_wp2
      go_ret
      have hke : k = xs.length := by omega
      rw [hke, List.take_length] at hown
      exact ⟨_, rfl, hown, hbel⟩

theorem sputs_any {v : Value} {xs : List Int} {w : World} (h : Sl .i64 w v xs) (hn : xs.length ≤ 1099511627776) :
    Calls Tryz.prog 8 #[v] w fun e w' => ∃ v', e = .returned v' ∧ Own w.heap.size 5 .u8 w' v' (pointsPut xs) ∧ Below w.heap.size w w' := by
  have h0 := h
  obtain ⟨a, ca, rfl, _, _, _, ha⟩ := h
  unfold pointsPut
  by_cases hlen : xs.length ≤ 3000
  · rw [if_pos hlen]
    go_enter Tryz.func8, Tryz.ntmps8
    go_wp2_with fail
    go_at_call 23
    refine (l1Put_any h0 hn).mono ?_
    rintro e w2 ⟨u, rfl, ou, bu⟩
    go_wp2
    go_ret
    exact ⟨_, rfl, ou, bu⟩
  · rw [if_neg hlen]
    go_enter Tryz.func8, Tryz.ntmps8
    go_wp2
    go_ret
    exact ⟨_, rfl, own_empty _ _ _, (Below.refl _ _).alloc (Nat.le_refl _) _⟩

theorem pointsPut_len (xs : List Int) : (pointsPut xs).length ≤ 12000 := by
  unfold pointsPut; split
  · have := puts_len xs; omega
  · simp
end Go.Proofs.YtiojilmclocmkaaGreatDoor

/- The plain mathematics of reading points from bytes, as lists of integers. No condition. -/
namespace Go.Proofs.YtiojilmclocmkaaGreatDoor

def loOf (b : Int) : Int := if b = 224 then 160 else if b = 240 then 144 else 128
def hiOf (b : Int) : Int := if b = 237 then 159 else if b = 244 then 143 else 191

/-- What a form that has p of its point so far comes to, if 'left' bytes are still to come, the next one in 'lo .. hi': the point, and what stands behind. -/
def tailOf (p : Int) : Nat → Int → Int → List Int → Int × List Int
  | 0, _, _, r => (p, r)
  | _ + 1, _, _, [] => (65533, [])
  | k + 1, lo, hi, c :: r => if lo ≤ c ∧ c ≤ hi then tailOf (p * 64 + c - 128) k 128 191 r else (65533, c :: r)

/-- The first point of bytes that begin with b, and what stands behind it. -/
def stepOf (b : Int) (r : List Int) : Int × List Int :=
  if b < 128 then (b, r)
  else if 194 ≤ b ∧ b ≤ 223 then tailOf (b - 192) 1 (loOf b) (hiOf b) r
  else if 224 ≤ b ∧ b ≤ 239 then tailOf (b - 224) 2 (loOf b) (hiOf b) r
  else if 240 ≤ b ∧ b ≤ 244 then tailOf (b - 240) 3 (loOf b) (hiOf b) r
  else (65533, r)

theorem tailOf_le (p : Int) (k : Nat) (lo hi : Int) (r : List Int) : (tailOf p k lo hi r).2.length ≤ r.length := by
  induction k generalizing p lo hi r with
  | zero => simp [tailOf]
  | succ k ih =>
    cases r with
    | nil => simp [tailOf]
    | cons c r =>
      unfold tailOf; split
      · exact Nat.le_trans (ih ..) (by simp)
      · simp
theorem stepOf_le (b : Int) (r : List Int) : (stepOf b r).2.length ≤ r.length := by
  unfold stepOf; repeat' split
  all_goals first | exact tailOf_le .. | exact Nat.le_refl _

/-- The points of bytes, at most n of them. -/
def decF : Nat → List Int → List Int
  | 0, _ => []
  | _ + 1, [] => []
  | n + 1, b :: r => (stepOf b r).1 :: decF n (stepOf b r).2
/-- The points of bytes. -/
def dec (l : List Int) : List Int := decF l.length l

theorem decF_more (n m : Nat) (l : List Int) (hn : l.length ≤ n) (hm : l.length ≤ m) : decF n l = decF m l := by
  induction n generalizing m l with
  | zero =>
    have : l = [] := List.length_eq_zero_iff.mp (by omega)
    subst this
    cases m <;> rfl
  | succ n ih =>
    cases l with
    | nil => cases m <;> rfl
    | cons b r =>
      cases m with
      | zero => simp at hm
      | succ m =>
        have h := stepOf_le b r
        simp at hn hm
        show (stepOf b r).1 :: decF n (stepOf b r).2 = (stepOf b r).1 :: decF m (stepOf b r).2
        rw [ih m (stepOf b r).2 (by omega) (by omega)]
theorem dec_nil : dec [] = [] := rfl
theorem dec_cons (b : Int) (r : List Int) : dec (b :: r) = (stepOf b r).1 :: dec (stepOf b r).2 := by
  show (stepOf b r).1 :: decF r.length (stepOf b r).2 = _
  rw [decF_more r.length (stepOf b r).2.length _ (stepOf_le b r) (Nat.le_refl _)]
  rfl
theorem dec_len (n : Nat) (l : List Int) (h : l.length ≤ n) : (dec l).length ≤ l.length := by
  induction n generalizing l with
  | zero => have : l = [] := List.length_eq_zero_iff.mp (by omega)
            subst this; simp [dec_nil]
  | succ n ih =>
    cases l with
    | nil => simp [dec_nil]
    | cons b r =>
      rw [dec_cons]
      have h1 := stepOf_le b r
      have h2 := ih (stepOf b r).2 (by simp at h; omega)
      simp; omega

theorem dec_ascii {b : Int} (r : List Int) (h : b < 128) : dec (b :: r) = b :: dec r := by rw [dec_cons]; simp [stepOf, h]
theorem dec_bad {b : Int} (r : List Int) (h : 128 ≤ b ∧ b < 194 ∨ 244 < b) : dec (b :: r) = 65533 :: dec r := by
  have e : stepOf b r = (65533, r) := by
    unfold stepOf
    rw [if_neg (by omega), if_neg (by omega), if_neg (by omega), if_neg (by omega)]
  rw [dec_cons, e]
theorem dec_two {b : Int} (r : List Int) (h : 194 ≤ b ∧ b ≤ 223) : dec (b :: r) = (tailOf (b - 192) 1 (loOf b) (hiOf b) r).1 :: dec (tailOf (b - 192) 1 (loOf b) (hiOf b) r).2 := by
  have e : stepOf b r = tailOf (b - 192) 1 (loOf b) (hiOf b) r := by
    unfold stepOf
    rw [if_neg (by omega), if_pos h]
  rw [dec_cons, e]
theorem dec_three {b : Int} (r : List Int) (h : 224 ≤ b ∧ b ≤ 239) : dec (b :: r) = (tailOf (b - 224) 2 (loOf b) (hiOf b) r).1 :: dec (tailOf (b - 224) 2 (loOf b) (hiOf b) r).2 := by
  have e : stepOf b r = tailOf (b - 224) 2 (loOf b) (hiOf b) r := by
    unfold stepOf
    rw [if_neg (by omega), if_neg (by omega), if_pos h]
  rw [dec_cons, e]
theorem dec_four {b : Int} (r : List Int) (h : 240 ≤ b ∧ b ≤ 244) : dec (b :: r) = (tailOf (b - 240) 3 (loOf b) (hiOf b) r).1 :: dec (tailOf (b - 240) 3 (loOf b) (hiOf b) r).2 := by
  have e : stepOf b r = tailOf (b - 240) 3 (loOf b) (hiOf b) r := by
    unfold stepOf
    rw [if_neg (by omega), if_neg (by omega), if_neg (by omega), if_pos h]
  rw [dec_cons, e]
theorem tail_end (p : Int) (k : Nat) (lo hi : Int) : tailOf p (k + 1) lo hi [] = (65533, []) := rfl
theorem tail_out {c : Int} (p : Int) (k : Nat) {lo hi : Int} (r : List Int) (h : c < lo ∨ hi < c) : tailOf p (k + 1) lo hi (c :: r) = (65533, c :: r) := by
  rw [tailOf, if_neg (by omega)]
theorem tail_in {c : Int} (p : Int) (k : Nat) {lo hi : Int} (r : List Int) (h : lo ≤ c) (h' : c ≤ hi) : tailOf p (k + 1) lo hi (c :: r) = tailOf (p * 64 + c - 128) k 128 191 r := by
  rw [tailOf, if_pos ⟨h, h'⟩]
theorem lo_hi (b : Int) : 128 ≤ loOf b ∧ loOf b ≤ 160 ∧ 143 ≤ hiOf b ∧ hiOf b ≤ 191 := by
  unfold loOf hiOf; repeat' split
  all_goals omega

/-- The mark at the very beginning is left out. -/
def unmark (bs : List Int) : List Int := if bs.take 3 = [239, 187, 191] then bs.drop 3 else bs
/-- What UtfRead answers. -/
def utfRead (bs : List Int) : List Int := if bs.length ≤ 3000 then dec (unmark bs) else []
theorem unmark_len (bs : List Int) : (unmark bs).length ≤ bs.length := by unfold unmark; split <;> simp
theorem utfRead_len (bs : List Int) : (utfRead bs).length ≤ 3000 := by
  unfold utfRead; split
  · have h1 := dec_len _ (unmark bs) (Nat.le_refl _)
    have h2 := unmark_len bs
    omega
  · simp
end Go.Proofs.YtiojilmclocmkaaGreatDoor
