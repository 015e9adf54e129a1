/- The laws on make, append and copy, said of slices of integers that the call itself made. No condition. -/
import Derived.Test.YtggfifchkecnjaaGreatDoorY1
import Derived.Laws.AppendOwnNone
import Derived.Laws.CopyOwn
import Derived.OwnWalk
import Derived.Test.YtggfifchkecnjaaGreatDoorY0
import Derived.Test.YtggfifchkecnjaaGreatDoorRows
namespace Go.Proofs.YtggfifchkecnjaaGreatDoor
open Go.RowKit
set_option maxRecDepth 100000
set_option linter.unusedVariables false

theorem Sl.news {K : IntKind} {w : World} {a : Addr} {ys : List Int} (h : Cells K w (some a) ys) (j : Nat) (u : Value) (hu : (ys.map (Value.int K))[j]? = some u) : w.cell? (a.add j) = some u := by
  rw [List.getElem?_map] at hu
  obtain ⟨x, hx, rfl⟩ := Option.map_eq_some_iff.mp hu
  have hj : j < ys.length := by
    by_cases hj : j < ys.length
    · exact hj
    · rw [List.getElem?_eq_none (Nat.le_of_not_lt hj)] at hx; cases hx
  obtain ⟨b, off, e, c⟩ := h j hj
  cases e
  have e2 : ys.getD j 0 = x := by rw [List.getD_eq_getElem?_getD, hx]; rfl
  rw [e2] at c
  rw [← c]
  by_cases h0 : j = 0
  · subst h0; simp [Addr.add]
  · simp [Addr.add, h0]

theorem wpList_app {P : Program} (w : World) {ops : Array Oper} {rest : List Oper} {o : Oper} {a : Act} {Q : Exit → Act → World → Prop} (hgd : o.guard = none)
    (s x : Operand) (t : TypeId) (ho : o.op = Op.call { callee := Callee.builtin Builtin.append, args := #[s, x], argTypes := #[t, t] }) (B : Nat) (e : TypeId) (i : TypeInfo)
    (z : Value) (bytes : Nat) (ht : P.underlying t = some (TypeDesc.slice e)) (hi : P.info? e = some i) (hz : i.zero = some z) (hsize : i.size = 1) (hby : i.bytes = bytes)
    (hzs : z.cells.size = 1) (K : IntKind) (v u : Value) (xs ys : List Int) (hs : a.eval s = v) (hx : a.eval x = u) (hown : Own B e K w v xs) (hu : Sl K w u ys)
    (hb : (xs.length + ys.length) * bytes ≤ 140737488355328) (h63 : xs.length + ys.length ≤ maxLen) (hbase : B ≤ w.heap.size)
    (h : ∀ (v' : Value) (w' : World), Own B e K w' v' (xs ++ ys) → w.grownBy w' v.ownBlock → wpList P ops Q rest (a.put o.dst v') w') :
    wpList P ops Q (o :: rest) a w := by
  obtain ⟨ao, cap, rfl, hlc, hcm, hnone, hc⟩ := hu
  cases ao with
  | none =>
    have hc0 := hnone rfl
    subst hc0
    have hy : ys = [] := List.length_eq_zero_iff.mp (by omega)
    subst hy
    refine wpList_append_own_none hgd s x t ho B e i 1 ht hi v xs.length _ hs hown hx (h v w ?_ (World.grownBy.refl _ _))
    rw [List.append_nil]; exact hown
  | some ad =>
    refine wpList_append_own w hgd s x t ho B e i z 1 bytes ht hi hz hsize hby hzs (by decide) v xs.length _ hs hown ad ys.length cap (ys.map (Value.int K)) hx (by simp) (Sl.news hc) (ints_oneCell K ys) h63 hb hbase ?_
    intro v' w' ho' hg' _
    refine h v' w' ?_ hg'
    unfold Own
    rw [List.length_append, List.map_append]; exact ho'

theorem wpList_mk0 {P : Program} (w : World) {ops : Array Oper} {rest : List Oper} {o : Oper} {a : Act} {Q : Exit → Act → World → Prop} (hg : o.guard = none)
    (l c : Operand) (t : TypeId) (hop : o.op = Op.makeSlice t l c) (e : TypeId) (i : TypeInfo) (z : Value) (h1 : P.underlying t = some (TypeDesc.slice e))
    (h2 : P.info? e = some i) (h3 : i.zero = some z) (h4 : i.size = 1) (K : IntKind) (C : Int) (n : Nat) (hl : a.eval l = Value.int .i64 0) (hc : a.eval c = Value.int .i64 C) (hC : C = ↑n)
    (b2 : i.bytes * n ≤ 281474976710656) (b3 : n ≤ maxLen)
    (hK : ∀ (v' : Value) (w' : World), Own w.heap.size e K w' v' [] → Below w.heap.size w w' → wpList P ops Q rest (a.put o.dst v') w') :
    wpList P ops Q (o :: rest) a w := by
  refine wpList_make_own w hg l c t hop w.heap.size e i z 1 h1 h2 h3 h4 .i64 .i64 C n hl hc hC b2 b3 (Nat.le_refl _) ?_
  intro w' ho' hg'
  exact hK _ w' ho' ((Below.refl _ _).grown hg' (Nat.le_refl _) (fun k hk => by cases hk))

theorem own_empty (e : TypeId) (K : IntKind) (w : World) : Own w.heap.size e K (w.alloc (.cells #[] e)) (.slice (some ⟨w.heap.size, 0, none⟩) 0 0) [] :=
  World.ownsRow_lit w #[] 0 (Nat.le_refl _) (Nat.zero_le _) rfl

theorem wpList_mkn {P : Program} (w : World) {ops : Array Oper} {rest : List Oper} {o : Oper} {a : Act} {Q : Exit → Act → World → Prop} (hg : o.guard = none)
    (l c : Operand) (t : TypeId) (hop : o.op = Op.makeSlice t l c) (e : TypeId) (i : TypeInfo) (K : IntKind) (h1 : P.underlying t = some (TypeDesc.slice e))
    (h2 : P.info? e = some i) (h3 : i.zero = some (.int K 0)) (h4 : i.size = 1) (C D : Int) (n : Nat) (hl : a.eval l = Value.int .i64 C) (hc : a.eval c = Value.int .i64 D) (hC : C = ↑n) (hD : D = ↑n)
    (b2 : i.bytes * n ≤ 281474976710656) (b3 : n ≤ maxLen)
    (hK : ∀ (w' : World), Own w.heap.size e K w' (.slice (some ⟨w.heap.size, 0, none⟩) n n) (List.replicate n 0) → Below w.heap.size w w' → wpList P ops Q rest (a.put o.dst (.slice (some ⟨w.heap.size, 0, none⟩) n n)) w') :
    wpList P ops Q (o :: rest) a w := by
  refine wpList_make_full w hg l c t hop w.heap.size e i (.int K 0) 1 h1 h2 h3 h4 .i64 .i64 C D n hl hc hC hD b2 b3 (Nat.le_refl _) ?_
  intro w' ho' hg'
  refine hK w' ?_ ((Below.refl _ _).grown hg' (Nat.le_refl _) (fun k hk => by cases hk))
  have e1 : (madeCells (Value.int K 0).cells n).toList = List.replicate n (Value.int K 0) := toList_madeCells_one _ _
  rw [Nat.mul_one, e1] at ho'
  unfold Own
  rw [List.length_replicate, List.map_replicate]; exact ho'

theorem wpList_cp {P : Program} {w : World} {ops : Array Oper} {rest : List Oper} {o : Oper} {a : Act} {Q : Exit → Act → World → Prop} (hgd : o.guard = none)
    (d s : Operand) (t : TypeId) (ho : o.op = Op.call { callee := Callee.builtin Builtin.copy, args := #[d, s], argTypes := #[t, t] }) (e : TypeId)
    (hu : P.underlying t = some (TypeDesc.slice e)) (hsz : Option.map (fun x => x.size) (P.info? e) = some 1) (B : Nat) (K : IntKind) (v u : Value) (zs ys : List Int)
    (hd : a.eval d = v) (hs : a.eval s = u) (hown : Own B e K w v zs) (hsl : Sl K w u ys) (hlen : zs.length = ys.length)
    (h : ∀ w', Own B e K w' v ys → w.grownBy w' v.ownBlock → wpList P ops Q rest (a.put o.dst (goInt ys.length)) w') : wpList P ops Q (o :: rest) a w := by
  obtain ⟨ao, cap, rfl, hlc, hcm, hnone, hc⟩ := hsl
  by_cases hy : ys = []
  · subst hy
    have hz : zs = [] := List.length_eq_zero_iff.mp (by simpa using hlen)
    subst hz
    have hown' := hown
    obtain ⟨hl, ⟨hv, h0⟩ | ⟨g, cap', cur, hv, hB, hh, hn, hm, hsz', ht⟩⟩ := hown
    · refine wpList_copy_nothing hgd d s t t ho e hu hsz none ao 0 0 0 cap (hd.trans hv) hs rfl (h w hown' (World.grownBy.refl _ _))
    · refine wpList_copy_nothing hgd d s t t ho e hu hsz (some ⟨g, 0, none⟩) ao 0 cap' 0 cap (hd.trans hv) hs rfl (h w hown' (World.grownBy.refl _ _))
  · have hpos : 0 < ys.length := List.length_pos_iff.mpr hy
    obtain ⟨hl, ⟨hv, h0⟩ | ⟨g, cap', cur, hv, hB, hh, hn, hm, hsz', ht⟩⟩ := hown
    · omega
    · obtain ⟨b, off, rfl, _⟩ := hc 0 hpos
      refine wpList_copy_own hgd d s t t ho e hu hsz g 0 zs.length cap' ⟨b, off, none⟩ ys.length cap (hd.trans hv) hs cur e hh (ys.map (Value.int K)) (by simp [hlen]) (Sl.news hc) (by simp; omega) (ints_oneCell K ys) ?_
      have e1 : (ys.map (Value.int K)).length = ys.length := by simp
      rw [e1]
      refine h _ ?_ ?_
      · refine ⟨by simp, .inr ⟨g, cap', _, by rw [hv, hlen], hB, setRow_heap w g cur _ e (0, 0) hh, by omega, hm, ?_, ?_⟩⟩
        · simp; omega
        · simp
      · rw [hv]
        refine ⟨rfl, rfl, rfl, ?_, fun k hk hne => setRow_other w g k _ (fun hkg => hne (by rw [hkg]; rfl))⟩
        simp [World.setRow]

theorem Own.grownAt {B : Nat} {e : TypeId} {K : IntKind} {w : World} {v : Value} {xs : List Int} (h : Own B e K w v xs) : ∀ k, v.ownBlock = some k → B ≤ k := fun k hk => (h.lt k hk).1
end Go.Proofs.YtggfifchkecnjaaGreatDoor

/- The plain mathematics of reading points from bytes, as lists of integers. No condition. -/
namespace Go.Proofs.YtggfifchkecnjaaGreatDoor

def loOf (b : Int) : Int := if b = 224 then 160 else if b = 240 then 144 else 128
def hiOf (b : Int) : Int := if b = 237 then 159 else if b = 244 then 143 else 191

def tailOf (p : Int) : Nat → Int → Int → List Int → Int × List Int
  | 0, _, _, r => (p, r)
  | _ + 1, _, _, [] => (65533, [])
  | k + 1, lo, hi, c :: r => if lo ≤ c ∧ c ≤ hi then tailOf (p * 64 + c - 128) k 128 191 r else (65533, c :: r)

def stepOf (b : Int) (r : List Int) : Int × List Int :=
  if b < 128 then (b, r)
  else if 194 ≤ b ∧ b ≤ 223 then tailOf (b - 192) 1 (loOf b) (hiOf b) r
  else if 224 ≤ b ∧ b ≤ 239 then tailOf (b - 224) 2 (loOf b) (hiOf b) r
  else if 240 ≤ b ∧ b ≤ 244 then tailOf (b - 240) 3 (loOf b) (hiOf b) r
  else (65533, r)

theorem tailOf_le (p : Int) (k : Nat) (lo hi : Int) (r : List Int) : (tailOf p k lo hi r).2.length ≤ r.length := by
  induction k generalizing p lo hi r with
  | zero => simp [tailOf]
  | succ k ih =>
    cases r with
    | nil => simp [tailOf]
    | cons c r =>
      unfold tailOf; split
      · exact Nat.le_trans (ih ..) (by simp)
      · simp
theorem stepOf_le (b : Int) (r : List Int) : (stepOf b r).2.length ≤ r.length := by
  unfold stepOf; repeat' split
  all_goals first | exact tailOf_le .. | exact Nat.le_refl _

def decF : Nat → List Int → List Int
  | 0, _ => []
  | _ + 1, [] => []
  | n + 1, b :: r => (stepOf b r).1 :: decF n (stepOf b r).2
def dec (l : List Int) : List Int := decF l.length l

theorem decF_more (n m : Nat) (l : List Int) (hn : l.length ≤ n) (hm : l.length ≤ m) : decF n l = decF m l := by
  induction n generalizing m l with
  | zero =>
    have : l = [] := List.length_eq_zero_iff.mp (by omega)
    subst this
    cases m <;> rfl
  | succ n ih =>
    cases l with
    | nil => cases m <;> rfl
    | cons b r =>
      cases m with
      | zero => simp at hm
      | succ m =>
        have h := stepOf_le b r
        simp at hn hm
        show (stepOf b r).1 :: decF n (stepOf b r).2 = (stepOf b r).1 :: decF m (stepOf b r).2
        rw [ih m (stepOf b r).2 (by omega) (by omega)]
theorem dec_nil : dec [] = [] := rfl
theorem dec_cons (b : Int) (r : List Int) : dec (b :: r) = (stepOf b r).1 :: dec (stepOf b r).2 := by
  show (stepOf b r).1 :: decF r.length (stepOf b r).2 = _
  rw [decF_more r.length (stepOf b r).2.length _ (stepOf_le b r) (Nat.le_refl _)]
  rfl
theorem dec_len (n : Nat) (l : List Int) (h : l.length ≤ n) : (dec l).length ≤ l.length := by
  induction n generalizing l with
  | zero => have : l = [] := List.length_eq_zero_iff.mp (by omega)
            subst this; simp [dec_nil]
  | succ n ih =>
    cases l with
    | nil => simp [dec_nil]
    | cons b r =>
      rw [dec_cons]
      have h1 := stepOf_le b r
      have h2 := ih (stepOf b r).2 (by simp at h; omega)
      simp; omega

theorem dec_ascii {b : Int} (r : List Int) (h : b < 128) : dec (b :: r) = b :: dec r := by rw [dec_cons]; simp [stepOf, h]
theorem dec_bad {b : Int} (r : List Int) (h : 128 ≤ b ∧ b < 194 ∨ 244 < b) : dec (b :: r) = 65533 :: dec r := by
  have e : stepOf b r = (65533, r) := by
    unfold stepOf
    rw [if_neg (by omega), if_neg (by omega), if_neg (by omega), if_neg (by omega)]
  rw [dec_cons, e]
theorem dec_two {b : Int} (r : List Int) (h : 194 ≤ b ∧ b ≤ 223) : dec (b :: r) = (tailOf (b - 192) 1 (loOf b) (hiOf b) r).1 :: dec (tailOf (b - 192) 1 (loOf b) (hiOf b) r).2 := by
  have e : stepOf b r = tailOf (b - 192) 1 (loOf b) (hiOf b) r := by
    unfold stepOf
    rw [if_neg (by omega), if_pos h]
  rw [dec_cons, e]
theorem dec_three {b : Int} (r : List Int) (h : 224 ≤ b ∧ b ≤ 239) : dec (b :: r) = (tailOf (b - 224) 2 (loOf b) (hiOf b) r).1 :: dec (tailOf (b - 224) 2 (loOf b) (hiOf b) r).2 := by
  have e : stepOf b r = tailOf (b - 224) 2 (loOf b) (hiOf b) r := by
    unfold stepOf
    rw [if_neg (by omega), if_neg (by omega), if_pos h]
  rw [dec_cons, e]
theorem dec_four {b : Int} (r : List Int) (h : 240 ≤ b ∧ b ≤ 244) : dec (b :: r) = (tailOf (b - 240) 3 (loOf b) (hiOf b) r).1 :: dec (tailOf (b - 240) 3 (loOf b) (hiOf b) r).2 := by
  have e : stepOf b r = tailOf (b - 240) 3 (loOf b) (hiOf b) r := by
    unfold stepOf
    rw [if_neg (by omega), if_neg (by omega), if_neg (by omega), if_pos h]
  rw [dec_cons, e]
theorem tail_end (p : Int) (k : Nat) (lo hi : Int) : tailOf p (k + 1) lo hi [] = (65533, []) := rfl
theorem tail_out {c : Int} (p : Int) (k : Nat) {lo hi : Int} (r : List Int) (h : c < lo ∨ hi < c) : tailOf p (k + 1) lo hi (c :: r) = (65533, c :: r) := by
  rw [tailOf, if_neg (by omega)]
theorem tail_in {c : Int} (p : Int) (k : Nat) {lo hi : Int} (r : List Int) (h : lo ≤ c) (h' : c ≤ hi) : tailOf p (k + 1) lo hi (c :: r) = tailOf (p * 64 + c - 128) k 128 191 r := by
  rw [tailOf, if_pos ⟨h, h'⟩]
theorem lo_hi (b : Int) : 128 ≤ loOf b ∧ loOf b ≤ 160 ∧ 143 ≤ hiOf b ∧ hiOf b ≤ 191 := by
  unfold loOf hiOf; repeat' split
  all_goals omega

def unmark (bs : List Int) : List Int := if bs.take 3 = [239, 187, 191] then bs.drop 3 else bs
def utfRead (bs : List Int) : List Int := if bs.length ≤ 3000 then dec (unmark bs) else []
theorem unmark_len (bs : List Int) : (unmark bs).length ≤ bs.length := by unfold unmark; split <;> simp
theorem utfRead_len (bs : List Int) : (utfRead bs).length ≤ 3000 := by
  unfold utfRead; split
  · have h1 := dec_len _ (unmark bs) (Nat.le_refl _)
    have h2 := unmark_len bs
    omega
  · simp
end Go.Proofs.YtggfifchkecnjaaGreatDoor

/- Contracts of PointOk and PointPut, the program's and the specification's, at every number. -/
namespace Go.Proofs.YtggfifchkecnjaaGreatDoor
open Go.RowKit
set_option maxRecDepth 100000
set_option linter.unusedVariables false

theorem iok_any (x : Int) (w : World) : Calls Tryz.prog 40 #[.int .i64 x] w fun e w' => e = .returned (.bool (pointOk x)) ∧ w' = w := by
  rcases (show x < 0 ∨ (0 ≤ x ∧ x < 55296) ∨ (55296 ≤ x ∧ x ≤ 57343) ∨ (57343 < x ∧ x ≤ 1114111) ∨ 1114111 < x by omega) with h | ⟨h, h'⟩ | ⟨h, h'⟩ | ⟨h, h'⟩ | h
  all_goals
    go_enter Tryz.func40, Tryz.ntmps40
    go_wp2
    go_ret
    exact ⟨ret_bool (by rw [eq_comm, Bool.eq_iff_iff, pointOk_iff]; simp <;> omega), rfl⟩

theorem sok_any (x : Int) (w : World) : Calls Tryz.prog 123 #[.int .i64 x] w fun e w' => e = .returned (.bool (pointOk x)) ∧ w' = w := by
  rcases (show x < 0 ∨ (0 ≤ x ∧ x < 55296) ∨ (55296 ≤ x ∧ x ≤ 57343) ∨ (57343 < x ∧ x ≤ 1114111) ∨ 1114111 < x by omega) with h | ⟨h, h'⟩ | ⟨h, h'⟩ | ⟨h, h'⟩ | h
  all_goals
    go_enter Tryz.func123, Tryz.ntmps123
    go_wp2
    go_ret
    exact ⟨ret_bool (by rw [eq_comm, Bool.eq_iff_iff, pointOk_iff]; simp <;> omega), rfl⟩

theorem iput_pt (x : Int) (w : World) (hp : pointOk x = true) :
    Calls Tryz.prog 111 #[.int .i64 x] w fun e w' => ∃ v, e = .returned v ∧ Own w.heap.size 5 .u8 w' v (enc x) ∧ Below w.heap.size w w' := by
  have hb := (pointOk_iff x).mp hp
  obtain ⟨h0, h1, -⟩ := hb
  rcases (show x < 128 ∨ (128 ≤ x ∧ x < 2048) ∨ (2048 ≤ x ∧ x < 65536) ∨ 65536 ≤ x by omega) with h | ⟨h, h'⟩ | ⟨h, h'⟩ | h
  · rw [enc1 h]
    go_enter Tryz.func111, Tryz.ntmps111
    go_wp2_with (first | (go_at_call 40; refine (iok_any _ _).mono ?_; rintro e w' ⟨rfl, rfl⟩) | go_in)
    go_ret
    exact ⟨_, rfl, World.ownsRow_lit _ _ 1 (Nat.le_refl _) (by unfold maxLen; omega) rfl, (Below.refl _ _).alloc (Nat.le_refl _) _⟩
  · rw [enc2 h h']
    go_enter Tryz.func111, Tryz.ntmps111
    go_wp2_with (first | (go_at_call 40; refine (iok_any _ _).mono ?_; rintro e w' ⟨rfl, rfl⟩) | go_in)
    go_ret
    exact ⟨_, rfl, World.ownsRow_lit _ _ 2 (Nat.le_refl _) (by unfold maxLen; omega) rfl, (Below.refl _ _).alloc (Nat.le_refl _) _⟩
  · rw [enc3 h h']
    go_enter Tryz.func111, Tryz.ntmps111
    go_wp2_with (first | (go_at_call 40; refine (iok_any _ _).mono ?_; rintro e w' ⟨rfl, rfl⟩) | go_in)
    go_ret
    exact ⟨_, rfl, World.ownsRow_lit _ _ 3 (Nat.le_refl _) (by unfold maxLen; omega) rfl, (Below.refl _ _).alloc (Nat.le_refl _) _⟩
  · rw [enc4 h]
    go_enter Tryz.func111, Tryz.ntmps111
    go_wp2_with (first | (go_at_call 40; refine (iok_any _ _).mono ?_; rintro e w' ⟨rfl, rfl⟩) | go_in)
    go_ret
    exact ⟨_, rfl, World.ownsRow_lit _ _ 4 (Nat.le_refl _) (by unfold maxLen; omega) rfl, (Below.refl _ _).alloc (Nat.le_refl _) _⟩

theorem sput_pt (x : Int) (w : World) (hp : pointOk x = true) :
    Calls Tryz.prog 83 #[.int .i64 x] w fun e w' => ∃ v, e = .returned v ∧ Own w.heap.size 5 .u8 w' v (enc x) ∧ Below w.heap.size w w' := by
  have hb := (pointOk_iff x).mp hp
  obtain ⟨h0, h1, -⟩ := hb
  rcases (show x < 128 ∨ (128 ≤ x ∧ x < 2048) ∨ (2048 ≤ x ∧ x < 65536) ∨ 65536 ≤ x by omega) with h | ⟨h, h'⟩ | ⟨h, h'⟩ | h
  · rw [enc1 h]
    go_enter Tryz.func83, Tryz.ntmps83
    go_wp2_with (first | (go_at_call 123; refine (sok_any _ _).mono ?_; rintro e w' ⟨rfl, rfl⟩) | go_in)
    go_ret
    exact ⟨_, rfl, World.ownsRow_lit _ _ 1 (Nat.le_refl _) (by unfold maxLen; omega) rfl, (Below.refl _ _).alloc (Nat.le_refl _) _⟩
  · rw [enc2 h h']
    go_enter Tryz.func83, Tryz.ntmps83
    go_wp2_with (first | (go_at_call 123; refine (sok_any _ _).mono ?_; rintro e w' ⟨rfl, rfl⟩) | go_in)
    go_ret
    exact ⟨_, rfl, World.ownsRow_lit _ _ 2 (Nat.le_refl _) (by unfold maxLen; omega) rfl, (Below.refl _ _).alloc (Nat.le_refl _) _⟩
  · rw [enc3 h h']
    go_enter Tryz.func83, Tryz.ntmps83
    go_wp2_with (first | (go_at_call 123; refine (sok_any _ _).mono ?_; rintro e w' ⟨rfl, rfl⟩) | go_in)
    go_ret
    exact ⟨_, rfl, World.ownsRow_lit _ _ 3 (Nat.le_refl _) (by unfold maxLen; omega) rfl, (Below.refl _ _).alloc (Nat.le_refl _) _⟩
  · rw [enc4 h]
    go_enter Tryz.func83, Tryz.ntmps83
    go_wp2_with (first | (go_at_call 123; refine (sok_any _ _).mono ?_; rintro e w' ⟨rfl, rfl⟩) | go_in)
    go_ret
    exact ⟨_, rfl, World.ownsRow_lit _ _ 4 (Nat.le_refl _) (by unfold maxLen; omega) rfl, (Below.refl _ _).alloc (Nat.le_refl _) _⟩

theorem iput_any (x : Int) (w : World) :
    Calls Tryz.prog 111 #[.int .i64 x] w fun e w' => ∃ v, e = .returned v ∧ Own w.heap.size 5 .u8 w' v (put x) ∧ Below w.heap.size w w' := by
  unfold put
  cases hp : pointOk x
  · rw [pt_not x hp, enc3 (by omega) (by omega)]
    go_enter Tryz.func111, Tryz.ntmps111
    go_wp2_with (first | (go_at_call 40; refine (iok_any _ _).mono ?_; rintro e w' ⟨rfl, rfl⟩) | go_in)
    go_ret
    exact ⟨_, rfl, World.ownsRow_lit _ _ 3 (Nat.le_refl _) (by unfold maxLen; omega) rfl, (Below.refl _ _).alloc (Nat.le_refl _) _⟩
  · rw [pt_of x hp]
    exact iput_pt x w hp

theorem sput_any (x : Int) (w : World) :
    Calls Tryz.prog 83 #[.int .i64 x] w fun e w' => ∃ v, e = .returned v ∧ Own w.heap.size 5 .u8 w' v (put x) ∧ Below w.heap.size w w' := by
  unfold put
  cases hp : pointOk x
  · rw [pt_not x hp, enc3 (by omega) (by omega)]
    go_enter Tryz.func83, Tryz.ntmps83
    go_wp2_with (first | (go_at_call 123; refine (sok_any _ _).mono ?_; rintro e w' ⟨rfl, rfl⟩) | go_in)
    go_ret
    exact ⟨_, rfl, World.ownsRow_lit _ _ 3 (Nat.le_refl _) (by unfold maxLen; omega) rfl, (Below.refl _ _).alloc (Nat.le_refl _) _⟩
  · rw [pt_of x hp]
    exact sput_pt x w hp

end Go.Proofs.YtggfifchkecnjaaGreatDoor
