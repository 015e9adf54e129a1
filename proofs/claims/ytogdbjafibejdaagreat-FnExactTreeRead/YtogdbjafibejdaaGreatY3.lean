/- The laws on make, append and copy, said of slices of integers that the call itself made. No condition. -/
import Derived.Test.YtogdbjafibejdaaGreatY0
import Derived.Laws.AppendOwnNone
import Derived.Laws.CopyOwn
import Derived.OwnWalk
namespace Go.Proofs.YtogdbjafibejdaaGreat
open Go.RowKit
set_option maxRecDepth 100000
set_option linter.unusedVariables false

theorem Sl.news {K : IntKind} {w : World} {a : Addr} {ys : List Int} (h : Cells K w (some a) ys) (j : Nat) (u : Value) (hu : (ys.map (Value.int K))[j]? = some u) : w.cell? (a.add j) = some u := by
  rw [List.getElem?_map] at hu
  obtain ⟨x, hx, rfl⟩ := Option.map_eq_some_iff.mp hu
  have hj : j < ys.length := by
    by_cases hj : j < ys.length
    · exact hj
    · rw [List.getElem?_eq_none (Nat.le_of_not_lt hj)] at hx; cases hx
  obtain ⟨b, off, e, c⟩ := h j hj
  cases e
  have e2 : ys.getD j 0 = x := by rw [List.getD_eq_getElem?_getD, hx]; rfl
  rw [e2] at c
  rw [← c]
  by_cases h0 : j = 0
  · subst h0; simp [Addr.add]
  · simp [Addr.add, h0]

theorem wpList_app {P : Program} (w : World) {ops : Array Oper} {rest : List Oper} {o : Oper} {a : Act} {Q : Exit → Act → World → Prop} (hgd : o.guard = none)
    (s x : Operand) (t : TypeId) (ho : o.op = Op.call { callee := Callee.builtin Builtin.append, args := #[s, x], argTypes := #[t, t] }) (B : Nat) (e : TypeId) (i : TypeInfo)
    (z : Value) (bytes : Nat) (ht : P.underlying t = some (TypeDesc.slice e)) (hi : P.info? e = some i) (hz : i.zero = some z) (hsize : i.size = 1) (hby : i.bytes = bytes)
    (hzs : z.cells.size = 1) (K : IntKind) (v u : Value) (xs ys : List Int) (hs : a.eval s = v) (hx : a.eval x = u) (hown : Own B e K w v xs) (hu : Sl K w u ys)
    (hb : (xs.length + ys.length) * bytes ≤ 140737488355328) (h63 : xs.length + ys.length ≤ maxLen) (hbase : B ≤ w.heap.size)
    (h : ∀ (v' : Value) (w' : World), Own B e K w' v' (xs ++ ys) → w.grownBy w' v.ownBlock → wpList P ops Q rest (a.put o.dst v') w') :
    wpList P ops Q (o :: rest) a w := by
  obtain ⟨ao, cap, rfl, hlc, hcm, hnone, hc⟩ := hu
  cases ao with
  | none =>
    have hc0 := hnone rfl
    subst hc0
    have hy : ys = [] := List.length_eq_zero_iff.mp (by omega)
    subst hy
    refine wpList_append_own_none hgd s x t ho B e i 1 ht hi v xs.length _ hs hown hx (h v w ?_ (World.grownBy.refl _ _))
    rw [List.append_nil]; exact hown
  | some ad =>
    refine wpList_append_own w hgd s x t ho B e i z 1 bytes ht hi hz hsize hby hzs (by decide) v xs.length _ hs hown ad ys.length cap (ys.map (Value.int K)) hx (by simp) (Sl.news hc) (ints_oneCell K ys) h63 hb hbase ?_
    intro v' w' ho' hg' _
    refine h v' w' ?_ hg'
    unfold Own
    rw [List.length_append, List.map_append]; exact ho'

theorem wpList_mk0 {P : Program} (w : World) {ops : Array Oper} {rest : List Oper} {o : Oper} {a : Act} {Q : Exit → Act → World → Prop} (hg : o.guard = none)
    (l c : Operand) (t : TypeId) (hop : o.op = Op.makeSlice t l c) (e : TypeId) (i : TypeInfo) (z : Value) (h1 : P.underlying t = some (TypeDesc.slice e))
    (h2 : P.info? e = some i) (h3 : i.zero = some z) (h4 : i.size = 1) (K : IntKind) (C : Int) (n : Nat) (hl : a.eval l = Value.int .i64 0) (hc : a.eval c = Value.int .i64 C) (hC : C = ↑n)
    (b2 : i.bytes * n ≤ 281474976710656) (b3 : n ≤ maxLen)
    (hK : ∀ (v' : Value) (w' : World), Own w.heap.size e K w' v' [] → Below w.heap.size w w' → wpList P ops Q rest (a.put o.dst v') w') :
    wpList P ops Q (o :: rest) a w := by
  refine wpList_make_own w hg l c t hop w.heap.size e i z 1 h1 h2 h3 h4 .i64 .i64 C n hl hc hC b2 b3 (Nat.le_refl _) ?_
  intro w' ho' hg'
  exact hK _ w' ho' ((Below.refl _ _).grown hg' (Nat.le_refl _) (fun k hk => by cases hk))

theorem own_empty (e : TypeId) (K : IntKind) (w : World) : Own w.heap.size e K (w.alloc (.cells #[] e)) (.slice (some ⟨w.heap.size, 0, none⟩) 0 0) [] :=
  World.ownsRow_lit w #[] 0 (Nat.le_refl _) (Nat.zero_le _) rfl

theorem wpList_mkn {P : Program} (w : World) {ops : Array Oper} {rest : List Oper} {o : Oper} {a : Act} {Q : Exit → Act → World → Prop} (hg : o.guard = none)
    (l c : Operand) (t : TypeId) (hop : o.op = Op.makeSlice t l c) (e : TypeId) (i : TypeInfo) (K : IntKind) (h1 : P.underlying t = some (TypeDesc.slice e))
    (h2 : P.info? e = some i) (h3 : i.zero = some (.int K 0)) (h4 : i.size = 1) (C D : Int) (n : Nat) (hl : a.eval l = Value.int .i64 C) (hc : a.eval c = Value.int .i64 D) (hC : C = ↑n) (hD : D = ↑n)
    (b2 : i.bytes * n ≤ 281474976710656) (b3 : n ≤ maxLen)
    (hK : ∀ (w' : World), Own w.heap.size e K w' (.slice (some ⟨w.heap.size, 0, none⟩) n n) (List.replicate n 0) → Below w.heap.size w w' → wpList P ops Q rest (a.put o.dst (.slice (some ⟨w.heap.size, 0, none⟩) n n)) w') :
    wpList P ops Q (o :: rest) a w := by
  refine wpList_make_full w hg l c t hop w.heap.size e i (.int K 0) 1 h1 h2 h3 h4 .i64 .i64 C D n hl hc hC hD b2 b3 (Nat.le_refl _) ?_
  intro w' ho' hg'
  refine hK w' ?_ ((Below.refl _ _).grown hg' (Nat.le_refl _) (fun k hk => by cases hk))
  have e1 : (madeCells (Value.int K 0).cells n).toList = List.replicate n (Value.int K 0) := toList_madeCells_one _ _
  rw [Nat.mul_one, e1] at ho'
  unfold Own
  rw [List.length_replicate, List.map_replicate]; exact ho'

theorem wpList_cp {P : Program} {w : World} {ops : Array Oper} {rest : List Oper} {o : Oper} {a : Act} {Q : Exit → Act → World → Prop} (hgd : o.guard = none)
    (d s : Operand) (t : TypeId) (ho : o.op = Op.call { callee := Callee.builtin Builtin.copy, args := #[d, s], argTypes := #[t, t] }) (e : TypeId)
    (hu : P.underlying t = some (TypeDesc.slice e)) (hsz : Option.map (fun x => x.size) (P.info? e) = some 1) (B : Nat) (K : IntKind) (v u : Value) (zs ys : List Int)
    (hd : a.eval d = v) (hs : a.eval s = u) (hown : Own B e K w v zs) (hsl : Sl K w u ys) (hlen : zs.length = ys.length)
    (h : ∀ w', Own B e K w' v ys → w.grownBy w' v.ownBlock → wpList P ops Q rest (a.put o.dst (goInt ys.length)) w') : wpList P ops Q (o :: rest) a w := by
  obtain ⟨ao, cap, rfl, hlc, hcm, hnone, hc⟩ := hsl
  by_cases hy : ys = []
  · subst hy
    have hz : zs = [] := List.length_eq_zero_iff.mp (by simpa using hlen)
    subst hz
    have hown' := hown
    obtain ⟨hl, ⟨hv, h0⟩ | ⟨g, cap', cur, hv, hB, hh, hn, hm, hsz', ht⟩⟩ := hown
    · refine wpList_copy_nothing hgd d s t t ho e hu hsz none ao 0 0 0 cap (hd.trans hv) hs rfl (h w hown' (World.grownBy.refl _ _))
    · refine wpList_copy_nothing hgd d s t t ho e hu hsz (some ⟨g, 0, none⟩) ao 0 cap' 0 cap (hd.trans hv) hs rfl (h w hown' (World.grownBy.refl _ _))
  · have hpos : 0 < ys.length := List.length_pos_iff.mpr hy
    obtain ⟨hl, ⟨hv, h0⟩ | ⟨g, cap', cur, hv, hB, hh, hn, hm, hsz', ht⟩⟩ := hown
    · omega
    · obtain ⟨b, off, rfl, _⟩ := hc 0 hpos
      refine wpList_copy_own hgd d s t t ho e hu hsz g 0 zs.length cap' ⟨b, off, none⟩ ys.length cap (hd.trans hv) hs cur e hh (ys.map (Value.int K)) (by simp [hlen]) (Sl.news hc) (by simp; omega) (ints_oneCell K ys) ?_
      have e1 : (ys.map (Value.int K)).length = ys.length := by simp
      rw [e1]
      refine h _ ?_ ?_
      · refine ⟨by simp, .inr ⟨g, cap', _, by rw [hv, hlen], hB, setRow_heap w g cur _ e (0, 0) hh, by omega, hm, ?_, ?_⟩⟩
        · simp; omega
        · simp
      · rw [hv]
        refine ⟨rfl, rfl, rfl, ?_, fun k hk hne => setRow_other w g k _ (fun hkg => hne (by rw [hkg]; rfl))⟩
        simp [World.setRow]

theorem Own.grownAt {B : Nat} {e : TypeId} {K : IntKind} {w : World} {v : Value} {xs : List Int} (h : Own B e K w v xs) : ∀ k, v.ownBlock = some k → B ≤ k := fun k hk => (h.lt k hk).1
end Go.Proofs.YtogdbjafibejdaaGreat

/- The number form as a list, and its plain laws. No condition. -/
namespace Go.Proofs.YtogdbjafibejdaaGreat
open Go.RowKit
set_option maxRecDepth 100000
set_option linter.unusedVariables false

def nf : Nat → Int → List Int
  | 0, x => [x]
  | m + 1, x => if x < 128 then [x] else (128 + x % 128) :: nf m (x / 128)

def form (x : Int) : List Int := if x < 0 then [] else nf 8 x

def Bd (m : Nat) (x : Int) : Prop := 0 ≤ x ∧ x < 128 ^ (m + 1)

theorem Bd.next {m : Nat} {x : Int} (h : Bd m x) (hx : 128 ≤ x) : ∃ n, m = n + 1 ∧ Bd n (x / 128) := by
  obtain ⟨h0, h1⟩ := h
  cases m with
  | zero => simp at h1; omega
  | succ n =>
    refine ⟨n, rfl, by omega, ?_⟩
    rw [Int.pow_succ] at h1
    exact Int.ediv_lt_of_lt_mul (by omega) h1
theorem bd_of {x : Int} (h0 : 0 ≤ x) (h1 : x ≤ 9223372036854775807) : Bd 8 x := ⟨h0, by
  have : (128 : Int) ^ (8 + 1) = 9223372036854775808 := by decide
  omega⟩

theorem nf_lt {m : Nat} {x : Int} (h : x < 128) : nf m x = [x] := by
  cases m with
  | zero => rfl
  | succ m => simp [nf, h]
theorem nf_ge {m : Nat} {x : Int} (h : 128 ≤ x) : nf (m + 1) x = (128 + x % 128) :: nf m (x / 128) := by
  have : ¬ x < 128 := by omega
  simp [nf, this]
theorem nf_len (m : Nat) (x : Int) : 1 ≤ (nf m x).length ∧ (nf m x).length ≤ m + 1 := by
  induction m generalizing x with
  | zero => simp [nf]
  | succ m ih =>
    unfold nf
    split
    · simp
    · have := ih (x / 128); simp; omega
theorem nf_byte {m : Nat} {x : Int} (h : Bd m x) : ∀ y ∈ nf m x, 0 ≤ y ∧ y ≤ 255 := by
  induction m generalizing x with
  | zero =>
    intro y hy
    have h0 := h.1
    have h1 := h.2
    simp [nf] at hy h1
    omega
  | succ m ih =>
    intro y hy
    have h0 := h.1
    by_cases hx : x < 128
    · rw [nf_lt hx] at hy; simp at hy; omega
    · obtain ⟨n, e, hb⟩ := h.next (by omega)
      cases e
      rw [nf_ge (by omega)] at hy
      rcases List.mem_cons.mp hy with e | hy
      · omega
      · exact ih hb y hy
theorem form_len (x : Int) : (form x).length ≤ 9 := by
  unfold form; split
  · simp
  · exact (nf_len 8 x).2
theorem form_byte {x : Int} (h : x ≤ 9223372036854775807) : ∀ y ∈ form x, 0 ≤ y ∧ y ≤ 255 := by
  unfold form; split
  · simp
  · exact nf_byte (bd_of (by omega) h)
end Go.Proofs.YtogdbjafibejdaaGreat
