/- The program's iterators over kids, inside the fence. No condition. -/
import Derived.RangeFuncNested
import Derived.RangeFuncBound
import Derived.RangeFuncCalls
import Derived.RangeFuncLeaves
import Derived.Shelf.Abstract
import Derived.Shelf.RegionOpen
import Derived.WalkKit
import Derived.OwnWalkIn
import Derived.TacticsInMore
import Derived.LoopNIn
import Derived.LoopIn
import Derived.Sort.QuietIn
import Derived.Test.YtogdbjafibejdaaGreatY20
import Derived.Test.YtogdbjafibejdaaGreatY6
import Derived.Test.YtogdbjafibejdaaGreatY23
import Derived.Test.YtogdbjafibejdaaGreatY24
import Derived.Test.YtogdbjafibejdaaGreatY21
import Derived.Test.YtogdbjafibejdaaGreatY4
namespace Go.Proofs.YtogdbjafibejdaaGreat
open Go.RowKit Go.Shelf
set_option maxRecDepth 100000
set_option linter.unusedVariables false
attribute [local go_sem] Oper.semAt_some

set_option maxHeartbeats 400000 in
theorem kids_in (n : Nat) (pa : Option Addr) (k : Int) (w : World) :
    CallsIn Fence.wide n Tryz.prog 113 #[.pointer pa, .int .i64 k] w fun e w' => e = .returned (.func (.func 158) #[] #[.pointer (some ⟨w.heap.size, 0, none⟩), .pointer (some ⟨w.heap.size + 1, 0, none⟩)]) ∧ w' = (w.alloc (.cells #[.pointer pa] 64)).alloc (.cells #[.int .i64 k] 3) := by
  refine callsIn_of_wp Tryz.func113 rfl trivial ?_ rfl
  simp only [Tryz.ntmps113, List.size_toArray, List.length_cons, List.length_nil, Nat.reduceAdd, Nat.reduceSub, Array.replicate_succ, Array.replicate_zero, List.push_toArray, List.append_toArray, List.nil_append, List.cons_append]
  gi_wp2
  go_ret
  exact ⟨rfl, rfl⟩

set_option maxHeartbeats 800000 in
theorem kids1_in {α : Type} (enc : α → Int) (n : Nat) (l Ba Bt A : Nat) (w0 W : World) (v : Value) (ns : List PNode) (k : Nat) (hk : k < ns.length)
    (zs : List α) (hz : zs.map enc = ns[k].kids) (hreach : ns.length ≤ 1048576) (J Jx : List α → World → Prop) (hJ : AbidesFrom W.heap.size J) (hnodes : NodesAt w0 v ns)
    (hY : ∀ pre x W, J pre W → pre.length < zs.length → YieldAt Fence.wide (n - 1) Tryz.prog l #[.int .i64 (enc x)] W fun e W' =>
      (e = .returned (.bool true) ∧ J (pre ++ [x]) W' ∧ Below w0.heap.size W W') ∨ (e = .returned (.bool false) ∧ Jx (pre ++ [x]) W'))
    (hW : Below w0.heap.size w0 W) (hBa : W.cell? ⟨Ba, 0, none⟩ = some (.pointer (some ⟨A, 0, none⟩))) (hBt : W.cell? ⟨Bt, 0, none⟩ = some (.int .i64 k)) (hA : W.cell? ⟨A, 0, none⟩ = some v) (h0 : J [] W) :
    CallsIn Fence.wide n Tryz.prog 158 #[.func (.yield l) #[] #[], .pointer (some ⟨Ba, 0, none⟩), .pointer (some ⟨Bt, 0, none⟩)] W fun e W' => (∃ v, e = .returned v) ∧
      ((∃ ys, ys = zs ∧ J ys W') ∨ (∃ pre, pre <+: zs ∧ Jx pre W')) := by
  have hn1 := hnodes.below hW
  obtain ⟨a, cap, rfl, hc1, hc2, hcs⟩ := hnodes.slice
  obtain ⟨b, off, av, kv, rfl, hblt, _, _, _, _, _, c5, _, hsl⟩ := hcs k hk
  have c5' := (hW.cell (p := ⟨b, off + k * 6 + 5, none⟩) hblt).trans c5
  obtain ⟨ka, kcap, rfl, hk1, hk2, _, hkc⟩ := hsl
  have hkm : kcap < 9223372036854775808 := Nat.lt_of_le_of_lt hk2 (by decide)
  have HKC := (show Hid (Cells .i64 w0 ka ns[k].kids) from hkc)
  have HZ := (show Hid (zs.map enc = ns[k].kids) from hz)
  have hzl : ns[k].kids.length = zs.length := by rw [← hz]; simp
  rw [hzl] at c5' hk1
  have HW := (show Hid (Below w0.heap.size w0 W) from hW)
  clear hcs hkc c5 hn1 hW hz hnodes
  refine callsIn_of_wp Tryz.func158 rfl trivial ?_ rfl
  simp only [Tryz.ntmps158, List.size_toArray, List.length_cons, List.length_nil, Nat.reduceAdd, Nat.reduceSub, Array.replicate_succ, Array.replicate_zero, List.push_toArray, List.append_toArray, List.nil_append, List.cons_append]
  gi_wp2
  gi_quiet (fail)
  have h0' : J [] (W.drewN nq) := hJ [] W (W.drewN nq) none h0 ⟨rfl, rfl, rfl, Nat.le_refl _, fun _ _ _ => rfl⟩ (fun r e => by cases e)
  have hB' : Below w0.heap.size w0 (W.drewN nq) := ⟨HW.out.os, HW.out.tape, HW.out.output, HW.out.size, HW.out.block⟩
  gi_wp2
  gi_loopw [15] (fun i wr => ∃ j : Nat, j ≤ zs.length ∧ i = .int .i64 j ∧ J (zs.take j) wr ∧ Below w0.heap.size w0 wr) (fun i _ => zs.length - (intOf i).toNat)
  case atStart => exact ⟨0, Nat.zero_le _, rfl, by simpa using h0', hB'⟩
  case round =>
    obtain ⟨j, hj, rfl, hJs, hnx⟩ := hrel
    by_cases hlt : j < zs.length
    · have hz := HZ.out
      have hlt' : j < ns[k].kids.length := by omega
      obtain ⟨kb, ko, rfl, ck⟩ := HKC.out j hlt'
      have he : ns[k].kids.getD j 0 = enc zs[j] := by
        have : (ns[k].kids)[j]? = some (enc zs[j]) := by rw [← hz]; simp [hlt]
        simp [List.getD_eq_getElem?_getD, this]
      rw [he] at ck
      have hkb : kb < w0.heap.size := by
        by_cases h : kb < w0.heap.size
        · exact h
        · exfalso; simp [World.cell?, Array.getElem?_eq_none (Nat.le_of_not_lt h)] at ck
      have ck' := (hnx.cell (p := ⟨kb, ko + j, none⟩) hkb).trans ck
      obtain ⟨fn, tmps, assign, body, hy, hR⟩ := hY _ zs[j] wr hJs (by simp; omega)
      have HP : Hid (zs.take j ++ [zs[j]] = zs.take (j + 1)) := (take_snoc zs hlt).symm
      clear hz hlt' he ck
      gi_wp2
      refine ⟨fun h => (by cases h), ?_⟩
      refine hR.mono ?_
      rintro e W3 (⟨rfl, hJ3, hk3⟩ | ⟨rfl, hJx3⟩)
      · gi_wp2
        go_roundw
        case rel => exact ⟨j + 1, by omega, by go_num, by rw [← HP.out]; exact hJ3, hnx.trans hk3⟩
        case measure => simp [intOf]; omega
      · gi_wp2
        refine bodyPost_ret (results_none rfl _ _ _) rfl ?_
        exact ⟨⟨_, rfl⟩, .inr ⟨_, by rw [HP.out]; exact List.take_prefix _ _, hJx3⟩⟩
    · obtain rfl : j = zs.length := by omega
      gi_wp2
      go_end0
      exact ⟨⟨_, rfl⟩, .inl ⟨_, List.take_length, hJs⟩⟩

theorem kids_stops {α : Type} (enc : α → Int) (n : Nat) (Ba Bt A : Nat) (w0 w : World) (v : Value) (ns : List PNode) (k : Nat) (hk : k < ns.length)
    (zs : List α) (hz : zs.map enc = ns[k].kids) (hreach : ns.length ≤ 1048576) (hnodes : NodesAt w0 v ns) (hw : Below w0.heap.size w0 w)
    (hBa : Ba < w.heap.size) (hBt : Bt < w.heap.size) (hA : A < w0.heap.size)
    (ca : w.cell? ⟨Ba, 0, none⟩ = some (.pointer (some ⟨A, 0, none⟩))) (ct : w.cell? ⟨Bt, 0, none⟩ = some (.int .i64 k)) (cA : w0.cell? ⟨A, 0, none⟩ = some v) :
    SeqStopsK Fence.wide n Tryz.prog 158 #[.pointer (some ⟨Ba, 0, none⟩), .pointer (some ⟨Bt, 0, none⟩)] (fun x : α => #[Value.int .i64 (enc x)]) (Below w0.heap.size) (fun ys => ys = zs) (fun pre => pre <+: zs) zs.length w := fun l J Jx W hW hJ _ hY h0 =>
  have hb : Below w0.heap.size w0 W := hw.trans (hW.mono hw.size)
  kids1_in enc n l Ba Bt A w0 W v ns k hk zs hz hreach J Jx hJ hnodes hY hb ((hW.cell (p := ⟨Ba, 0, none⟩) hBa).trans ca) ((hW.cell (p := ⟨Bt, 0, none⟩) hBt).trans ct) ((hb.cell (p := ⟨A, 0, none⟩) hA).trans cA) h0
end Go.Proofs.YtogdbjafibejdaaGreat

/- append of integers within a region that draws its order, that tells its block. No condition. -/
namespace Go.Proofs.YtogdbjafibejdaaGreat
open Go.RowKit
set_option maxRecDepth 100000
set_option linter.unusedVariables false

theorem step_appT {P : Program} {ops : Array Oper} {o : Oper} {a : Act} {w : World} {K : Act → World → Prop} {Q : Exit → Act → World → Prop} {E : Prop}
    (hgd : o.guard = none) (s x : Operand) (t : TypeId) (ho : o.op = Op.call { callee := Callee.builtin Builtin.append, args := #[s, x], argTypes := #[t, t] }) (B : Nat) (e : TypeId) (i : TypeInfo)
    (z : Value) (bytes : Nat) (ht : P.underlying t = some (TypeDesc.slice e)) (hi : P.info? e = some i) (hz : i.zero = some z) (hsize : i.size = 1) (hby : i.bytes = bytes)
    (hzs : z.cells.size = 1) (J : IntKind) (r cap : Nat) (xs : List Int) (ad : Addr) (c : Nat) (ys : List Int) (hs : a.eval s = .slice (some ⟨r, 0, none⟩) xs.length cap) (hx : a.eval x = .slice (some ad) ys.length c) (hown : Own B e J w (.slice (some ⟨r, 0, none⟩) xs.length cap) xs) (hu : Sl J w (.slice (some ad) ys.length c) ys)
    (hb : (xs.length + ys.length) * bytes ≤ 140737488355328) (h63 : xs.length + ys.length ≤ maxLen) (hbase : B ≤ w.heap.size)
    (h : ∀ (r' cap' : Nat) (w' : World), Own B e J w' (.slice (some ⟨r', 0, none⟩) (xs.length + ys.length) cap') (xs ++ ys) → w.grownBy w' (some r) → (r' = r ∨ r' = w.heap.size) → K (a.put o.dst (.slice (some ⟨r', 0, none⟩) (xs.length + ys.length) cap')) w') :
    if Region.wanted o (yielded ops a.tmps) = true then Oper.wp P o a w K Q else E := by
  have hw : Region.wanted o (yielded ops a.tmps) = true := by simp [Region.wanted, hgd]
  rw [if_pos hw]
  obtain ⟨ao, cap0, e1, hlc, hcm, hnone, hc⟩ := hu
  cases e1
  obtain ⟨v', w', hr, h2, h3, h4⟩ := run_append_own (P := P) w B t o.type e i z 1 bytes ht hi hz hsize hby hzs (by decide) _ xs.length (xs.map (Value.int J)) hown ad ys.length c (ys.map (Value.int J)) (by simp) (Sl.news hc) (ints_oneCell J ys) h63 hb hbase
  obtain ⟨r', cap', rfl, hrr⟩ := run_blkT w B t o.type e i z 1 bytes ht hi hz hsize hby r xs.length cap (xs.map (Value.int J)) hown ad ys.length c (ys.map (Value.int J)) (by simp) (Sl.news hc) (ints_oneCell J ys) h63 hb hr
  have hk := h r' cap' w' (by unfold Own; rw [List.length_append, List.map_append]; exact h2) h3 hrr
  unfold Oper.wp
  simp [execOp, ho, resolve, invoke, builtin, hs, hx, hr, Result.andThen]
  exact hk

theorem step_appU {P : Program} {ops : Array Oper} {o : Oper} {a : Act} {w : World} {K : Act → World → Prop} {Q : Exit → Act → World → Prop} {E : Prop}
    (hgd : o.guard = none) (s x : Operand) (t : TypeId) (ho : o.op = Op.call { callee := Callee.builtin Builtin.append, args := #[s, x], argTypes := #[t, t] }) (B : Nat) (e : TypeId) (i : TypeInfo)
    (z : Value) (bytes : Nat) (ht : P.underlying t = some (TypeDesc.slice e)) (hi : P.info? e = some i) (hz : i.zero = some z) (hsize : i.size = 1) (hby : i.bytes = bytes)
    (hzs : z.cells.size = 1) (J : IntKind) (v : Value) (xs : List Int) (ad : Addr) (c : Nat) (ys : List Int) (hs : a.eval s = v) (hx : a.eval x = .slice (some ad) ys.length c) (hown : Own B e J w v xs) (hu : Sl J w (.slice (some ad) ys.length c) ys)
    (hb : (xs.length + ys.length) * bytes ≤ 140737488355328) (h63 : xs.length + ys.length ≤ maxLen) (hbase : B ≤ w.heap.size)
    (h : ∀ (v' : Value) (w' : World), Own B e J w' v' (xs ++ ys) → w.grownBy w' v.ownBlock → (∀ r, v'.ownBlock = some r → v.ownBlock = some r ∨ w.heap.size ≤ r) → K (a.put o.dst v') w') :
    if Region.wanted o (yielded ops a.tmps) = true then Oper.wp P o a w K Q else E := by
  rcases hown.shape with ⟨rfl, rfl⟩ | ⟨g, cap, rfl, hg, hgl, _⟩
  · obtain ⟨ao, cap0, e1, hlc, hcm, hnone, hc⟩ := hu
    cases e1
    refine step_appS (w := w) hgd s x t ho w.heap.size e i z 1 bytes ht hi hz hsize hby hzs (by decide) (.slice none 0 0) 0 [] hs (World.ownsRow_nil _ _ _ _) (.slice (some ad) ys.length c) ys.length (ys.map (Value.int J)) hx ?_ (by simp) (ints_oneCell J ys) (by simpa using h63) (by simpa using hb) (Nat.le_refl _) ?_
    · exact ⟨some ad, ys.length, c, rfl, by simp, hlc, hcm, (fun e => by cases e), fun i hi => by
        obtain ⟨b, off, e2, c2⟩ := hc i (by simpa using hi)
        refine ⟨b, off, e2, ?_⟩
        rw [c2]
        have hi' : i < ys.length := by simpa using hi
        simp [List.getD_eq_getElem?_getD, hi']⟩
    · intro v' w' ho' hg'
      have ho2 : Own w.heap.size e J w' v' ys := by
        unfold Own
        simpa using ho'
      exact h v' w' (by rw [List.nil_append]; exact ho2.base hbase) hg' (fun r hr => .inr (Own.lt ho2 r hr).1)
  · refine step_appT hgd s x t ho B e i z bytes ht hi hz hsize hby hzs J g cap xs ad c ys hs hx hown hu hb h63 hbase ?_
    intro r' cap' w' ho' hg' hrr
    exact h _ w' ho' hg' (fun r hr => by
      have : r' = r := by simpa [Value.ownBlock] using hr
      rcases hrr with hrr | hrr
      · exact .inl (by rw [← this, hrr]; rfl)
      · exact .inr (by omega))
end Go.Proofs.YtogdbjafibejdaaGreat

/- How many nodes are reached from those that stand below none, in plain words. No condition. -/
namespace Go.Proofs.YtogdbjafibejdaaGreat
open Go.RowKit
set_option maxRecDepth 100000
set_option linter.unusedVariables false

def reachN (ns : List PNode) (f : Nat) : Nat → Nat
  | 0 => 0
  | m + 1 => reachN ns f m + if parOf ns m = -1 then (down ns f m).length else 0
theorem reachN_le {ns : List PNode} {f : Nat} {k m : Nat} (h : k ≤ m) : reachN ns f k ≤ reachN ns f m := by
  obtain ⟨d, rfl⟩ := Nat.exists_eq_add_of_le h
  clear h
  induction d with
  | zero => exact Nat.le_refl _
  | succ d ih => exact Nat.le_trans ih (by rw [← Nat.add_assoc]; simp [reachN])

theorem nodup_le (n : Nat) : ∀ (l : List Int), l.Nodup → (∀ x ∈ l, 0 ≤ x ∧ x < n) → l.length ≤ n := by
  induction n with
  | zero =>
    intro l _ h
    cases l with
    | nil => simp
    | cons x l => have := h x (by simp); omega
  | succ n ih =>
    intro l hn h
    by_cases hm : (n : Int) ∈ l
    · have h1 := ih (l.erase (n : Int)) (hn.erase _) (fun x hx => by
        have := (hn.mem_erase_iff).mp hx
        have h2 := h x this.2
        have h3 := this.1
        omega)
      rw [List.length_erase_of_mem hm] at h1
      omega
    · have := ih l hn (fun x hx => by
        have h2 := h x hx
        have h3 : x ≠ (n : Int) := fun e => hm (e ▸ hx)
        omega)
      omega
theorem nodup_all {n : Nat} {l : List Int} (hn : l.Nodup) (h : ∀ x ∈ l, 0 ≤ x ∧ x < n) (hl : l.length = n) (i : Nat) (hi : i < n) : (i : Int) ∈ l := by
  by_cases hm : (i : Int) ∈ l
  · exact hm
  · have := nodup_le n ((i : Int) :: l) (List.nodup_cons.mpr ⟨hm, hn⟩) (fun x hx => by
      rcases List.mem_cons.mp hx with rfl | hx
      · omega
      · exact h x hx)
    simp only [List.length_cons] at this
    omega

def dep (ns : List PNode) : Nat → Nat → Prop
  | 0, i => i < ns.length ∧ parOf ns i = -1
  | d + 1, i => ∃ p, dep ns d p ∧ (i : Int) ∈ kidsOf ns p
theorem kidsOf_out {ns : List PNode} {k : Nat} (h : ¬ k < ns.length) : kidsOf ns k = [] := by simp [kidsOf, Nat.le_of_not_lt h]
theorem fit_kid {ns : List PNode} (hf : KidsFit ns) {p : Nat} {x : Int} (h : x ∈ kidsOf ns p) : p < ns.length ∧ 0 ≤ x ∧ x < ns.length ∧ parOf ns x.toNat = p := by
  by_cases hp : p < ns.length
  · exact ⟨hp, (hf p hp).2 x h⟩
  · rw [kidsOf_out hp] at h; cases h
theorem dep_uniq {ns : List PNode} (hf : KidsFit ns) : ∀ (d e i : Nat), dep ns d i → dep ns e i → d = e
  | 0, 0, _, _, _ => rfl
  | 0, e + 1, i, h, h' => by
    obtain ⟨p, _, hk⟩ := h'
    have := (fit_kid hf hk).2.2.2
    rw [show ((i : Int)).toNat = i by simp, h.2] at this
    omega
  | d + 1, 0, i, h, h' => by
    obtain ⟨p, _, hk⟩ := h
    have := (fit_kid hf hk).2.2.2
    rw [show ((i : Int)).toNat = i by simp, h'.2] at this
    omega
  | d + 1, e + 1, i, ⟨p, hp, hk⟩, ⟨q, hq, hk'⟩ => by
    have h1 := (fit_kid hf hk).2.2.2
    have h2 := (fit_kid hf hk').2.2.2
    have : p = q := by omega
    subst this
    rw [dep_uniq hf d e p hp hq]
theorem dep_list {ns : List PNode} (hf : KidsFit ns) : ∀ (d i : Nat), dep ns d i → ∃ l : List Int, l.length = d + 1 ∧ l.Nodup ∧ ∀ x ∈ l, 0 ≤ x ∧ x < ns.length ∧ ∃ e, e ≤ d ∧ dep ns e x.toNat
  | 0, i, h => ⟨[(i : Int)], rfl, by simp, fun x hx => by simp at hx; subst hx; exact ⟨by omega, by have := h.1; omega, 0, Nat.le_refl _, by simpa using h⟩⟩
  | d + 1, i, h => by
    obtain ⟨p, hp, hk⟩ := h
    obtain ⟨l, h1, h2, h3⟩ := dep_list hf d p hp
    have hx := fit_kid hf hk
    refine ⟨(i : Int) :: l, by simp [h1], List.nodup_cons.mpr ⟨fun hm => ?_, h2⟩, fun x hx' => ?_⟩
    · obtain ⟨_, _, e, he, hde⟩ := h3 _ hm
      rw [show ((i : Int)).toNat = i by simp] at hde
      have := dep_uniq hf (d + 1) e i ⟨p, hp, hk⟩ hde
      omega
    · rcases List.mem_cons.mp hx' with rfl | hx'
      · exact ⟨hx.2.1, hx.2.2.1, d + 1, Nat.le_refl _, by rw [show ((i : Int)).toNat = i by simp]; exact ⟨p, hp, hk⟩⟩
      · obtain ⟨a, b, e, he, hd⟩ := h3 x hx'
        exact ⟨a, b, e, by omega, hd⟩
theorem dep_lt {ns : List PNode} (hf : KidsFit ns) {d i : Nat} (h : dep ns d i) : d < ns.length := by
  obtain ⟨l, h1, h2, h3⟩ := dep_list hf d i h
  have := nodup_le ns.length l h2 (fun x hx => ⟨(h3 x hx).1, (h3 x hx).2.1⟩)
  omega
theorem dep_in {ns : List PNode} (hf : KidsFit ns) : ∀ {d i : Nat}, dep ns d i → i < ns.length
  | 0, i, h => h.1
  | d + 1, i, ⟨p, hp, hk⟩ => by have := (fit_kid hf hk).2.2.1; omega
theorem dep_deep {ns : List PNode} (hf : KidsFit ns) : ∀ (m d i : Nat), d + m = ns.length → dep ns d i → deepOk ns m i
  | 0, d, i, hm, h => by have := dep_lt hf h; omega
  | m + 1, d, i, hm, h => ⟨dep_in hf h, fun x hx => by
      have hk := fit_kid hf hx
      exact ⟨hk.2.1, dep_deep hf m (d + 1) x.toNat (by omega) ⟨i, h, by rw [Int.toNat_of_nonneg hk.2.1]; exact hx⟩⟩⟩
theorem deep_of_fit {ns : List PNode} (hf : KidsFit ns) (k : Nat) (hk : k < ns.length) (hp : parOf ns k = -1) : deepOk ns ns.length k := dep_deep hf ns.length 0 k (by omega) ⟨hk, hp⟩

def allDown (ns : List PNode) (f : Nat) : Nat → List Int
  | 0 => []
  | m + 1 => allDown ns f m ++ if parOf ns m = -1 then down ns f m else []
theorem allDown_len (ns : List PNode) (f : Nat) : ∀ m, (allDown ns f m).length = reachN ns f m
  | 0 => rfl
  | m + 1 => by
    simp only [allDown, reachN, List.length_append, allDown_len ns f m]
    by_cases h : parOf ns m = -1
    · simp [h]
    · simp [h]
theorem down_dep {ns : List PNode} (hf : KidsFit ns) : ∀ (f d s : Nat), dep ns d s → ∀ x ∈ down ns f s, 0 ≤ x ∧ x < ns.length ∧ ∃ e, dep ns e x.toNat
  | 0, d, s, h, x, hx => by cases hx
  | f + 1, d, s, h, x, hx => by
    rcases List.mem_cons.mp hx with rfl | hx
    · exact ⟨by omega, by have := dep_in hf h; omega, d, by simpa using h⟩
    · obtain ⟨y, hy, hxy⟩ := List.mem_flatMap.mp hx
      have hk := fit_kid hf hy
      exact down_dep hf f (d + 1) y.toNat ⟨s, h, by rw [Int.toNat_of_nonneg hk.2.1]; exact hy⟩ x hxy
theorem allDown_dep {ns : List PNode} (hf : KidsFit ns) (f : Nat) : ∀ m, m ≤ ns.length → ∀ x ∈ allDown ns f m, 0 ≤ x ∧ x < ns.length ∧ ∃ e, dep ns e x.toNat
  | 0, _, x, hx => by cases hx
  | m + 1, hm, x, hx => by
    rcases List.mem_append.mp hx with hx | hx
    · exact allDown_dep hf f m (by omega) x hx
    · by_cases h : parOf ns m = -1
      · rw [if_pos h] at hx
        exact down_dep hf f 0 m ⟨by omega, h⟩ x hx
      · rw [if_neg h] at hx; cases hx

theorem count_step {g : Int → List Int} {i p : Int} : ∀ (l : List Int), (∀ x ∈ l, (g x).count i = (g x).count p + if i = x then 1 else 0) → (l.flatMap g).count i = (l.flatMap g).count p + l.count i
  | [], _ => rfl
  | x :: l, h => by
    have h1 := h x (by simp)
    have h2 := count_step l (fun y hy => h y (by simp [hy]))
    simp only [List.flatMap_cons, List.count_append, h1, h2, List.count_cons, beq_iff_eq]
    by_cases e : i = x
    · subst e; simp; omega
    · have e' : ¬ x = i := fun h => e h.symm
      simp [e, e']; omega
theorem count_none {g : Int → List Int} {i : Int} : ∀ (l : List Int), (∀ x ∈ l, (g x).count i = 0) → (l.flatMap g).count i = 0
  | [], _ => rfl
  | x :: l, h => by
    simp only [List.flatMap_cons, List.count_append, h x (by simp), count_none l (fun y hy => h y (by simp [hy]))]
theorem nodup_count {l : List Int} {x : Int} (hn : l.Nodup) (hm : x ∈ l) : l.count x = 1 := by
  have h1 := List.nodup_iff_count.mp hn x
  have h2 := List.count_pos_iff.mpr hm
  omega

theorem down_count {ns : List PNode} (hf : KidsFit ns) {i p : Nat} (hk : (i : Int) ∈ kidsOf ns p) : ∀ (f s : Nat), deepOk ns f s → (down ns f s).count (i : Int) = (down ns f s).count (p : Int) + if i = s then 1 else 0
  | 0, s, h => h.elim
  | f + 1, s, h => by
    have h1 := count_step (g := fun x => down ns f x.toNat) (i := (i : Int)) (p := (p : Int)) (kidsOf ns s) (fun x hx => by
      have hd := (h.2 x hx)
      have := down_count hf hk f x.toNat hd.2
      rw [this]
      congr 1
      by_cases e : (i : Int) = x
      · rw [if_pos (by omega), if_pos e]
      · rw [if_neg (by omega), if_neg e])
    have hc : (kidsOf ns s).count (i : Int) = if p = s then 1 else 0 := by
      by_cases e : p = s
      · subst e
        rw [if_pos rfl]
        exact nodup_count (hf p h.1).1 hk
      · rw [if_neg e]
        refine List.count_eq_zero.mpr fun hm => e ?_
        have a1 := (fit_kid hf hk).2.2.2
        have a2 := (fit_kid hf hm).2.2.2
        omega
    simp only [down, List.count_cons, h1, hc, beq_iff_eq]
    by_cases e1 : i = s
    · subst e1
      by_cases e2 : p = i
      · subst e2; simp
      · have : ¬ ((i : Int) = (p : Int)) := by omega
        simp [e2, this]
    · have e1' : ¬ ((s : Int) = (i : Int)) := by omega
      by_cases e2 : p = s
      · subst e2; simp [e1, e1']
      · have : ¬ ((s : Int) = (p : Int)) := by omega
        simp [e1, e1', e2, this]
theorem down_root {ns : List PNode} (hf : KidsFit ns) {i : Nat} (hk : ∀ p, (i : Int) ∉ kidsOf ns p) : ∀ (f s : Nat), deepOk ns f s → (down ns f s).count (i : Int) = if i = s then 1 else 0
  | 0, s, h => h.elim
  | f + 1, s, h => by
    have h1 := count_none (g := fun x => down ns f x.toNat) (i := (i : Int)) (kidsOf ns s) (fun x hx => by
      have hd := (h.2 x hx)
      rw [down_root hf hk f x.toNat hd.2, if_neg]
      intro e
      exact hk s (by rw [e, Int.toNat_of_nonneg hd.1]; exact hx))
    simp only [down, List.count_cons, h1, beq_iff_eq]
    by_cases e : i = s
    · subst e; simp
    · have : ¬ ((s : Int) = (i : Int)) := by omega
      simp [e, this]
theorem all_count {ns : List PNode} (hf : KidsFit ns) {i p : Nat} (hk : (i : Int) ∈ kidsOf ns p) : ∀ m, m ≤ ns.length → (allDown ns ns.length m).count (i : Int) = (allDown ns ns.length m).count (p : Int)
  | 0, _ => rfl
  | m + 1, hm => by
    simp only [allDown, List.count_append, all_count hf hk m (by omega)]
    by_cases h : parOf ns m = -1
    · rw [if_pos h, down_count hf hk ns.length m (deep_of_fit hf m (by omega) h), if_neg, Nat.add_zero]
      intro e
      have := (fit_kid hf hk).2.2.2
      rw [show ((i : Int)).toNat = i by simp, e, h] at this
      omega
    · rw [if_neg h]; rfl
theorem all_root {ns : List PNode} (hf : KidsFit ns) {i : Nat} (hi : parOf ns i = -1) : ∀ m, m ≤ ns.length → (allDown ns ns.length m).count (i : Int) = if i < m then 1 else 0
  | 0, _ => rfl
  | m + 1, hm => by
    have hk : ∀ p, (i : Int) ∉ kidsOf ns p := fun p hk => by
      have := (fit_kid hf hk).2.2.2
      rw [show ((i : Int)).toNat = i by simp, hi] at this
      omega
    simp only [allDown, List.count_append, all_root hf hi m (by omega)]
    by_cases h : parOf ns m = -1
    · rw [if_pos h, down_root hf hk ns.length m (deep_of_fit hf m (by omega) h)]
      by_cases e : i = m
      · subst e; simp
      · by_cases e2 : i < m
        · rw [if_pos e2, if_neg e, if_pos (by omega)]
        · rw [if_neg e2, if_neg e, if_neg (by omega)]
    · have e : i ≠ m := fun e => h (e ▸ hi)
      rw [if_neg h]
      by_cases e2 : i < m
      · rw [if_pos e2, if_pos (by omega)]; rfl
      · rw [if_neg e2, if_neg (by omega)]; rfl
theorem dep_count {ns : List PNode} (hf : KidsFit ns) : ∀ (d i : Nat), dep ns d i → (allDown ns ns.length ns.length).count (i : Int) = 1
  | 0, i, h => by rw [all_root hf h.2 _ (Nat.le_refl _), if_pos h.1]
  | d + 1, i, ⟨p, hp, hk⟩ => by rw [all_count hf hk _ (Nat.le_refl _), dep_count hf d p hp]
theorem all_nodup {ns : List PNode} (hf : KidsFit ns) : (allDown ns ns.length ns.length).Nodup := by
  refine List.nodup_iff_count.mpr fun x => ?_
  by_cases hx : x ∈ allDown ns ns.length ns.length
  · obtain ⟨h0, _, d, hd⟩ := allDown_dep hf ns.length ns.length (Nat.le_refl _) x hx
    have := dep_count hf d _ hd
    rw [Int.toNat_of_nonneg h0] at this
    omega
  · rw [List.count_eq_zero.mpr hx]; omega
theorem reach_le {ns : List PNode} (hf : KidsFit ns) : reachN ns ns.length ns.length ≤ ns.length := by
  rw [← allDown_len]
  exact nodup_le _ _ (all_nodup hf) fun x hx => ⟨(allDown_dep hf _ _ (Nat.le_refl _) x hx).1, (allDown_dep hf _ _ (Nat.le_refl _) x hx).2.1⟩
theorem reach_iff {ns : List PNode} (hf : KidsFit ns) : reachN ns ns.length ns.length = ns.length ↔ ∀ i, i < ns.length → ∃ d, dep ns d i := by
  have hr := fun x hx => allDown_dep hf ns.length ns.length (Nat.le_refl _) x hx
  constructor
  · intro h i hi
    rw [← allDown_len] at h
    have hm := nodup_all (all_nodup hf) (fun x hx => ⟨(hr x hx).1, (hr x hx).2.1⟩) h i hi
    obtain ⟨_, _, d, hd⟩ := hr _ hm
    exact ⟨d, by simpa using hd⟩
  · intro h
    have h1 := reach_le hf
    have h2 : ns.length ≤ reachN ns ns.length ns.length := by
      rw [← allDown_len]
      have key : ∀ m, m ≤ ns.length → ∀ l : List Int, (∀ i : Nat, i < m → (i : Int) ∈ l) → m ≤ l.length := by
        intro m
        induction m with
        | zero => intro _ l _; omega
        | succ m ih =>
          intro hm l hl
          have hmm := hl m (by omega)
          have := ih (by omega) (l.erase (m : Int)) (fun i hi => (List.mem_erase_of_ne (by omega)).mpr (hl i (by omega)))
          rw [List.length_erase_of_mem hmm] at this
          have := List.length_pos_of_mem hmm
          omega
      refine key _ (Nat.le_refl _) _ fun i hi => ?_
      obtain ⟨d, hd⟩ := h i hi
      have := dep_count hf d i hd
      exact List.count_pos_iff.mp (by omega)
    omega
end Go.Proofs.YtogdbjafibejdaaGreat

/- The contract of the program's AttrsOk. -/
namespace Go.Proofs.YtogdbjafibejdaaGreat
open Go.RowKit
set_option maxRecDepth 100000
set_option linter.unusedVariables false

theorem pairCells_take (rs : List (ByteArray × ByteArray)) (k : Nat) (hk : k ≤ rs.length) : pairCells (rs.take k) = (pairCells rs).take (k * 2) := by
  induction rs generalizing k with
  | nil => simp [pairCells]
  | cons r rs ih =>
    cases k with
    | zero => simp [pairCells]
    | succ k =>
      have := ih k (by simpa using hk)
      simp only [pairCells, List.take_succ_cons, List.flatMap_cons] at this ⊢
      rw [this, show (k + 1) * 2 = k * 2 + 1 + 1 by omega]
      rfl
theorem Sv.front {w : World} {a : Option Addr} {n cap k : Nat} {rs : List (ByteArray × ByteArray)} (h : Sv 2 w (.slice a n cap) (pairCells rs)) (hk : k ≤ rs.length) : Sv 2 w (.slice a k cap) (pairCells (rs.take k)) := by
  obtain ⟨a', len, cap', e, h1, h2, h3, h4, hc⟩ := h
  cases e
  have hl := pairCells_len rs
  rw [pairCells_take rs k hk]
  have hl2 : ((pairCells rs).take (k * 2)).length = k * 2 := by simp; omega
  refine ⟨a, k, cap, rfl, hl2, by omega, h3, h4, fun i hi => ?_⟩
  obtain ⟨b, off, e, c⟩ := hc i (by omega)
  refine ⟨b, off, e, ?_⟩
  rw [c]
  congr 1
  simp only [List.getD_eq_getElem?_getD]
  rw [List.getElem?_take_of_lt (by omega)]
theorem attrOf_has (l : List (ByteArray × ByteArray)) (nm : ByteArray) : (attrOf l nm).2 = true ↔ ∃ p ∈ l, p.1 = nm := by
  induction l with
  | nil => simp [attrOf]
  | cons p ps ih =>
    unfold attrOf
    by_cases h : p.1 = nm
    · rw [if_pos h]; simp [h]
    · rw [if_neg h, ih]; simp [h]

set_option maxHeartbeats 2000000 in
set_option maxRecDepth 100000 in
theorem iattrsOk_any {v : Value} {rs : List (ByteArray × ByteArray)} {w : World} (h : Sv 2 w v (pairCells rs)) (hn : rs.length ≤ 1099511627776) (hs : ∀ p ∈ rs, p.1.size ≤ 1099511627776 ∧ p.2.size ≤ 1099511627776) :
    Calls Tryz.prog 111 #[v] w fun e w' => e = .returned (.bool (attrsOk rs)) ∧ Below w.heap.size w w' := by
  have HV := (show Hid (Sv 2 w v (pairCells rs)) from h)
  obtain ⟨a, ca, rfl, _, _, hca⟩ := h.pair
  have HS := (show Hid (∀ p ∈ rs, p.1.size ≤ 1099511627776 ∧ p.2.size ≤ 1099511627776) from hs)
  clear h hs hca
  by_cases h20 : 20 < rs.length
  · have hr : attrsOk rs = false := by unfold attrsOk; rw [decide_eq_false (by omega)]; rfl
    rw [hr]
    go_enter Tryz.func111, Tryz.ntmps111
    go_wp2
    go_ret
    exact ⟨rfl, Below.refl _ _⟩
  · have hr : attrsOk rs = attrsTo rs := by unfold attrsOk; rw [decide_eq_true (by omega)]; rfl
    rw [hr]
    have h21 : rs.length ≤ 20 := by omega
    clear hr h20
    go_enter Tryz.func111, Tryz.ntmps111
    go_wp2
    go_loopw [12] (fun i wr => ∃ k : Nat, k ≤ rs.length ∧ i = .int .i64 k ∧ attrsTo (rs.take k) = true ∧ Below w.heap.size w wr) (fun i _ => rs.length - (intOf i).toNat)
    case atStart => exact ⟨0, Nat.zero_le _, rfl, rfl, Below.refl _ _⟩
    case round =>
      obtain ⟨k, hk, rfl, hto, bel⟩ := hrel
      have HTO := (show Hid (attrsTo (rs.take k) = true) from hto)
      clear hto
      by_cases hlt : k < rs.length
      · have hfr := (HV.out.below bel).front (k := k) (by omega)
        obtain ⟨_, _, ev, _, _, hca⟩ := (HV.out.below bel).pair
        cases ev
        obtain ⟨b1, o1, rfl, l1, c1, c2⟩ := hca k hlt
        have hsz := HS.out rs[k] (List.getElem_mem hlt)
        have HBAD : Hid (attrOk rs[k] = false → attrsTo rs = false) := attrsTo_bad hlt
        have HSUC : Hid (attrOk rs[k] = true → (attrOf (rs.take k) rs[k].1).2 = false → attrsTo (rs.take (k + 1)) = true) := fun h1 h2 => attrsTo_succ hlt HTO.out h1 (fun j hj e => by
          have : (attrOf (rs.take k) rs[k].1).2 = true := (attrOf_has _ _).mpr ⟨rs[j]'(by omega), List.mem_take_iff_getElem.mpr ⟨j, by omega, rfl⟩, e⟩
          rw [this] at h2; cases h2)
        have HTW : Hid ((attrOf (rs.take k) rs[k].1).2 = true → attrsTo rs = false) := fun h => by
          obtain ⟨p, hp, e⟩ := (attrOf_has _ _).mp h
          obtain ⟨j, hj, rfl⟩ := List.mem_take_iff_getElem.mp hp
          exact attrsTo_twice (by omega) hlt (by omega) e
        obtain ⟨x, hx⟩ : ∃ x, x = rs[k] := ⟨_, rfl⟩
        rw [← hx] at c1 c2 HBAD HSUC HTW hsz
        clear hx hca
        obtain ⟨xn, xv⟩ := x
        simp only at c1 c2 HBAD HSUC HTW hsz
        obtain ⟨wx, hwx⟩ : ∃ wx, wx = wr.alloc (.cells #[.string xn, .string xv] 115) := ⟨_, rfl⟩
        have bx : Below wr.heap.size wr wx := by rw [hwx]; exact (Below.refl _ _).alloc (Nat.le_refl _) _
        have belx := bel.trans (bx.mono bel.size)
        have hsx : wx.heap.size = wr.heap.size + 1 := by rw [hwx]; simp
        have hxb : wx.heap[wr.heap.size]? = some (.cells #[.string xn, .string xv] 115 (0, 0)) := by rw [hwx]; exact heap_alloc_new _ _
        have hx0 : ∀ n : Wd wx.heap.size wx, n.w.cell? ⟨wr.heap.size, 0, none⟩ = some (.string xn) := fun n => by rw [n.below.cell (p := ⟨wr.heap.size, 0, none⟩) (by show wr.heap.size < wx.heap.size; omega)]; simp only [World.cell?, hxb]; rfl
        have CA := (show Hid (∀ n : Wd wx.heap.size wx, Calls Tryz.prog 156 #[.slice (some ⟨b1, o1, none⟩) k ca, .string xn] n.w fun e w' => e = .returned (.tuple #[.string (attrOf (rs.take k) xn).1, .bool (attrOf (rs.take k) xn).2]) ∧ Below n.w.heap.size n.w w') from fun n => iattrOf_any ((hfr.below bx).below n.below) xn (by simp; omega))
        have CK := (show Hid (∀ w, Calls Tryz.prog 157 #[.agg #[.string xn, .string xv]] w fun e w' => e = .returned (.bool (attrOk (xn, xv))) ∧ Below w.heap.size w w') from fun w => iattrOk_any xn xv w hsz.1 hsz.2)
        obtain ⟨p, hp⟩ : ∃ p, p = attrOf (rs.take k) xn := ⟨_, rfl⟩
        rw [← hp] at CA HSUC HTW
        obtain ⟨q, hq⟩ : ∃ q, q = attrOk (xn, xv) := ⟨_, rfl⟩
        rw [← hq] at CK HSUC HBAD
        obtain ⟨pv, pb⟩ := p
        simp only at CA HSUC HTW
        have HXB := (show Hid _ from hxb)
        have HSX := (show Hid (wx.heap.size = wr.heap.size + 1) from hsx)
        clear hp hq hfr hxb hsx
        go_wp2
        rw [← hwx]
        clear hwx c1 c2
        have ne := Wd.any wx.heap.size wx
        refine wp_region_below (B := wx.heap.size) (w0 := wx) (by kernel_rfl) (by kernel_rfl) (Below.refl _ _) ?_
        repeat (go_big_quiet_step ((go_at_call 156; exact quiet_below (CA.out _) (Nat.le_refl _))))
        refine wpQuiet_nil ?_
        intro wq hq
        replace hq := Wd.of hq
        have hqb := (hq.block wr.heap.size (by have := HSX.out; omega)).trans HXB.out
        have q0 : wq.cell? ⟨wr.heap.size, 0, none⟩ = some (.string xn) := by simp only [World.cell?, hqb]; rfl
        have q1 : wq.cell? ⟨wr.heap.size, 1, none⟩ = some (.string xv) := by simp only [World.cell?, hqb]; rfl
        have belq := belx.trans (hq.mono (by have := belx.size; omega))
        clear hqb hx0
        cases pb
        · cases q
          · go_wp2_with fail
            go_at_call 157
            refine (CK.out _).mono ?_
            rintro e w2 ⟨rfl, b2⟩
            replace b2 := belq.trans (b2.mono belq.size)
            go_wp2
            go_ret
            exact ⟨ret_bool (by rw [HBAD.out (by simp)]), b2⟩
          · go_wp2_with fail
            go_at_call 157
            refine (CK.out _).mono ?_
            rintro e w2 ⟨rfl, b2⟩
            replace b2 := belq.trans (b2.mono belq.size)
            go_wp2
            go_roundw
            case rel => exact ⟨k + 1, by omega, by go_num, HSUC.out (by simp) (by simp), b2⟩
            case measure => simp [intOf]; omega
        · go_wp2
          go_ret
          exact ⟨ret_bool (by rw [HTW.out (by simp)]), belq⟩
      · have hke : k = rs.length := by omega
        have hto := HTO.out
        rw [hke, List.take_length] at hto
        have HT := (show Hid _ from hto)
        clear hto HTO
        go_wp2
        go_ret
        exact ⟨ret_bool HT.out.symm, bel⟩
end Go.Proofs.YtogdbjafibejdaaGreat
