/- append of integers that tells its block: the old one, or a new one. No condition. -/
import Derived.Test.YtogdbjafibejdaaGreatY3
import Derived.Test.YtogdbjafibejdaaGreatY28
import Derived.Test.YtogdbjafibejdaaGreatY14
import Derived.Laws.Append
namespace Go.Proofs.YtogdbjafibejdaaGreat
open Go.RowKit
set_option maxRecDepth 100000
set_option linter.unusedVariables false

theorem run_blk {P : Program} (w : World) (base : Nat) (t ty e : TypeId) (i : TypeInfo) (z : Value) (size bytes : Nat) (ht : P.underlying t = some (.slice e)) (hi : P.info? e = some i) (hz : i.zero = some z)
    (hsize : i.size = size) (hby : i.bytes = bytes) (r n cap : Nat) (xs : List Value) (hown : w.ownsRow base e size (.slice (some ⟨r, 0, none⟩) n cap) n xs)
    (a : Addr) (m c : Nat) (news : List Value) (hl : news.length = m * size) (hnews : ∀ j u, news[j]? = some u → w.cell? (a.add j) = some u) (h1 : ∀ u ∈ news, u.oneCell' = true)
    (h63 : n + m ≤ maxLen) (hbytes : (n + m) * bytes ≤ 140737488355328) {v' : Value} {w' : World} (hr : (Builtin.append_ #[t, t] ty #[.slice (some ⟨r, 0, none⟩) n cap, .slice (some a) m c]).run P w = .ok v' w') :
    ∃ r' cap', v' = .slice (some ⟨r', 0, none⟩) (n + m) cap' ∧ (r' = r ∨ r' = w.heap.size) := by
  subst hsize
  subst hby
  have hsmall : n + m ≤ 9223372036854775807 := by simp only [maxLen] at h63; omega
  rcases hown.2 with ⟨e1, _⟩ | ⟨g, cap', cur, e1, hbg, hg, hnc, hcm, hcs, htake⟩
  · cases e1
  · cases e1
    by_cases hroom : n + m ≤ cap
    · have hfit : n * i.size + news.length ≤ cur.size := by rw [hl, hcs, ← Nat.add_mul]; exact Nat.mul_le_mul_right _ hroom
      have hr2 := run_append_room (P := P) w t ty e i ht hi r n cap cur hg a m c news hl hnews h1 hroom hfit
      rw [hr] at hr2
      cases hr2
      exact ⟨_, _, rfl, .inl rfl⟩
    · have holds : ∀ j u, xs[j]? = some u → w.cell? ((⟨r, 0, none⟩ : Addr).add j) = some u := hown.cells (g := r) rfl
      have hr2 := run_append_grow (P := P) w t ty e i z ht hi hz ⟨r, 0, none⟩ n cap xs hown.1 holds a m c news hl hnews (by omega) (by omega) (growslice_fits (by omega) hbytes)
      rw [hr] at hr2
      cases hr2
      exact ⟨_, _, rfl, .inr rfl⟩

theorem wpList_appB {P : Program} (w : World) {ops : Array Oper} {rest : List Oper} {o : Oper} {a : Act} {Q : Exit → Act → World → Prop} (hgd : o.guard = none)
    (s x : Operand) (t : TypeId) (ho : o.op = Op.call { callee := Callee.builtin Builtin.append, args := #[s, x], argTypes := #[t, t] }) (B : Nat) (e : TypeId) (i : TypeInfo)
    (z : Value) (bytes : Nat) (ht : P.underlying t = some (TypeDesc.slice e)) (hi : P.info? e = some i) (hz : i.zero = some z) (hsize : i.size = 1) (hby : i.bytes = bytes)
    (hzs : z.cells.size = 1) (K : IntKind) (r cap : Nat) (xs : List Int) (ad : Addr) (c : Nat) (ys : List Int) (hs : a.eval s = .slice (some ⟨r, 0, none⟩) xs.length cap) (hx : a.eval x = .slice (some ad) ys.length c) (hown : Own B e K w (.slice (some ⟨r, 0, none⟩) xs.length cap) xs) (hu : Sl K w (.slice (some ad) ys.length c) ys)
    (hb : (xs.length + ys.length) * bytes ≤ 140737488355328) (h63 : xs.length + ys.length ≤ maxLen) (hbase : B ≤ w.heap.size)
    (h : ∀ (r' cap' : Nat) (w' : World), Own B e K w' (.slice (some ⟨r', 0, none⟩) (xs.length + ys.length) cap') (xs ++ ys) → w.grownBy w' (some r) → (r' = r ∨ r' = w.heap.size) → wpList P ops Q rest (a.put o.dst (.slice (some ⟨r', 0, none⟩) (xs.length + ys.length) cap')) w') :
    wpList P ops Q (o :: rest) a w := by
  obtain ⟨ao, cap0, e1, hlc, hcm, hnone, hc⟩ := hu
  cases e1
  obtain ⟨v', w', hr, h2, h3, h4⟩ := run_append_own (P := P) w B t o.type e i z 1 bytes ht hi hz hsize hby hzs (by decide) _ xs.length (xs.map (Value.int K)) hown ad ys.length c (ys.map (Value.int K)) (by simp) (Sl.news hc) (ints_oneCell K ys) h63 hb hbase
  obtain ⟨r', cap', rfl, hrr⟩ := run_blk w B t o.type e i z 1 bytes ht hi hz hsize hby r xs.length cap (xs.map (Value.int K)) hown ad ys.length c (ys.map (Value.int K)) (by simp) (Sl.news hc) (ints_oneCell K ys) h63 hb hr
  refine wpList_plain hgd fun _ hK => ?_
  unfold Oper.wp execOp
  simp only [ho, resolve, invoke, builtin, Sem.run_bind, Sem.run_pure, Result.andThen_ok, List.map_toArray, List.map_cons, List.map_nil, hs, hx, hr]
  refine hK _ _ (h r' cap' w' ?_ h3 hrr)
  unfold Own
  rw [List.length_append, List.map_append]; exact h2

end Go.Proofs.YtogdbjafibejdaaGreat
