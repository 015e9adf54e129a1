/- append of integers that tells its block: the old one, or a new one. No condition. -/
import Derived.Test.YthdfhckmgneioaaGreatGrow
import Derived.Test.YthdfhckmgneioaaGreatSCopy
import Derived.Test.YthdfhckmgneioaaGreatDrawS
import Derived.Laws.Append
namespace Go.Proofs.YthdfhckmgneioaaGreat
open Go.RowKit
set_option maxRecDepth 100000
set_option linter.unusedVariables false

theorem run_blk {P : Program} (w : World) (base : Nat) (t ty e : TypeId) (i : TypeInfo) (z : Value) (size bytes : Nat) (ht : P.underlying t = some (.slice e)) (hi : P.info? e = some i) (hz : i.zero = some z)
    (hsize : i.size = size) (hby : i.bytes = bytes) (r n cap : Nat) (xs : List Value) (hown : w.ownsRow base e size (.slice (some ⟨r, 0, none⟩) n cap) n xs)
    (a : Addr) (m c : Nat) (news : List Value) (hl : news.length = m * size) (hnews : ∀ j u, news[j]? = some u → w.cell? (a.add j) = some u) (h1 : ∀ u ∈ news, u.oneCell' = true)
    (h63 : n + m ≤ maxLen) (hbytes : (n + m) * bytes ≤ 140737488355328) {v' : Value} {w' : World} (hr : (Builtin.append_ #[t, t] ty #[.slice (some ⟨r, 0, none⟩) n cap, .slice (some a) m c]).run P w = .ok v' w') :
    ∃ r' cap', v' = .slice (some ⟨r', 0, none⟩) (n + m) cap' ∧ (r' = r ∨ r' = w.heap.size) := by
  subst hsize
  subst hby
  have hsmall : n + m ≤ 9223372036854775807 := by simp only [maxLen] at h63; omega
  rcases hown.2 with ⟨e1, _⟩ | ⟨g, cap', cur, e1, hbg, hg, hnc, hcm, hcs, htake⟩
  · cases e1
  · cases e1
    by_cases hroom : n + m ≤ cap
    · have hfit : n * i.size + news.length ≤ cur.size := by rw [hl, hcs, ← Nat.add_mul]; exact Nat.mul_le_mul_right _ hroom
      have hr2 := run_append_room (P := P) w t ty e i ht hi r n cap cur hg a m c news hl hnews h1 hroom hfit
      rw [hr] at hr2
      cases hr2
      exact ⟨_, _, rfl, .inl rfl⟩
    · have holds : ∀ j u, xs[j]? = some u → w.cell? ((⟨r, 0, none⟩ : Addr).add j) = some u := hown.cells (g := r) rfl
      have hr2 := run_append_grow (P := P) w t ty e i z ht hi hz ⟨r, 0, none⟩ n cap xs hown.1 holds a m c news hl hnews (by omega) (by omega) (growslice_fits (by omega) hbytes)
      rw [hr] at hr2
      cases hr2
      exact ⟨_, _, rfl, .inr rfl⟩

/-- 'v = append(v, u...)' for integers: where the new one lies. -/
theorem wpList_appB {P : Program} (w : World) {ops : Array Oper} {rest : List Oper} {o : Oper} {a : Act} {Q : Exit → Act → World → Prop} (hgd : o.guard = none)
    (s x : Operand) (t : TypeId) (ho : o.op = Op.call { callee := Callee.builtin Builtin.append, args := #[s, x], argTypes := #[t, t] }) (B : Nat) (e : TypeId) (i : TypeInfo)
    (z : Value) (bytes : Nat) (ht : P.underlying t = some (TypeDesc.slice e)) (hi : P.info? e = some i) (hz : i.zero = some z) (hsize : i.size = 1) (hby : i.bytes = bytes)
    (hzs : z.cells.size = 1) (K : IntKind) (r cap : Nat) (xs : List Int) (ad : Addr) (c : Nat) (ys : List Int) (hs : a.eval s = .slice (some ⟨r, 0, none⟩) xs.length cap) (hx : a.eval x = .slice (some ad) ys.length c) (hown : Own B e K w (.slice (some ⟨r, 0, none⟩) xs.length cap) xs) (hu : Sl K w (.slice (some ad) ys.length c) ys)
    (hb : (xs.length + ys.length) * bytes ≤ 140737488355328) (h63 : xs.length + ys.length ≤ maxLen) (hbase : B ≤ w.heap.size)
    (h : ∀ (r' cap' : Nat) (w' : World), Own B e K w' (.slice (some ⟨r', 0, none⟩) (xs.length + ys.length) cap') (xs ++ ys) → w.grownBy w' (some r) → (r' = r ∨ r' = w.heap.size) → wpList P ops Q rest (a.put o.dst (.slice (some ⟨r', 0, none⟩) (xs.length + ys.length) cap')) w') :
    wpList P ops Q (o :: rest) a w := by
  obtain ⟨ao, cap0, e1, hlc, hcm, hnone, hc⟩ := hu
  cases e1
  obtain ⟨v', w', hr, h2, h3, h4⟩ := run_append_own (P := P) w B t o.type e i z 1 bytes ht hi hz hsize hby hzs (by decide) _ xs.length (xs.map (Value.int K)) hown ad ys.length c (ys.map (Value.int K)) (by simp) (Sl.news hc) (ints_oneCell K ys) h63 hb hbase
  obtain ⟨r', cap', rfl, hrr⟩ := run_blk w B t o.type e i z 1 bytes ht hi hz hsize hby r xs.length cap (xs.map (Value.int K)) hown ad ys.length c (ys.map (Value.int K)) (by simp) (Sl.news hc) (ints_oneCell K ys) h63 hb hr
  refine wpList_plain hgd fun _ hK => ?_
  unfold Oper.wp execOp
  simp only [ho, resolve, invoke, builtin, Sem.run_bind, Sem.run_pure, Result.andThen_ok, List.map_toArray, List.map_cons, List.map_nil, hs, hx, hr]
  refine hK _ _ (h r' cap' w' ?_ h3 hrr)
  unfold Own
  rw [List.length_append, List.map_append]; exact h2

/-- One string of a list that lies in a block of its own. -/
theorem pickT_any {w0 : World} {g : Nat} {v : Value} {xs : List Int} {w : World} (h : Cur w0 g v xs w) (hb : ∀ x ∈ xs, 0 ≤ x ∧ x ≤ 255) (M : Nat) (ts : List ByteArray) (hz : 0 < ts.length) (hz2 : ts.length ≤ 1000) (cs : Array Value) (hcs : cs.toList = ts.map Value.string) (n : Nat) (hn : n = ts.length) (hM : w.heap[M]? = some (.cells cs 9 (0, 0))) (hMg : M ≠ g) :
    Calls Tryz.prog 55 #[.pointer (some ⟨g, 0, none⟩), .slice (some ⟨M, 0, none⟩) n n] w fun e w' => ∃ t, e = .returned (.string t) ∧ t ∈ ts ∧ Cur w0 g v xs w' ∧ w.grownBy w' (some g) := by
  have hlt := h.lt
  have HC : Hid (∀ w1, w.grownBy w1 (some g) → ∀ k (hk : k < ts.length), w1.cell? ⟨M, k, none⟩ = some (.string ts[k])) := by
    intro w1 hg k hk
    have e := hg.block M (blk_lt hM) (fun e => by injection e with e; exact hMg e)
    have e2 : cs[k]? = some (.string ts[k]) := by
      have : cs.toList[k]? = some (.string ts[k]) := by rw [hcs]; simp [hk]
      simpa using this
    simp only [World.cell?, e, hM]
    simpa using e2
  have HB : Hid (∀ x ∈ xs, 0 ≤ x ∧ x ≤ 255) := hb
  clear hb hcs
  subst hn
  go_enter Tryz.func55, Tryz.ntmps55
  go_wp2_with fail
  go_at_call 32
  refine (below_any _ (by omega) h HB.out).mono ?_
  rintro e w1 ⟨x, rfl, x0, x1, x2, k1, g1⟩
  replace x1 := x1 (by omega)
  clear x2
  obtain ⟨k, rfl⟩ : ∃ k : Nat, x = k := ⟨x.toNat, by omega⟩
  have hkl : k < ts.length := by omega
  have c1 := HC.out w1 g1 k hkl
  go_wp2
  go_ret
  exact ⟨_, rfl, List.getElem_mem hkl, k1, g1⟩
end Go.Proofs.YthdfhckmgneioaaGreat
