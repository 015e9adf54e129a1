/- The program's rows of sectors: sectorsFrom. No condition. -/
import Derived.Test.YtdhnoaajdjkddaaISec
namespace Go.Proofs.Ytdhnoaajdjkddaa
open Go.RowKit
set_option maxRecDepth 100000
set_option linter.unusedVariables false

theorem secL_zeros : secL zeros64 = List.replicate 64 (.int .u8 0) := by
  have e : bs zeros64 = List.replicate 64 0 := by decide +kernel
  rw [secL, e]; rfl
theorem made_sec (n : Nat) : (madeCells (Value.agg (Array.replicate 64 (.int .u8 0))).cells (n * 64)).toList = secCells (List.replicate n zeros64) := by
  have hs : ∀ t ∈ List.replicate n zeros64, t.size = 64 := fun t ht => by rw [List.eq_of_mem_replicate ht]; exact zeros64_size
  apply List.ext_getElem?
  intro j
  by_cases hj : j < n * 64
  · have e : j = j / 64 * 64 + j % 64 := by omega
    rw [e, secCells_at hs (by rw [List.length_replicate]; omega) (by omega), ← e, List.getElem_replicate, secL_zeros, List.getElem?_replicate_of_lt (by omega)]
    have hm : j % 64 < 64 := by omega
    simp [madeCells, hj, Value.cells, hm]
  · rw [List.getElem?_eq_none (by simp [madeCells]; omega), List.getElem?_eq_none (by rw [secCells_len hs, List.length_replicate]; omega)]

/-- 'row[k] = t', t a sector. -/
theorem wpList_storeK {ops : Array Oper} {rest : List Oper} {op : Oper} {a : Act} {w : World} {Q : Exit → Act → World → Prop} (hgd : op.guard = none) (x y : Operand) (ho : op.op = .store 80 x y)
    {B g n cap : Nat} {ts : List ByteArray} (h : OwnK B w g n cap ts) (hs : ∀ t ∈ ts, t.size = 64) {k : Nat} (hk : k < ts.length) {t : ByteArray} (ht : t.size = 64)
    (hx : a.eval x = .pointer (some ⟨g, k * 64, none⟩)) (hy : a.eval y = .agg (secA t))
    (hK : ∀ w', OwnK B w' g n cap (ts.set k t) → w.grownBy w' (some g) → wpList Try.prog ops Q rest (a.put op.dst undef) w') : wpList Try.prog ops Q (op :: rest) a w := by
  have e : (secA t).toList = secL t := by simp [secA]
  refine wpList_store_mid hgd 80 x y ho g (k * 64) (secA t) hx hy (by rw [secA_size, ht]; exact h.there hs hk) (secSize ht) (secA_one t) ?_
  rw [e]
  obtain ⟨h1, h2⟩ := h.stored hs hk ht
  exact hK _ h1 h2
theorem sizes_set {ts : List ByteArray} (hs : ∀ t ∈ ts, t.size = 64) {k : Nat} {t : ByteArray} (ht : t.size = 64) : ∀ x ∈ ts.set k t, x.size = 64 := by
  intro x hx
  rcases List.mem_or_eq_of_mem_set hx with h | h
  · exact hs x h
  · rw [h]; exact ht

set_option maxHeartbeats 2000000 in
set_option maxRecDepth 100000 in
theorem isectorsFrom_any {v : Value} {rs : List ByteArray} {w : World} (h : Sv 1 w v (strCells rs)) (hn : rs.length ≤ 1048576) (hs : ∀ t ∈ rs, t.size = 64) :
    Calls Try.prog 67 #[v] w fun e w' => ∃ g, e = .returned (.slice (some ⟨g, 0, none⟩) rs.length rs.length) ∧ OwnK w.heap.size w' g rs.length rs.length rs ∧ Below w.heap.size w w' := by
  obtain ⟨a, ca, rfl, _, _, hca⟩ := h.str
  have HC := (show Hid (∀ k (hk : k < rs.length), ∃ b off, a = some ⟨b, off, none⟩ ∧ b < w.heap.size ∧ w.cell? ⟨b, off + k, none⟩ = some (.string rs[k])) from hca)
  have HS := (show Hid (∀ t ∈ rs, t.size = 64) from hs)
  clear h hca hs
  obtain ⟨i0, hi, hz0, hz1, hz2⟩ := info_parts Try.infoSec
  go_enter Try.func67, Try.ntmps67
  go_wp2_with (at_make; refine wpList_make_full _ rfl (.tmp 7) (.tmp 7) 85 rfl w.heap.size 80 i0 _ 64 Try.underlying85 hi hz0 hz1 .i64 .i64 _ _ rs.length rfl rfl rfl rfl (by rw [hz2]; omega) (by unfold maxLen; omega) (Nat.le_refl _) ?_; intro w1 o1 g1)
  rw [made_sec] at o1
  have b1 : Below w.heap.size w w1 := (Below.refl _ _).grown g1 (Nat.le_refl _) (fun k hk => by cases hk)
  have hlt0 : w.heap.size < w1.heap.size := by
    obtain ⟨_, ⟨h, _⟩ | ⟨g, _, _, h, _, hh, _⟩⟩ := o1
    · cases h
    · cases h; exact lt_of_block hh
  go_loopw [11] (fun i wr => ∃ k : Nat, k ≤ rs.length ∧ i = .int .i64 k ∧ OwnK w.heap.size wr w.heap.size rs.length rs.length (rs.take k ++ List.replicate (rs.length - k) zeros64) ∧ Below w.heap.size w wr ∧ w.heap.size < wr.heap.size) (fun i _ => rs.length - (intOf i).toNat)
  case atStart => exact ⟨0, Nat.zero_le _, rfl, o1, b1, hlt0⟩
  case round =>
    clear o1 g1 b1 hlt0 hi hz0 hz1 hz2
    obtain ⟨k, hk, rfl, own, bel, hlt0⟩ := hrel
    by_cases hlt : k < rs.length
    · obtain ⟨b1, o1, rfl, l1, c1⟩ := HC.out k hlt
      have d1 := (bel.cell (p := ⟨b1, o1 + k, none⟩) l1).trans c1
      have hx64 := HS.out _ (List.getElem_mem hlt)
      have hts : ∀ t ∈ rs.take k ++ List.replicate (rs.length - k) zeros64, t.size = 64 := fun t ht => by
        rcases List.mem_append.mp ht with h | h
        · exact HS.out t (List.mem_of_mem_take h)
        · rw [List.eq_of_mem_replicate h]; exact zeros64_size
      have htl : k < (rs.take k ++ List.replicate (rs.length - k) zeros64).length := by rw [List.length_append, List.length_take, List.length_replicate]; omega
      have hnx : (rs.take k ++ List.replicate (rs.length - k) zeros64).set k rs[k] = rs.take (k + 1) ++ List.replicate (rs.length - (k + 1)) zeros64 := by
        have e1 : (rs.take k).length = k := by rw [List.length_take]; omega
        rw [List.set_append_right _ _ (by omega), e1, Nat.sub_self, show rs.length - k = (rs.length - (k + 1)) + 1 by omega, List.replicate_succ, List.set_cons_zero, List.take_succ_eq_append_getElem hlt, List.append_assoc]
        rfl
      obtain ⟨x, hx⟩ : ∃ x, x = rs[k] := ⟨_, rfl⟩
      rw [← hx] at d1 hx64 hnx
      obtain ⟨ts, hts'⟩ : ∃ ts, ts = rs.take k ++ List.replicate (rs.length - k) zeros64 := ⟨_, rfl⟩
      rw [← hts'] at own hts htl hnx
      have OW := (show Hid (OwnK w.heap.size wr w.heap.size rs.length rs.length ts) from own)
      have HT := (show Hid (∀ t ∈ ts, t.size = 64) from hts)
      have HNX := (show Hid _ from hnx)
      have HTL := (show Hid (k < ts.length) from htl)
      have H64 := (show Hid (x.size = 64) from hx64)
      clear hx hts' own hts hnx htl c1 hx64
      go_wp2_with fail
      go_at_call 69
      refine (isectorFrom_any x wr H64.out).mono ?_
      rintro e w2 ⟨rfl, b2⟩
      have OW2 := (show Hid (OwnK w.heap.size w2 w.heap.size rs.length rs.length ts) from ownsRow_below OW.out b2)
      have B2 := (show Hid (Below w.heap.size w w2 ∧ w.heap.size < w2.heap.size) from ⟨bel.trans (b2.mono bel.size), by have := b2.size; omega⟩)
      clear b2 OW d1
      go_wp2_with (
        refine wpList_storeK rfl (.tmp 20) (.tmp 19) rfl OW2.out HT.out HTL.out H64.out rfl rfl ?_
        intro w3 o3 g3
        have B3 := (show Hid (Below w.heap.size w w3 ∧ w.heap.size < w3.heap.size) from ⟨B2.out.1.grown g3 B2.out.1.size (fun r e => by cases e; exact Nat.le_refl _), by have := g3.size; have := B2.out.2; omega⟩)
        have OW3 := (show Hid _ from HNX.out ▸ o3)
        clear o3 g3)
      go_roundw
      case rel => exact ⟨k + 1, by omega, by go_num, OW3.out, B3.out.1, B3.out.2⟩
      case measure => simp [intOf]; omega
    · have hke : k = rs.length := by omega
      have own' : OwnK w.heap.size wr w.heap.size rs.length rs.length rs := by
        have e : rs.take k ++ List.replicate (rs.length - k) zeros64 = rs := by rw [hke, List.take_length, Nat.sub_self]; simp
        rw [e] at own; exact own
      have OW := (show Hid _ from own')
      clear own own'
      go_wp2
      go_ret
      exact ⟨w.heap.size, rfl, OW.out, bel⟩
end Go.Proofs.Ytdhnoaajdjkddaa
