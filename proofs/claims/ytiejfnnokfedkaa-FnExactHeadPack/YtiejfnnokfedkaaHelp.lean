/- Contracts of the small functions of the laws' package (copies, comparisons, marks of slices of bytes), for every slice of up to 2^40 of them. -/
import Derived.Test.YtiejfnnokfedkaaRows
import Derived.Test.YtiejfnnokfedkaaBase
namespace Go.Proofs.Ytiejfnnokfedkaa
open Go.RowKit
set_option maxRecDepth 100000
set_option linter.unusedVariables false

theorem eqB_any {v1 v2 : Value} {xs ys : List Int} {w : World} (h1 : Sl .u8 w v1 xs) (h2 : Sl .u8 w v2 ys) (hx : xs.length ≤ 1099511627776) (hy : ys.length ≤ 1099511627776) :
    Calls Try.prog 20 #[v1, v2] w fun e w' => e = .returned (.bool (decide (xs = ys))) ∧ Below w.heap.size w w' := by
  obtain ⟨a, ca, rfl, _, _, _, ha⟩ := h1
  obtain ⟨b, cb, rfl, _, _, _, hb⟩ := h2
  by_cases hl : xs.length = ys.length
  · have hl1 : ((xs.length : Int) != (ys.length : Int)) = false := by simp [hl]
    have HL : Hid (xs.length = ys.length) := hl
    clear hl
    go_enter Try.func20, Try.ntmps20
    go_wp2
    go_loopw [5] (fun i wr => ∃ k : Nat, k ≤ xs.length ∧ i = .int .i64 k ∧ xs.take k = ys.take k ∧ ∃ n, wr = w.drewN n) (fun i _ => xs.length - (intOf i).toNat)
    case atStart => exact ⟨0, Nat.zero_le _, rfl, by simp, 0, rfl⟩
    case round =>
      obtain ⟨k, hk, rfl, ht, n, rfl⟩ := hrel
      by_cases hlt : k < xs.length
      · have hlt2 : k < ys.length := by rw [← HL.out]; exact hlt
        obtain ⟨b1, o1, rfl, c1⟩ := ha k hlt
        obtain ⟨b2, o2, rfl, c2⟩ := hb k hlt2
        have HT : Hid (xs.take k = ys.take k) := ht
        clear ht ha hb
        go_wp2
        go_quiet (fail)
        go_wp2
        · go_ret
          have hne : (xs[k] != ys[k]) = true := by assumption
          exact ⟨ret_bool (by simp at hne; simp; intro h; subst h; exact hne rfl), (below_drewN _).trans (below_drewN _)⟩
        · have hne : (xs[k] != ys[k]) = false := by assumption
          go_roundw
          case rel => exact ⟨k + 1, by omega, by go_num, take_eq_succ hlt hlt2 HT.out (by simp at hne; simpa [List.getD_eq_getElem?_getD, hlt, hlt2] using hne), _, rfl⟩
          case measure => simp [intOf]; omega
      · have HT : Hid (xs.take k = ys.take k) := ht
        clear ht ha hb
        go_wp2
        go_ret
        have hke : k = xs.length := by omega
        exact ⟨ret_bool (by have h := HT.out; rw [hke] at h; simp [eq_of_take HL.out h]), below_drewN n⟩
  · have hl1 : ((xs.length : Int) != (ys.length : Int)) = true := by simp; omega
    go_enter Try.func20, Try.ntmps20
    go_wp2
    go_ret
    exact ⟨ret_bool (by simp; intro h; exact hl (by rw [h])), Below.refl _ _⟩

theorem heldB_any {v : Value} {n : Nat} {k0 : Int} {w : World} (h : Sl .u8 w v (marks (· % 256) k0 n)) (hn : n ≤ 1099511627776) (hk0 : 0 ≤ k0) (hk1 : k0 ≤ 1099511627776) :
    Calls Try.prog 24 #[v, .int .i64 k0] w fun e w' => e = .returned (.int .i64 (k0 + n)) ∧ Below w.heap.size w w' := by
  obtain ⟨a, ca, rfl, _, _, _, ha⟩ := h
  rw [marks_length]
  go_enter Try.func24, Try.ntmps24
  go_wp2
  go_loop [1, 5] (fun q i => ∃ k : Nat, k ≤ n ∧ i = .int .i64 k ∧ q = .int .i64 (k0 + k)) (fun _ i => n - (intOf i).toNat)
  case atStart => exact ⟨0, Nat.zero_le _, rfl, by go_num⟩
  case round =>
    obtain ⟨k, hk, rfl, rfl⟩ := hrel
    by_cases hlt : k < n
    · obtain ⟨b1, o1, rfl, c1⟩ := ha k (by rw [marks_length]; exact hlt)
      rw [marks_getD _ _ _ _ hlt] at c1
      clear ha
      go_wp2
      go_round
      case rel => exact ⟨k + 1, by omega, by go_num, by go_num⟩
      case measure => simp [intOf]; omega
    · clear ha
      go_wp2
      go_ret
      have hke : k = n := by omega
      exact ⟨ret_int (by rw [hke]), Below.refl _ _⟩

theorem markB_any {B : Nat} {v : Value} {xs : List Int} {k0 : Int} {w : World} (h : Own B 5 .u8 w v xs) (hn : xs.length ≤ 1099511627776) (hk0 : 0 ≤ k0) (hk1 : k0 ≤ 1099511627776) :
    Calls Try.prog 21 #[v, .int .i64 k0] w fun e w' => e = .returned (.int .i64 (k0 + xs.length)) ∧ Own B 5 .u8 w' v (marks (· % 256) k0 xs.length) ∧ w.grownBy w' v.ownBlock := by
  rcases h.shape with ⟨rfl, rfl⟩ | ⟨g, cap, rfl, hB, hg, hc, hm⟩
  · go_enter Try.func21, Try.ntmps21
    go_wp2
    refine wp_loop_rounds 1 ?_
    rw [rounds_succ]
    go_wp2
    go_ret
    exact ⟨ret_int (by simp), h, World.grownBy.refl _ _⟩
  · go_enter Try.func21, Try.ntmps21
    go_wp2
    go_loopw [1, 5] (fun q i wr => ∃ k : Nat, k ≤ xs.length ∧ i = .int .i64 k ∧ q = .int .i64 (k0 + k) ∧ wr.ownsRow B 5 1 (.slice (some ⟨g, 0, none⟩) xs.length cap) xs.length ((marks (· % 256) k0 k ++ xs.drop k).map (Value.int .u8)) ∧ w.grownBy wr (some g)) (fun _ i _ => xs.length - (intOf i).toNat)
    case atStart => exact ⟨0, Nat.zero_le _, rfl, by go_num, h, World.grownBy.refl _ _⟩
    case round =>
      obtain ⟨k, hk, rfl, rfl, hown, hgr⟩ := hrel
      by_cases hlt : k < xs.length
      · obtain ⟨z, hcell⟩ : ∃ z, wr.cell? ⟨g, k, none⟩ = some (.int .u8 z) := by
          have hc := hown.cellAt k (by omega)
          have hlk : k < (marks (· % 256) k0 k ++ xs.drop k).length := by simp [marks_length]; omega
          rw [hc, List.getElem?_map, List.getElem?_eq_getElem hlk]; exact ⟨_, rfl⟩
        have hfz := hown.frozenAt k
        have HO : Hid (wr.ownsRow B 5 1 (.slice (some ⟨g, 0, none⟩) xs.length cap) xs.length ((marks (· % 256) k0 k ++ xs.drop k).map (Value.int .u8))) := hown
        clear hown
        go_wp2
        have hst := HO.out.stored k (.int .u8 ((k0 + k) % 256))
        rw [← List.map_set, marked_succ (· % 256) k0 xs k hlt] at hst
        go_roundw
        case rel => exact ⟨k + 1, by omega, by go_num, by go_num, hst.1, grown_trans hgr hst.2⟩
        case measure => simp [intOf]; omega
      · go_wp2
        go_ret
        have hke : k = xs.length := by omega
        rw [hke, List.drop_length, List.append_nil] at hown
        refine ⟨ret_int (by rw [hke]), ?_, hgr⟩
        unfold Own; rw [marks_length]; exact hown

theorem Try.infoB : (Try.prog.info? 5).map (fun i => (i.zero, i.size, i.bytes)) = some (some (.int .u8 0), 1, 1) := by kernel_rfl

theorem toB_any {v : Value} {xs : List Int} {w : World} (h : Sl .u8 w v xs) (hn : xs.length ≤ 1099511627776) :
    Calls Try.prog 18 #[v] w fun e w' => ∃ v', e = .returned v' ∧ Own w.heap.size 5 .u8 w' v' xs ∧ Below w.heap.size w w' := by
  obtain ⟨a, ca, rfl, _, _, _, ha⟩ := h
  obtain ⟨i0, hi, hz0, hz1, hz2⟩ := info_parts Try.infoB
  obtain ⟨N, HN⟩ : ∃ N, Hid (N = w.heap.size) := ⟨_, rfl⟩
  go_enter Try.func18, Try.ntmps18
  go_wp2_with (at_make; refine wpList_make_full _ rfl (.tmp 6) (.tmp 6) 43 rfl w.heap.size 5 i0 (.int .u8 0) 1 Try.underlying43 hi hz0 hz1 .i64 .i64 xs.length xs.length xs.length rfl rfl rfl rfl (by rw [hz2]; omega) (by unfold maxLen; omega) (Nat.le_refl _) ?_; intro w1 hown hgr)
  have hown0 : w1.ownsRow w.heap.size 5 1 (.slice (some ⟨w.heap.size, 0, none⟩) xs.length xs.length) xs.length ((xs.take 0 ++ List.replicate (xs.length - 0) 0).map (Value.int .u8)) := by
    rw [Nat.mul_one] at hown
    have e : (madeCells (Value.int .u8 0).cells xs.length).toList = List.replicate xs.length (Value.int .u8 0) := toList_madeCells_one _ _
    rw [e] at hown
    simpa using hown
  clear hown
  have hbel : Below w.heap.size w w1 := (Below.refl _ _).grown hgr (Nat.le_refl _) (fun k h => by cases h)
  have hsz : w.heap.size < w1.heap.size := (World.ownsRow.lt hown0 w.heap.size rfl).2
  clear hgr
  go_loopw [4] (fun i wr => ∃ k : Nat, k ≤ xs.length ∧ i = .int .i64 k ∧ wr.ownsRow w.heap.size 5 1 (.slice (some ⟨w.heap.size, 0, none⟩) xs.length xs.length) xs.length ((xs.take k ++ List.replicate (xs.length - k) 0).map (Value.int .u8)) ∧ Below w.heap.size w wr) (fun i _ => xs.length - (intOf i).toNat)
  case atStart => exact ⟨0, Nat.zero_le _, rfl, hown0, hbel⟩
  case round =>
    clear hown0 hbel
    obtain ⟨k, hk, rfl, hown, hbel⟩ := hrel
    by_cases hlt : k < xs.length
    · have ha' := ha.below hbel
      obtain ⟨b1, o1, rfl, c1⟩ := ha' k hlt
      obtain ⟨z, hcell⟩ : ∃ z, wr.cell? ⟨w.heap.size, k, none⟩ = some (.int .u8 z) := by
        have hc := hown.cellAt k (by omega)
        have hlk : k < (xs.take k ++ List.replicate (xs.length - k) 0).length := by simp; omega
        rw [hc, List.getElem?_map, List.getElem?_eq_getElem hlk]; exact ⟨_, rfl⟩
      have hfz := hown.frozenAt k
      have HO : Hid (wr.ownsRow w.heap.size 5 1 (.slice (some ⟨w.heap.size, 0, none⟩) xs.length xs.length) xs.length ((xs.take k ++ List.replicate (xs.length - k) 0).map (Value.int .u8))) := hown
      clear hown ha ha'
      go_wp2
      go_roundw
      case rel =>
        have hst := HO.out.stored k (.int .u8 xs[k])
        rw [← List.map_set, copied_succ xs k hlt _ rfl] at hst
        exact ⟨k + 1, by omega, by go_num, hst.1, hbel.setCell (Nat.le_refl _) _⟩
      case measure => simp [intOf]; omega
    · go_wp2
      go_ret
      have hke : k = xs.length := by omega
      rw [hke, List.take_length, Nat.sub_self, List.replicate_zero, List.append_nil] at hown
      exact ⟨_, rfl, hown, hbel⟩
end Go.Proofs.Ytiejfnnokfedkaa
