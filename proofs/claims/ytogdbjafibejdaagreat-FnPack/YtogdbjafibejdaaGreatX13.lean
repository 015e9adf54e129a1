/- Strings as lists of bytes, and the bytes that a conversion makes of one. No condition. -/
import Derived.Test.YtogdbjafibejdaaGreatX12
import Derived.Laws.IdiomStrings
import Derived.Test.YtogdbjafibejdaaGreatX3
import Derived.Test.YtogdbjafibejdaaGreatX5
import Derived.Test.YtogdbjafibejdaaGreatX10
namespace Go.Proofs.YtogdbjafibejdaaGreat
open Go.RowKit
set_option maxRecDepth 100000
set_option linter.unusedVariables false

def bs (s : ByteArray) : List Int := s.data.toList.map fun b => (b.toNat : Int)

theorem bs_len (s : ByteArray) : (bs s).length = s.size := by simp [bs]
theorem bs_byte (s : ByteArray) : ∀ x ∈ bs s, 0 ≤ x ∧ x ≤ 255 := by
  intro x hx
  obtain ⟨b, _, rfl⟩ := List.mem_map.mp hx
  have := b.toNat_lt
  omega
theorem bs_at (s : ByteArray) (k : Nat) (h : k < s.size) : ((s[k]'h).toNat : Int) = (bs s).getD k 0 := by
  have h' : k < (bs s).length := by rw [bs_len]; exact h
  rw [List.getD_eq_getElem?_getD, List.getElem?_eq_getElem h']
  simp [bs]
  rfl
theorem bs_bound (s : ByteArray) (k : Nat) : 0 ≤ (bs s).getD k 0 ∧ (bs s).getD k 0 ≤ 255 := by
  by_cases h : k < (bs s).length
  · rw [List.getD_eq_getElem?_getD, List.getElem?_eq_getElem h]; exact bs_byte s _ (List.getElem_mem h)
  · rw [List.getD_eq_getElem?_getD, List.getElem?_eq_none (by omega)]; simp
theorem strOf_bs (s : ByteArray) : strOf (bs s) = s := by
  obtain ⟨⟨l⟩⟩ := s
  have e := strOf_list (bs ⟨⟨l⟩⟩) ByteArray.empty
  have e0 : ByteArray.empty.data.toList = [] := rfl
  rw [e0, List.nil_append] at e
  have e1 : (bs ⟨⟨l⟩⟩).map (fun n => UInt8.ofNat n.toNat) = l := by simp [bs, Function.comp_def]
  rw [e1] at e
  unfold strOf
  generalize List.foldl (fun r n => r.push (UInt8.ofNat n.toNat)) ByteArray.empty (bs ⟨⟨l⟩⟩) = z at e
  obtain ⟨⟨lz⟩⟩ := z
  have e2 : lz = l := e
  rw [e2]
def Blk (K : IntKind) (t : TypeId) (w : World) (g : Nat) (xs : List Int) : Prop :=
  ∃ (cur : Array Value) (lo hi : Nat), w.heap[g]? = some (.cells cur t (lo, hi)) ∧ (∀ j, j < xs.length → cur[j]? = some (.int K (xs.getD j 0))) ∧ (xs.length ≤ lo ∨ hi = 0)

theorem Blk.lt {K : IntKind} {t : TypeId} {w : World} {g : Nat} {xs : List Int} (h : Blk K t w g xs) : g < w.heap.size := by
  obtain ⟨cur, lo, hi, hh, _, _⟩ := h
  exact lt_of_block hh
theorem Blk.cell {K : IntKind} {t : TypeId} {w : World} {g : Nat} {xs : List Int} (h : Blk K t w g xs) (j : Nat) (hj : j < xs.length) : w.cell? ⟨g, j, none⟩ = some (.int K (xs.getD j 0)) := by
  obtain ⟨cur, lo, hi, hh, hc, _⟩ := h
  have e := hc j hj
  simp only [World.cell?, hh]
  simpa using e
theorem Blk.below {K : IntKind} {t : TypeId} {w w' : World} {g : Nat} {xs : List Int} (h : Blk K t w g xs) (hb : Below w.heap.size w w') : Blk K t w' g xs := by
  have hlt := h.lt
  obtain ⟨cur, lo, hi, hh, hc, hf⟩ := h
  exact ⟨cur, lo, hi, by rw [hb.block g hlt]; exact hh, hc, hf⟩
theorem Blk.set {K : IntKind} {t : TypeId} {w : World} {g : Nat} {xs : List Int} (h : Blk K t w g xs) (j : Nat) (hj : j < xs.length) (x : Int) : Blk K t (w.setCell ⟨g, j, none⟩ (.int K x)) g (xs.set j x) := by
  have hlt := h.lt
  obtain ⟨cur, lo, hi, hh, hc, hf⟩ := h
  refine ⟨cur.setIfInBounds j (.int K x), lo, hi, ?_, ?_, by rw [List.length_set]; exact hf⟩
  · have h' : w.heap[g] = .cells cur t (lo, hi) := by simpa [Array.getElem?_eq_getElem hlt] using hh
    show (w.heap.modify g _)[g]? = _
    rw [Array.getElem?_eq_getElem (by simpa using hlt), Array.getElem_modify_self, h']
    rfl
  · intro i hi'
    rw [List.length_set] at hi'
    by_cases e : j = i
    · subst e
      have hs : j < cur.size := by
        have e := hc j hj
        by_cases hs : j < cur.size
        · exact hs
        · rw [Array.getElem?_eq_none (by omega)] at e; cases e
      rw [Array.getElem?_setIfInBounds_self_of_lt hs]
      simp [List.getD_eq_getElem?_getD, hj]
    · rw [Array.getElem?_setIfInBounds_ne e, hc i hi']
      simp [List.getD_eq_getElem?_getD, List.getElem?_set_ne e]
theorem Blk.sl {K : IntKind} {t : TypeId} {w : World} {g : Nat} {xs : List Int} (h : Blk K t w g xs) {n cap : Nat} (hn : n = xs.length) (hc : xs.length ≤ cap) (hm : cap ≤ maxLen) : Sl K w (.slice (some ⟨g, 0, none⟩) n cap) xs := by
  subst hn
  exact ⟨_, cap, rfl, hc, hm, (fun e => by cases e), fun k hk => ⟨g, 0, rfl, by rw [Nat.zero_add]; exact h.cell k hk⟩⟩

theorem conv_str (s : ByteArray) (w : World) (hs : s.size ≤ maxLen) : ∃ (cap : Nat) (w1 : World), (convert 9 22 (.string s)).run Tryz.prog w = .ok (.slice (some ⟨w.heap.size, 0, none⟩) s.size cap) w1 ∧
    Blk .u8 5 w1 w.heap.size (bs s) ∧ s.size ≤ cap ∧ cap ≤ maxLen ∧ Below w.heap.size w w1 := by
  refine ⟨_, _, run_bytes_of_string w 9 22 5 s Tryz.underlying9 Tryz.underlying22 Tryz.underlying5, ⟨_, _, _, heap_alloc_new _ _, ?_, .inl ?_⟩, grownCap_ge _ _ _ _, grownCap_le_maxLen _ _ _ _ hs, ?_⟩
  · intro j hj
    rw [bs_len] at hj
    rw [bytesRow_at s _ j hj, ← bs_at s j hj]
    rfl
  · rw [bs_len]; simp [bytesRow]
  · exact (below_drewN 1).alloc (Nat.le_refl _) _
end Go.Proofs.YtogdbjafibejdaaGreat

/- The plain mathematics of putting and reading: points are read from their bytes as they were; what is read has points alone. No condition. -/
namespace Go.Proofs.YtogdbjafibejdaaGreat
end Go.Proofs.YtogdbjafibejdaaGreat

/- The specification's GetText, at every list of bytes. -/
namespace Go.Proofs.YtogdbjafibejdaaGreat
open Go.RowKit
set_option maxRecDepth 100000
set_option linter.unusedVariables false

def rdT (xs : List Int) (i : Int) : Option (List Int × Int) :=
  match rdI xs i with
  | some (y, n) => if y ≤ xs.length - (i + n) then some ((xs.drop (i + n).toNat).take y.toNat, i + n + y) else none
  | none => none

def textVal : Option (List Int × Int) → Value
  | some (t, j) => .tuple #[.string (strOf t), .int .i64 j, .bool true]
  | none => .tuple #[.string ByteArray.empty, .int .i64 0, .bool false]

theorem rdT_none {xs : List Int} {i : Int} (h : rdI xs i = none) : rdT xs i = none := by simp only [rdT, h]
theorem rdT_fit {xs : List Int} {i : Int} {k n p : Nat} (h : rdI xs i = some ((k : Int), n)) (hp : i + n = p) (hk : (k : Int) ≤ xs.length - (p : Int)) : rdT xs i = some ((xs.drop p).take k, (p : Int) + (k : Int)) := by
  simp only [rdT, h, hp, if_pos hk, Int.toNat_natCast]
theorem rdT_over {xs : List Int} {i : Int} {k n p : Nat} (h : rdI xs i = some ((k : Int), n)) (hp : i + n = p) (hk : ¬ (k : Int) ≤ xs.length - (p : Int)) : rdT xs i = none := by
  simp only [rdT, h, hp, if_neg hk]
theorem rdI_nats {xs : List Int} {i y : Int} {n : Nat} (h : rdI xs i = some (y, n)) (hb : ∀ x ∈ xs, 0 ≤ x ∧ x ≤ 255) :
    ∃ k p : Nat, y = k ∧ i + n = p ∧ p ≤ xs.length ∧ k ≤ 9223372036854775807 ∧ numVal i (rdI xs i) = .tuple #[.int .i64 k, .int .i64 p, .bool true] := by
  have hs := rdI_some h hb
  refine ⟨y.toNat, (i + n).toNat, by omega, by omega, by omega, by omega, ?_⟩
  have e1 : (y.toNat : Int) = y := by omega
  have e2 : ((i + n).toNat : Int) = i + n := by omega
  rw [h, e1, e2]
  rfl

theorem sub_sl {K : IntKind} {w : World} {a : Option Addr} {xs : List Int} {ca p k : Nat} (h : Sl K w (.slice a xs.length ca) xs) (hk : p + k ≤ xs.length) (hc : ¬ ca = p) : Sl K w (.slice (Option.map (fun x => x.add p) a) k (ca - p)) ((xs.drop p).take k) := by
  obtain ⟨a', ca', e, h1, h2, h3, hcell⟩ := h
  cases e
  have hl : ((xs.drop p).take k).length = k := by simp; omega
  refine ⟨_, ca - p, by rw [hl], by rw [hl]; omega, by omega, ?_, fun j hj => ?_⟩
  · intro e
    have : a = none := by cases a <;> simp_all
    have := h3 this
    omega
  · rw [hl] at hj
    obtain ⟨b, off, rfl, c⟩ := hcell (p + j) (by omega)
    have ead : (⟨b, off, none⟩ : Addr).add p = ⟨b, off + p, none⟩ := by
      by_cases h0 : p = 0
      · subst h0; simp [Addr.add]
      · simp [Addr.add, h0]
    refine ⟨b, off + p, by simp [ead], ?_⟩
    have e1 : ((xs.drop p).take k).getD j 0 = xs.getD (p + j) 0 := by
      simp [List.getD_eq_getElem?_getD, List.getElem?_drop, hj]
    rw [e1, Nat.add_assoc]
    exact c
theorem sub_sl0 {K : IntKind} {w : World} (a : Option Addr) : Sl K w (.slice a 0 0) [] := ⟨a, 0, rfl, Nat.le_refl _, by unfold maxLen; omega, fun _ => rfl, fun j hj => absurd hj (Nat.not_lt_zero _)⟩

theorem sgetText_any {v : Value} {xs : List Int} {i : Int} {w : World} (h : Sl .u8 w v xs) (hb : ∀ x ∈ xs, 0 ≤ x ∧ x ≤ 255) (hn : xs.length ≤ 1099511627776) :
    Calls Tryz.prog 96 #[v, .int .i64 i] w fun e w' => e = .returned (textVal (rdT xs i)) ∧ w' = w := by
  have S1 := fun (w : World) (h : Sl .u8 w v xs) => sgetNum_any (i := i) h hb hn
  have h0 := h
  rcases hR : rdI xs i with _ | ⟨y, n⟩
  · rw [rdT_none hR]
    have e : numVal i (rdI xs i) = .tuple #[.int .i64 0, .int .i64 0, .bool false] := by rw [hR]; rfl
    rw [e] at S1
    have HS := (show Hid (∀ _ _, _) from S1)
    clear S1 hR e
    obtain ⟨a, ca, rfl, _, _, _, ha⟩ := h
    go_enter Tryz.func96, Tryz.ntmps96
    go_wp2_with fail
    go_at_call 95
    refine (HS.out _ h0).mono ?_
    rintro e w2 ⟨rfl, rfl⟩
    go_wp2
    go_ret3
    exact ⟨rfl, rfl⟩
  · obtain ⟨k, p, rfl, hp, hpl, hkm, e⟩ := rdI_nats hR hb
    rw [e] at S1
    have HS := (show Hid (∀ _ _, _) from S1)
    obtain ⟨a, ca, rfl, _, _, _, ha⟩ := h
    by_cases hk : (k : Int) ≤ xs.length - (p : Int)
    · rw [rdT_fit hR hp hk]
      clear S1 hR e hp
      go_enter Tryz.func96, Tryz.ntmps96
      go_wp2_with fail
      go_at_call 95
      refine (HS.out _ h0).mono ?_
      rintro e w2 ⟨rfl, rfl⟩
      have hk' : ¬ ((xs.length : Int) - (p : Int) < k) := by omega
      by_cases hca : ca = p
      · subst hca
        obtain rfl : k = 0 := by omega
        have cv := conv_sl (sub_sl0 (K := .u8) (w := w2) a)
        go_wp2
        go_ret3
        simp
        rfl
      · have cv := conv_sl (sub_sl h0 (p := p) (k := k) (by omega) hca)
        go_wp2
        go_ret3
        exact ⟨rfl, rfl⟩
    · rw [rdT_over hR hp hk]
      clear S1 hR e hp
      go_enter Tryz.func96, Tryz.ntmps96
      go_wp2_with fail
      go_at_call 95
      refine (HS.out _ h0).mono ?_
      rintro e w2 ⟨rfl, rfl⟩
      go_wp2
      go_ret3
      exact ⟨rfl, rfl⟩
end Go.Proofs.YtogdbjafibejdaaGreat

/- The contract of the draw of bytes: some bytes, in new memory. -/
namespace Go.Proofs.YtogdbjafibejdaaGreat
open Go.RowKit
set_option maxRecDepth 100000
set_option linter.unusedVariables false

theorem Sl.take {K : IntKind} {w : World} {a : Addr} {n cap r : Nat} {xs : List Int} (h : Sl K w (.slice (some a) n cap) xs) (hr : r ≤ xs.length) : Sl K w (.slice (some a) r cap) (xs.take r) := by
  obtain ⟨a', c', e, hl, hm, hnn, ha⟩ := h
  cases e
  have hlen : (xs.take r).length = r := by simp; omega
  refine ⟨some a, cap, by rw [hlen], by omega, hm, (fun h => by cases h), fun k hk => ?_⟩
  obtain ⟨b, off, e, c⟩ := ha k (by omega)
  refine ⟨b, off, e, ?_⟩
  have e2 : (xs.take r).getD k 0 = xs.getD k 0 := by simp [List.getD_eq_getElem?_getD, show k < r by omega]
  rw [e2]; exact c

theorem pickL_any {w0 : World} {g : Nat} {v : Value} {xs : List Int} {w : World} (h : Cur w0 g v xs w) (hb : ∀ x ∈ xs, 0 ≤ x ∧ x ≤ 255) (zs : List Int) (hz : 0 < zs.length) (hz2 : zs.length ≤ 1000) (cs : Array Value) (hcs : cs.toList = zs.map (Value.int .i64)) (n : Nat) (hn : n = zs.length) :
    Calls Tryz.prog 94 #[.pointer (some ⟨g, 0, none⟩), .slice (some ⟨w.heap.size, 0, none⟩) n n] (w.alloc (.cells cs 3)) fun e w' => ∃ x : Int, e = .returned (.int .i64 x) ∧ x ∈ zs ∧ Cur w0 g v xs w' ∧ w.grownBy w' (some g) := by
  have hsz : cs.size = zs.length := by have := congrArg List.length hcs; simpa using this
  have hown : Own w.heap.size 3 .i64 (w.alloc (.cells cs 3)) (.slice (some ⟨w.heap.size, 0, none⟩) n n) zs := by
    have h1 := World.ownsRow_lit (base := w.heap.size) (e := 3) (size := 1) w cs n (Nat.le_refl _) (by unfold maxLen; omega) (by omega)
    rw [hcs] at h1
    unfold Own
    rw [← hn]; exact h1
  refine (pick_any (h.below ((Below.refl _ _).alloc (Nat.le_refl _) _)) hb hown.sl hz hz2 (fun w' hg => (own_past hown hg h.lt).sl)).mono ?_
  rintro e w3 ⟨z, rfl, hz, k3, g3⟩
  exact ⟨z, rfl, hz, k3, grown_trans (World.grownBy_alloc _ _ _) g3⟩

end Go.Proofs.YtogdbjafibejdaaGreat
