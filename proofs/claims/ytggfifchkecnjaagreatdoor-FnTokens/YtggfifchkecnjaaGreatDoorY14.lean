/- The program's cutter: the page without what is no point, its place, and the states of plain text. -/
import Derived.Test.YtggfifchkecnjaaGreatDoorY7
import Derived.Test.YtggfifchkecnjaaGreatDoorY6
import Derived.Test.YtggfifchkecnjaaGreatDoorY12
import Derived.OwnWalk
import Derived.Test.YtggfifchkecnjaaGreatDoorY3
import Derived.Test.YtggfifchkecnjaaGreatDoorY10
import Derived.Test.YtggfifchkecnjaaGreatDoorY13
namespace Go.Proofs.YtggfifchkecnjaaGreatDoor
open Go.RowKit
set_option maxRecDepth 100000
set_option linter.unusedVariables false

def clean (x : Int) : Int := if x = 0 ∨ pointOk x = false then 65533 else x
theorem clean_ok (x : Int) : pointOk (clean x) = true ∧ clean x ≠ 0 := by
  unfold clean
  by_cases h : x = 0 ∨ pointOk x = false
  · rw [if_pos h]; decide
  · rw [if_neg h]
    refine ⟨?_, fun e => h (.inl e)⟩
    cases hp : pointOk x
    · exact absurd (.inr hp) h
    · rfl

theorem own_set {B g n cap : Nat} {e : TypeId} {K : IntKind} {w : World} {xs : List Int} (h : Own B e K w (.slice (some ⟨g, 0, none⟩) n cap) xs) (hn : n = xs.length) (k : Nat) (hk : k < xs.length) (x : Int) :
    w.cell? ⟨g, k, none⟩ = some (.int K (xs.getD k 0)) ∧ w.frozen? ⟨g, k, none⟩ = false ∧ Own B e K (w.setCell ⟨g, k, none⟩ (.int K x)) (.slice (some ⟨g, 0, none⟩) n cap) (xs.set k x) ∧
      w.grownBy (w.setCell ⟨g, k, none⟩ (.int K x)) (some g) := by
  subst hn
  unfold Own at h ⊢
  have hs := h.stored k (.int K x)
  refine ⟨?_, h.frozenAt k, ?_, hs.2⟩
  · rw [h.cellAt k (by omega)]
    simp [hk]
  · rw [List.length_set, List.map_set]; exact hs.1

def mix (xs : List Int) (k : Nat) : List Int := (xs.take k).map clean ++ xs.drop k
theorem mix_len (xs : List Int) (k : Nat) : (mix xs k).length = xs.length := by unfold mix; simp; omega
theorem mix_at (xs : List Int) (k : Nat) (h : k < xs.length) : (mix xs k).getD k 0 = xs[k] := by
  unfold mix
  have hl : ((xs.take k).map clean).length = k := by simp; omega
  rw [List.getD_eq_getElem?_getD, List.getElem?_append_right (by omega), hl]
  simp [h]
theorem mix_succ (xs : List Int) (k : Nat) (h : k < xs.length) : mix xs (k + 1) = (mix xs k).set k (clean xs[k]) := by
  unfold mix
  have hl : ((xs.take k).map clean).length = k := by simp; omega
  rw [List.set_append_right _ _ (by omega), hl, Nat.sub_self, List.drop_eq_getElem_cons h, List.take_succ_eq_append_getElem h, List.map_append, List.append_assoc]
  rfl
theorem mix_zero (xs : List Int) : mix xs 0 = xs := by unfold mix; simp
theorem mix_all (xs : List Int) : mix xs xs.length = xs.map clean := by unfold mix; simp
theorem mix_same (xs : List Int) (k : Nat) (h : k < xs.length) (e : clean xs[k] = xs[k]) : mix xs (k + 1) = mix xs k := by
  rw [mix_succ xs k h, e]
  have := mix_at xs k h
  have hl := mix_len xs k
  apply List.ext_getElem?
  intro j
  rw [List.getElem?_set]
  split
  · rename_i hj; subst hj
    rw [if_pos (by omega)]
    rw [List.getD_eq_getElem?_getD] at this
    have hk2 : k < (mix xs k).length := by omega
    rw [List.getElem?_eq_getElem hk2] at this ⊢
    simpa using this.symm
  · rfl

set_option maxHeartbeats 1000000 in
theorem cleanPoints_any {v : Value} {xs : List Int} {w : World} (h : Sl .i64 w v xs) (hn : xs.length ≤ 1048576) :
    Calls Tryz.prog 22 #[v] w fun e w' => ∃ v', e = .returned v' ∧ Own w.heap.size 3 .i64 w' v' (xs.map clean) ∧ Below w.heap.size w w' := by
  go_enter Tryz.func22, Tryz.ntmps22
  go_wp2_with fail
  go_at_call 39
  refine (copyOf_any h (by omega)).mono ?_
  rintro e w1 ⟨u, rfl, o1, b1⟩
  clear h
  rw [← mix_zero xs] at o1
  have hml : (mix xs 0).length = xs.length := mix_len xs 0
  obtain ⟨a, ca, eu, _, _, _, _⟩ := o1.sl
  rw [hml] at eu
  subst eu
  rename_i c1 c2 c3 c4
  clear c1 c2 c3 c4 hml
  go_wp2
  go_loopw [10] (fun i wr => ∃ k : Nat, k ≤ xs.length ∧ i = .int .i64 k ∧ Own w.heap.size 3 .i64 wr (.slice a xs.length ca) (mix xs k) ∧ Below w.heap.size w wr) (fun i _ => xs.length - (intOf i).toNat)
  case atStart => exact ⟨0, Nat.zero_le _, rfl, o1, b1⟩
  case round =>
    clear o1 b1
    obtain ⟨k, hk, rfl, own, bel⟩ := hrel
    by_cases hlt : k < xs.length
    · rcases own.shape with ⟨_, hnil⟩ | ⟨g, cp, e, hB, hg, hl, hm⟩
      · have := mix_len xs k; rw [hnil] at this; simp at this; omega
      rw [mix_len] at e
      cases e
      obtain ⟨c1, f1, o2, g2⟩ := own_set own (mix_len xs k).symm k (by rw [mix_len]; exact hlt) 65533
      rw [mix_at xs k hlt] at c1
      have H2 := (show Hid _ from o2)
      have HG := (show Hid _ from g2)
      have HO := (show Hid _ from own)
      clear o2 g2 own hm hl
      by_cases hz : xs[k] = 0
      · have hc : clean xs[k] = 65533 := by unfold clean; rw [if_pos (.inl hz)]
        have hs := mix_succ xs k hlt
        rw [hc] at hs
        have HS := (show Hid _ from hs)
        rw [hz] at c1
        clear hs hc hz
        go_wp2
        go_roundw
        case rel => exact ⟨k + 1, by omega, by go_num, by rw [HS.out]; exact H2.out, bel.grown HG.out bel.size (fun j hj => by cases hj; exact hB)⟩
        case measure => simp [intOf]; omega
      · have hz2 : (xs[k] == 0) = false := by simpa using hz
        go_wp2_with fail
        go_at_call 40
        refine (iok_any _ _).mono ?_
        rintro e w3 ⟨rfl, rfl⟩
        rcases hp : pointOk xs[k] with _ | _
        · have hc : clean xs[k] = 65533 := by unfold clean; rw [if_pos (.inr hp)]
          have hs := mix_succ xs k hlt
          rw [hc] at hs
          have HS := (show Hid _ from hs)
          clear hs hc hz hp
          go_wp2
          go_roundw
          case rel => exact ⟨k + 1, by omega, by go_num, by rw [HS.out]; exact H2.out, bel.grown HG.out bel.size (fun j hj => by cases hj; exact hB)⟩
          case measure => simp [intOf]; omega
        · have hc : clean xs[k] = xs[k] := by unfold clean; rw [if_neg (by rw [hp]; simp [hz])]
          have HS := (show Hid _ from mix_same xs k hlt hc)
          clear hc hz hp
          go_wp2
          go_roundw
          case rel => exact ⟨k + 1, by omega, by go_num, by rw [HS.out]; exact HO.out, bel⟩
          case measure => simp [intOf]; omega
    · go_wp2
      go_ret
      have hke : k = xs.length := by omega
      rw [hke, mix_all] at own
      exact ⟨_, rfl, own, bel⟩
end Go.Proofs.YtggfifchkecnjaaGreatDoor

/- The plain mathematics of putting and reading: points are read from their bytes as they were; what is read has points alone. No condition. -/
namespace Go.Proofs.YtggfifchkecnjaaGreatDoor
theorem loOf_le {b : Int} (h1 : b ≠ 224) (h2 : b ≠ 240) : loOf b = 128 := by unfold loOf; rw [if_neg h1, if_neg h2]
theorem hiOf_le {b : Int} (h1 : b ≠ 237) (h2 : b ≠ 244) : hiOf b = 191 := by unfold hiOf; rw [if_neg h1, if_neg h2]

theorem dec_enc {p : Int} (h0 : 0 ≤ p) (h1 : p ≤ 1114111) (h2 : p < 55296 ∨ 57343 < p) (r : List Int) : dec (enc p ++ r) = p :: dec r := by
  by_cases a : p < 128
  · rw [enc1 a]; exact dec_ascii r a
  by_cases b : p < 2048
  · rw [enc2 (by omega) b]
    show dec ((192 + p / 64) :: (128 + p % 64) :: r) = _
    rw [dec_two _ (by omega), tail_in _ 0 r (by rw [loOf_le (by omega) (by omega)]; omega) (by rw [hiOf_le (by omega) (by omega)]; omega)]
    simp only [tailOf]
    rw [show (192 + p / 64 - 192) * 64 + (128 + p % 64) - 128 = p by omega]
  by_cases c : p < 65536
  · rw [enc3 (by omega) c]
    show dec ((224 + p / 4096) :: (128 + p / 64 % 64) :: (128 + p % 64) :: r) = _
    have hlo : loOf (224 + p / 4096) ≤ 128 + p / 64 % 64 := by
      by_cases e : p / 4096 = 0
      · rw [e]; simp only [loOf]; simp; omega
      · rw [loOf_le (by omega) (by omega)]; omega
    have hhi : 128 + p / 64 % 64 ≤ hiOf (224 + p / 4096) := by
      by_cases e : p / 4096 = 13
      · rw [e]; simp only [hiOf]; simp; omega
      · rw [hiOf_le (by omega) (by omega)]; omega
    rw [dec_three _ (by omega), tail_in _ 1 _ hlo hhi, tail_in _ 0 r (by omega) (by omega)]
    simp only [tailOf]
    rw [show ((224 + p / 4096 - 224) * 64 + (128 + p / 64 % 64) - 128) * 64 + (128 + p % 64) - 128 = p by omega]
  · rw [enc4 (by omega)]
    show dec ((240 + p / 262144) :: (128 + p / 4096 % 64) :: (128 + p / 64 % 64) :: (128 + p % 64) :: r) = _
    have hlo : loOf (240 + p / 262144) ≤ 128 + p / 4096 % 64 := by
      by_cases e : p / 262144 = 0
      · rw [e]; simp only [loOf]; simp; omega
      · rw [loOf_le (by omega) (by omega)]; omega
    have hhi : 128 + p / 4096 % 64 ≤ hiOf (240 + p / 262144) := by
      by_cases e : p / 262144 = 4
      · rw [e]; simp only [hiOf]; simp; omega
      · rw [hiOf_le (by omega) (by omega)]; omega
    rw [dec_four _ (by omega), tail_in _ 2 _ hlo hhi, tail_in _ 1 _ (by omega) (by omega), tail_in _ 0 r (by omega) (by omega)]
    simp only [tailOf]
    rw [show (((240 + p / 262144 - 240) * 64 + (128 + p / 4096 % 64) - 128) * 64 + (128 + p / 64 % 64) - 128) * 64 + (128 + p % 64) - 128 = p by omega]

theorem dec_put (x : Int) (r : List Int) : dec (put x ++ r) = pt x :: dec r := by
  have h := pt_ok x
  exact dec_enc h.1 h.2.1 h.2.2 r
theorem dec_puts (xs : List Int) : dec (puts xs) = xs.map pt := by
  induction xs with
  | nil => exact dec_nil
  | cons x xs ih =>
    have e : puts (x :: xs) = put x ++ puts xs := by simp [puts]
    rw [e, dec_put, ih]; rfl
theorem map_pt {xs : List Int} (h : ∀ x ∈ xs, pointOk x = true) : xs.map pt = xs := by
  conv => rhs; rw [← List.map_id xs]
  exact List.map_congr_left fun x hx => pt_of x (h x hx)

end Go.Proofs.YtggfifchkecnjaaGreatDoor

/- The contract of the draw of bytes: some bytes, in new memory. -/
namespace Go.Proofs.YtggfifchkecnjaaGreatDoor
open Go.RowKit
set_option maxRecDepth 100000
set_option linter.unusedVariables false

theorem Sl.take {K : IntKind} {w : World} {a : Addr} {n cap r : Nat} {xs : List Int} (h : Sl K w (.slice (some a) n cap) xs) (hr : r ≤ xs.length) : Sl K w (.slice (some a) r cap) (xs.take r) := by
  obtain ⟨a', c', e, hl, hm, hnn, ha⟩ := h
  cases e
  have hlen : (xs.take r).length = r := by simp; omega
  refine ⟨some a, cap, by rw [hlen], by omega, hm, (fun h => by cases h), fun k hk => ?_⟩
  obtain ⟨b, off, e, c⟩ := ha k (by omega)
  refine ⟨b, off, e, ?_⟩
  have e2 : (xs.take r).getD k 0 = xs.getD k 0 := by simp [List.getD_eq_getElem?_getD, show k < r by omega]
  rw [e2]; exact c

theorem put_byte (x : Int) : ∀ y ∈ put x, 0 ≤ y ∧ y ≤ 255 := by
  have := pt_ok x
  exact enc_byte this.1 this.2.1

end Go.Proofs.YtggfifchkecnjaaGreatDoor

/- Slices of any values, several cells an element, and lists of references as such. No condition. -/
namespace Go.Proofs.YtggfifchkecnjaaGreatDoor
open Go.RowKit
set_option maxRecDepth 100000
set_option linter.unusedVariables false

def Sv (size : Nat) (w : World) (v : Value) (cs : List Value) : Prop :=
  ∃ a len cap, v = .slice a len cap ∧ cs.length = len * size ∧ len ≤ cap ∧ cap ≤ maxLen ∧ (a = none → cap = 0) ∧
    ∀ i, i < cs.length → ∃ b off, a = some ⟨b, off, none⟩ ∧ w.cell? ⟨b, off + i, none⟩ = some (cs.getD i undef)

theorem Sv.below {size : Nat} {w w' : World} {v : Value} {cs : List Value} (h : Sv size w v cs) (hb : Below w.heap.size w w') : Sv size w' v cs := by
  obtain ⟨a, len, cap, e, h1, h2, h3, h4, hc⟩ := h
  refine ⟨a, len, cap, e, h1, h2, h3, h4, fun i hi => ?_⟩
  obtain ⟨b, off, e, c⟩ := hc i hi
  refine ⟨b, off, e, ?_⟩
  have hlt : b < w.heap.size := by
    by_cases hlt : b < w.heap.size
    · exact hlt
    · exfalso; simp [World.cell?, Array.getElem?_eq_none (Nat.le_of_not_lt hlt)] at c
  exact (hb.cell (p := ⟨b, off + i, none⟩) hlt).trans c

theorem sv_of_own {B size n : Nat} {e : TypeId} {w : World} {v : Value} {cs : List Value} (h : w.ownsRow B e size v n cs) : Sv size w v cs := by
  have h0 := h
  obtain ⟨hl, ⟨hv, hn⟩ | ⟨g, cap, cur, hv, hB, hh, hn, hm, hz, ht⟩⟩ := h
  · subst hn
    have hc : cs = [] := List.length_eq_zero_iff.mp (by omega)
    subst hc
    exact ⟨none, 0, 0, hv, by simp, Nat.le_refl _, Nat.zero_le _, fun _ => rfl, fun i hi => absurd hi (by simp)⟩
  · refine ⟨some ⟨g, 0, none⟩, n, cap, hv, hl, hn, hm, (fun e => by cases e), fun i hi => ⟨g, 0, rfl, ?_⟩⟩
    have e1 : cur[i]? = some (cs.getD i undef) := by
      have : (cur.toList.take (n * size))[i]? = some (cs.getD i undef) := by rw [ht]; simp [List.getD_eq_getElem?_getD, hi]
      rw [List.getElem?_take] at this
      simpa [show i < n * size by omega] using this
    simp only [World.cell?, hh, Nat.zero_add]
    simpa using e1

theorem ownsRow_below {B : Nat} {e : TypeId} {size n : Nat} {w w' : World} {v : Value} {cs : List Value} (h : w.ownsRow B e size v n cs) (hb : Below w.heap.size w w') : w'.ownsRow B e size v n cs := by
  obtain ⟨hl, hv | ⟨g, cap, cur, hv, hB, hh, r⟩⟩ := h
  · exact ⟨hl, .inl hv⟩
  · exact ⟨hl, .inr ⟨g, cap, cur, hv, hB, by rw [hb.block g (lt_of_block hh)]; exact hh, r⟩⟩

def refCells (rs : List (ByteArray × Int)) : List Value := rs.flatMap fun r => [.string r.1, .int .i64 r.2]
theorem refCells_len (rs : List (ByteArray × Int)) : (refCells rs).length = rs.length * 2 := by
  induction rs with
  | nil => rfl
  | cons r rs ih => simp only [refCells, List.flatMap_cons, List.length_append, List.length_cons, List.length_nil] at ih ⊢; omega
theorem refCells_name (rs : List (ByteArray × Int)) (k : Nat) (h : k < rs.length) : (refCells rs).getD (k * 2) undef = .string rs[k].1 := by
  induction rs generalizing k with
  | nil => simp at h
  | cons r rs ih =>
    cases k with
    | zero => simp [refCells]
    | succ k =>
      have := ih k (by simpa using h)
      have e : (k + 1) * 2 = k * 2 + 1 + 1 := by omega
      simp only [refCells, List.flatMap_cons, List.cons_append, List.nil_append, e, List.getD_cons_succ, List.getElem_cons_succ] at this ⊢
      exact this
theorem refCells_point (rs : List (ByteArray × Int)) (k : Nat) (h : k < rs.length) : (refCells rs).getD (k * 2 + 1) undef = .int .i64 rs[k].2 := by
  induction rs generalizing k with
  | nil => simp at h
  | cons r rs ih =>
    cases k with
    | zero => simp [refCells]
    | succ k =>
      have := ih k (by simpa using h)
      have e : (k + 1) * 2 + 1 = k * 2 + 1 + 1 + 1 := by omega
      simp only [refCells, List.flatMap_cons, List.cons_append, List.nil_append, e, List.getD_cons_succ, List.getElem_cons_succ] at this ⊢
      exact this

def refList : List (ByteArray × Int) := [(⟨#[97, 109, 112]⟩, 38), (⟨#[97, 109, 112, 59]⟩, 38), (⟨#[99, 111, 112, 121]⟩, 169), (⟨#[99, 111, 112, 121, 59]⟩, 169), (⟨#[102, 114, 97, 99, 49, 50, 59]⟩, 189), (⟨#[103, 116]⟩, 62), (⟨#[103, 116, 59]⟩, 62), (⟨#[104, 101, 108, 108, 105, 112, 59]⟩, 8230), (⟨#[108, 116]⟩, 60), (⟨#[108, 116, 59]⟩, 60), (⟨#[109, 100, 97, 115, 104, 59]⟩, 8212), (⟨#[110, 98, 115, 112]⟩, 160), (⟨#[110, 98, 115, 112, 59]⟩, 160), (⟨#[110, 111, 116]⟩, 172), (⟨#[110, 111, 116, 59]⟩, 172), (⟨#[110, 111, 116, 105, 110, 59]⟩, 8713), (⟨#[113, 117, 111, 116]⟩, 34), (⟨#[113, 117, 111, 116, 59]⟩, 34), (⟨#[114, 101, 103]⟩, 174), (⟨#[114, 101, 103, 59]⟩, 174), (⟨#[115, 117, 112, 49]⟩, 185), (⟨#[115, 117, 112, 49, 59]⟩, 185), (⟨#[116, 105, 109, 101, 115, 59]⟩, 215), (⟨#[121, 101, 110, 59]⟩, 165)]
theorem refList_size : ∀ r ∈ refList, r.1.size ≤ 7 := by decide

def best (xs : List Int) (k : Nat) (rs : List (ByteArray × Int)) : ByteArray × Int :=
  rs.foldl (fun b r => if stands xs k (bs r.1) && decide (b.1.size < r.1.size) then r else b) (⟨#[]⟩, 0)
theorem best_succ (xs : List Int) (k : Nat) (rs : List (ByteArray × Int)) (j : Nat) (h : j < rs.length) :
    best xs k (rs.take (j + 1)) = if stands xs k (bs rs[j].1) && decide ((best xs k (rs.take j)).1.size < rs[j].1.size) then rs[j] else best xs k (rs.take j) := by
  unfold best
  rw [List.take_succ_eq_append_getElem h, List.foldl_append]
  rfl
theorem best_size (xs : List Int) (k : Nat) (rs : List (ByteArray × Int)) (h : ∀ r ∈ rs, r.1.size ≤ 7) : (best xs k rs).1.size ≤ 7 := by
  unfold best
  suffices ∀ (b : ByteArray × Int), b.1.size ≤ 7 → (rs.foldl (fun b r => if stands xs k (bs r.1) && decide (b.1.size < r.1.size) then r else b) b).1.size ≤ 7 from this _ (by decide)
  induction rs with
  | nil => intro b hb; exact hb
  | cons r rs ih =>
    intro b hb
    rw [List.foldl_cons]
    refine ih (fun r hr => h r (List.mem_cons_of_mem _ hr)) _ ?_
    split
    · exact h r (List.mem_cons_self ..)
    · exact hb

def refName (xs : List Int) (k : Nat) (value : Bool) : List Int × Int :=
  let r := best xs (k + 1) refList
  let n := r.1.size
  let c := atL xs (k + 1 + n)
  if n = 0 then ([38], (k : Int) + 1) else if value && ((bs r.1).getD (n - 1) 0 != 59) && (c == 61 || (inB c 65 90 || inB c 97 122) || decide (0 ≤ digitOf c 10)) then ([38], (k : Int) + 1) else ([r.2], (k : Int) + 1 + n)
def refRead (xs : List Int) (i : Int) (value : Bool) : List Int × Int :=
  if 3000 < xs.length ∨ inB i 0 (xs.length - 1) = false ∨ xs.getD i.toNat 0 ≠ 38 then ([], i)
  else if atL xs (i.toNat + 1) = 35 then
    let p := refNum xs (i.toNat + 2)
    if 0 < p.2 then ([p.1], p.2) else ([38], i + 1)
  else refName xs i.toNat value
end Go.Proofs.YtggfifchkecnjaaGreatDoor
