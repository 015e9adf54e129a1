/- The contract of the program's refByName: the longest name that stands at a place, whatever the map's order. -/
import Derived.Test.YtggfifchkecnjaaGreatDoorY20
import Derived.Test.YtggfifchkecnjaaGreatDoorY19
import Derived.Test.YtggfifchkecnjaaGreatDoorY24
namespace Go.Proofs.YtggfifchkecnjaaGreatDoor
open Go.RowKit Go.Maps
set_option maxRecDepth 100000
set_option linter.unusedVariables false

theorem invS {key : Value} {kl : Lit} (h : keyOf Tryz.prog 9 key = some kl) : ∃ s, key = .string s := Maps.keyOf_string_inv Tryz.underlying9 h
theorem invI {v : Value} {y : DataW Unit × List MemPlace} (h : plainElem Tryz.prog 3 v = some y) : ∃ c, v = .int .i64 c := by obtain ⟨c, rfl, _⟩ := plainElem_int_inv Tryz.underlying3 h; exact ⟨c, rfl⟩

theorem grown_draws {w : World} (n : Nat) (row : Option Nat) : w.grownBy (w.drewN n) row := ⟨rfl, rfl, rfl, Nat.le_refl _, fun _ _ _ => rfl⟩

def keyR (s : ByteArray) : Lit := .string s.data.toList
theorem keyR_inj {s t : ByteArray} (h : keyR s = keyR t) : s = t := by
  obtain ⟨⟨l⟩⟩ := s
  obtain ⟨⟨m⟩⟩ := t
  have e : l = m := by simpa [keyR] using h
  rw [e]
theorem keyR_same {s : ByteArray} {kl : Lit} (h : (keyR s).sameKey kl = true) : kl = keyR s := by
  unfold keyR Lit.sameKey at *
  cases kl <;> simp_all
theorem keyR_self (s : ByteArray) : (keyR s).sameKey (keyR s) = true := by simp [keyR, Lit.sameKey]
theorem refMap_at : ∀ r ∈ refList, ∀ zd : DataW Unit, refMap.atKey (keyR r.1) zd = .lit (.int .i64 r.2) := by
  intro r hr zd
  have e : refList.map (fun r => refMap.atKey (keyR r.1) zd) = refList.map (fun r => .lit (.int .i64 r.2)) := by rfl
  exact List.map_inj_left.mp e r hr
theorem refMap_has {kl : Lit} (h : Maps.has refMap kl = true) : ∃ r ∈ refList, kl = keyR r.1 := by
  unfold refMap at h
  rw [Maps.has_eq, List.any_map, List.any_eq_true] at h
  obtain ⟨r, hr, e⟩ := h
  exact ⟨r, hr, keyR_same e⟩
theorem refMap_hit {s : ByteArray} {c : Int} (h : Maps.has refMap (keyR s) = true) (hat : ∀ zd : DataW Unit, refMap.atKey (keyR s) zd = .lit (.int .i64 c)) : (s, c) ∈ refList := by
  obtain ⟨r, hr, e⟩ := refMap_has h
  have e1 := keyR_inj e
  subst e1
  have e2 := (hat .nil).symm.trans (refMap_at r hr .nil)
  have e3 : c = r.2 := by simpa using e2
  rw [e3]; exact hr
theorem refList_once : ∀ r ∈ refList, ∀ q ∈ refList, r.1 = q.1 → r = q := by decide

theorem toList_loop (s : ByteArray) : ∀ (n i : Nat) (r : List UInt8), s.size - i = n → (r ≠ [] ∨ 0 < n) → (ByteArray.toList.loop s i r).isEmpty = false
  | 0, i, r, h, hr => by
    rw [ByteArray.toList.loop]
    rw [if_neg (by omega)]
    rcases hr with hr | hr
    · cases r with
      | nil => exact absurd rfl hr
      | cons a l => simp
    · omega
  | n + 1, i, r, h, hr => by
    rw [ByteArray.toList.loop]
    rw [if_pos (by omega)]
    exact toList_loop s n (i + 1) _ (by omega) (.inl (by simp))
theorem refList_full : ∀ r ∈ refList, r.1.toList.isEmpty = false := fun r hr => toList_loop r.1 r.1.size 0 [] rfl (.inr (refList_plain r hr).2.2)

structure Longest (xs : List Int) (k : Nat) (left : Lit → Bool) (r : ByteArray × Int) : Prop where
  one : r = (⟨#[]⟩, 0) ∨ r ∈ refList ∧ stands xs k (bs r.1) = true
  top : ∀ q ∈ refList, left (keyR q.1) = false → stands xs k (bs q.1) = true → q.1.size ≤ r.1.size

theorem stands_one {xs : List Int} {k : Nat} {s t : ByteArray} (hs : stands xs k (bs s) = true) (ht : stands xs k (bs t) = true) (e : s.size = t.size) : s = t := by
  have e1 : bs s = bs t := by
    refine List.ext_getElem (by rw [bs_len, bs_len, e]) fun i h1 h2 => ?_
    have a1 := stands_iff.mp hs i h1
    have a2 := stands_iff.mp ht i h2
    simp only [List.getD_eq_getElem?_getD, List.getElem?_eq_getElem h1, List.getElem?_eq_getElem h2, Option.getD_some] at a1 a2
    omega
  rw [← strOf_bs s, ← strOf_bs t, e1]

theorem Longest.best {xs : List Int} {k : Nat} {left : Lit → Bool} {r : ByteArray × Int} (h : Longest xs k left r) (hl : ∀ kl, left kl = false) : r = best xs k refList := by
  obtain ⟨s1, s2, s3⟩ := best_spec xs k refList (⟨#[]⟩, 0) (Go.Proofs.YtggfifchkecnjaaGreatDoor.best xs k refList) rfl
  generalize Go.Proofs.YtggfifchkecnjaaGreatDoor.best xs k refList = q at s1 s2 s3
  rcases h.one with e | ⟨hm, hs⟩
  · rcases s1 with e' | ⟨hm', hs'⟩
    · rw [e, e']
    · have := h.top q hm' (hl _) hs'
      have h0 := (refList_plain q hm').2.2
      rw [e] at this
      have this' : q.1.size ≤ 0 := this
      omega
  · have h0 := (refList_plain r hm).2.2
    have t1 := s3 r hm hs
    rcases s1 with e' | ⟨hm', hs'⟩
    · rw [e'] at t1
      have t1' : r.1.size ≤ 0 := t1
      omega
    · have t2 := h.top q hm' (hl _) hs'
      exact refList_once r hm q hm' (stands_one hs hs' (by omega))

theorem Longest.skip {xs : List Int} {k : Nat} {left : Lit → Bool} {r : ByteArray × Int} (h : Longest xs k left r) {x : ByteArray} (hx : stands xs k (bs x) = true → x.size ≤ r.1.size) : Longest xs k (fun z => left z && !z.sameKey (keyR x)) r := by
  refine ⟨h.one, fun q hq hl hs => ?_⟩
  rcases e : left (keyR q.1) with _ | _
  · exact h.top q hq e hs
  · rw [e] at hl
    have h1 : (keyR q.1).sameKey (keyR x) = true := by simpa using hl
    have h2 := keyR_inj (keyR_same h1)
    rw [← h2] at hs ⊢
    exact hx hs
theorem Longest.take {xs : List Int} {k : Nat} {left : Lit → Bool} {r : ByteArray × Int} (h : Longest xs k left r) {x : ByteArray} {c : Int} (hm : (x, c) ∈ refList) (hs : stands xs k (bs x) = true) (hlt : r.1.size < x.size) : Longest xs k (fun z => left z && !z.sameKey (keyR x)) (x, c) := by
  refine ⟨.inr ⟨hm, hs⟩, fun q hq hl hs => ?_⟩
  show q.1.size ≤ x.size
  rcases e : left (keyR q.1) with _ | _
  · have := h.top q hq e hs; omega
  · rw [e] at hl
    have h1 : (keyR q.1).sameKey (keyR x) = true := by simpa using hl
    have h2 := keyR_inj (keyR_same h1)
    rw [h2]; exact Nat.le_refl _

def nameAns (xs : List Int) (k : Nat) (value : Bool) : Value :=
  let r := best xs k refList
  let c := atL xs (k + r.1.size)
  if r.1.size = 0 ∨ (value && (((bs r.1).getD (r.1.size - 1) 0 != 59) && (c == 61 || (inB c 65 90 || inB c 97 122) || decide (0 ≤ digitOf c 10)))) = true then .tuple #[.int .i64 0, .int .i64 0, .bool false]
  else .tuple #[.int .i64 r.2, .int .i64 (k + r.1.size : Nat), .bool true]

set_option maxHeartbeats 4000000 in
set_option maxRecDepth 100000 in
theorem refByName_any {v : Value} {xs : List Int} {w : World} (h : Sl .i64 w v xs) (k : Nat) (b : Bool) (hn : xs.length ≤ 3000) (hk : k ≤ xs.length) :
    Calls Tryz.prog 131 #[v, .int .i64 k, .bool b] w fun e w' => e = .returned (nameAns xs k b) ∧ Below w.heap.size w w' := by
  have HS := (show Hid (Sl .i64 w v xs) from h)
  clear h
  go_enter Tryz.func131, Tryz.ntmps131
  go_wp2_with fail
  go_at_call 142
  refine (pointsByName_any _).mono ?_
  rintro e w1 ⟨rfl, hown, b1⟩
  go_wp2_with (first
    | (at_range; refine wpList_range_own _ rfl _ 129 rfl 9 3 lawS Tryz.underlying129 _ w.heap.size 24 _ rfl hown ?_; intro w0 hrg0 hg0 hs0)
    | go_in)
  go_frame
  have hlt1 := hown.lt
  obtain ⟨g, hg⟩ : ∃ g, g = w1.heap.size := ⟨_, rfl⟩
  rw [← hg] at hrg0 hs0 hlt1 ⊢
  have HG := (show Hid (g = w1.heap.size) from hg)
  clear hg
  go_loopw [9, 10] (fun u p wr => ∃ (left : Lit → Bool) (cnt : Nat) (q : ByteArray × Int), u = .string q.1 ∧ p = .int .i64 q.2 ∧ wr.ranges Tryz.prog 9 (plainElem Tryz.prog 3) w.heap.size g 24 refMap left cnt ∧
      (∀ kl, left kl = true → Maps.has refMap kl = true) ∧ Longest xs k left q ∧ Below w.heap.size w wr) (fun _ _ wr => wr.rangeLeft w.heap.size g)
  case atStart =>
    refine ⟨_, _, (⟨#[]⟩, 0), rfl, rfl, hrg0, fun kl h => h, ⟨.inl rfl, fun q hq hl _ => ?_⟩, b1.grown hg0 b1.size (fun j hj => by cases hj)⟩
    exfalso
    have : Maps.has refMap (keyR q.1) = true := by
      unfold refMap
      rw [Maps.has_eq, List.any_map, List.any_eq_true]
      exact ⟨q, hq, keyR_self _⟩
    rw [this] at hl; cases hl
  case round =>
    clear hrg0 hg0 hs0 hown
    obtain ⟨left, cnt, q, rfl, rfl, hrg, hin, hlo, bel⟩ := hrel
    have HIN := (show Hid _ from hin)
    have HLO := (show Hid _ from hlo)
    clear hin hlo
    go_wp2_with (first
      | (at_next; refine wpList_next_ranges _ rfl _ rfl 9 lawS (plainElem Tryz.prog 3) Value.string (Value.int .i64) (fun _ _ h => invS h) (fun _ _ h => invI h) w.heap.size g 24 refMap left cnt rfl hrg ?_ ?_)
      | go_in)
    · intro hc0 hl0
      have hq := HLO.out.best hl0
      have HA : Hid (nameAns xs k b = if q.1.size = 0 ∨ (b && (((bs q.1).getD (q.1.size - 1) 0 != 59) && (atL xs (k + q.1.size) == 61 || (inB (atL xs (k + q.1.size)) 65 90 || inB (atL xs (k + q.1.size)) 97 122) || decide (0 ≤ digitOf (atL xs (k + q.1.size)) 10)))) = true then .tuple #[.int .i64 0, .int .i64 0, .bool false]
        else .tuple #[.int .i64 q.2, .int .i64 (k + q.1.size : Nat), .bool true]) := by show _ = _; unfold nameAns; simp only; rw [← hq]
      have hone := HLO.out.one
      have hz : q.1.size ≤ 7 ∧ (q.1.size ≠ 0 → k + q.1.size ≤ xs.length) ∧ (q.1 = ⟨#[]⟩ ↔ q.1.size = 0) ∧ (q.1.size ≠ 0 → q.1.toList.isEmpty = false) := by
        rcases hone with e | ⟨hm, hs⟩
        · rw [e]; exact ⟨by decide, fun h => absurd rfl h, by decide, fun h => absurd rfl h⟩
        · have h0 := (refList_plain q hm).2.2
          exact ⟨refList_size q hm, fun _ => stands_len hs h0, ⟨fun e => by rw [e]; rfl, fun e => by omega⟩, fun _ => refList_full q hm⟩
      obtain ⟨z1, z2, z3, z4⟩ := hz
      have CG := (show Hid (0 < q.1.size → Calls Tryz.prog 144 #[.string q.1, v, .int .i64 (k + q.1.size : Nat)] wr _) from fun h => goesOn_any (HS.out.below (bel.mono (by exact Nat.le_refl _))) (k + q.1.size) q.1 hn (z2 (by omega)) (by omega) h)
      obtain ⟨qn, qp⟩ := q
      simp only at HA z1 z2 z3 z4 CG
      clear hq hone HLO HIN hrg hl0
      by_cases hq0 : qn.size = 0
      · obtain rfl := z3.mpr hq0
        clear CG z1 z2 z3 z4
        have HA2 := (show Hid _ from HA.out.trans (if_pos (.inl rfl)))
        clear HA
        go_wp2
        go_ret3
        exact ⟨by rw [HA2.out]; rfl, bel⟩
      · have hne : qn.toList.isEmpty = false := z4 hq0
        obtain ⟨m, hm⟩ : ∃ m : Nat, m = k + qn.size := ⟨_, rfl⟩
        have hm2 : (k : Int) + (qn.size : Int) = (m : Int) := by omega
        have cg := CG.out (by omega)
        rw [← hm] at cg HA
        obtain ⟨r, hr⟩ : ∃ r, r = (((bs qn).getD (qn.size - 1) 0 != 59) && (atL xs m == 61 || (inB (atL xs m) 65 90 || inB (atL xs m) 97 122) || decide (0 ≤ digitOf (atL xs m) 10))) := ⟨_, rfl⟩
        rw [← hr] at cg HA
        have hmb : m ≤ 3010 := by omega
        clear CG z1 z2 z3 z4 hr hm
        cases b
        · have HA2 := (show Hid _ from HA.out.trans (if_neg (by rintro (h | h); exact hq0 h; simp at h)))
          clear HA cg
          go_wp2
          go_ret3
          exact ⟨by rw [HA2.out]; rfl, bel⟩
        · cases r
          · have HA2 := (show Hid _ from HA.out.trans (if_neg (by rintro (h | h); exact hq0 h; simp at h)))
            clear HA
            go_wp2_with fail
            go_at_call 144
            refine cg.mono ?_
            rintro e w3 ⟨rfl, b3⟩
            go_wp2
            go_ret3
            exact ⟨by rw [HA2.out]; rfl, bel.trans (b3.mono bel.size)⟩
          · have HA2 := (show Hid _ from HA.out.trans (if_pos (.inr rfl)))
            clear HA
            go_wp2_with fail
            go_at_call 144
            refine cg.mono ?_
            rintro e w3 ⟨rfl, b3⟩
            go_wp2
            go_ret3
            exact ⟨by rw [HA2.out]; rfl, bel.trans (b3.mono bel.size)⟩
    · intro x c kl ya yb w2 cnt1 hkey hlk hv hat hrg1 hlt hg1 hs1 hen
      obtain ⟨c', ec, ey, hwc⟩ := plainElem_int_inv Tryz.underlying3 hv
      cases ec
      cases ey
      have ekl : kl = keyR x := by
        simp only [keyOf, Tryz.underlying9, mapKey] at hkey
        split at hkey
        · exact (Option.some.inj hkey).symm
        · cases hkey
      subst ekl
      have hmem := refMap_hit (HIN.out _ hlk) hat
      have hxz := refList_size _ hmem
      simp only at hxz
      have bel2 : Below w.heap.size w w2 := bel.grown hg1 bel.size (fun j hj => by cases hj; omega)
      have cs := nameStands_any (HS.out.below bel2) k x hn hk (by omega)
      have HR : Hid (w2.ranges Tryz.prog 9 (plainElem Tryz.prog 3) w.heap.size g 24 refMap (fun z => left z && !z.sameKey (keyR x)) cnt1) := hrg1
      have HI2 : Hid (∀ kl, (left kl && !kl.sameKey (keyR x)) = true → Maps.has refMap kl = true) := fun kl h => HIN.out kl (by simp only [Bool.and_eq_true] at h; exact h.1)
      have HM := (show Hid _ from hmem)
      have hqz : q.1.size ≤ 7 := by
        rcases HLO.out.one with e | ⟨hm, _⟩
        · rw [e]; decide
        · exact refList_size q hm
      have HLE := (show Hid _ from (show w2.rangeLeft w.heap.size g < wr.rangeLeft w.heap.size g by rw [hrg1.left_eq, hrg.left_eq]; exact hlt))
      clear hkey hlk hv hat hrg1 hlt hmem hrg HIN
      obtain ⟨qn, qp⟩ := q
      simp only at hqz HLO
      by_cases hsz : qn.size < x.size
      · obtain ⟨p, hp⟩ : ∃ p, p = stands xs k (bs x) := ⟨_, rfl⟩
        rw [← hp] at cs
        have HP := (show Hid _ from hp)
        clear hp
        cases p
        · have HL2 := (show Hid _ from HLO.out.skip (x := x) (fun h => by rw [← HP.out] at h; cases h))
          clear HLO
          go_wp2_with fail
          go_at_call 143
          refine cs.mono ?_
          rintro e w3 ⟨rfl, n3, rfl⟩
          go_wp2
          go_roundw
          case rel => exact ⟨_, cnt1, (qn, qp), rfl, rfl, HR.out.kept (grown_draws n3 none) (by simp) (by simp), HI2.out, HL2.out, bel2.trans (below_drewN n3)⟩
          case measure => exact HLE.out
        · have HL2 := (show Hid _ from HLO.out.take HM.out HP.out.symm hsz)
          clear HLO
          go_wp2_with fail
          go_at_call 143
          refine cs.mono ?_
          rintro e w3 ⟨rfl, n3, rfl⟩
          go_wp2
          go_roundw
          case rel => exact ⟨_, cnt1, (x, c), rfl, rfl, HR.out.kept (grown_draws n3 none) (by simp) (by simp), HI2.out, HL2.out, bel2.trans (below_drewN n3)⟩
          case measure => exact HLE.out
      · have HL2 := (show Hid _ from HLO.out.skip (x := x) (fun h => by simp only; omega))
        clear HLO cs
        go_wp2
        go_roundw
        case rel => exact ⟨_, cnt1, (qn, qp), rfl, rfl, HR.out, HI2.out, HL2.out, bel2⟩
        case measure => exact HLE.out
end Go.Proofs.YtggfifchkecnjaaGreatDoor
