/- The program's settled, as DiskSync and DiskCrash call it (written by mk/isettle.py). No condition. -/
import Derived.Test.YtokkigfjabbdaaaGreatDoorU25
import Derived.Test.YtokkigfjabbdaaaGreatDoorU16
import Derived.Deep.RegionHeld3
import Derived.Test.YtokkigfjabbdaaaGreatDoorU19
import Derived.Test.YtokkigfjabbdaaaGreatDoorU23
import Derived.Test.YtokkigfjabbdaaaGreatDoorU12
import Derived.Test.YtokkigfjabbdaaaGreatDoorU17
import Derived.Test.YtokkigfjabbdaaaGreatDoorU24
namespace Go.Proofs.YtokkigfjabbdaaaGreatDoor
open Go.RowKit
set_option maxRecDepth 100000
set_option linter.unusedVariables false

theorem bit_all (k : Nat) : bitB 2147483647 k = true := by
  have h : ∀ m : Fin 31, (2147483647 : Int) / 2 ^ m.val % 2 = 1 := by decide
  have := h ⟨k % 31, by omega⟩
  simpa [bitB] using this
theorem done64 {keep : Int} {d : PDisk} (hb : diskB d = true) (k : Nat) : ∀ t ∈ doneN keep d.safe d.late k, t.size = 64 := by
  have h1 : ∀ t ∈ d.safe, t.size = 64 := fun t ht => by obtain ⟨i, hi, rfl⟩ := List.getElem_of_mem ht; exact diskB_safe hb hi
  induction k with
  | zero => exact h1
  | succ k ih =>
    by_cases hlt : k < d.late.length
    · rw [doneN_succ hlt]
      split
      · exact sizes_set ih (diskB_late hb hlt).2.2
      · exact ih
    · intro t ht
      rw [doneN, List.getElem?_eq_none (by omega)] at ht
      exact ih t ht

/-- While the puts are done: k of them are. -/
structure SetI (w : World) (d : PDisk) (keep : Int) (g1 g2 c2 : Nat) (sa : Option Addr) (sn sc : Nat) (la : Option Addr) (lc k : Nat) (W : World) : Prop where
  was : OwnK w.heap.size W g1 d.safe.length d.safe.length d.safe
  now : OwnK w.heap.size W g2 d.safe.length c2 (doneN keep d.safe d.late k)
  arg : W.heap[w.heap.size]? = some (.cells #[.slice sa sn sc, .slice la d.late.length lc] 35 (0, 0))
  res : W.heap[w.heap.size + 1]? = some (.cells #[.slice none 0 0, .slice none 0 0] 35 (0, 0))
  bel : Below w.heap.size w W
  ne : g1 ≠ g2
  lo : w.heap.size + 1 < g1 ∧ w.heap.size + 1 < g2
theorem SetI.below {w : World} {d : PDisk} {keep : Int} {g1 g2 c2 : Nat} {sa : Option Addr} {sn sc : Nat} {la : Option Addr} {lc k : Nat} {W W' : World} (h : SetI w d keep g1 g2 c2 sa sn sc la lc k W) (b : Below W.heap.size W W') : SetI w d keep g1 g2 c2 sa sn sc la lc k W' :=
  ⟨ownsRow_below h.was b, ownsRow_below h.now b, (b.block _ (lt_of_block h.arg)).trans h.arg, (b.block _ (lt_of_block h.res)).trans h.res, h.bel.trans (b.mono h.bel.size), h.ne, h.lo⟩
theorem SetI.store {w : World} {d : PDisk} {keep : Int} {g1 g2 c2 : Nat} {sa : Option Addr} {sn sc : Nat} {la : Option Addr} {lc k m : Nat} {W W' : World} (h : SetI w d keep g1 g2 c2 sa sn sc la lc k W) {ts : List ByteArray} (hn : doneN keep d.safe d.late m = ts) (o : OwnK w.heap.size W' g2 d.safe.length c2 ts) (g : W.grownBy W' (some g2)) : SetI w d keep g1 g2 c2 sa sn sc la lc m W' := by
  refine ⟨?_, by rw [hn]; exact o, rk_keep h.now g h.arg (by decide), rk_keep h.now g h.res (by decide), h.bel.grown g h.bel.size (fun r e => by cases e; have := h.lo.2; omega), h.ne, h.lo⟩
  exact h.was.kept g (.inr (by intro e; exact h.ne (by simpa [Value.ownBlock] using e)))
theorem SetI.next {w : World} {d : PDisk} {keep : Int} {g1 g2 c2 : Nat} {sa : Option Addr} {sn sc : Nat} {la : Option Addr} {lc k m : Nat} {W : World} (h : SetI w d keep g1 g2 c2 sa sn sc la lc k W) (hn : doneN keep d.safe d.late m = doneN keep d.safe d.late k) : SetI w d keep g1 g2 c2 sa sn sc la lc m W :=
  ⟨h.was, by rw [hn]; exact h.now, h.arg, h.res, h.bel, h.ne, h.lo⟩

theorem isectorFrom_L (s : ByteArray) (w : World) (hs : s.size = 64) : Calls Tryz.prog 118 #[.string s] w fun e w' => e = .returned (.agg (secL s).toArray) ∧ Below w.heap.size w w' := isectorFrom_any s w hs
theorem drew1 (w : World) : Below w.heap.size w w.drew := below_drewN 1
theorem set_far {w : World} {b g o k : Nat} {cs : List Value} {u : Option Value} (hne : b ≠ g) (h : w.cell? ⟨b, k, none⟩ = u) : (w.setCells g o cs).cell? ⟨b, k, none⟩ = u :=
  (World.cell?_setCells_out g cs o w ⟨b, k, none⟩ (fun e _ => absurd e hne)).trans h
theorem SetI.other {w : World} {d : PDisk} {keep : Int} {g1 g2 c2 : Nat} {sa : Option Addr} {sn sc : Nat} {la : Option Addr} {lc k : Nat} {W W' : World} (h : SetI w d keep g1 g2 c2 sa sn sc la lc k W) {v : Value} {n : Nat} {xs : List Value} (o : W.ownsRow w.heap.size 9 1 v n xs) (g : W.grownBy W' v.ownBlock) : SetI w d keep g1 g2 c2 sa sn sc la lc k W' :=
  ⟨rk_other o g h.was (by decide), rk_other o g h.now (by decide), rk_keep o g h.arg (by decide), rk_keep o g h.res (by decide), h.bel.grown g h.bel.size (fun r e => (World.ownsRow.lt o r e).1), h.ne, h.lo⟩
/-- The texts of which k are as they are done, the others as they were. -/
def half (a b : List ByteArray) (k : Nat) : List ByteArray := a.take k ++ b.drop k
theorem half_len {a b : List ByteArray} (h : a.length = b.length) {k : Nat} (hk : k ≤ b.length) : (half a b k).length = b.length := by
  rw [half, List.length_append, List.length_take, List.length_drop]; omega
theorem half_set {a b : List ByteArray} (h : a.length = b.length) {k : Nat} (hk : k < b.length) : (half a b k).set k (a[k]'(by omega)) = half a b (k + 1) := by
  have e1 : (a.take k).length = k := by rw [List.length_take]; omega
  rw [half, half, List.set_append_right _ _ (by omega), e1, Nat.sub_self, List.drop_eq_getElem_cons hk, List.set_cons_zero, List.take_succ_eq_append_getElem (by omega), List.append_assoc]
  rfl
theorem half_same {a b : List ByteArray} (h : a.length = b.length) {k : Nat} (hk : k < b.length) (he : a[k]'(by omega) = b[k]) : half a b k = half a b (k + 1) := by
  have e1 : a.take (k + 1) = a.take k ++ [a[k]'(by omega)] := List.take_succ_eq_append_getElem (by omega)
  rw [half, half, e1, List.drop_eq_getElem_cons hk, he, List.append_assoc]
  rfl
theorem sec_eq (s t : ByteArray) (hs : s.size = 64) (ht : t.size = 64) (w : World) : (Op.equalIn 10000 164 (.agg (secL s).toArray) (.agg (secL t).toArray)).run Tryz.prog w = .ok (decide (s = t)) w := by
  have e1 : (secL s).toArray = (s.data.toList.map Extern.Stop.cell).toArray := by simp [secL, bs, Extern.Stop.cell]
  have e2 : (secL t).toArray = (t.data.toList.map Extern.Stop.cell).toArray := by simp [secL, bs, Extern.Stop.cell]
  rw [e1, e2, run_equalIn_bytes w 9998 164 5 64 Tryz.underlying164 Tryz.underlying5 (fun w => by simp [sizeOf, typeInfo]; first | rfl | kernel_rfl) _ _ (by rw [Array.length_toList]; exact hs) (by rw [Array.length_toList]; exact ht)]
  by_cases h : s = t
  · subst h; simp
  · have : ¬ s.data = t.data := fun e => h (by cases s; cases t; simpa using e)
    simp [h, this]
theorem itext_L (s : ByteArray) (w : World) (hs : s.size = 64) : Calls Tryz.prog 145 #[.agg (secL s).toArray] w fun e w' => e = .returned (.string s) ∧ Below w.heap.size w w' := itext_any s w hs

end Go.Proofs.YtokkigfjabbdaaaGreatDoor

/- The archive, plainly. No condition. -/
namespace Go.Proofs.YtokkigfjabbdaaaGreatDoor
open Go.RowKit
set_option maxRecDepth 100000
set_option linter.unusedVariables false

structure PArch where
  up : Bool
  disk : PDisk
  head : PHead
  list : List (ByteArray × ByteArray)
def zeroA : PArch := ⟨false, zeroDk, zeroH, []⟩
def headEq (h k : PHead) : Bool := decide (h.no = k.no) && decide (h.area = k.area) && decide (h.en = k.en)
theorem headEq_iff {h k : PHead} : headEq h k = true ↔ h = k := by
  obtain ⟨a, b, c⟩ := h
  obtain ⟨x, y, z⟩ := k
  simp [headEq, and_assoc]
theorem headEq_self (h : PHead) : headEq h h = true := headEq_iff.mpr rfl
/-- The bytes that count. -/
def bytesA (d : PDisk) (h : PHead) : List Int := getL d h.area 0 h.en.toNat
def recsA (d : PDisk) (h : PHead) : List PRec × Bool := recsR (bytesA d h)
/-- What the disk alone tells is right. -/
def wellA (d : PDisk) : Bool := headB (nowDk d) && (recsA d (nowDk d)).2
def indexA (d : PDisk) (h : PHead) : List (ByteArray × ByteArray) := idxOf (recsA d h).1
def tellsA (a : PArch) : Bool := wellA a.disk && (headEq (nowDk a.disk) a.head && decide (indexA a.disk (nowDk a.disk) = a.list))
/-- An archive that is right. -/
def archB (a : PArch) : Bool := diskB a.disk && decide (a.disk.late = []) && (if a.up = true then tellsA a else headEq zeroH a.head && decide (a.list = []))
theorem archB_disk {a : PArch} (h : archB a = true) : diskB a.disk = true ∧ a.disk.late = [] := by
  simp only [archB, Bool.and_eq_true, decide_eq_true_eq] at h
  exact h.1
theorem archB_up {a : PArch} (h : archB a = true) (hu : a.up = true) : headB a.head = true ∧ nowDk a.disk = a.head ∧ (recsA a.disk a.head).2 = true ∧ indexA a.disk a.head = a.list := by
  simp only [archB, tellsA, wellA, hu, if_true, Bool.and_eq_true, decide_eq_true_eq, headEq_iff] at h
  obtain ⟨_, ⟨h1, h2⟩, h3, h4⟩ := h
  rw [h3] at h1 h2 h4
  exact ⟨h1, h3, h2, h4⟩
theorem archB_down {a : PArch} (h : archB a = true) (hu : a.up = false) : a.head = zeroH ∧ a.list = [] := by
  simp only [archB, hu, Bool.false_eq_true, if_false, Bool.and_eq_true, decide_eq_true_eq, headEq_iff] at h
  exact ⟨h.2.1.symm, h.2.2⟩

/-- What is made safe is told as it was put last. -/
theorem ar_doneAll {d : PDisk} (hd : diskB d = true) (i : Nat) (k : Nat) (hk : k ≤ d.late.length) :
    (doneN 2147483647 d.safe d.late k)[i]? = if i < d.safe.length then some ((putAt i (d.late.take k)).getD (d.safe.getD i ⟨#[]⟩)) else none := by
  induction k with
  | zero =>
    by_cases hi : i < d.safe.length
    · simp [doneN, putAt, hi]
    · simp [doneN, hi]
  | succ k ih =>
    have hlt : k < d.late.length := by omega
    have hr := diskB_late hd hlt
    have ih := ih (by omega)
    rw [doneN_succ hlt, bit_all, if_pos rfl, putAt_take hlt]
    by_cases e : d.late[k].1.toNat = i
    · have e1 : d.late[k].1 = (i : Int) := by omega
      have hl := doneN_len 2147483647 d.safe d.late k
      by_cases hi : i < d.safe.length
      · rw [e, List.getElem?_set_self (by omega), if_pos hi, if_pos e1]; rfl
      · rw [if_neg hi, List.getElem?_eq_none (by rw [List.length_set]; omega)]
    · have e1 : d.late[k].1 ≠ (i : Int) := by omega
      rw [List.getElem?_set_ne e, ih, if_neg e1]
theorem sync_sector {d : PDisk} (hd : diskB d = true) {x : Int} (h0 : 0 ≤ x) (h1 : x ≤ 129) : sectorD (syncDk d).1 x = sectorD d x := by
  obtain ⟨i, rfl⟩ : ∃ i : Nat, x = i := ⟨x.toNat, by omega⟩
  have hl := (diskB_len hd).1
  have hi : i < d.safe.length := by omega
  have h := ar_doneAll hd i d.late.length (Nat.le_refl _)
  rw [List.take_length, if_pos hi] at h
  rw [syncDk, if_neg (by rw [hd]; simp)]
  simp only [sectorD, doneDk, putAt, Option.getD_none, Int.toNat_natCast, List.getD_eq_getElem?_getD, h, Option.getD_some]
theorem sync_late (d : PDisk) : (syncDk d).1.late = [] := by
  unfold syncDk
  split <;> rfl
theorem headPut_yes {d : PDisk} {h : PHead} (hp : (headPutDk d h).2 = true) : diskB d = true ∧ headB h = true ∧ diskB (headPutDk d h).1 = true ∧ ∀ x, sectorD (headPutDk d h).1 x = if h.no % 2 = x then packS h else sectorD d x := by
  unfold headPutDk at hp ⊢
  split at hp
  · cases hp
  · rename_i h1
    rw [if_neg h1]
    have h1 : diskB d = true := by simpa using h1
    split at hp
    · cases hp
    · rename_i h2
      rw [if_neg h2]
      refine ⟨h1, by simpa using h2, right_put h1 hp, fun x => ?_⟩
      unfold putDk at hp ⊢
      rw [if_neg (by rw [h1]; simp)] at hp ⊢
      split at hp
      · cases hp
      · rename_i h3
        rw [if_neg h3]
        exact sector_put _ _ _ _
/-- A head of a greater number that is put counts. -/
theorem now_put {d : PDisk} {h : PHead} (hp : (headPutDk d h).2 = true) (hn : (nowDk d).no < h.no) : nowDk (headPutDk d h).1 = h := by
  obtain ⟨hd, hh, hd', hs⟩ := headPut_yes hp
  have hi := headB_in hh
  unfold nowDk at hn ⊢
  rw [if_neg (by rw [hd']; simp), hs, hs]
  rw [if_neg (by rw [hd]; simp)] at hn
  rcases (show h.no % 2 = 0 ∨ h.no % 2 = 1 by omega) with e | e
  · have s0 : (if h.no % 2 = 0 then packS h else sectorD d 0) = packS h := if_pos e
    have s1 : (if h.no % 2 = 1 then packS h else sectorD d 1) = sectorD d 1 := if_neg (by omega)
    rw [s0, s1, read_pack hh]
    simp only
    rw [if_neg]
    split at hn <;> omega
  · have s0 : (if h.no % 2 = 0 then packS h else sectorD d 0) = sectorD d 0 := if_neg (by omega)
    have s1 : (if h.no % 2 = 1 then packS h else sectorD d 1) = packS h := if_pos e
    rw [s0, s1, read_pack hh]
    simp only
    rw [if_pos]
    split at hn <;> omega
theorem now_sync {d : PDisk} (hd : diskB d = true) : nowDk (syncDk d).1 = nowDk d := by
  unfold nowDk
  rw [(right_sync hd).2, hd, sync_sector hd (by decide) (by decide), sync_sector hd (by decide) (by decide)]
theorem byte_sync {d : PDisk} (hd : diskB d = true) {a : Int} (ha : a = 0 ∨ a = 1) {k : Nat} (hk : k < 4096) : byteD (syncDk d).1 a k = byteD d a k := by
  unfold byteD
  rw [sync_sector hd (by unfold secOf; omega) (by unfold secOf; omega)]
theorem byte_headPut {d : PDisk} {h : PHead} (hp : (headPutDk d h).2 = true) {a : Int} (ha : a = 0 ∨ a = 1) (k : Nat) : byteD (headPutDk d h).1 a k = byteD d a k := by
  obtain ⟨_, _, _, hs⟩ := headPut_yes hp
  unfold byteD
  rw [hs, if_neg]
  unfold secOf; omega

/-- The four steps by which bytes and a head come to the disk. -/
def step1 (d : PDisk) (ar at' : Int) (b : List Int) : PDisk := (areaDk d ar at' b).1
def step2 (d : PDisk) (ar at' : Int) (b : List Int) : PDisk := (syncDk (step1 d ar at' b)).1
def step3 (d : PDisk) (ar at' : Int) (b : List Int) (h : PHead) : PDisk := (headPutDk (step2 d ar at' b) h).1
def step4 (d : PDisk) (ar at' : Int) (b : List Int) (h : PHead) : PDisk := (syncDk (step3 d ar at' b h)).1
def stepsOk (d : PDisk) (ar at' : Int) (b : List Int) (h : PHead) : Bool := (areaDk d ar at' b).2 && (headPutDk (step2 d ar at' b) h).2
theorem steps_right {d : PDisk} {ar at' : Int} {b : List Int} {h : PHead} (hs : stepsOk d ar at' b h = true) : diskB (step1 d ar at' b) = true ∧ diskB (step2 d ar at' b) = true ∧ diskB (step3 d ar at' b h) = true ∧ diskB (step4 d ar at' b h) = true ∧ (step4 d ar at' b h).late = [] ∧ headB h = true := by
  simp only [stepsOk, Bool.and_eq_true] at hs
  obtain ⟨h1, h2⟩ := hs
  obtain ⟨hd, ha, h0, _, _, hN⟩ := area_yes h1
  have r1 : diskB (step1 d ar at' b) = true := areaN_right hd ha (Nat.le_refl _) hN
  have r2 : diskB (step2 d ar at' b) = true := (right_sync r1).2
  obtain ⟨_, hh, r3, _⟩ := headPut_yes h2
  exact ⟨r1, r2, r3, (right_sync r3).2, sync_late _, hh⟩
theorem steps_now {d : PDisk} {ar at' : Int} {b : List Int} {h : PHead} (hs : stepsOk d ar at' b h = true) (hn : (nowDk d).no < h.no) : nowDk (step4 d ar at' b h) = h := by
  obtain ⟨r1, r2, r3, r4, _, _⟩ := steps_right hs
  simp only [stepsOk, Bool.and_eq_true] at hs
  obtain ⟨h1, h2⟩ := hs
  rw [step4, now_sync r3, step3, now_put h2]
  rw [step2, now_sync r1, step1, area_now h1]
  exact hn
theorem steps_bytes {d : PDisk} {ar at' : Int} {b : List Int} {h : PHead} (hb : ∀ x ∈ b, 0 ≤ x ∧ x ≤ 255) (hs : stepsOk d ar at' b h = true) : getL (step4 d ar at' b h) ar 0 (at' + b.length).toNat = getL d ar 0 at'.toNat ++ b := by
  obtain ⟨r1, r2, r3, r4, _, _⟩ := steps_right hs
  simp only [stepsOk, Bool.and_eq_true] at hs
  obtain ⟨h1, h2⟩ := hs
  obtain ⟨hd, ha, h0, h3, h4, hN⟩ := area_yes h1
  obtain ⟨A, rfl⟩ : ∃ A : Nat, at' = A := ⟨at'.toNat, by omega⟩
  simp only [Int.toNat_natCast] at hN
  have key : ∀ k, k < 4096 → byteD (step4 d ar A b h) ar k = if A ≤ k ∧ k < A + b.length then b.getD (k - A) 0 else byteD d ar k := fun k hk => by
    rw [step4, byte_sync r3 ha hk, step3, byte_headPut h2 ha, step2, byte_sync r1 ha hk, step1, byteD_area hb hN hk]
  have e : ((A : Int) + b.length).toNat = A + b.length := by omega
  rw [e, Int.toNat_natCast]
  apply List.ext_getElem
  · rw [List.length_append, getL_len, getL_len]
  · intro j hj1 hj2
    rw [getL_len] at hj1
    simp only [getL, List.getElem_map, List.getElem_range, Nat.zero_add]
    rw [key j (by omega)]
    by_cases hj : j < A
    · rw [if_neg (by omega), List.getElem_append_left (by simp; omega)]
      simp
    · rw [if_pos (by omega), List.getElem_append_right (by simp; omega)]
      simp only [List.length_map, List.length_range, List.getD_eq_getElem?_getD]
      rw [List.getElem?_eq_getElem (by omega), Option.getD_some]
theorem byteD_byte (d : PDisk) (a : Int) (k : Nat) : 0 ≤ byteD d a k ∧ byteD d a k ≤ 255 := bs_bound _ _
theorem getL_byte (d : PDisk) (a : Int) (at' n : Nat) : ∀ x ∈ getL d a at' n, 0 ≤ x ∧ x ≤ 255 := by
  intro x hx
  simp only [getL, List.mem_map, List.mem_range] at hx
  obtain ⟨j, _, rfl⟩ := hx
  exact byteD_byte _ _ _
theorem bytesA_byte (d : PDisk) (h : PHead) : ∀ x ∈ bytesA d h, 0 ≤ x ∧ x ≤ 255 := getL_byte _ _ _ _
theorem bytesA_len (d : PDisk) (h : PHead) : (bytesA d h).length = h.en.toNat := getL_len _ _ _ _
end Go.Proofs.YtokkigfjabbdaaaGreatDoor

/- Contracts of the laws' marks of a disk. No condition. -/
namespace Go.Proofs.YtokkigfjabbdaaaGreatDoor
open Go.RowKit
set_option maxRecDepth 100000
set_option linter.unusedVariables false

/-- The marks that are laid over a list of texts, from k on. -/
def markStrs (k : Int) (n : Nat) : List ByteArray := (List.range n).map fun i : Nat => mt (k + (i : Int))
theorem markStrs_len (k : Int) (n : Nat) : (markStrs k n).length = n := by simp [markStrs]
theorem markStrs_at (k : Int) (n i : Nat) (h : i < (markStrs k n).length) : (markStrs k n)[i] = mt (k + (i : Int)) := by simp [markStrs]
theorem markStrs_succ (k : Int) (rs : List ByteArray) (i : Nat) (h : i < rs.length) : (markStrs k i ++ rs.drop i).set i (mt (k + (i : Int))) = markStrs k (i + 1) ++ rs.drop (i + 1) := by
  rw [List.set_append_right _ _ (by rw [markStrs_len]; exact Nat.le_refl _), markStrs_len, Nat.sub_self, List.drop_eq_getElem_cons h, List.set_cons_zero]
  simp [markStrs, List.range_succ]
/-- The marks that are laid over a list of puts, from k on. -/
def markPuts (k : Int) (n : Nat) : List (Int × ByteArray) := (List.range n).map fun i : Nat => (k + 2 * (i : Int), mt (k + 2 * (i : Int) + 1))
theorem markPuts_len (k : Int) (n : Nat) : (markPuts k n).length = n := by simp [markPuts]
theorem markPuts_at (k : Int) (n i : Nat) (h : i < (markPuts k n).length) : (markPuts k n)[i] = (k + 2 * (i : Int), mt (k + 2 * (i : Int) + 1)) := by simp [markPuts]
theorem markPuts_succ (k : Int) (rs : List (Int × ByteArray)) (i : Nat) (h : i < rs.length) :
    (markPuts k i ++ rs.drop i).set i (k + 2 * (i : Int), mt (k + 2 * (i : Int) + 1)) = markPuts k (i + 1) ++ rs.drop (i + 1) := by
  rw [List.set_append_right _ _ (by rw [markPuts_len]; exact Nat.le_refl _), markPuts_len, Nat.sub_self, List.drop_eq_getElem_cons h, List.set_cons_zero]
  simp [markPuts, List.range_succ]

set_option maxHeartbeats 2000000 in
set_option maxRecDepth 100000 in
theorem markStringS_any {B : Nat} {v : Value} {rs : List ByteArray} {w : World} (h : w.ownsRow B 9 1 v rs.length (strCells rs)) (k0 : Int) (h0 : 0 ≤ k0) (hk : k0 ≤ 4000000) (hn : rs.length ≤ 4000000) :
    Calls Tryz.prog 16 #[v, .int .i64 k0] w fun e w' => e = .returned (.int .i64 (k0 + rs.length)) ∧ w'.ownsRow B 9 1 v rs.length (strCells (markStrs k0 rs.length)) ∧ w.grownBy w' v.ownBlock := by
  have h' := h
  obtain ⟨hl, ⟨hv, hz⟩ | ⟨g, cap, cur, hv, hB, hh, hn', hm, hz, ht⟩⟩ := h'
  · subst hv
    have hr : rs = [] := List.length_eq_zero_iff.mp hz
    subst hr
    go_enter Tryz.func16, Tryz.ntmps16
    go_wp2
    go_loop [1, 5] (fun q i => i = .int .i64 0 ∧ q = .int .i64 k0) (fun _ _ => 0)
    case atStart => exact ⟨rfl, rfl⟩
    case round =>
      obtain ⟨rfl, rfl⟩ := hrel
      go_wp2
      go_ret
      exact ⟨ret_int (by simp), h, World.grownBy.refl _ _⟩
  · subst hv
    clear hh ht hz hl
    go_enter Tryz.func16, Tryz.ntmps16
    go_wp2
    go_loopw [1, 5] (fun q i wr => ∃ k : Nat, k ≤ rs.length ∧ i = .int .i64 k ∧ q = .int .i64 (k0 + k) ∧ wr.ownsRow B 9 1 (.slice (some ⟨g, 0, none⟩) rs.length cap) rs.length (strCells (markStrs k0 k ++ rs.drop k)) ∧ w.grownBy wr (some g)) (fun _ i _ => rs.length - (intOf i).toNat)
    case atStart => exact ⟨0, Nat.zero_le _, rfl, by go_num, h, World.grownBy.refl _ _⟩
    case round =>
      clear h
      obtain ⟨k, hk', rfl, rfl, hown, hgr⟩ := hrel
      by_cases hlt : k < rs.length
      · have HO := (show Hid _ from hown)
        have HG := (show Hid _ from hgr)
        clear hown hgr
        go_wp2_with fail
        go_at_call 43
        refine (markText_any _ _ (by omega)).mono ?_
        rintro e w2 ⟨rfl, b2⟩
        have hlen : (markStrs k0 k ++ rs.drop k).length = rs.length := by simp [markStrs_len]; omega
        have o2 := ownsRow_below HO.out b2
        have hl2 := strCells_len (markStrs k0 k ++ rs.drop k)
        obtain ⟨z1, hc1⟩ : ∃ z, w2.cell? ⟨g, k, none⟩ = some z := by
          rw [o2.cellAt k (by omega)]; exact ⟨_, List.getElem?_eq_getElem (by omega)⟩
        have f1 := o2.frozenAt k
        have s1 := o2.stored k (.string (mt (k0 + k)))
        rw [strCells_set, markStrs_succ k0 rs k hlt] at s1
        have S1 := (show Hid _ from s1)
        clear s1 o2
        go_wp2
        go_roundw
        case rel => exact ⟨k + 1, by omega, by go_num, by go_num, S1.out.1, grown_trans (grown_below HG.out b2) S1.out.2⟩
        case measure => simp [intOf]; omega
      · go_wp2
        go_ret
        have hke : k = rs.length := by omega
        rw [hke, List.drop_length, List.append_nil] at hown
        exact ⟨ret_int (by rw [hke]), hown, hgr⟩

set_option maxHeartbeats 2000000 in
set_option maxRecDepth 100000 in
theorem heldStringS_any {v : Value} {n : Nat} {w : World} (k0 : Int) (h : Sv 1 w v (strCells (markStrs k0 n))) (h0 : 0 ≤ k0) (hk : k0 ≤ 4000000) (hn : n ≤ 4000000) :
    Calls Tryz.prog 17 #[v, .int .i64 k0] w fun e w' => e = .returned (.int .i64 (k0 + n)) ∧ Below w.heap.size w w' := by
  obtain ⟨a, ca, rfl, _, _, hca⟩ := h.str
  have hlen := markStrs_len k0 n
  rw [hlen]
  go_enter Tryz.func17, Tryz.ntmps17
  go_wp2
  go_loopw [1, 5] (fun q i wr => ∃ k : Nat, k ≤ n ∧ i = .int .i64 k ∧ q = .int .i64 (k0 + k) ∧ Below w.heap.size w wr) (fun _ i _ => n - (intOf i).toNat)
  case atStart => exact ⟨0, Nat.zero_le _, rfl, by go_num, Below.refl _ _⟩
  case round =>
    obtain ⟨k, hk', rfl, rfl, bel⟩ := hrel
    by_cases hlt : k < n
    · obtain ⟨b1, o1, rfl, l1, c1⟩ := hca k (by omega)
      rw [markStrs_at] at c1
      have g1 : ∀ m : Wd w.heap.size w, m.w.cell? ⟨b1, o1 + k, none⟩ = some (.string (mt (k0 + k))) := fun m => (m.below.cell (p := ⟨b1, o1 + k, none⟩) l1).trans c1
      have CC := (show Hid (∀ w, Calls Tryz.prog 43 #[.int .i64 (k0 + k)] w fun e w' => e = .returned (.string (mt (k0 + k))) ∧ Below w.heap.size w w') from fun w => markText_any _ _ (by omega))
      have ne := Wd.any w.heap.size w
      clear c1 hca
      go_wp2
      refine wp_region_below (by kernel_rfl) (by kernel_rfl) bel ?_
      repeat (go_big_quiet_step ((go_at_call 43; exact quiet_below (CC.out _) (Nat.le_refl _))))
      refine wpQuiet_nil ?_
      intro wq hq
      replace hq := Wd.of hq
      clear g1
      go_wp2
      go_roundw
      case rel => exact ⟨k + 1, by omega, by go_num, by go_num, hq⟩
      case measure => simp [intOf]; omega
    · have hke : k = n := by omega
      go_wp2
      go_ret
      exact ⟨ret_int (by rw [hke]), bel⟩

set_option maxHeartbeats 2000000 in
set_option maxRecDepth 100000 in
theorem markPutS_any {B : Nat} {v : Value} {rs : List (Int × ByteArray)} {w : World} (h : w.ownsRow B 88 2 v rs.length (putCells rs)) (k0 : Int) (h0 : 0 ≤ k0) (hk : k0 ≤ 4000000) (hn : rs.length ≤ 4000000) :
    Calls Tryz.prog 71 #[v, .int .i64 k0] w fun e w' => e = .returned (.int .i64 (k0 + 2 * rs.length)) ∧ w'.ownsRow B 88 2 v rs.length (putCells (markPuts k0 rs.length)) ∧ w.grownBy w' v.ownBlock := by
  have h' := h
  obtain ⟨hl, ⟨hv, hz⟩ | ⟨g, cap, cur, hv, hB, hh, hn', hm, hz, ht⟩⟩ := h'
  · subst hv
    have hr : rs = [] := List.length_eq_zero_iff.mp hz
    subst hr
    go_enter Tryz.func71, Tryz.ntmps71
    go_wp2
    go_loop [1, 5] (fun q i => i = .int .i64 0 ∧ q = .int .i64 k0) (fun _ _ => 0)
    case atStart => exact ⟨rfl, rfl⟩
    case round =>
      obtain ⟨rfl, rfl⟩ := hrel
      go_wp2
      go_ret
      exact ⟨ret_int (by simp), h, World.grownBy.refl _ _⟩
  · subst hv
    clear hh ht hz hl
    go_enter Tryz.func71, Tryz.ntmps71
    go_wp2
    go_loopw [1, 5] (fun q i wr => ∃ k : Nat, k ≤ rs.length ∧ i = .int .i64 k ∧ q = .int .i64 (k0 + 2 * k) ∧ wr.ownsRow B 88 2 (.slice (some ⟨g, 0, none⟩) rs.length cap) rs.length (putCells (markPuts k0 k ++ rs.drop k)) ∧ w.grownBy wr (some g)) (fun _ i _ => rs.length - (intOf i).toNat)
    case atStart => exact ⟨0, Nat.zero_le _, rfl, by go_num, h, World.grownBy.refl _ _⟩
    case round =>
      clear h
      obtain ⟨k, hk', rfl, rfl, hown, hgr⟩ := hrel
      by_cases hlt : k < rs.length
      · have hlen : (markPuts k0 k ++ rs.drop k).length = rs.length := by simp [markPuts_len]; omega
        have hl2 := putCells_len (markPuts k0 k ++ rs.drop k)
        obtain ⟨z1, hc1⟩ : ∃ z, wr.cell? ⟨g, k * 2, none⟩ = some z := by
          rw [hown.cellAt (k * 2) (by omega)]; exact ⟨_, List.getElem?_eq_getElem (by omega)⟩
        have f1 := hown.frozenAt (k * 2)
        have S1 := (show Hid _ from hown.stored (k * 2) (.int .i64 (k0 + 2 * k)))
        have HG := (show Hid _ from hgr)
        clear hown hgr
        go_wp2_with fail
        go_at_call 43
        refine (markText_any _ _ (by omega)).mono ?_
        rintro e w2 ⟨rfl, b2⟩
        have o2 := ownsRow_below S1.out.1 b2
        obtain ⟨z2, hc2⟩ : ∃ z, w2.cell? ⟨g, k * 2 + 1, none⟩ = some z := by
          rw [o2.cellAt (k * 2 + 1) (by omega)]; exact ⟨_, List.getElem?_eq_getElem (by rw [List.length_set]; omega)⟩
        have f2 := o2.frozenAt (k * 2 + 1)
        have s2 := o2.stored (k * 2 + 1) (.string (mt (k0 + 2 * k + 1)))
        rw [putCells_set _ _ _ _ (by omega), markPuts_succ k0 rs k hlt] at s2
        have S2 := (show Hid _ from s2)
        clear s2 o2
        go_wp2
        go_roundw
        case rel => exact ⟨k + 1, by omega, by go_num, by go_num, S2.out.1, grown_trans (grown_below (grown_trans HG.out S1.out.2) b2) S2.out.2⟩
        case measure => simp [intOf]; omega
      · go_wp2
        go_ret
        have hke : k = rs.length := by omega
        rw [hke, List.drop_length, List.append_nil] at hown
        exact ⟨ret_int (by rw [hke]), hown, hgr⟩

set_option maxHeartbeats 2000000 in
set_option maxRecDepth 100000 in
theorem heldPutS_any {v : Value} {n : Nat} {w : World} (k0 : Int) (h : Sv 2 w v (putCells (markPuts k0 n))) (h0 : 0 ≤ k0) (hk : k0 ≤ 4000000) (hn : n ≤ 4000000) :
    Calls Tryz.prog 75 #[v, .int .i64 k0] w fun e w' => e = .returned (.int .i64 (k0 + 2 * n)) ∧ Below w.heap.size w w' := by
  obtain ⟨a, ca, rfl, _, _, hca⟩ := h.put
  have hlen := markPuts_len k0 n
  rw [hlen]
  go_enter Tryz.func75, Tryz.ntmps75
  go_wp2
  go_loopw [1, 5] (fun q i wr => ∃ k : Nat, k ≤ n ∧ i = .int .i64 k ∧ q = .int .i64 (k0 + 2 * k) ∧ Below w.heap.size w wr) (fun _ i _ => n - (intOf i).toNat)
  case atStart => exact ⟨0, Nat.zero_le _, rfl, by go_num, Below.refl _ _⟩
  case round =>
    obtain ⟨k, hk', rfl, rfl, bel⟩ := hrel
    by_cases hlt : k < n
    · obtain ⟨b1, o1, rfl, l1, c1, c2⟩ := hca k (by omega)
      rw [markPuts_at] at c1 c2
      simp only at c1 c2
      have d1 : wr.cell? ⟨b1, o1 + k * 2, none⟩ = some (.int .i64 (k0 + 2 * k)) := (bel.cell (p := ⟨b1, o1 + k * 2, none⟩) l1).trans c1
      have g2 : ∀ m : Wd w.heap.size w, m.w.cell? ⟨b1, o1 + k * 2 + 1, none⟩ = some (.string (mt (k0 + 2 * k + 1))) := fun m => (m.below.cell (p := ⟨b1, o1 + k * 2 + 1, none⟩) l1).trans c2
      have CD := (show Hid (∀ w, Calls Tryz.prog 43 #[.int .i64 (k0 + 2 * k + 1)] w fun e w' => e = .returned (.string (mt (k0 + 2 * k + 1))) ∧ Below w.heap.size w w') from fun w => markText_any _ _ (by omega))
      have ne := Wd.any w.heap.size w
      clear c1 c2 hca
      go_wp2
      refine wp_region_below (by kernel_rfl) (by kernel_rfl) bel ?_
      repeat (go_big_quiet_step ((go_at_call 43; exact quiet_below (CD.out _) (Nat.le_refl _))))
      refine wpQuiet_nil ?_
      intro wq2 hq2
      replace hq2 := Wd.of hq2
      go_wp2
      go_roundw
      case rel => exact ⟨k + 1, by omega, by go_num, by go_num, hq2⟩
      case measure => simp [intOf]; omega
    · have hke : k = n := by omega
      go_wp2
      go_ret
      exact ⟨ret_int (by rw [hke]), bel⟩

/-- Nothing is turned but the two blocks. -/
structure TwoFr (r s : Option Nat) (w w' : World) : Prop where
  os : w'.os = w.os
  tape : w'.tape = w.tape
  output : w'.output = w.output
  size : w.heap.size ≤ w'.heap.size
  block : ∀ j, j < w.heap.size → some j ≠ r → some j ≠ s → w'.heap[j]? = w.heap[j]?
theorem TwoFr.below {r s : Option Nat} {B : Nat} {w w' : World} (h : TwoFr r s w w') (hB : B ≤ w.heap.size) (hr : ∀ j, r = some j → B ≤ j) (hs : ∀ j, s = some j → B ≤ j) : Below B w w' :=
  ⟨h.os, h.tape, h.output, h.size, fun j hj => h.block j (by omega) (fun e => by have := hr j e.symm; omega) (fun e => by have := hs j e.symm; omega)⟩
theorem TwoFr.row {r s : Option Nat} {B e size n : Nat} {w w' : World} {v : Value} {xs : List Value} (h : TwoFr r s w w') (ho : w.ownsRow B e size v n xs) (hr : ∀ j, v.ownBlock = some j → some j ≠ r) (hs : ∀ j, v.ownBlock = some j → some j ≠ s) : w'.ownsRow B e size v n xs := by
  obtain ⟨hl, hv | ⟨g, cap, cur, hv, hB, hh, k⟩⟩ := ho
  · exact ⟨hl, .inl hv⟩
  · have hg : v.ownBlock = some g := by rw [hv]; rfl
    exact ⟨hl, .inr ⟨g, cap, cur, hv, hB, by rw [h.block g (lt_of_block hh) (hr g hg) (hs g hg)]; exact hh, k⟩⟩

set_option maxHeartbeats 2000000 in
set_option maxRecDepth 100000 in
theorem markDisk_any {B : Nat} {d : PDisk} {w : World} {sa : Option Addr} {sn sc : Nat} {la : Option Addr} {ln lc : Nat} (h1 : w.ownsRow B 9 1 (.slice sa sn sc) d.safe.length (strCells d.safe)) (h2 : w.ownsRow B 88 2 (.slice la ln lc) d.late.length (putCells d.late)) (hf : DiskFit d) :
    Calls Tryz.prog 41 #[.agg #[.slice sa sn sc, .slice la ln lc], .int .i64 1] w fun e w' => e = .returned (.int .i64 (1 + d.safe.length + 2 * d.late.length)) ∧ w'.ownsRow B 9 1 (.slice sa sn sc) d.safe.length (strCells (markStrs 1 d.safe.length)) ∧ w'.ownsRow B 88 2 (.slice la ln lc) d.late.length (putCells (markPuts (1 + d.safe.length) d.late.length)) ∧
      TwoFr (Value.slice sa sn sc).ownBlock (Value.slice la ln lc).ownBlock w w' := by
  have f1 := hf.sl
  have f2 := hf.ll
  have H1 := (show Hid (w.ownsRow B 9 1 (.slice sa sn sc) d.safe.length (strCells d.safe)) from h1)
  have H2 := (show Hid (w.ownsRow B 88 2 (.slice la ln lc) d.late.length (putCells d.late)) from h2)
  clear h1 h2 hf
  obtain ⟨w1, hw1⟩ : ∃ x, x = w.alloc (.cells #[.slice sa sn sc, .slice la ln lc] 35) := ⟨_, rfl⟩
  have b1 : Below w.heap.size w w1 := by rw [hw1]; exact (Below.refl _ _).alloc (Nat.le_refl _) _
  have x1 : w1.heap[w.heap.size]? = some (.cells #[.slice sa sn sc, .slice la ln lc] 35 (0, 0)) := by rw [hw1]; exact World.alloc_heap_new _ _
  have X1 := (show Hid _ from x1)
  clear x1
  go_enter Tryz.func41, Tryz.ntmps41
  go_wp2_with fail
  go_at_call 16
  rw [← hw1]
  refine (markStringS_any (ownsRow_below H1.out b1) 1 (by decide) (by decide) (by omega)).mono ?_
  rintro x w2 ⟨rfl, o2, g2⟩
  clear hw1
  have hne : some w.heap.size ≠ (Value.slice sa sn sc).ownBlock := fun e => by
    have := (World.ownsRow.lt H1.out w.heap.size e.symm).2
    omega
  have y1 := (g2.block _ (lt_of_block X1.out) hne).trans X1.out
  obtain ⟨_, c2, _, _⟩ := rk_two y1
  have p2 : w2.ownsRow B 88 2 (.slice la ln lc) d.late.length (putCells d.late) := rk_type (ownsRow_below H2.out b1) g2 (fun r e => by
    rcases H1.out.2 with ⟨hv, _⟩ | ⟨g, cap, cur, hv, _, hh, _⟩
    · rw [hv] at e; cases e
    · rw [hv] at e; cases e
      exact ⟨_, _, _, (b1.block _ (lt_of_block hh)).trans hh, by decide⟩)
  have O2 := (show Hid (w2.ownsRow B 9 1 (.slice sa sn sc) d.safe.length (strCells (markStrs 1 d.safe.length))) from o2)
  have P2 := (show Hid (w2.ownsRow B 88 2 (.slice la ln lc) d.late.length (putCells d.late)) from p2)
  have G2 := (show Hid (w1.grownBy w2 (Value.slice sa sn sc).ownBlock) from g2)
  have B1 := (show Hid (Below w.heap.size w w1) from b1)
  clear o2 p2 g2 y1 b1 X1
  go_wp2_with fail
  go_at_call 71
  refine (markPutS_any P2.out (1 + d.safe.length) (by omega) (by omega) (by omega)).mono ?_
  rintro x w3 ⟨rfl, o3, g3⟩
  have p3 : w3.ownsRow B 9 1 (.slice sa sn sc) d.safe.length (strCells (markStrs 1 d.safe.length)) := rk_type O2.out g3 (fun r e => by
    rcases P2.out.2 with ⟨hv, _⟩ | ⟨g, cap, cur, hv, _, hh, _⟩
    · rw [hv] at e; cases e
    · rw [hv] at e; cases e
      exact ⟨_, _, _, hh, by decide⟩)
  have fr : TwoFr (Value.slice sa sn sc).ownBlock (Value.slice la ln lc).ownBlock w w3 := ⟨g3.os.trans (G2.out.os.trans B1.out.os), g3.tape.trans (G2.out.tape.trans B1.out.tape), g3.output.trans (G2.out.output.trans B1.out.output), Nat.le_trans B1.out.size (Nat.le_trans G2.out.size g3.size),
    fun j hj h1 h2 => (g3.block j (Nat.lt_of_lt_of_le hj (Nat.le_trans B1.out.size G2.out.size)) h2).trans ((G2.out.block j (Nat.lt_of_lt_of_le hj B1.out.size) h1).trans (B1.out.block j hj))⟩
  have O3 := (show Hid (w3.ownsRow B 88 2 (.slice la ln lc) d.late.length (putCells (markPuts (1 + d.safe.length) d.late.length))) from o3)
  have P3 := (show Hid (w3.ownsRow B 9 1 (.slice sa sn sc) d.safe.length (strCells (markStrs 1 d.safe.length))) from p3)
  have FR := (show Hid (TwoFr (Value.slice sa sn sc).ownBlock (Value.slice la ln lc).ownBlock w w3) from fr)
  clear o3 p3 fr g3
  go_wp2
  go_ret
  exact ⟨rfl, P3.out, O3.out, FR.out⟩

set_option maxHeartbeats 2000000 in
set_option maxRecDepth 100000 in
theorem heldDisk_any {n m : Nat} {w : World} {sa : Option Addr} {sn sc : Nat} {la : Option Addr} {ln lc : Nat} (h1 : Sv 1 w (.slice sa sn sc) (strCells (markStrs 1 n))) (h2 : Sv 2 w (.slice la ln lc) (putCells (markPuts (1 + n) m))) (hn : n ≤ 1048576) (hm : m ≤ 1048576) :
    Calls Tryz.prog 48 #[.agg #[.slice sa sn sc, .slice la ln lc], .int .i64 1] w fun e w' => e = .returned (.int .i64 (1 + n + 2 * m)) ∧ Below w.heap.size w w' := by
  have H1 := (show Hid (Sv 1 w (.slice sa sn sc) (strCells (markStrs 1 n))) from h1)
  have H2 := (show Hid (Sv 2 w (.slice la ln lc) (putCells (markPuts (1 + n) m))) from h2)
  clear h1 h2
  obtain ⟨w1, hw1⟩ : ∃ x, x = w.alloc (.cells #[.slice sa sn sc, .slice la ln lc] 35) := ⟨_, rfl⟩
  have b1 : Below w.heap.size w w1 := by rw [hw1]; exact (Below.refl _ _).alloc (Nat.le_refl _) _
  have x1 : w1.heap[w.heap.size]? = some (.cells #[.slice sa sn sc, .slice la ln lc] 35 (0, 0)) := by rw [hw1]; exact World.alloc_heap_new _ _
  have X1 := (show Hid _ from x1)
  clear x1
  go_enter Tryz.func48, Tryz.ntmps48
  go_wp2_with fail
  go_at_call 17
  rw [← hw1]
  refine (heldStringS_any 1 (H1.out.below b1) (by decide) (by decide) (by omega)).mono ?_
  rintro x w2 ⟨rfl, b2⟩
  clear hw1
  have y1 := (b2.block _ (lt_of_block X1.out)).trans X1.out
  obtain ⟨_, c2, _, _⟩ := rk_two y1
  have BB := (show Hid (Below w.heap.size w w2) from b1.trans (b2.mono b1.size))
  clear y1 b1 b2 X1
  go_wp2_with fail
  go_at_call 75
  refine (heldPutS_any (1 + n) (H2.out.below BB.out) (by omega) (by omega) (by omega)).mono ?_
  rintro x w3 ⟨rfl, b3⟩
  have B3 := (show Hid (Below w.heap.size w w3) from BB.out.trans (b3.mono BB.out.size))
  clear b3
  go_wp2
  go_ret
  exact ⟨rfl, B3.out⟩
end Go.Proofs.YtokkigfjabbdaaaGreatDoor

/- The exact laws of chapter 15, from the program's contracts (written by mk/wdisk.py). -/
namespace Go.Proofs.YtokkigfjabbdaaaGreatDoor
open Go.RowKit
set_option maxRecDepth 100000
set_option linter.unusedVariables false

/-- What the program must keep. -/
def DiskOkOk : Prop := ∀ (w : World) (v : Value) (d : PDisk), DiskAt w v d → DiskFit d → Calls Tryz.prog 64 #[v] w fun e w' => e = .returned (.bool (diskB d)) ∧ Below w.heap.size w w'
def SectorOfOk : Prop := ∀ (w : World) (v : Value) (d : PDisk) (x : Int), DiskAt w v d → DiskFit d → Calls Tryz.prog 96 #[v, .int .i64 x] w fun e w' => e = .returned (.tuple #[.string (sectorDk d x).1, .bool (sectorDk d x).2]) ∧ Below w.heap.size w w'
theorem fit_zero : DiskFit zeroDk := ⟨by decide, by decide, (fun s hs => by cases hs), (fun p hp => by cases hp)⟩
theorem fit_new : DiskFit newDk := ⟨by decide, by decide, (fun s hs => by
  have : s = zeros64 := List.eq_of_mem_replicate hs
  rw [this, zeros64_size]; decide), (fun p hp => by cases hp)⟩
theorem fit_done {d : PDisk} (h : DiskFit d) (keep : Int) : DiskFit (doneDk keep d) := ⟨by show (doneN keep d.safe d.late d.late.length).length ≤ _; rw [doneN_len]; exact h.sl, Nat.zero_le _, doneN_size h.st h.lt _, (fun p hp => by cases hp)⟩
theorem fit_sync {d : PDisk} (h : DiskFit d) : DiskFit (syncDk d).1 := by
  unfold syncDk
  split
  · exact fit_zero
  · exact fit_done h _
theorem fit_crash {d : PDisk} (h : DiskFit d) (x : Int) : DiskFit (crashDk d x).1 := by
  unfold crashDk
  split
  · exact fit_zero
  · exact fit_done h _
theorem fit_put {d : PDisk} (h : DiskFit d) (x : Int) {s : ByteArray} (hs : s.size ≤ 1099511627776) : DiskFit (putDk d x s).1 := by
  unfold putDk
  split
  · exact fit_zero
  · rename_i hb
    split
    · exact h
    · have hl := diskB_len (d := d) (by simpa using hb)
      refine ⟨h.sl, ?_, h.st, fun p hp => ?_⟩
      · show (d.late ++ [(x, s)]).length ≤ _
        rw [List.length_append, List.length_singleton]; omega
      · rcases List.mem_append.mp hp with hp | hp
        · exact h.lt p hp
        · simp at hp; subst hp; exact hs
theorem same_dk (d : PDisk) : decide (d.safe = d.safe ∧ d.late = d.late) = true := by simp


theorem TwoFr.var {r s : Option Nat} {B size n B' size' n' e e' : Nat} {w w' : World} {v u : Value} {xs ys : List Value} (h : TwoFr r s w w') (o1 : w.ownsRow B e size v n xs) (o2 : w.ownsRow B' e' size' u n' ys) (h1 : v.ownBlock = r) (h2 : u.ownBlock = s)
    {j : Nat} {cs : Array Value} {t : TypeId} {fr : Nat × Nat} (hj : w.heap[j]? = some (.cells cs t fr)) (t1 : t ≠ e) (t2 : t ≠ e') : w'.heap[j]? = some (.cells cs t fr) := by
  refine (h.block j (lt_of_block hj) (fun er => ?_) (fun er => ?_)).trans hj
  · obtain ⟨c2, f2, k2⟩ := rk_kind o1 (h1.trans er.symm)
    rw [hj] at k2; cases k2; exact t1 rfl
  · obtain ⟨c2, f2, k2⟩ := rk_kind o2 (h2.trans er.symm)
    rw [hj] at k2; cases k2; exact t2 rfl

end Go.Proofs.YtokkigfjabbdaaaGreatDoor

/- The program's copy of a disk, and DiskPut. No condition. -/
namespace Go.Proofs.YtokkigfjabbdaaaGreatDoor
open Go.RowKit
set_option maxRecDepth 100000
set_option linter.unusedVariables false

/-- A disk in memory of the call's own, but that what is empty may have no room at all. -/
def OwnDz (B : Nat) (w : World) (v : Value) (d : PDisk) : Prop := ∃ sa sn sc la ln lc, v = .agg #[.slice sa sn sc, .slice la ln lc] ∧ OwnZ B 9 1 w (.slice sa sn sc) d.safe.length (strCells d.safe) ∧ OwnZ B 88 2 w (.slice la ln lc) d.late.length (putCells d.late)
theorem OwnZ.below {B e size n : Nat} {w w' : World} {v : Value} {xs : List Value} (h : OwnZ B e size w v n xs) (b : Below w.heap.size w w') : OwnZ B e size w' v n xs := by
  rcases h with h | h
  · exact .inl (ownsRow_below h b)
  · exact .inr h
theorem OwnZ.base {B B' e size n : Nat} {w : World} {v : Value} {xs : List Value} (h : OwnZ B e size w v n xs) (b : B' ≤ B) : OwnZ B' e size w v n xs := by
  rcases h with h | h
  · exact .inl (rk_base h b)
  · exact .inr h
theorem OwnZ.slice {B e size n : Nat} {w : World} {v : Value} {xs : List Value} (h : OwnZ B e size w v n xs) : ∃ a m c, v = .slice a m c := by
  rcases h with h | ⟨_, _, a, h⟩
  · exact rk_slice h
  · exact ⟨_, _, _, h⟩
theorem OwnZ.sv {B e size n : Nat} {w : World} {v : Value} {xs : List Value} (h : OwnZ B e size w v n xs) : Sv size w v xs := by
  rcases h with h | ⟨rfl, rfl, a, rfl⟩
  · exact sv_of_own h
  · exact ⟨some a, 0, 0, rfl, by simp, Nat.le_refl _, Nat.zero_le _, (fun e => by cases e), fun i hi => by simp at hi⟩
theorem OwnZ.set {B e size n b k : Nat} {w : World} {v u : Value} {xs : List Value} (h : OwnZ B e size w v n xs) {cs : Array Value} {t : TypeId} {fr : Nat × Nat} (hb : w.heap[b]? = some (.cells cs t fr)) (ht : t ≠ e) : OwnZ B e size (w.setCell ⟨b, k, none⟩ u) v n xs := by
  rcases h with h | h
  · exact .inl (rk_set h hb ht)
  · exact .inr h

set_option maxHeartbeats 1000000 in
set_option maxRecDepth 100000 in
theorem icopyOfDisk_any {w : World} {v : Value} {d : PDisk} (h : DiskAt w v d) (hf : DiskFit d) :
    Calls Tryz.prog 65 #[v] w fun e w' => ∃ v', e = .returned v' ∧ OwnDz w.heap.size w' v' d ∧ Below w.heap.size w w' := by
  obtain ⟨sa, sn, sc, la, ln, lc, rfl, h1, h2⟩ := h
  have f1 := hf.sl
  have f2 := hf.ll
  have H1 := (show Hid (Sv 1 w (.slice sa sn sc) (strCells d.safe)) from h1)
  have H2 := (show Hid (Sv 2 w (.slice la ln lc) (putCells d.late)) from h2)
  clear h1 h2 hf
  obtain ⟨w1, hw1⟩ : ∃ x, x = (w.alloc (.cells #[.slice sa sn sc, .slice la ln lc] 35)).alloc (.cells #[.slice none 0 0, .slice none 0 0] 35) := ⟨_, rfl⟩
  have b1 : Below w.heap.size w w1 := by rw [hw1]; exact ((Below.refl _ _).alloc (Nat.le_refl _) _).alloc (by simp) _
  have x1 : w1.heap[w.heap.size]? = some (.cells #[.slice sa sn sc, .slice la ln lc] 35 (0, 0)) := by rw [hw1, Below.heap_alloc _ _ _ (by simp)]; exact World.alloc_heap_new _ _
  have x2 : w1.heap[w.heap.size + 1]? = some (.cells #[.slice none 0 0, .slice none 0 0] 35 (0, 0)) := by
    rw [hw1]
    have := World.alloc_heap_new (w.alloc (.cells #[.slice sa sn sc, .slice la ln lc] 35)) (.cells #[.slice none 0 0, .slice none 0 0] 35)
    rwa [World.size_alloc] at this
  have X1 := (show Hid _ from x1)
  have X2 := (show Hid _ from x2)
  have B1 := (show Hid (Below w.heap.size w w1) from b1)
  obtain ⟨q1, q2, _, _⟩ := rk_two x1
  clear b1 x1 x2
  go_enter Tryz.func65, Tryz.ntmps65
  go_wp2_with fail
  rw [← hw1]
  clear hw1
  have BD := (show Hid (Below w1.heap.size w1 w1.drew) from below_drewN 1)
  go_region_with (first
    | (go_at_call 83
       refine (icopyS_any (H1.out.below (B1.out.trans (BD.out.mono B1.out.size))) (m := d.safe.length) (by rw [strCells_len]; omega) f1).mono ?_
       rintro e w2 ⟨v2, rfl, o2, b2⟩
       have B2 := (show Hid (Below w1.heap.size w1 w2) from BD.out.trans (b2.mono BD.out.size))
       obtain ⟨ta, tn, tc, rfl⟩ := o2.slice
       have y1 := (B2.out.block _ (lt_of_block X1.out)).trans X1.out
       obtain ⟨q1, q2, _, _⟩ := rk_two y1
       have O2 := (show Hid (OwnZ w.heap.size 9 1 w2 (.slice ta tn tc) d.safe.length (strCells d.safe)) from o2.base (Nat.le_trans B1.out.size BD.out.size))
       clear y1 o2 b2)
    | (go_at_call 84
       refine (icopyP_any (H2.out.below (B1.out.trans (B2.out.mono B1.out.size))) (m := d.late.length) (by rw [putCells_len]) f2).mono ?_
       rintro e w3 ⟨v3, rfl, o3, b3⟩
       have B3 := (show Hid (Below w1.heap.size w1 w3) from B2.out.trans (b3.mono B2.out.size))
       obtain ⟨ma, mn, mc, rfl⟩ := o3.slice
       have y2 := (B3.out.block _ (lt_of_block X2.out)).trans X2.out
       obtain ⟨r1, r2, r3, r4⟩ := rk_two y2
       have O3 := (show Hid (OwnZ w.heap.size 88 2 w3 (.slice ma mn mc) d.late.length (putCells d.late)) from o3.base (Nat.le_trans B1.out.size B2.out.size))
       have O23 := (show Hid (OwnZ w.heap.size 9 1 w3 (.slice ta tn tc) d.safe.length (strCells d.safe)) from O2.out.below b3)
       have Y2 := (show Hid _ from y2)
       clear y2 o3 b3 O2))
  all_goals go_wp2
  all_goals
    have s1 := rk_at (k := 0) (u := .slice ta tn tc) Y2.out
    have s2 := rk_at (k := 1) (u := .slice ma mn mc) s1
    refine bodyPost_ret (results_cell_row rfl _ _ (w.heap.size + 1) 35 #[.slice ta tn tc, .slice ma mn mc] (0, 0) _ rfl s2 Tryz.underlying35 rfl rfl) rfl ?_
    exact ⟨_, rfl, ⟨_, _, _, _, _, _, rfl, (O23.out.set (k := 0) Y2.out (by decide)).set (k := 1) s1 (by decide), (O3.out.set (k := 0) Y2.out (by decide)).set (k := 1) s1 (by decide)⟩, ((B1.out.trans (B3.out.mono B1.out.size)).setCell (Nat.le_succ _) _).setCell (Nat.le_succ _) _⟩

end Go.Proofs.YtokkigfjabbdaaaGreatDoor

/- Marks of a disk whose rows may be empty without room. No condition. -/
namespace Go.Proofs.YtokkigfjabbdaaaGreatDoor
open Go.RowKit
set_option maxRecDepth 100000
set_option linter.unusedVariables false

/-- The block that a slice can be written through. -/
def zB : Value → Option Nat
  | .slice (some a) _ (_ + 1) => some a.block
  | _ => none
/-- A row that is empty and has no room, or one of the call's own. -/
def OwnY (B e size : Nat) (w : World) (v : Value) (n : Nat) (xs : List Value) : Prop :=
  (n = 0 ∧ xs = [] ∧ ∃ a, v = .slice a 0 0 ∧ (a = none → True)) ∨ (w.ownsRow B e size v n xs ∧ ∃ g m c, v = .slice (some ⟨g, 0, none⟩) m (c + 1))
theorem OwnY.of {B e size n : Nat} {w : World} {v : Value} {xs : List Value} (h : OwnZ B e size w v n xs) : OwnY B e size w v n xs := by
  rcases h with h | ⟨h1, h2, a, h3⟩
  · have h' := h
    obtain ⟨hl, ⟨hv, h0⟩ | ⟨g, cap, cur, hv, hB, hh, hn, hm, hs, ht⟩⟩ := h'
    · subst h0
      exact .inl ⟨rfl, List.length_eq_zero_iff.mp (by simpa using hl), none, hv, fun _ => trivial⟩
    · cases cap with
      | zero =>
        obtain rfl : n = 0 := by omega
        exact .inl ⟨rfl, List.length_eq_zero_iff.mp (by simpa using hl), _, hv, fun _ => trivial⟩
      | succ c => exact .inr ⟨h, g, n, c, hv⟩
  · exact .inl ⟨h1, h2, some a, h3, fun _ => trivial⟩
theorem OwnY.below {B e size n : Nat} {w w' : World} {v : Value} {xs : List Value} (h : OwnY B e size w v n xs) (b : Below w.heap.size w w') : OwnY B e size w' v n xs := by
  rcases h with h | ⟨h, k⟩
  · exact .inl h
  · exact .inr ⟨ownsRow_below h b, k⟩
theorem OwnY.sv {B e size n : Nat} {w : World} {v : Value} {xs : List Value} (h : OwnY B e size w v n xs) : Sv size w v xs := by
  rcases h with ⟨rfl, rfl, a, rfl, _⟩ | ⟨h, _⟩
  · exact ⟨a, 0, 0, rfl, by simp, Nat.le_refl _, Nat.zero_le _, fun _ => rfl, fun i hi => by simp at hi⟩
  · exact sv_of_own h
theorem OwnY.lt {B e size n : Nat} {w : World} {v : Value} {xs : List Value} (h : OwnY B e size w v n xs) (j : Nat) (hj : zB v = some j) : B ≤ j ∧ j < w.heap.size := by
  rcases h with ⟨_, _, a, rfl, _⟩ | ⟨h, g, m, c, rfl⟩
  · cases a <;> cases hj
  · cases hj; exact World.ownsRow.lt h _ rfl
theorem OwnY.kind {B e size n : Nat} {w : World} {v : Value} {xs : List Value} (h : OwnY B e size w v n xs) {j : Nat} (hj : zB v = some j) : ∃ cs fr, w.heap[j]? = some (.cells cs e fr) := by
  rcases h with ⟨_, _, a, rfl, _⟩ | ⟨h, g, m, c, rfl⟩
  · cases a <;> cases hj
  · cases hj; exact rk_kind h rfl
theorem TwoFr.rowY {r s : Option Nat} {B e size n : Nat} {w w' : World} {v : Value} {xs : List Value} (h : TwoFr r s w w') (ho : OwnY B e size w v n xs) (hr : ∀ j, zB v = some j → some j ≠ r) (hs : ∀ j, zB v = some j → some j ≠ s) : OwnY B e size w' v n xs := by
  rcases ho with ho | ⟨ho, g, m, c, rfl⟩
  · exact .inl ho
  · refine .inr ⟨h.row ho (fun j e => ?_) (fun j e => ?_), g, m, c, rfl⟩
    · cases e; exact hr g rfl
    · cases e; exact hs g rfl
theorem TwoFr.varY {r s : Option Nat} {B size n B' size' n' e e' : Nat} {w w' : World} {v u : Value} {xs ys : List Value} (h : TwoFr r s w w') (o1 : OwnY B e size w v n xs) (o2 : OwnY B' e' size' w u n' ys) (h1 : zB v = r) (h2 : zB u = s)
    {j : Nat} {cs : Array Value} {t : TypeId} {fr : Nat × Nat} (hj : w.heap[j]? = some (.cells cs t fr)) (t1 : t ≠ e) (t2 : t ≠ e') : w'.heap[j]? = some (.cells cs t fr) := by
  refine (h.block j (lt_of_block hj) (fun er => ?_) (fun er => ?_)).trans hj
  · obtain ⟨c2, f2, k2⟩ := o1.kind (h1.trans er.symm)
    rw [hj] at k2; cases k2; exact t1 rfl
  · obtain ⟨c2, f2, k2⟩ := o2.kind (h2.trans er.symm)
    rw [hj] at k2; cases k2; exact t2 rfl

set_option maxHeartbeats 2000000 in
set_option maxRecDepth 100000 in
theorem markStringS_Y {B : Nat} {v : Value} {rs : List ByteArray} {w : World} (h : OwnY B 9 1 w v rs.length (strCells rs)) (k0 : Int) (h0 : 0 ≤ k0) (hk : k0 ≤ 4000000) (hn : rs.length ≤ 4000000) :
    Calls Tryz.prog 16 #[v, .int .i64 k0] w fun e w' => e = .returned (.int .i64 (k0 + rs.length)) ∧ OwnY B 9 1 w' v rs.length (strCells (markStrs k0 rs.length)) ∧ w.grownBy w' (zB v) := by
  rcases h with ⟨hz, hx, a, rfl, ha⟩ | ⟨h, g, m, c, rfl⟩
  · have hr : rs = [] := List.length_eq_zero_iff.mp hz
    subst hr
    have hb : zB (.slice a 0 0) = none := by cases a <;> rfl
    rw [hb]
    go_enter Tryz.func16, Tryz.ntmps16
    go_wp2
    go_loop [1, 5] (fun q i => i = .int .i64 0 ∧ q = .int .i64 k0) (fun _ _ => 0)
    case atStart => exact ⟨rfl, rfl⟩
    case round =>
      obtain ⟨rfl, rfl⟩ := hrel
      go_wp2
      go_ret
      exact ⟨ret_int (by simp), .inl ⟨rfl, rfl, a, rfl, ha⟩, World.grownBy.refl _ _⟩
  · refine (markStringS_any h k0 h0 hk hn).mono ?_
    rintro e w' ⟨rfl, o, gr⟩
    exact ⟨rfl, .inr ⟨o, g, m, c, rfl⟩, gr⟩

set_option maxHeartbeats 2000000 in
set_option maxRecDepth 100000 in
theorem markPutS_Y {B : Nat} {v : Value} {rs : List (Int × ByteArray)} {w : World} (h : OwnY B 88 2 w v rs.length (putCells rs)) (k0 : Int) (h0 : 0 ≤ k0) (hk : k0 ≤ 4000000) (hn : rs.length ≤ 4000000) :
    Calls Tryz.prog 71 #[v, .int .i64 k0] w fun e w' => e = .returned (.int .i64 (k0 + 2 * rs.length)) ∧ OwnY B 88 2 w' v rs.length (putCells (markPuts k0 rs.length)) ∧ w.grownBy w' (zB v) := by
  rcases h with ⟨hz, hx, a, rfl, ha⟩ | ⟨h, g, m, c, rfl⟩
  · have hr : rs = [] := List.length_eq_zero_iff.mp hz
    subst hr
    have hb : zB (.slice a 0 0) = none := by cases a <;> rfl
    rw [hb]
    go_enter Tryz.func71, Tryz.ntmps71
    go_wp2
    go_loop [1, 5] (fun q i => i = .int .i64 0 ∧ q = .int .i64 k0) (fun _ _ => 0)
    case atStart => exact ⟨rfl, rfl⟩
    case round =>
      obtain ⟨rfl, rfl⟩ := hrel
      go_wp2
      go_ret
      exact ⟨ret_int (by simp), .inl ⟨rfl, rfl, a, rfl, ha⟩, World.grownBy.refl _ _⟩
  · refine (markPutS_any h k0 h0 hk hn).mono ?_
    rintro e w' ⟨rfl, o, gr⟩
    exact ⟨rfl, .inr ⟨o, g, m, c, rfl⟩, gr⟩
theorem OwnY.other {B e size n B' e' size' n' : Nat} {w w' : World} {v u : Value} {xs ys : List Value} (h : OwnY B e size w v n xs) (g : w.grownBy w' (zB v)) (o : OwnY B' e' size' w u n' ys) (ht : e ≠ e') : OwnY B' e' size' w' u n' ys := by
  rcases o with o | ⟨o, k⟩
  · exact .inl o
  · exact .inr ⟨rk_type o g (fun r er => by obtain ⟨c, f, hh⟩ := h.kind er; exact ⟨c, e, f, hh, ht⟩), k⟩

set_option maxHeartbeats 2000000 in
set_option maxRecDepth 100000 in
theorem markDisk_Y {B : Nat} {d : PDisk} {w : World} {sa : Option Addr} {sn sc : Nat} {la : Option Addr} {ln lc : Nat} (h1 : OwnY B 9 1 w (.slice sa sn sc) d.safe.length (strCells d.safe)) (h2 : OwnY B 88 2 w (.slice la ln lc) d.late.length (putCells d.late)) (hf : DiskFit d) :
    Calls Tryz.prog 41 #[.agg #[.slice sa sn sc, .slice la ln lc], .int .i64 1] w fun e w' => e = .returned (.int .i64 (1 + d.safe.length + 2 * d.late.length)) ∧ OwnY B 9 1 w' (.slice sa sn sc) d.safe.length (strCells (markStrs 1 d.safe.length)) ∧ OwnY B 88 2 w' (.slice la ln lc) d.late.length (putCells (markPuts (1 + d.safe.length) d.late.length)) ∧
      TwoFr (zB (Value.slice sa sn sc)) (zB (Value.slice la ln lc)) w w' := by
  have f1 := hf.sl
  have f2 := hf.ll
  have H1 := (show Hid (OwnY B 9 1 w (.slice sa sn sc) d.safe.length (strCells d.safe)) from h1)
  have H2 := (show Hid (OwnY B 88 2 w (.slice la ln lc) d.late.length (putCells d.late)) from h2)
  clear h1 h2 hf
  obtain ⟨w1, hw1⟩ : ∃ x, x = w.alloc (.cells #[.slice sa sn sc, .slice la ln lc] 35) := ⟨_, rfl⟩
  have b1 : Below w.heap.size w w1 := by rw [hw1]; exact (Below.refl _ _).alloc (Nat.le_refl _) _
  have x1 : w1.heap[w.heap.size]? = some (.cells #[.slice sa sn sc, .slice la ln lc] 35 (0, 0)) := by rw [hw1]; exact World.alloc_heap_new _ _
  have X1 := (show Hid _ from x1)
  clear x1
  go_enter Tryz.func41, Tryz.ntmps41
  go_wp2_with fail
  go_at_call 16
  rw [← hw1]
  refine (markStringS_Y (H1.out.below b1) 1 (by decide) (by decide) (by omega)).mono ?_
  rintro x w2 ⟨rfl, o2, g2⟩
  clear hw1
  have hne : some w.heap.size ≠ zB (Value.slice sa sn sc) := fun e => by
    have := (H1.out.lt w.heap.size e.symm).2
    omega
  have y1 := (g2.block _ (lt_of_block X1.out) hne).trans X1.out
  obtain ⟨_, c2, _, _⟩ := rk_two y1
  have p2 : OwnY B 88 2 w2 (.slice la ln lc) d.late.length (putCells d.late) := (H1.out.below b1).other g2 (H2.out.below b1) (by decide)
  have O2 := (show Hid (OwnY B 9 1 w2 (.slice sa sn sc) d.safe.length (strCells (markStrs 1 d.safe.length))) from o2)
  have P2 := (show Hid (OwnY B 88 2 w2 (.slice la ln lc) d.late.length (putCells d.late)) from p2)
  have G2 := (show Hid (w1.grownBy w2 (zB (Value.slice sa sn sc))) from g2)
  have B1 := (show Hid (Below w.heap.size w w1) from b1)
  clear o2 p2 g2 y1 b1 X1
  go_wp2_with fail
  go_at_call 71
  refine (markPutS_Y P2.out (1 + d.safe.length) (by omega) (by omega) (by omega)).mono ?_
  rintro x w3 ⟨rfl, o3, g3⟩
  have p3 : OwnY B 9 1 w3 (.slice sa sn sc) d.safe.length (strCells (markStrs 1 d.safe.length)) := by
    have hl : (markStrs 1 d.safe.length).length = d.safe.length := markStrs_len _ _
    exact P2.out.other g3 O2.out (by decide)
  have fr : TwoFr (zB (Value.slice sa sn sc)) (zB (Value.slice la ln lc)) w w3 := ⟨g3.os.trans (G2.out.os.trans B1.out.os), g3.tape.trans (G2.out.tape.trans B1.out.tape), g3.output.trans (G2.out.output.trans B1.out.output), Nat.le_trans B1.out.size (Nat.le_trans G2.out.size g3.size),
    fun j hj h1 h2 => (g3.block j (Nat.lt_of_lt_of_le hj (Nat.le_trans B1.out.size G2.out.size)) h2).trans ((G2.out.block j (Nat.lt_of_lt_of_le hj B1.out.size) h1).trans (B1.out.block j hj))⟩
  have O3 := (show Hid (OwnY B 88 2 w3 (.slice la ln lc) d.late.length (putCells (markPuts (1 + d.safe.length) d.late.length))) from o3)
  have P3 := (show Hid (OwnY B 9 1 w3 (.slice sa sn sc) d.safe.length (strCells (markStrs 1 d.safe.length))) from p3)
  have FR := (show Hid (TwoFr (zB (Value.slice sa sn sc)) (zB (Value.slice la ln lc)) w w3) from fr)
  clear o3 p3 fr g3
  go_wp2
  go_ret
  exact ⟨rfl, P3.out, O3.out, FR.out⟩
end Go.Proofs.YtokkigfjabbdaaaGreatDoor
