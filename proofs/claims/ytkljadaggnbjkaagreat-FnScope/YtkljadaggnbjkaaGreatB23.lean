import Derived.Test.YtkljadaggnbjkaaGreatB20
import Derived.Test.YtkljadaggnbjkaaGreatB22
import Derived.Test.YtkljadaggnbjkaaGreatB16
import Derived.Test.YtkljadaggnbjkaaGreatB14
import Derived.Test.YtkljadaggnbjkaaGreatB11
import Derived.Test.YtkljadaggnbjkaaGreatB15
import Derived.Test.YtkljadaggnbjkaaGreatB2
/- Scopes, in plain words, and the specification's l10Scope and InScope. No condition. -/
namespace Go.Proofs.YtkljadaggnbjkaaGreat
open Go.RowKit
set_option maxRecDepth 100000
set_option linter.unusedVariables false

/-- The name bounds a scope of that kind. -/
def bnd (kind : Int) (s : ByteArray) : Bool := hasB bounds s || (decide (kind = 2) && (decide (s = ⟨#[111, 108]⟩) || decide (s = ⟨#[117, 108]⟩)) || decide (kind = 3) && decide (s = ⟨#[98, 117, 116, 116, 111, 110]⟩))
/-- Where the search ends: at one of that name, or at a boundary. -/
def halts (ns : List PNode) (nm : ByteArray) (kind : Int) (x : Int) : Bool := decide (nmOf ns x = nm) || bnd kind (nmOf ns x)
def scopeB (ns : List PNode) (nm : ByteArray) (kind : Int) (row : List Int) : Bool :=
  decide (0 < lastAt (halts ns nm kind) row row.length) && decide (nmOf ns (row.getD (lastAt (halts ns nm kind) row row.length - 1) 0) = nm)
theorem scopeB_none {ns : List PNode} {nm : ByteArray} {kind : Int} {row : List Int} (h : lastAt (halts ns nm kind) row row.length = 0) : scopeB ns nm kind row = false := by rw [scopeB, h]; rfl
theorem scopeB_at {ns : List PNode} {nm : ByteArray} {kind : Int} {row : List Int} {k : Nat} (h : lastAt (halts ns nm kind) row row.length = k + 1) : scopeB ns nm kind row = decide (nmOf ns (row.getD k 0) = nm) := by
  rw [scopeB, h]
  simp

set_option maxHeartbeats 2000000 in
set_option maxRecDepth 100000 in
theorem sscope_any {w : World} {v rv : Value} {ns : List PNode} {row : List Int} (hn : NodesAt w v ns) (hlen : ns.length ≤ 1048576) (hr : Sl .i64 w rv row) (hrow : RowP ns row) (nm : ByteArray) (kind : Int) (hk1 : 1 ≤ kind) (hk3 : kind ≤ 3) :
    Calls Tryz.prog 36 #[.agg #[v], rv, .string nm, .int .i64 kind] w fun e w' => e = .returned (.bool (scopeB ns nm kind row)) ∧ Below w.heap.size w w' := by
  have HR := (show Hid (RowP ns row) from hrow)
  have hrl := hrow.len
  obtain ⟨a, cap, rfl, hc1, hc2, hcs⟩ := hn.slice
  obtain ⟨ra, rc, rfl, j1, j2, j3, hra⟩ := hr
  have HRA := (show Hid _ from hra)
  have HCS := (show Hid _ from hcs)
  clear hn hra hcs hrow j1 j2 j3
  obtain ⟨w1, hw1⟩ : ∃ w1, w1 = w.alloc (.cells #[.slice a ns.length cap] 26) := ⟨_, rfl⟩
  have b1 : Below w.heap.size w w1 := by rw [hw1]; exact (Below.refl _ _).alloc (Nat.le_refl _) _
  have g1 : w1.heap[w.heap.size]? = some (.cells #[.slice a ns.length cap] 26 (0, 0)) := by rw [hw1]; exact World.alloc_heap_new _ _
  have cT : w1.cell? ⟨w.heap.size, 0, none⟩ = some (.slice a ns.length cap) := by simp only [World.cell?, g1]; rfl
  have hs1 := blk_lt g1
  have HCT := (show Hid _ from cT)
  have ne := Wd.any w1.heap.size w1
  go_enter Tryz.func36, Tryz.ntmps36
  go_wp2
  rw [← hw1]
  clear hw1 g1 cT
  go_loopw [9] (fun i wr => ∃ k : Nat, k ≤ row.length ∧ i = .int .i64 ((k : Int) - 1) ∧ lastAt (halts ns nm kind) row row.length = lastAt (halts ns nm kind) row k ∧ Below w1.heap.size w1 wr) (fun i _ => (intOf i + 1).toNat)
  case atStart => exact ⟨row.length, Nat.le_refl _, by go_num, rfl, Below.refl _ _⟩
  case round =>
    obtain ⟨k, hk, rfl, he, bel⟩ := hrel
    have HE := (show Hid (lastAt (halts ns nm kind) row row.length = lastAt (halts ns nm kind) row k) from he)
    clear he
    cases k with
    | zero =>
      go_wp2
      go_ret
      exact ⟨by rw [scopeB_none HE.out]; rfl, b1.trans (bel.mono b1.size)⟩
    | succ k =>
      have hs : ((k + 1 : Nat) : Int) - 1 = (k : Int) := by omega
      have hlt : k < row.length := by omega
      obtain ⟨rb, ro, rfl, c1⟩ := HRA.out k hlt
      have hrb := lt_of_cell c1
      have HX : Hid (row.getD k 0 = row[k]) := (show row.getD k 0 = row[k] by simp [List.getD_eq_getElem?_getD, hlt])
      obtain ⟨m, hm, hmlt⟩ := elB_at (HR.out.el k hlt)
      have HG : Hid (row.getD k 0 = (m : Int)) := HX.out.trans hm
      rw [HG.out] at c1
      obtain ⟨b, off, av, kv, rfl, hblt, j1, d1, j2⟩ := HCS.out m hmlt
      have HNM : Hid (nmOf ns (row.getD k 0) = ns[m].name) := (show nmOf ns (row.getD k 0) = ns[m].name by rw [HG.out, nmOf_at hmlt])
      obtain ⟨y, hy⟩ : ∃ y, y = ns[m].name := ⟨_, rfl⟩
      rw [← hy] at d1 HNM
      have HHL : Hid (halts ns nm kind (row.getD k 0) = (decide (y = nm) || bnd kind y)) := (show halts ns nm kind (row.getD k 0) = _ by rw [halts, HNM.out])
      have f0 : ∀ n : Wd w1.heap.size w1, n.w.cell? ⟨w.heap.size, 0, none⟩ = some (.slice (some ⟨b, off, none⟩) ns.length cap) := fun n => (n.below.cell (p := ⟨w.heap.size, 0, none⟩) hs1).trans HCT.out
      have f1 : ∀ n : Wd w1.heap.size w1, n.w.cell? ⟨rb, ro + k, none⟩ = some (.int .i64 m) := fun n => ((b1.trans (n.below.mono b1.size)).cell (p := ⟨rb, ro + k, none⟩) hrb).trans c1
      have f2 : ∀ n : Wd w1.heap.size w1, n.w.cell? ⟨b, off + m * 6 + 1, none⟩ = some (.string y) := fun n => ((b1.trans (n.below.mono b1.size)).cell (p := ⟨b, off + m * 6 + 1, none⟩) hblt).trans d1
      rw [hs]
      clear hy c1 d1 hm hs j1 j2
      go_wp2
      refine wp_region_below (by kernel_rfl) (by kernel_rfl) bel ?_
      repeat (go_big_quiet_step (fail))
      refine wpQuiet_nil ?_
      intro wq hq
      replace hq := Wd.of hq
      clear f0 f1 f2
      have HQ := (show Hid _ from hq)
      clear hq
      by_cases hq1 : y = nm
      · have HT : Hid (halts ns nm _ (row.getD k 0) = true) := HHL.out.trans (by rw [decide_eq_true hq1]; rfl)
        have HEQ := (show Hid (y = nm) from hq1)
        subst hq1
        go_wp2
        go_ret
        exact ⟨by rw [scopeB_at (HE.out.trans (lastAt_yes HT.out)), HNM.out, decide_eq_true rfl]; rfl, b1.trans (HQ.out.mono b1.size)⟩
      · have hd0 := toList_ne hq1
        have HNE := (show Hid (¬ y = nm) from hq1)
        rw [decide_eq_false hq1, Bool.false_or] at HHL
        clear hq1
        go_wp2_with fail
        go_at_call 65
        refine Calls.mono (sisBound_any y wq) ?_
        rintro e w3 ⟨rfl, b3⟩
        have HQ2 := (show Hid (Below w1.heap.size w1 w3) from HQ.out.trans (b3.mono HQ.out.size))
        clear b3 HQ hd0
        unfold bnd at HHL
        cases hbb : hasB bounds y with
        | true =>
          rw [hbb, Bool.true_or] at HHL
          clear hbb
          have HT : Hid (halts ns nm _ (row.getD k 0) = true) := HHL.out.trans (rfl)
          clear HHL
          go_wp2
          go_ret
          exact ⟨by rw [scopeB_at (HE.out.trans (lastAt_yes HT.out)), HNM.out, decide_eq_false HNE.out]; rfl, b1.trans (HQ2.out.mono b1.size)⟩
        | false =>
          rw [hbb, Bool.false_or] at HHL
          clear hbb
          rcases (show kind = 1 ∨ kind = 2 ∨ kind = 3 by omega) with rfl | rfl | rfl
          · skip
            have HF : Hid (halts ns nm _ (row.getD k 0) = false) := HHL.out.trans (by simp)
            clear HHL
            go_wp2
            go_roundw
            case rel => exact ⟨k, by omega, by go_num, by rw [HE.out, lastAt_no HF.out], HQ2.out⟩
            case measure => simp [intOf]
          · by_cases ho : y = ⟨#[111, 108]⟩
            · subst ho
              have HT : Hid (halts ns nm _ (row.getD k 0) = true) := HHL.out.trans (by simp)
              clear HHL
              go_wp2
              go_ret
              exact ⟨by rw [scopeB_at (HE.out.trans (lastAt_yes HT.out)), HNM.out, decide_eq_false HNE.out]; rfl, b1.trans (HQ2.out.mono b1.size)⟩
            · have hd1 := toList_ne ho
              have p1n : ¬ y.toList = [111, 108] := by simpa using hd1
              have p1e : (y.toList == [111, 108]) = false := by simp [p1n]
              clear hd1
              by_cases hu : y = ⟨#[117, 108]⟩
              · subst hu
                have HT : Hid (halts ns nm _ (row.getD k 0) = true) := HHL.out.trans (by simp)
                clear HHL
                go_wp2
                go_ret
                exact ⟨by rw [scopeB_at (HE.out.trans (lastAt_yes HT.out)), HNM.out, decide_eq_false HNE.out]; rfl, b1.trans (HQ2.out.mono b1.size)⟩
              · have hd2 := toList_ne hu
                have p2n : ¬ y.toList = [117, 108] := by simpa using hd2
                have p2e : (y.toList == [117, 108]) = false := by simp [p2n]
                clear hd2
                have HU := (show Hid _ from And.intro ho hu)
                clear ho hu
                have HF : Hid (halts ns nm _ (row.getD k 0) = false) := HHL.out.trans (by simpa using HU.out)
                clear HHL
                go_wp2
                go_roundw
                case rel => exact ⟨k, by omega, by go_num, by rw [HE.out, lastAt_no HF.out], HQ2.out⟩
                case measure => simp [intOf]
          · by_cases ho : y = ⟨#[98, 117, 116, 116, 111, 110]⟩
            · subst ho
              have HT : Hid (halts ns nm _ (row.getD k 0) = true) := HHL.out.trans (by simp)
              clear HHL
              go_wp2
              go_ret
              exact ⟨by rw [scopeB_at (HE.out.trans (lastAt_yes HT.out)), HNM.out, decide_eq_false HNE.out]; rfl, b1.trans (HQ2.out.mono b1.size)⟩
            · have hd1 := toList_ne ho
              have p1n : ¬ y.toList = [98, 117, 116, 116, 111, 110] := by simpa using hd1
              have p1e : (y.toList == [98, 117, 116, 116, 111, 110]) = false := by simp [p1n]
              clear hd1
              have HU := (show Hid _ from ho)
              clear ho
              have HF : Hid (halts ns nm _ (row.getD k 0) = false) := HHL.out.trans (by simpa using HU.out)
              clear HHL
              go_wp2
              go_roundw
              case rel => exact ⟨k, by omega, by go_num, by rw [HE.out, lastAt_no HF.out], HQ2.out⟩
              case measure => simp [intOf]

theorem sinScope_any {w : World} {v rv : Value} {ns : List PNode} {row : List Int} (hn : NodesAt w v ns) (hfit : ∀ n ∈ ns, NodeFit n) (hlen : ns.length ≤ 1048576) (hr : Sl .i64 w rv row) (hrl : row.length ≤ 1048576) (nm : ByteArray) (kind : Int) :
    Calls Tryz.prog 16 #[.agg #[v], rv, .string nm, .int .i64 kind] w fun e w' => ∃ r, e = .returned (.bool r) ∧ (r = true ↔ (STreeOkP ns ∧ RowP ns row) ∧ (1 ≤ kind ∧ kind ≤ 3) ∧ scopeB ns nm kind row = true) ∧ Below w.heap.size w w' := by
  have HN := (show Hid (NodesAt w v ns) from hn)
  have HR := (show Hid (Sl .i64 w rv row) from hr)
  have HFIT := (show Hid _ from hfit)
  obtain ⟨a, cap, rfl, hc1, hc2, j1⟩ := hn.slice
  obtain ⟨ra, rc, rfl, j2, j3, j4, hra⟩ := hr
  clear hn hra hfit j1 j2 j3 j4
  obtain ⟨w1, hw1⟩ : ∃ w1, w1 = w.alloc (.cells #[.slice a ns.length cap] 26) := ⟨_, rfl⟩
  have b1 : Below w.heap.size w w1 := by rw [hw1]; exact (Below.refl _ _).alloc (Nat.le_refl _) _
  have g1 : w1.heap[w.heap.size]? = some (.cells #[.slice a ns.length cap] 26 (0, 0)) := by rw [hw1]; exact World.alloc_heap_new _ _
  have HG1 := (show Hid _ from g1)
  clear g1
  go_enter Tryz.func16, Tryz.ntmps16
  go_wp2_with fail
  go_at_call 11
  rw [← hw1]
  clear hw1
  refine Calls.mono (sstackOk_any (HN.out.below b1) HFIT.out hlen (HR.out.below b1) hrl) ?_
  rintro e w2 ⟨r1, rfl, hr1, b2⟩
  have hb := b1.trans (b2.mono b1.size)
  have cT : w2.cell? ⟨w.heap.size, 0, none⟩ = some (.slice a ns.length cap) := by
    have := (b2.block _ (blk_lt HG1.out)).trans HG1.out
    simp only [World.cell?, this]; rfl
  clear b2
  cases r1
  · have HF : Hid (¬ (STreeOkP ns ∧ RowP ns row)) := fun h => by have := hr1.mpr h; cases this
    clear hr1
    go_wp2
    go_ret
    exact ⟨false, rfl, ⟨fun h => (by cases h), fun h => absurd h.1 HF.out⟩, hb⟩
  · have HT : Hid (STreeOkP ns ∧ RowP ns row) := hr1.mp rfl
    clear hr1
    have CI := (show Hid _ from l1In_any kind 1 3)
    by_cases hk : 1 ≤ kind ∧ kind ≤ 3
    · rw [inB_yes hk.1 hk.2] at CI
      have CS := (show Hid _ from sscope_any (HN.out.below hb) hlen (HR.out.below hb) HT.out.2 nm kind hk.1 hk.2)
      have HK := (show Hid (1 ≤ kind ∧ kind ≤ 3) from hk)
      obtain ⟨q, hq⟩ : ∃ q, q = scopeB ns nm kind row := ⟨_, rfl⟩
      rw [← hq] at CS
      have HQS := (show Hid (q = scopeB ns nm kind row) from hq)
      clear hq hk
      go_wp2_with fail
      go_at_call 35
      refine Calls.mono (CI.out _) ?_
      rintro e w3 ⟨rfl, rfl⟩
      go_wp2_with fail
      go_at_call 36
      refine Calls.mono CS.out ?_
      rintro e w4 ⟨rfl, b4⟩
      go_wp2
      go_ret
      exact ⟨q, rfl, ⟨fun h => ⟨HT.out, HK.out, by rw [← HQS.out]; exact h⟩, fun h => by rw [HQS.out]; exact h.2.2⟩, hb.trans (b4.mono hb.size)⟩
    · rw [inB_no (by omega)] at CI
      have HK := (show Hid (¬ (1 ≤ kind ∧ kind ≤ 3)) from hk)
      clear hk
      go_wp2_with fail
      go_at_call 35
      refine Calls.mono (CI.out _) ?_
      rintro e w3 ⟨rfl, rfl⟩
      go_wp2
      go_ret
      exact ⟨false, rfl, ⟨fun h => (by cases h), fun h => absurd h.2.1 HK.out⟩, hb⟩
end Go.Proofs.YtkljadaggnbjkaaGreat

/- The program's scopeOf and InScope (its first part written by mk/iscope.py of ISet.lean). No condition. -/
namespace Go.Proofs.YtkljadaggnbjkaaGreat
open Go.RowKit Go.Maps
set_option maxRecDepth 100000
set_option linter.unusedVariables false

/-- The block g holds slices of names; some may be nil. -/
def Rows2 (w : World) (g : Nat) (ps : List (Option Addr × List ByteArray)) : Prop :=
  g < w.heap.size ∧ ∀ k (hk : k < ps.length), w.cell? ⟨g, k, none⟩ = some (.slice ps[k].1 ps[k].2.length ps[k].2.length) ∧ ps[k].2.length ≤ 100 ∧ (∀ s ∈ ps[k].2, s.size ≤ 100) ∧ ∀ j (hj : j < ps[k].2.length), ∃ h, ps[k].1 = some ⟨h, 0, none⟩ ∧ h < w.heap.size ∧ w.cell? ⟨h, j, none⟩ = some (.string ps[k].2[j])

def allOf2 (ps : List (Option Addr × List ByteArray)) : List ByteArray := ps.flatMap (·.2)
theorem allOf2_succ {ps : List (Option Addr × List ByteArray)} {k : Nat} (h : k < ps.length) : allOf2 (ps.take (k + 1)) = allOf2 (ps.take k) ++ ps[k].2 := by
  unfold allOf2
  rw [List.take_succ_eq_append_getElem h, List.flatMap_append]
  simp

set_option maxHeartbeats 1000000 in
theorem nameSetOf_two {w : World} {g : Nat} {ps : List (Option Addr × List ByteArray)} (h : Rows2 w g ps) (hn : ps.length ≤ 10) {n : Nat} (hnn : n = ps.length) :
    Calls Tryz.prog 61 #[.slice (some ⟨g, 0, none⟩) n n] w fun e w' => ∃ m D, m ≤ 1000 ∧ e = .returned (.map (some w.heap.size)) ∧ w'.ownsMap Tryz.prog 9 unitElem w.heap.size m D ∧ SetOf D (allOf2 ps) ∧ Below w.heap.size w w' := by
  subst hnn
  have H : Hid (Rows2 w g ps) := h
  clear h
  have hmm := run_makeMapHint
  go_enter Tryz.func61, Tryz.ntmps61
  go_wp2
  go_loop [3, 13] (fun r i => ∃ (k m : Nat), k ≤ ps.length ∧ i = .int .i64 k ∧ r = .int .i64 m ∧ m ≤ 100 * k) (fun _ i => ps.length - (intOf i).toNat)
  case atStart => exact ⟨0, 0, Nat.zero_le _, rfl, rfl, by omega⟩
  case round =>
    obtain ⟨k, m, hk, rfl, rfl, hm⟩ := hrel
    by_cases hlt : k < ps.length
    · obtain ⟨c1, c4, c5, c3⟩ := H.out.2 k hlt
      obtain ⟨p, hp⟩ : ∃ p, p = ps[k] := ⟨_, rfl⟩
      rw [← hp] at c1 c4
      have HP := (show Hid _ from hp)
      clear hp c3 c5
      go_wp2
      go_round
      case rel => exact ⟨k + 1, m + p.2.length, by omega, by go_num, by go_num, by omega⟩
      case measure => simp [intOf]; omega
    · go_wp2
      go_loopw [26] (fun i wr => ∃ (k m : Nat) (D : DataW Unit), k ≤ ps.length ∧ i = .int .i64 k ∧ m ≤ 100 * k ∧ wr.ownsMap Tryz.prog 9 unitElem w.heap.size m D ∧ SetOf D (allOf2 (ps.take k)) ∧ Below w.heap.size w wr) (fun i _ => ps.length - (intOf i).toNat)
      case atStart => exact ⟨0, 0, .map [], Nat.zero_le _, rfl, by omega, World.ownsMap_made _ _ _ _, setOf_nil, (Below.refl _ _).alloc (Nat.le_refl _) _⟩
      case round =>
        obtain ⟨k2, m2, D2, hk2, rfl, hm2, own2, set2, bel2⟩ := hrel
        have S2 := (show Hid _ from set2)
        clear set2
        by_cases hlt2 : k2 < ps.length
        · obtain ⟨c1, c4, c5, c3⟩ := H.out.2 k2 hlt2
          obtain ⟨p, hp⟩ : ∃ p, p = ps[k2] := ⟨_, rfl⟩
          rw [← hp] at c1 c3 c4 c5
          obtain ⟨pa, pl⟩ := p
          simp only at c1 c3 c4 c5
          have HP := (show Hid _ from hp)
          have C3 := (show Hid _ from c3)
          have C5 := (show Hid _ from c5)
          have c1' := (bel2.cell H.out.1).trans c1
          clear hp c1 c3 c5
          go_wp2
          go_loopw [32] (fun j wr => ∃ (q m : Nat) (D : DataW Unit), q ≤ pl.length ∧ j = .int .i64 q ∧ m ≤ 100 * k2 + q ∧ wr.ownsMap Tryz.prog 9 unitElem w.heap.size m D ∧ SetOf D (allOf2 (ps.take k2) ++ pl.take q) ∧ Below w.heap.size w wr) (fun j _ => pl.length - (intOf j).toNat)
          case atStart => exact ⟨0, m2, D2, Nat.zero_le _, rfl, by omega, own2, by rw [List.take_zero, List.append_nil]; exact S2.out, bel2⟩
          case round =>
            clear own2 bel2 S2 c1'
            obtain ⟨q, m3, D3, hq, rfl, hm3, own3, set3, bel3⟩ := hrel
            have S3 := (show Hid _ from set3)
            clear set3
            by_cases hlt3 : q < pl.length
            · obtain ⟨x, hx⟩ : ∃ x, x = pl[q] := ⟨_, rfl⟩
              have hpa := C3.out q hlt3
              obtain ⟨gh, rfl, c2, c6⟩ := hpa
              replace c6 := (bel3.cell c2).trans c6
              have hsz : x.size ≤ 100 := hx ▸ C5.out _ (List.getElem_mem hlt3)
              have hkey := keyOf_set (s := x) (by unfold maxLen; omega)
              rw [← hx] at c6
              have HX := (show Hid _ from hx)
              clear hx
              go_wp2_with (at_mapUpdate; refine wpList_mapUpdate_own _ rfl _ _ _ 78 rfl 9 96 lawSet Tryz.underlying78 (unitElem (H := Unit)) w.heap.size m3 _ rfl own3 (by unfold maxLen; omega) _ _ _ rfl rfl hkey _ [] unitElem_mk ?_; intro w1 own1 grow1)
              go_roundw
              case rel => exact ⟨q + 1, m3 + 1, _, by omega, by go_num, by omega, own1, (by
                rw [take_one hlt3, ← List.append_assoc, ← HX.out]
                exact SetOf.put S3.out x own1.isMap rfl), bel3.grown grow1 bel3.size (fun j hj => by cases hj; exact Nat.le_refl _)⟩
              case measure => simp [intOf]; omega
            · go_wp2
              go_roundw
              case rel => exact ⟨k2 + 1, m3, D3, by omega, by go_num, by omega, own3, (by
                rw [allOf2_succ hlt2, ← HP.out]
                have := S3.out
                rwa [show q = pl.length by omega, List.take_length] at this), bel3⟩
              case measure => simp [intOf]; omega
        · go_wp2
          go_ret
          exact ⟨m2, D2, by omega, rfl, own2, by have := S2.out; rwa [show k2 = ps.length by omega, List.take_length] at this, bel2⟩

/-- What bounds a scope besides. -/
def moreOf (kind : Int) : List ByteArray := if kind = 2 then [⟨#[111, 108]⟩, ⟨#[117, 108]⟩] else if kind = 3 then [⟨#[98, 117, 116, 116, 111, 110]⟩] else []
theorem toList_dec (s t : ByteArray) : (s.toList == t.toList) = decide (s = t) := by
  by_cases h : s = t
  · subst h; simp
  · rw [toList_no h, decide_eq_false h]
theorem bnd_more (kind : Int) (s : ByteArray) : hasB (bounds ++ moreOf kind) s = bnd kind s := by
  rw [hasB_append, bnd]
  congr 1
  unfold moreOf
  by_cases h2 : kind = 2
  · subst h2
    simp only [hasB, toList_dec]
    simp
  · by_cases h3 : kind = 3
    · subst h3
      simp only [hasB, toList_dec]
      simp
    · simp [h2, h3, hasB]

/-- The box M has the set of the boundaries. -/
def ScopeSet (M : Nat) (kind : Int) (w : World) : Prop := ∃ b m D, w.cell? ⟨M, 0, none⟩ = some (.map (some b)) ∧ m ≤ 1000 ∧ w.ownsMap Tryz.prog 9 unitElem b m D ∧ SetOf D (bounds ++ moreOf kind)
theorem ScopeSet.below {M : Nat} {kind : Int} {w w' : World} (h : ScopeSet M kind w) (hb : Below w.heap.size w w') : ScopeSet M kind w' := by
  obtain ⟨b, m, D, h1, h2, h3, h4⟩ := h
  refine ⟨b, m, D, (hb.cell (p := ⟨M, 0, none⟩) (lt_of_cell h1)).trans h1, h2, ?_, h4⟩
  have hlt := h3.lt
  obtain ⟨es, clock, e1, e2⟩ := h3
  exact ⟨es, clock, (hb.block b hlt).trans e1, e2⟩

def RowOk2 (w : World) (p : Option Addr × List ByteArray) : Prop := p.2.length ≤ 100 ∧ (∀ s ∈ p.2, s.size ≤ 100) ∧ ∀ j (hj : j < p.2.length), ∃ h, p.1 = some ⟨h, 0, none⟩ ∧ h < w.heap.size ∧ w.cell? ⟨h, j, none⟩ = some (.string p.2[j])
theorem RowOk2.below {w w' : World} {p : Option Addr × List ByteArray} (h : RowOk2 w p) (hb : Below w.heap.size w w') : RowOk2 w' p :=
  ⟨h.1, h.2.1, fun j hj => by obtain ⟨g, e1, e2, e3⟩ := h.2.2 j hj; exact ⟨g, e1, Nat.lt_of_lt_of_le e2 hb.size, (hb.cell (p := ⟨g, j, none⟩) e2).trans e3⟩⟩
theorem rowOk2_nil (w : World) : RowOk2 w (none, []) := ⟨by simp, by simp, fun j hj => absurd hj (Nat.not_lt_zero _)⟩
theorem rowOk2_txt {w : World} {g : Nat} {xs : List ByteArray} (h : Txt w g xs) (hg : g < w.heap.size) (hs : xs.length ≤ 100 ∧ ∀ s ∈ xs, s.size ≤ 100) : RowOk2 w (some ⟨g, 0, none⟩, xs) := ⟨hs.1, hs.2, fun j hj => ⟨g, rfl, hg, h j hj⟩⟩
theorem rows2_alloc {w : World} (ps : List (Option Addr × List ByteArray)) (h : ∀ p ∈ ps, RowOk2 w p) (cs : Array Value) (t : TypeId)
    (hcs : cs.toList = ps.map fun p => Value.slice p.1 p.2.length p.2.length) : Rows2 (w.alloc (.cells cs t)) w.heap.size ps := by
  refine ⟨by simp, fun k hk => ?_⟩
  obtain ⟨r1, r2, r3⟩ := (h ps[k] (List.getElem_mem hk)).below ((Below.refl w.heap.size w).alloc (Nat.le_refl _) (.cells cs t))
  refine ⟨?_, r1, r2, r3⟩
  have e2 : cs[k]? = some (.slice ps[k].1 ps[k].2.length ps[k].2.length) := by
    have : cs.toList[k]? = some (.slice ps[k].1 ps[k].2.length ps[k].2.length) := by rw [hcs]; simp [hk]
    simpa using this
  simp only [World.cell?, heap_alloc_new]
  simpa using e2

theorem scope_box {w2 : World} {b m : Nat} {D : DataW Unit} {kind : Int} (own : w2.ownsMap Tryz.prog 9 unitElem b m D) (hm : m ≤ 1000) (set : SetOf D (bounds ++ moreOf kind)) (t : TypeId) : ScopeSet w2.heap.size kind (w2.alloc (.cells #[.map (some b)] t)) := by
  refine ⟨b, m, D, ?_, hm, own.alloc _, set⟩
  simp only [World.cell?, heap_alloc_new]
  rfl

set_option maxRecDepth 100000 in
theorem iscopeOf_any {kind : Int} (h1 : 1 ≤ kind) (h3 : kind ≤ 3) (w : World) :
    Calls Tryz.prog 33 #[.int .i64 kind] w fun e w' => ∃ M, e = .returned (.func (.func 63) #[] #[.pointer (some ⟨M, 0, none⟩)]) ∧ ScopeSet M kind w' ∧ Below w.heap.size w w' := by
  rcases (show kind = 1 ∨ kind = 2 ∨ kind = 3 by omega) with rfl | rfl | rfl
  · go_enter Tryz.func33, Tryz.ntmps33
    go_wp2_with fail
    go_at_call 62
    refine (boundsNames_any w).mono ?_
    rintro e w1 ⟨rfl, t1, s1, b1⟩
    have R1 := (show Hid _ from rowOk2_txt t1 s1 small_bounds)
    clear t1
    go_wp2_with fail
    go_at_call 61
    refine (nameSetOf_two (rows2_alloc [(some ⟨w.heap.size, 0, none⟩, bounds), (none, [])] (by
      intro p hp
      simp only [List.mem_cons, List.not_mem_nil, or_false] at hp
      rcases hp with rfl | rfl
      · exact R1.out
      · exact rowOk2_nil _) _ _ rfl) (by simp) rfl).mono ?_
    clear R1
    rintro e w2 ⟨m, D, hm, rfl, own, set, b2⟩
    rw [alloc_size9] at own b2
    have SB := (show Hid _ from scope_box (kind := 1) own hm (by simpa [allOf2, moreOf] using set) 78)
    have B2 := (show Hid (Below w.heap.size w w2) from (b1.alloc (by omega) _).trans (b2.mono (by omega)))
    clear own set b1 b2
    go_wp2
    go_ret
    exact ⟨_, rfl, SB.out, B2.out.alloc B2.out.size _⟩
  · have t0 : Txt (w.alloc (.cells #[.string ⟨#[111, 108]⟩, .string ⟨#[117, 108]⟩] 9)) w.heap.size [⟨#[111, 108]⟩, ⟨#[117, 108]⟩] := txt_alloc w _ [⟨#[111, 108]⟩, ⟨#[117, 108]⟩] _ rfl
    have T0 : Hid (RowOk2 (w.alloc (.cells #[.string ⟨#[111, 108]⟩, .string ⟨#[117, 108]⟩] 9)) (some ⟨w.heap.size, 0, none⟩, [⟨#[111, 108]⟩, ⟨#[117, 108]⟩])) := rowOk2_txt t0 (by simp) (by decide)
    have hb0 : Below w.heap.size w (w.alloc (.cells #[.string ⟨#[111, 108]⟩, .string ⟨#[117, 108]⟩] 9)) := (Below.refl _ _).alloc (Nat.le_refl _) _
    have B0 := (show Hid _ from hb0)
    clear t0 hb0
    go_enter Tryz.func33, Tryz.ntmps33
    go_wp2_with fail
    go_at_call 62
    refine (boundsNames_any _).mono ?_
    rintro e w1 ⟨rfl, t1, s1, b1⟩
    have R1 : Hid (RowOk2 w1 (some ⟨w.heap.size + 1, 0, none⟩, bounds)) := (by have := rowOk2_txt t1 s1 small_bounds; rwa [World.size_alloc] at this)
    have R0 := (show Hid _ from RowOk2.below T0.out b1)
    have B1 := (show Hid (Below w.heap.size w w1) from B0.out.trans (b1.mono B0.out.size))
    clear t1 b1 s1
    go_wp2_with fail
    go_at_call 61
    refine (nameSetOf_two (rows2_alloc [(some ⟨_, 0, none⟩, bounds), (some ⟨w.heap.size, 0, none⟩, [⟨#[111, 108]⟩, ⟨#[117, 108]⟩])] (by
      intro p hp
      simp only [List.mem_cons, List.not_mem_nil, or_false] at hp
      rcases hp with rfl | rfl
      · exact R1.out
      · exact R0.out) _ _ rfl) (by simp) rfl).mono ?_
    clear R1 R0 T0 B0
    rintro e w2 ⟨m, D, hm, rfl, own, set, b2⟩
    rw [alloc_size9] at own b2
    have SB := (show Hid _ from scope_box (kind := 2) own hm (by simpa [allOf2, moreOf] using set) 78)
    have B2 := (show Hid (Below w.heap.size w w2) from (B1.out.alloc B1.out.size _).trans (b2.mono (by have := B1.out.size; omega)))
    clear own set b2
    go_wp2
    go_ret
    exact ⟨_, rfl, SB.out, B2.out.alloc B2.out.size _⟩
  · have t0 : Txt (w.alloc (.cells #[.string ⟨#[98, 117, 116, 116, 111, 110]⟩] 9)) w.heap.size [⟨#[98, 117, 116, 116, 111, 110]⟩] := txt_alloc w _ [⟨#[98, 117, 116, 116, 111, 110]⟩] _ rfl
    have T0 : Hid (RowOk2 (w.alloc (.cells #[.string ⟨#[98, 117, 116, 116, 111, 110]⟩] 9)) (some ⟨w.heap.size, 0, none⟩, [⟨#[98, 117, 116, 116, 111, 110]⟩])) := rowOk2_txt t0 (by simp) (by decide)
    have hb0 : Below w.heap.size w (w.alloc (.cells #[.string ⟨#[98, 117, 116, 116, 111, 110]⟩] 9)) := (Below.refl _ _).alloc (Nat.le_refl _) _
    have B0 := (show Hid _ from hb0)
    clear t0 hb0
    go_enter Tryz.func33, Tryz.ntmps33
    go_wp2_with fail
    go_at_call 62
    refine (boundsNames_any _).mono ?_
    rintro e w1 ⟨rfl, t1, s1, b1⟩
    have R1 : Hid (RowOk2 w1 (some ⟨w.heap.size + 1, 0, none⟩, bounds)) := (by have := rowOk2_txt t1 s1 small_bounds; rwa [World.size_alloc] at this)
    have R0 := (show Hid _ from RowOk2.below T0.out b1)
    have B1 := (show Hid (Below w.heap.size w w1) from B0.out.trans (b1.mono B0.out.size))
    clear t1 b1 s1
    go_wp2_with fail
    go_at_call 61
    refine (nameSetOf_two (rows2_alloc [(some ⟨_, 0, none⟩, bounds), (some ⟨w.heap.size, 0, none⟩, [⟨#[98, 117, 116, 116, 111, 110]⟩])] (by
      intro p hp
      simp only [List.mem_cons, List.not_mem_nil, or_false] at hp
      rcases hp with rfl | rfl
      · exact R1.out
      · exact R0.out) _ _ rfl) (by simp) rfl).mono ?_
    clear R1 R0 T0 B0
    rintro e w2 ⟨m, D, hm, rfl, own, set, b2⟩
    rw [alloc_size9] at own b2
    have SB := (show Hid _ from scope_box (kind := 3) own hm (by simpa [allOf2, moreOf] using set) 78)
    have B2 := (show Hid (Below w.heap.size w w2) from (B1.out.alloc B1.out.size _).trans (b2.mono (by have := B1.out.size; omega)))
    clear own set b2
    go_wp2
    go_ret
    exact ⟨_, rfl, SB.out, B2.out.alloc B2.out.size _⟩

theorem iscope1_any {M : Nat} {kind : Int} {w : World} (h : ScopeSet M kind w) (s : ByteArray) (hs : s.size ≤ maxLen) :
    Calls Tryz.prog 63 #[.string s, .pointer (some ⟨M, 0, none⟩)] w fun e w' => e = .returned (.bool (bnd kind s)) ∧ Below w.heap.size w w' := by
  obtain ⟨b, m, D, c0, hm, own, set⟩ := h
  have CC := (show Hid _ from isetHas_any (f := bnd kind) (w0 := { w with heap := #[] }) (b := b) (w := w) ⟨m, D, hm, Nat.zero_le _, own, ⟨set.1, fun s => (set.2 s).trans (bnd_more kind s)⟩, ⟨rfl, rfl, rfl, Nat.zero_le _, fun j hj => absurd hj (Nat.not_lt_zero _)⟩⟩ s hs)
  clear own set
  go_enter Tryz.func63, Tryz.ntmps63
  go_wp2_with fail
  go_at_call 53
  refine Calls.mono CC.out ?_
  rintro e w2 ⟨rfl, b2⟩
  go_wp2
  go_ret
  exact ⟨rfl, b2⟩

set_option maxHeartbeats 1000000 in
set_option maxRecDepth 100000 in
theorem iscopeIn1_any {w : World} {R M F A B : Nat} {v : Value} {nm : ByteArray} {ns : List PNode} {kind : Int} (hx : Boxes w R M A v nm) (hF : w.cell? ⟨F, 0, none⟩ = some (.func (.func 63) #[] #[.pointer (some ⟨B, 0, none⟩)])) (hS : ScopeSet B kind w)
    (hn : NodesAt w v ns) (hfit : ∀ n ∈ ns, NodeFit n) (hlen : ns.length ≤ 1048576) {x : Int} (he : elB ns x = true) :
    Calls Tryz.prog 64 #[.int .i64 x, .pointer (some ⟨R, 0, none⟩), .pointer (some ⟨M, 0, none⟩), .pointer (some ⟨F, 0, none⟩)] w fun e w' => e = .returned (.bool (halts ns nm kind x)) ∧ Below w.heap.size w w' := by
  obtain ⟨a, cap, rfl, hc1, hc2, hcs⟩ := hn.slice
  obtain ⟨m, rfl, hm⟩ := elB_at he
  obtain ⟨b, off, av, kv, rfl, hblt, _, d1, _⟩ := hcs m hm
  have hsz : ns[m].name.size ≤ maxLen := by have := (hfit ns[m] (List.getElem_mem hm)).nm; unfold maxLen; omega
  have HNM : Hid (halts ns nm kind (m : Int) = (decide (ns[m].name = nm) || bnd kind ns[m].name)) := (show halts ns nm kind (m : Int) = _ by rw [halts, nmOf_at hm])
  obtain ⟨y, hy⟩ : ∃ y, y = ns[m].name := ⟨_, rfl⟩
  rw [← hy] at d1 HNM hsz
  have CI := (show Hid (∀ n : Wd w.heap.size w, Calls Tryz.prog 63 #[.string y, .pointer (some ⟨B, 0, none⟩)] n.w fun e w' => e = .returned (.bool (bnd kind y)) ∧ Below n.w.heap.size n.w w') from fun n => iscope1_any (hS.below n.below) y hsz)
  have f0 : ∀ n : Wd w.heap.size w, n.w.cell? ⟨R, 1, none⟩ = some (.pointer (some ⟨A, 0, none⟩)) := fun n => (hx.below n.below).r1
  have f1 : ∀ n : Wd w.heap.size w, n.w.cell? ⟨A, 0, none⟩ = some (.slice (some ⟨b, off, none⟩) ns.length cap) := fun n => (hx.below n.below).a0
  have f2 : ∀ n : Wd w.heap.size w, n.w.cell? ⟨M, 0, none⟩ = some (.string nm) := fun n => (hx.below n.below).m0
  have f3 : ∀ n : Wd w.heap.size w, n.w.cell? ⟨b, off + m * 6 + 1, none⟩ = some (.string y) := fun n => (n.below.cell (p := ⟨b, off + m * 6 + 1, none⟩) hblt).trans d1
  have f4 : ∀ n : Wd w.heap.size w, n.w.cell? ⟨F, 0, none⟩ = some (.func (.func 63) #[] #[.pointer (some ⟨B, 0, none⟩)]) := fun n => (n.below.cell (p := ⟨F, 0, none⟩) (lt_of_cell hF)).trans hF
  have ne := Wd.any w.heap.size w
  rw [HNM.out]
  obtain ⟨q, hq'⟩ : ∃ q, q = bnd kind y := ⟨_, rfl⟩
  rw [← hq'] at CI ⊢
  clear hcs hn hx he d1 hy HNM hfit hq' hS hF
  by_cases hq : y = nm
  · rw [decide_eq_true hq, Bool.true_or]
    subst hq
    go_enter Tryz.func64, Tryz.ntmps64
    go_wp2
    refine wp_region_below (B := w.heap.size) (w0 := w) (by kernel_rfl) (by kernel_rfl) (Below.refl _ _) ?_
    repeat (go_big_quiet_step (fail))
    refine wpQuiet_nil ?_
    intro wq hq
    replace hq := Wd.of hq
    go_wp2
    go_ret
    exact ⟨rfl, hq⟩
  · rw [decide_eq_false hq, Bool.false_or]
    have hd := toList_ne hq
    go_enter Tryz.func64, Tryz.ntmps64
    go_wp2
    refine wp_region_below (B := w.heap.size) (w0 := w) (by kernel_rfl) (by kernel_rfl) (Below.refl _ _) ?_
    repeat (go_big_quiet_step ((go_at_call 63; exact quiet_below (CI.out _) (Nat.le_refl _))))
    refine wpQuiet_nil ?_
    intro wq hq
    replace hq := Wd.of hq
    go_wp2
    go_ret
    exact ⟨rfl, hq⟩

set_option maxRecDepth 100000 in
theorem ilastThat_scope {rv : Value} {row : List Int} {w : World} {R M F : Nat} {p : Int → Bool} (h : Sl .i64 w rv row) (hn : row.length ≤ 1048576)
    (hf : ∀ x ∈ row, ∀ w', Below w.heap.size w w' → Calls Tryz.prog 64 #[.int .i64 x, .pointer (some ⟨R, 0, none⟩), .pointer (some ⟨M, 0, none⟩), .pointer (some ⟨F, 0, none⟩)] w' fun e w'' => e = .returned (.bool (p x)) ∧ Below w'.heap.size w' w'') :
    Calls Tryz.prog 47 #[rv, .func (.func 64) #[] #[.pointer (some ⟨R, 0, none⟩), .pointer (some ⟨M, 0, none⟩), .pointer (some ⟨F, 0, none⟩)]] w fun e w' => e = .returned (.int .i64 ((lastAt p row row.length : Int) - 1)) ∧ Below w.heap.size w w' := by
  have HF := (show Hid _ from hf)
  obtain ⟨a, ca, rfl, _, _, _, ha⟩ := h
  clear hf
  go_enter Tryz.func47, Tryz.ntmps47
  go_wp2
  go_loopw [5] (fun i wr => ∃ k : Nat, k ≤ row.length ∧ i = .int .i64 ((k : Int) - 1) ∧ lastAt p row row.length = lastAt p row k ∧ Below w.heap.size w wr) (fun i _ => (intOf i + 1).toNat)
  case atStart => exact ⟨row.length, Nat.le_refl _, by go_num, rfl, Below.refl _ _⟩
  case round =>
    obtain ⟨k, hk, rfl, he, bel⟩ := hrel
    have HE := (show Hid (lastAt p row row.length = lastAt p row k) from he)
    clear he
    cases k with
    | zero =>
      clear ha
      go_wp2
      go_ret
      exact ⟨by rw [HE.out]; rfl, bel⟩
    | succ k =>
      have hs : ((k + 1 : Nat) : Int) - 1 = (k : Int) := by omega
      obtain ⟨b1, o1, rfl, c1⟩ := ha k (by omega)
      replace c1 := (bel.cell (p := ⟨b1, o1 + k, none⟩) (lt_of_cell c1)).trans c1
      have hmem : row.getD k 0 ∈ row := by rw [List.getD_eq_getElem?_getD, List.getElem?_eq_getElem (by omega : k < row.length)]; exact List.getElem_mem _
      have CC := (show Hid _ from HF.out _ hmem wr bel)
      obtain ⟨y, hy⟩ : ∃ y, y = row.getD k 0 := ⟨_, rfl⟩
      rw [← hy] at c1 CC
      rw [hs]
      have HY := (show Hid (y = row.getD k 0) from hy)
      obtain ⟨q, hq⟩ : ∃ q, q = p y := ⟨_, rfl⟩
      rw [← hq] at CC
      have HQ := (show Hid (q = p y) from hq)
      clear ha hy hs hmem hq
      go_wp2_with fail
      go_at_call 64
      refine Calls.mono CC.out ?_
      rintro e w2 ⟨rfl, b2⟩
      have bel2 := bel.trans (b2.mono bel.size)
      cases q
      · go_wp2
        go_roundw
        case rel => exact ⟨k, by omega, by go_num, by rw [HE.out, lastAt_no (by rw [← HY.out]; exact HQ.out.symm)], bel2⟩
        case measure => simp [intOf]
      · go_wp2
        go_ret
        exact ⟨by rw [HE.out, lastAt_yes (by rw [← HY.out]; exact HQ.out.symm)]; simp, bel2⟩


theorem three_boxes {w : World} {A : Nat} {v rv : Value} {nm : ByteArray} {u : Value} (ha : w.cell? ⟨A, 0, none⟩ = some v) {w2 w3 : World} (h2 : w2 = ((w.alloc (.cells #[rv, .pointer (some ⟨A, 0, none⟩)] 46)).alloc (.cells #[.string nm] 9))) {t : TypeId} (h3 : w3 = w2.alloc (.cells #[u] t)) :
    Boxes w3 w.heap.size (w.heap.size + 1) A v nm ∧ w3.cell? ⟨w.heap.size + 1 + 1, 0, none⟩ = some u ∧ w3.heap[w.heap.size]? = some (.cells #[rv, .pointer (some ⟨A, 0, none⟩)] 46 (0, 0)) ∧ Below w.heap.size w w3 := by
  have hs2 : w2.heap.size = w.heap.size + 1 + 1 := by rw [h2, World.size_alloc, World.size_alloc]
  have g2 : w2.heap[w.heap.size]? = some (.cells #[rv, .pointer (some ⟨A, 0, none⟩)] 46 (0, 0)) := by
    rw [h2, Below.heap_alloc _ _ _ (by simp)]; exact World.alloc_heap_new _ _
  have bb : Below w2.heap.size w2 w3 := by rw [h3]; exact (Below.refl _ _).alloc (Nat.le_refl _) _
  have b2 : Below w.heap.size w w2 := by rw [h2]; exact ((Below.refl _ w).alloc (Nat.le_refl _) _).alloc (by simp) _
  refine ⟨?_, ?_, (bb.block _ (by omega)).trans g2, b2.trans (bb.mono b2.size)⟩
  · have := two_boxes (rv := rv) (nm := nm) ha
    rw [← h2] at this
    exact this.below bb
  · rw [← hs2, h3]
    simp only [World.cell?, heap_alloc_new]
    rfl

set_option maxHeartbeats 1000000 in
set_option maxRecDepth 100000 in
theorem iinScope_m {w : World} {A B : Nat} {v rv : Value} {ns : List PNode} {row : List Int} (h : RowAt w A v rv ns row) (nm : ByteArray) {kind : Int} (hS : ScopeSet B kind w) :
    Calls Tryz.prog 34 #[.agg #[rv, .pointer (some ⟨A, 0, none⟩)], .string nm, .func (.func 63) #[] #[.pointer (some ⟨B, 0, none⟩)]] w fun e w' => e = .returned (.bool (scopeB ns nm kind row)) ∧ Below w.heap.size w w' := by
  have H := (show Hid (RowAt w A v rv ns row) from h)
  obtain ⟨ra, rc, rfl, _, _, _, hra⟩ := h.sl
  have hrl := h.row.len
  have hla := lastAt_le (halts ns nm kind) row row.length
  obtain ⟨w2, hw2⟩ : ∃ w2, w2 = ((w.alloc (.cells #[.slice ra row.length rc, .pointer (some ⟨A, 0, none⟩)] 46)).alloc (.cells #[.string nm] 9)) := ⟨_, rfl⟩
  obtain ⟨w3, hw3⟩ : ∃ w3, w3 = w2.alloc (.cells #[.func (.func 63) #[] #[.pointer (some ⟨B, 0, none⟩)]] 34) := ⟨_, rfl⟩
  obtain ⟨bx, cF, g3, b3⟩ := three_boxes (rv := .slice ra row.length rc) (nm := nm) h.a0 hw2 hw3
  have BX := (show Hid _ from bx)
  have HCF := (show Hid _ from cF)
  have HG3 := (show Hid _ from g3)
  have HS := (show Hid _ from hS.below b3)
  have CC := (show Hid _ from ilastThat_scope (R := w.heap.size) (M := w.heap.size + 1) (F := w.heap.size + 1 + 1) (p := halts ns nm kind) (H.out.below b3).sl (by omega) (fun x hx w' hb => iscopeIn1_any (BX.out.below hb) ((hb.cell (p := ⟨w.heap.size + 1 + 1, 0, none⟩) (lt_of_cell HCF.out)).trans HCF.out) (ScopeSet.below HS.out hb) ((H.out.below b3).below hb).nodes H.out.fit H.out.len (H.out.el x hx)))
  clear h g3 bx cF hS
  go_enter Tryz.func34, Tryz.ntmps34
  go_wp2_with fail
  go_at_call 47
  rw [← hw2, ← hw3]
  refine Calls.mono CC.out ?_
  rintro e w4 ⟨rfl, b4⟩
  clear hw2 hw3 CC
  have hb := b3.trans (b4.mono b3.size)
  have bx4 := BX.out.below b4
  have g4 := (b4.block _ (blk_lt HG3.out)).trans HG3.out
  have k0 : w4.cell? ⟨w.heap.size, 0, none⟩ = some (.slice ra row.length rc) := by simp only [World.cell?, g4]; rfl
  clear g4 b4 BX HCF HG3 HS
  obtain ⟨p, hp⟩ : ∃ p, p = lastAt (halts ns nm kind) row row.length := ⟨_, rfl⟩
  have HP := (show Hid (p = lastAt (halts ns nm kind) row row.length) from hp)
  rw [← hp] at hla ⊢
  clear hp
  have ne := Wd.any w4.heap.size w4
  cases p with
  | zero =>
    have HR : Hid (scopeB ns nm kind row = false) := scopeB_none HP.out.symm
    clear bx4 hra hla
    go_wp2
    refine wp_region_below (B := w4.heap.size) (w0 := w4) (by kernel_rfl) (by kernel_rfl) (Below.refl _ _) ?_
    repeat (go_big_quiet_step (fail))
    refine wpQuiet_nil ?_
    intro wq hq
    replace hq := Wd.of hq
    go_wp2
    go_ret
    exact ⟨by rw [HR.out]; rfl, hb.trans (hq.mono hb.size)⟩
  | succ p =>
    have HR : Hid (scopeB ns nm kind row = decide (nmOf ns (row.getD p 0) = nm)) := scopeB_at HP.out.symm
    have hlt : p < row.length := by omega
    have HX : Hid (row.getD p 0 = row[p]) := (show row.getD p 0 = row[p] by simp [List.getD_eq_getElem?_getD, hlt])
    obtain ⟨m, hm, hmlt⟩ := elB_at (H.out.row.el p hlt)
    have HG : Hid (row.getD p 0 = (m : Int)) := HX.out.trans hm
    obtain ⟨b1, o1, rfl, c1⟩ := hra p hlt
    have hblt1 := lt_of_cell c1
    rw [HG.out] at c1
    obtain ⟨a, cap, rfl, hc1, hc2, hcs⟩ := H.out.nodes.slice
    obtain ⟨b, off, av, kv, rfl, hblt, _, d1, _⟩ := hcs m hmlt
    obtain ⟨y, hy⟩ : ∃ y, y = ns[m].name := ⟨_, rfl⟩
    rw [← hy] at d1
    have HNM : Hid (nmOf ns (row.getD p 0) = y) := (show nmOf ns (row.getD p 0) = y by rw [HG.out, nmOf_at hmlt, hy])
    have hlen := H.out.len
    have hs : ((p + 1 : Nat) : Int) - 1 = (p : Int) := by omega
    have f0 : ∀ n : Wd w4.heap.size w4, n.w.cell? ⟨w.heap.size, 1, none⟩ = some (.pointer (some ⟨A, 0, none⟩)) := fun n => (bx4.below n.below).r1
    have f1 : ∀ n : Wd w4.heap.size w4, n.w.cell? ⟨A, 0, none⟩ = some (.slice (some ⟨b, off, none⟩) ns.length cap) := fun n => (bx4.below n.below).a0
    have f2 : ∀ n : Wd w4.heap.size w4, n.w.cell? ⟨w.heap.size + 1, 0, none⟩ = some (.string nm) := fun n => (bx4.below n.below).m0
    have f3 : ∀ n : Wd w4.heap.size w4, n.w.cell? ⟨b, off + m * 6 + 1, none⟩ = some (.string y) := fun n => ((hb.trans (n.below.mono hb.size)).cell (p := ⟨b, off + m * 6 + 1, none⟩) hblt).trans d1
    have f4 : ∀ n : Wd w4.heap.size w4, n.w.cell? ⟨w.heap.size, 0, none⟩ = some (.slice (some ⟨b1, o1, none⟩) row.length rc) := fun n => (n.below.cell (p := ⟨w.heap.size, 0, none⟩) (lt_of_cell k0)).trans k0
    have f5 : ∀ n : Wd w4.heap.size w4, n.w.cell? ⟨b1, o1 + p, none⟩ = some (.int .i64 m) := fun n => ((hb.trans (n.below.mono hb.size)).cell (p := ⟨b1, o1 + p, none⟩) hblt1).trans c1
    have HB := (show Hid _ from hb)
    rw [hs]
    clear hcs hra d1 c1 hm hy bx4 k0 hs hb b3 HG HX
    by_cases hq : y = nm
    · have HD : Hid (scopeB ns nm kind row = true) := HR.out.trans (by rw [HNM.out, decide_eq_true hq])
      clear HR HNM
      subst hq
      go_wp2
      refine wp_region_below (B := w4.heap.size) (w0 := w4) (by kernel_rfl) (by kernel_rfl) (Below.refl _ _) ?_
      repeat (go_big_quiet_step (fail))
      refine wpQuiet_nil ?_
      intro wq hq
      replace hq := Wd.of hq
      go_wp2
      go_ret
      exact ⟨by rw [HD.out]; rfl, HB.out.trans (hq.mono HB.out.size)⟩
    · have HD : Hid (scopeB ns nm kind row = false) := HR.out.trans (by rw [HNM.out, decide_eq_false hq])
      clear HR HNM
      have hd := toList_ne hq
      go_wp2
      refine wp_region_below (B := w4.heap.size) (w0 := w4) (by kernel_rfl) (by kernel_rfl) (Below.refl _ _) ?_
      repeat (go_big_quiet_step (fail))
      refine wpQuiet_nil ?_
      intro wq hq
      replace hq := Wd.of hq
      go_wp2
      go_ret
      exact ⟨by rw [HD.out]; rfl, HB.out.trans (hq.mono HB.out.size)⟩

end Go.Proofs.YtkljadaggnbjkaaGreat

/- The program's InScope. No condition. -/
namespace Go.Proofs.YtkljadaggnbjkaaGreat
open Go.RowKit Go.Maps
set_option maxRecDepth 100000
set_option linter.unusedVariables false

theorem equalIn_nilFunc (d M : Nat) (w : World) : (Op.equalIn (d + 1) 34 (.func (.func 63) #[] #[.pointer (some ⟨M, 0, none⟩)]) .nilFunc).run Tryz.prog w = .ok false w := by
  simp [Op.equalIn, run_underlying Tryz.underlying34]
theorem neq_nilFunc (M : Nat) (w : World) : (binOp .neq 34 (.func (.func 63) #[] #[.pointer (some ⟨M, 0, none⟩)]) .nilFunc).run Tryz.prog w = .ok (.bool true) w := by
  have h : (Op.equal 34 (.func (.func 63) #[] #[.pointer (some ⟨M, 0, none⟩)]) .nilFunc).run Tryz.prog w = .ok false w := equalIn_nilFunc 9999 M w
  simp only [binOp]
  simp [h]

set_option maxRecDepth 100000 in
theorem iinScope_any {w : World} {v rv : Value} {ns : List PNode} {row : List Int} (hn : NodesAt w v ns) (hfit : ∀ n ∈ ns, NodeFit n) (hlen : ns.length ≤ 1048576) (hr : Sl .i64 w rv row) (hrl : row.length ≤ 1048576) (nm : ByteArray) {kind : Int} (hk1 : 1 ≤ kind) (hk3 : kind ≤ 3) :
    Calls Tryz.prog 15 #[.agg #[v], rv, .string nm, .int .i64 kind] w fun e w' => ∃ r : Bool, e = .returned (.bool r) ∧ ((TreeOkP ns ∧ RowP ns row → r = scopeB ns nm kind row) ∧ (¬ (TreeOkP ns ∧ RowP ns row) → r = false)) ∧ Below w.heap.size w w' := by
  have HN := (show Hid (NodesAt w v ns) from hn)
  have HR := (show Hid (Sl .i64 w rv row) from hr)
  have HFIT := (show Hid _ from hfit)
  obtain ⟨a, cap, rfl, hc1, hc2, _⟩ := hn.slice
  obtain ⟨ra, rc, rfl, _, _, _, hra⟩ := hr
  clear hn hra hfit
  obtain ⟨w1, hw1⟩ : ∃ w1, w1 = w.alloc (.cells #[.slice a ns.length cap] 26) := ⟨_, rfl⟩
  have b1 : Below w.heap.size w w1 := by rw [hw1]; exact (Below.refl _ _).alloc (Nat.le_refl _) _
  go_enter Tryz.func15, Tryz.ntmps15
  go_wp2_with fail
  go_at_call 19
  rw [← hw1]
  refine Calls.mono (iopenRow_any (HN.out.below b1) HFIT.out hlen (HR.out.below b1) hrl) ?_
  rintro e w2 ⟨A, r, rfl, cA, hr, b2⟩
  clear hw1
  have hb2 := b1.trans (b2.mono b1.size)
  obtain ⟨w3, hw3⟩ : ∃ w3, w3 = w2.alloc (.cells #[.slice ra row.length rc, .pointer (some ⟨A, 0, none⟩)] 46) := ⟨_, rfl⟩
  have b3 : Below w2.heap.size w2 w3 := by rw [hw3]; exact (Below.refl _ _).alloc (Nat.le_refl _) _
  have g3 : w3.heap[w2.heap.size]? = some (.cells #[.slice ra row.length rc, .pointer (some ⟨A, 0, none⟩)] 46 (0, 0)) := by rw [hw3]; exact World.alloc_heap_new _ _
  have HCA := (show Hid _ from (b3.cell (p := ⟨A, 0, none⟩) (lt_of_cell cA)).trans cA)
  have HG3 := (show Hid _ from g3)
  have hb := hb2.trans (b3.mono hb2.size)
  clear cA g3 b2 b3
  go_wp2_with fail
  go_at_call 33
  rw [← hw3]
  refine Calls.mono (iscopeOf_any hk1 hk3 w3) ?_
  rintro e w4 ⟨M, rfl, hS, b4⟩
  clear hw3
  have g4 := (b4.block _ (blk_lt HG3.out)).trans HG3.out
  have k0 : w4.cell? ⟨w2.heap.size, 0, none⟩ = some (.slice ra row.length rc) := by simp only [World.cell?, g4]; rfl
  have k1 : w4.cell? ⟨w2.heap.size, 1, none⟩ = some (.pointer (some ⟨A, 0, none⟩)) := by simp only [World.cell?, g4]; rfl
  have HSS := (show Hid (ScopeSet M kind w4) from hS)
  have HCA4 := (show Hid _ from (b4.cell (p := ⟨A, 0, none⟩) (lt_of_cell HCA.out)).trans HCA.out)
  replace hb := hb.trans (b4.mono hb.size)
  clear hS g4 b4 HCA HG3
  cases r
  · have HF : Hid (¬ (TreeOkP ns ∧ RowP ns row)) := fun h => by have := hr.mpr h; cases this
    clear hr
    go_wp2
    go_ret
    exact ⟨false, rfl, ⟨fun h => absurd h HF.out, fun _ => rfl⟩, hb⟩
  · have HT : Hid (TreeOkP ns ∧ RowP ns row) := hr.mp rfl
    clear hr
    have RA := (show Hid _ from RowAt.mk (HN.out.below hb) HFIT.out hlen HCA4.out (HR.out.below hb) HT.out.2)
    have hnf : ∀ W, (binOp .neq 34 (.func (.func 63) #[] #[.pointer (some ⟨M, 0, none⟩)]) .nilFunc).run Tryz.prog W = .ok (.bool true) W := fun W => neq_nilFunc M W
    go_wp2_with fail
    go_at_call 34
    refine Calls.mono (iinScope_m RA.out nm HSS.out) ?_
    rintro e w5 ⟨rfl, b5⟩
    go_wp2
    go_ret
    exact ⟨_, rfl, ⟨fun _ => rfl, fun h => absurd HT.out h⟩, hb.trans (b5.mono hb.size)⟩

theorem equalIn_nil2 (d : Nat) (w : World) : (Op.equalIn (d + 1) 34 .nilFunc .nilFunc).run Tryz.prog w = .ok true w := by
  simp [Op.equalIn, run_underlying Tryz.underlying34]
theorem neq_nil2 (w : World) : (binOp .neq 34 .nilFunc .nilFunc).run Tryz.prog w = .ok (.bool false) w := by
  have h : (Op.equal 34 .nilFunc .nilFunc).run Tryz.prog w = .ok true w := equalIn_nil2 9999 w
  simp only [binOp]
  simp [h]

set_option maxRecDepth 100000 in
theorem iscopeOf_no {kind : Int} (h : ¬ (1 ≤ kind ∧ kind ≤ 3)) (w : World) :
    Calls Tryz.prog 33 #[.int .i64 kind] w fun e w' => e = .returned .nilFunc ∧ w' = w := by
  have h1 : ¬ kind = 1 := by omega
  have h2 : ¬ kind = 2 := by omega
  have h3 : ¬ kind = 3 := by omega
  clear h
  go_enter Tryz.func33, Tryz.ntmps33
  go_wp2
  go_ret
  exact ⟨rfl, rfl⟩

set_option maxRecDepth 100000 in
theorem iinScope_no {w : World} {v rv : Value} {ns : List PNode} {row : List Int} (hn : NodesAt w v ns) (hfit : ∀ n ∈ ns, NodeFit n) (hlen : ns.length ≤ 1048576) (hr : Sl .i64 w rv row) (hrl : row.length ≤ 1048576) (nm : ByteArray) {kind : Int} (hk : ¬ (1 ≤ kind ∧ kind ≤ 3)) :
    Calls Tryz.prog 15 #[.agg #[v], rv, .string nm, .int .i64 kind] w fun e w' => e = .returned (.bool false) ∧ Below w.heap.size w w' := by
  have HN := (show Hid (NodesAt w v ns) from hn)
  have HR := (show Hid (Sl .i64 w rv row) from hr)
  have HFIT := (show Hid _ from hfit)
  obtain ⟨a, cap, rfl, hc1, hc2, _⟩ := hn.slice
  obtain ⟨ra, rc, rfl, _, _, _, hra⟩ := hr
  have HKN := (show Hid _ from hk)
  clear hn hra hfit hk
  obtain ⟨w1, hw1⟩ : ∃ w1, w1 = w.alloc (.cells #[.slice a ns.length cap] 26) := ⟨_, rfl⟩
  have b1 : Below w.heap.size w w1 := by rw [hw1]; exact (Below.refl _ _).alloc (Nat.le_refl _) _
  go_enter Tryz.func15, Tryz.ntmps15
  go_wp2_with fail
  go_at_call 19
  rw [← hw1]
  refine Calls.mono (iopenRow_any (HN.out.below b1) HFIT.out hlen (HR.out.below b1) hrl) ?_
  rintro e w2 ⟨A, r, rfl, cA, hr, b2⟩
  clear hw1 hr cA
  have hb2 := b1.trans (b2.mono b1.size)
  have hb3 : ∀ o, Below w.heap.size w (w2.alloc o) := fun o => hb2.alloc hb2.size o
  have HB3 := (show Hid _ from hb3)
  clear b2 hb3
  go_wp2_with fail
  go_at_call 33
  refine Calls.mono (iscopeOf_no HKN.out _) ?_
  rintro e w4 ⟨rfl, rfl⟩
  have hnn := neq_nil2
  cases r
  all_goals
    go_wp2
    go_ret
    exact ⟨rfl, HB3.out _⟩
end Go.Proofs.YtkljadaggnbjkaaGreat

/- Nodes that the call itself made. No condition. -/
namespace Go.Proofs.YtkljadaggnbjkaaGreat
open Go.RowKit
set_option maxRecDepth 100000
set_option linter.unusedVariables false

/-- The slice value v has the nodes 'ns'; its row and the lists of its nodes are the call's own, from block B on. -/
def OwnN (B : Nat) (w : World) (v : Value) (ns : List PNode) : Prop :=
  ∃ qs : List (PNode × (Value × Value)), qs.map (fun q => q.1) = ns ∧ w.ownsRow B 37 6 v ns.length (nodeCells qs) ∧
    ∀ q ∈ qs, w.ownsRow B 110 2 q.2.1 q.1.attrs.length (pairCells q.1.attrs) ∧ Own B 3 .i64 w q.2.2 q.1.kids

theorem sl_of_own' {B : Nat} {e : TypeId} {K : IntKind} {w : World} {v : Value} {xs : List Int} (h : Own B e K w v xs) : Sl K w v xs := h.sl
theorem OwnN.nodes {B : Nat} {w : World} {v : Value} {ns : List PNode} (h : OwnN B w v ns) : NodesAt w v ns := by
  obtain ⟨qs, h1, h2, h3⟩ := h
  exact ⟨qs, h1, sv_of_own h2, fun q hq => ⟨sv_of_own (h3 q hq).1, (h3 q hq).2.sl⟩⟩
theorem OwnN.below {B : Nat} {w w' : World} {v : Value} {ns : List PNode} (h : OwnN B w v ns) (hb : Below w.heap.size w w') : OwnN B w' v ns := by
  obtain ⟨qs, h1, h2, h3⟩ := h
  exact ⟨qs, h1, ownsRow_below h2 hb, fun q hq => ⟨ownsRow_below (h3 q hq).1 hb, (h3 q hq).2.below hb⟩⟩
theorem ownsRow_base {B B' : Nat} {e : TypeId} {size n : Nat} {w : World} {v : Value} {xs : List Value} (h : w.ownsRow B e size v n xs) (hB : B' ≤ B) : w.ownsRow B' e size v n xs := by
  obtain ⟨hl, hv | ⟨g, cap, cur, hv, hb, r⟩⟩ := h
  · exact ⟨hl, .inl hv⟩
  · exact ⟨hl, .inr ⟨g, cap, cur, hv, Nat.le_trans hB hb, r⟩⟩
theorem OwnN.base {B B' : Nat} {w : World} {v : Value} {ns : List PNode} (h : OwnN B w v ns) (hB : B' ≤ B) : OwnN B' w v ns := by
  obtain ⟨qs, h1, h2, h3⟩ := h
  exact ⟨qs, h1, ownsRow_base h2 hB, fun q hq => ⟨ownsRow_base (h3 q hq).1 hB, (h3 q hq).2.base hB⟩⟩
theorem ownN_nil (B : Nat) (w : World) : OwnN B w (.slice none 0 0) [] := ⟨[], rfl, ⟨rfl, .inl ⟨rfl, rfl⟩⟩, fun q hq => by cases hq⟩
/-- A row of one kind is kept where a block of another kind is turned. -/
theorem kept_of_type {B e size n : Nat} {w w' : World} {v : Value} {xs : List Value} {row : Option Nat} (h : w.ownsRow B e size v n xs) (hg : w.grownBy w' row) (hr : ∀ r, row = some r → ∃ cs t fr, w.heap[r]? = some (.cells cs t fr) ∧ t ≠ e) : w'.ownsRow B e size v n xs := by
  refine h.kept hg ?_
  rcases h.2 with ⟨rfl, _⟩ | ⟨g, cap, cur, rfl, _, hh, _⟩
  · exact .inl rfl
  · refine .inr fun er => ?_
    obtain ⟨cs, t, fr, h1, h2⟩ := hr g er.symm
    rw [hh] at h1
    cases h1
    exact h2 rfl
/-- Where the row of nodes alone is turned, the lists stay. -/
theorem lists_kept {B : Nat} {w w' : World} {v : Value} {n : Nat} {xs : List Value} (hv : w.ownsRow B 37 6 v n xs) (hg : w.grownBy w' v.ownBlock) {q : PNode × (Value × Value)}
    (h : w.ownsRow B 110 2 q.2.1 q.1.attrs.length (pairCells q.1.attrs) ∧ Own B 3 .i64 w q.2.2 q.1.kids) : w'.ownsRow B 110 2 q.2.1 q.1.attrs.length (pairCells q.1.attrs) ∧ Own B 3 .i64 w' q.2.2 q.1.kids := by
  have key : ∀ r, v.ownBlock = some r → ∃ cs fr, w.heap[r]? = some (.cells cs 37 fr) := fun r hr => by
    rcases hv.2 with ⟨rfl, _⟩ | ⟨g, cap, cur, rfl, _, hh, _⟩
    · cases hr
    · cases hr; exact ⟨_, _, hh⟩
  exact ⟨kept_of_type h.1 hg (fun r hr => by obtain ⟨cs, fr, h1⟩ := key r hr; exact ⟨cs, _, fr, h1, by decide⟩), kept_of_type h.2 hg (fun r hr => by obtain ⟨cs, fr, h1⟩ := key r hr; exact ⟨cs, _, fr, h1, by decide⟩)⟩
theorem nodeCells_app (qs rs : List (PNode × (Value × Value))) : nodeCells (qs ++ rs) = nodeCells qs ++ nodeCells rs := by simp [nodeCells]
theorem node_oneCell {B : Nat} {w : World} {q : PNode × (Value × Value)} (h : w.ownsRow B 110 2 q.2.1 q.1.attrs.length (pairCells q.1.attrs) ∧ Own B 3 .i64 w q.2.2 q.1.kids) : ∀ y ∈ nodeRow q.1 q.2, y.oneCell' = true := by
  have one : ∀ {e size n : Nat} {xs : List Value} {u : Value}, w.ownsRow B e size u n xs → u.oneCell' = true := fun h => by
    rcases h.2 with ⟨rfl, _⟩ | ⟨g, cap, cur, rfl, _⟩ <;> rfl
  intro y hy
  simp only [nodeRow, List.mem_cons, List.not_mem_nil, or_false] at hy
  rcases hy with rfl | rfl | rfl | rfl | rfl | rfl
  · rfl
  · rfl
  · exact one h.1
  · rfl
  · rfl
  · exact one h.2
/-- A node more at the end. -/
theorem OwnN.snoc {B : Nat} {w w' : World} {v v' : Value} {qs : List (PNode × (Value × Value))} {q : PNode × (Value × Value)} (h2 : w.ownsRow B 37 6 v qs.length (nodeCells qs))
    (h3 : ∀ q ∈ qs, w.ownsRow B 110 2 q.2.1 q.1.attrs.length (pairCells q.1.attrs) ∧ Own B 3 .i64 w q.2.2 q.1.kids) (hq : w.ownsRow B 110 2 q.2.1 q.1.attrs.length (pairCells q.1.attrs) ∧ Own B 3 .i64 w q.2.2 q.1.kids)
    (ho : w'.ownsRow B 37 6 v' (qs.length + 1) (nodeCells qs ++ nodeRow q.1 q.2)) (hg : w.grownBy w' v.ownBlock) : OwnN B w' v' (qs.map (fun q => q.1) ++ [q.1]) := by
  refine ⟨qs ++ [q], by simp, ?_, fun p hp => ?_⟩
  · rw [nodeCells_app]; simpa [nodeCells] using ho
  · rcases List.mem_append.mp hp with hp | hp
    · exact lists_kept h2 hg (h3 p hp)
    · simp at hp; subst hp; exact lists_kept h2 hg hq
/-- Nodes are kept where a block of another kind than their rows is turned. -/
theorem OwnN.kept {B : Nat} {w w' : World} {v : Value} {ns : List PNode} {row : Option Nat} (h : OwnN B w v ns) (hg : w.grownBy w' row)
    (hr : ∀ r, row = some r → ∃ cs t fr, w.heap[r]? = some (.cells cs t fr) ∧ t ≠ 37 ∧ t ≠ 110 ∧ t ≠ 3) : OwnN B w' v ns := by
  obtain ⟨qs, h1, h2, h3⟩ := h
  exact ⟨qs, h1, kept_of_type h2 hg (fun r e => by obtain ⟨a, b, c, d, e1, e2, e3⟩ := hr r e; exact ⟨a, b, c, d, e1⟩),
    fun q hq => ⟨kept_of_type (h3 q hq).1 hg (fun r e => by obtain ⟨a, b, c, d, e1, e2, e3⟩ := hr r e; exact ⟨a, b, c, d, e2⟩), kept_of_type (h3 q hq).2 hg (fun r e => by obtain ⟨a, b, c, d, e1, e2, e3⟩ := hr r e; exact ⟨a, b, c, d, e3⟩)⟩⟩
/-- A row of one node, just made. -/
theorem sv_oneNode {w : World} {g : Nat} {q : PNode × (Value × Value)} {t : TypeId} (h : w.heap[g]? = some (.cells (nodeRow q.1 q.2).toArray t (0, 0))) : Sv 6 w (.slice (some ⟨g, 0, none⟩) 1 1) (nodeRow q.1 q.2) := by
  refine ⟨_, 1, 1, rfl, rfl, Nat.le_refl _, by decide, (fun e => by cases e), fun i hi => ⟨g, 0, rfl, ?_⟩⟩
  simp only [World.cell?, h, Nat.zero_add]
  simp [List.getD_eq_getElem?_getD, hi]
end Go.Proofs.YtkljadaggnbjkaaGreat

/- The specification's l6Copy. No condition. -/
namespace Go.Proofs.YtkljadaggnbjkaaGreat
open Go.RowKit
set_option maxRecDepth 100000
set_option linter.unusedVariables false

/-- A block is kept where a block of another kind is turned. -/
theorem blk_type {k : Nat} {cs : Array Value} {t : TypeId} {fr : Nat × Nat} {W W' : World} {row : Option Nat} (h : W.heap[k]? = some (.cells cs t fr)) (hg : W.grownBy W' row) (hr : ∀ r, row = some r → ∃ cs' t' fr', W.heap[r]? = some (.cells cs' t' fr') ∧ t' ≠ t) : W'.heap[k]? = some (.cells cs t fr) := by
  rw [hg.block k (blk_lt h) (fun e => by
    obtain ⟨cs', t', fr', h1, h2⟩ := hr k e.symm
    rw [h] at h1; cases h1; exact h2 rfl)]
  exact h
theorem row_type {B e size n : Nat} {w : World} {v : Value} {xs : List Value} (h : w.ownsRow B e size v n xs) {t : TypeId} (ht : e ≠ t) : ∀ r, v.ownBlock = some r → ∃ cs' t' fr', w.heap[r]? = some (.cells cs' t' fr') ∧ t' ≠ t := fun r hr => by
  rcases h.2 with ⟨rfl, _⟩ | ⟨g, cap, cur, rfl, _, hh, _⟩
  · cases hr
  · cases hr; exact ⟨_, _, _, hh, ht⟩

theorem own_slice {B e size n : Nat} {w : World} {v : Value} {xs : List Value} (h : w.ownsRow B e size v n xs) : ∃ a m c, v = .slice a m c := by
  rcases h.2 with ⟨rfl, _⟩ | ⟨g, cap, cur, rfl, _⟩
  · exact ⟨_, _, _, rfl⟩
  · exact ⟨_, _, _, rfl⟩

theorem Tryz.infoAttrRow : (Tryz.prog.info? 110).map (fun i => (i.zero, i.size, i.bytes)) = some (some (.agg #[.string ⟨#[]⟩, .string ⟨#[]⟩]), 2, 32) := by kernel_rfl
theorem Tryz.infoIntRow : (Tryz.prog.info? 3).map (fun i => (i.zero, i.size, i.bytes)) = some (some (.int .i64 0), 1, 8) := by kernel_rfl
theorem Tryz.infoNodeRow : (Tryz.prog.info? 37).map (fun i => (i.zero, i.size, i.bytes)) = some (some (.agg #[.int .i64 0, .string ⟨#[]⟩, .slice none 0 0, .string ⟨#[]⟩, .int .i64 0, .slice none 0 0]), 6, 96) := by kernel_rfl

/-- While the nodes are copied: k of them are. -/
structure CopyW (w : World) (v : Value) (ns : List PNode) (k : Nat) (vo : Value) (W : World) : Prop where
  bT : W.heap[w.heap.size]? = some (.cells #[v] 26 (0, 0))
  bR : W.heap[w.heap.size + 1]? = some (.cells #[.slice none 0 0] 26 (0, 0))
  bO : W.heap[w.heap.size + 1 + 1]? = some (.cells #[vo] 26 (0, 0))
  own : OwnN w.heap.size W vo (ns.take k)
  bel : Below w.heap.size w W

set_option maxHeartbeats 1000000 in
theorem scopy_any {w : World} {v : Value} {ns : List PNode} (hn : NodesAt w v ns) (hfit : ∀ n ∈ ns, NodeFit n) (hlen : ns.length ≤ 1048576) :
    Calls Tryz.prog 57 #[.agg #[v]] w fun e w' => ∃ v', e = .returned (.agg #[v']) ∧ OwnN w.heap.size w' v' ns ∧ Below w.heap.size w w' := by
  have HFIT := (show Hid (∀ n ∈ ns, NodeFit n) from hfit)
  have HN := (show Hid (NodesAt w v ns) from hn)
  obtain ⟨a, cap, rfl, hc1, hc2, hcs⟩ := hn.slice
  have HCS := (show Hid _ from hcs)
  clear hcs hn hfit
  obtain ⟨ia, hia, hza0, hza1, hza2⟩ := info_parts Tryz.infoAttrRow
  obtain ⟨ii, hii, hzi0, hzi1, hzi2⟩ := info_parts Tryz.infoIntRow
  obtain ⟨iN, hiN, hzN0, hzN1, hzN2⟩ := info_parts Tryz.infoNodeRow
  obtain ⟨w3, hw3⟩ : ∃ w3, w3 = ((w.alloc (.cells #[.slice a ns.length cap] 26)).alloc (.cells #[.slice none 0 0] 26)).alloc (.cells #[.slice none 0 0] 26) := ⟨_, rfl⟩
  have b3 : Below w.heap.size w w3 := by rw [hw3]; exact (((Below.refl _ w).alloc (Nat.le_refl _) _).alloc (by simp) _).alloc (by simp; omega) _
  have HS : Hid (CopyW w (.slice a ns.length cap) ns 0 (.slice none 0 0) w3) := by
    refine ⟨?_, ?_, ?_, by simpa using ownN_nil _ _, b3⟩
    · rw [hw3, Below.heap_alloc _ _ _ (by simp; omega), Below.heap_alloc _ _ _ (by simp)]
      exact World.alloc_heap_new _ _
    · rw [hw3, Below.heap_alloc _ _ _ (by simp)]
      have := World.alloc_heap_new (w.alloc (.cells #[.slice a ns.length cap] 26)) (.cells #[.slice none 0 0] 26)
      rwa [World.size_alloc] at this
    · rw [hw3]
      have := World.alloc_heap_new ((w.alloc (.cells #[.slice a ns.length cap] 26)).alloc (.cells #[.slice none 0 0] 26)) (.cells #[.slice none 0 0] 26)
      rwa [World.size_alloc, World.size_alloc] at this
  clear b3
  go_enter Tryz.func57, Tryz.ntmps57
  go_wp2
  rw [← hw3]
  clear hw3
  go_loopw [4] (fun i wr => ∃ (k : Nat) (vo : Value), k ≤ ns.length ∧ i = .int .i64 k ∧ CopyW w (.slice a ns.length cap) ns k vo wr) (fun i _ => ns.length - (intOf i).toNat)
  case atStart => exact ⟨0, _, Nat.zero_le _, rfl, HS.out⟩
  case round =>
    clear HS
    obtain ⟨k, vo, hk, rfl, hW⟩ := hrel
    have HW := (show Hid (CopyW w (.slice a ns.length cap) ns k vo wr) from hW)
    have hb := hW.bel
    have cT : wr.cell? ⟨w.heap.size, 0, none⟩ = some (.slice a ns.length cap) := by simp only [World.cell?, hW.bT]; rfl
    have cO : wr.cell? ⟨w.heap.size + 1 + 1, 0, none⟩ = some vo := by simp only [World.cell?, hW.bO]; rfl
    have hsz := blk_lt hW.bO
    clear hW
    by_cases hlt : k < ns.length
    · obtain ⟨b, off, av, kv, rfl, hblt, c0, c1, c2, c3, c4, c5, hav, hkv⟩ := HCS.out k hlt
      replace c0 := (hb.cell (p := ⟨b, off + k * 6, none⟩) hblt).trans c0
      replace c1 := (hb.cell (p := ⟨b, off + k * 6 + 1, none⟩) hblt).trans c1
      replace c2 := (hb.cell (p := ⟨b, off + k * 6 + 2, none⟩) hblt).trans c2
      replace c3 := (hb.cell (p := ⟨b, off + k * 6 + 3, none⟩) hblt).trans c3
      replace c4 := (hb.cell (p := ⟨b, off + k * 6 + 4, none⟩) hblt).trans c4
      replace c5 := (hb.cell (p := ⟨b, off + k * 6 + 5, none⟩) hblt).trans c5
      have hnf := HFIT.out ns[k] (List.getElem_mem hlt)
      have HAV := (show Hid (Sv 2 wr av (pairCells ns[k].attrs)) from hav.below hb)
      have HKV := (show Hid (Sl .i64 wr kv ns[k].kids) from hkv.below hb)
      obtain ⟨av1, av2, av3, rfl, _⟩ := hav
      obtain ⟨kv1, kv3, rfl, _⟩ := hkv
      have HTK : Hid (ns.take (k + 1) = ns.take k ++ [ns[k]]) := take_snoc ns hlt
      obtain ⟨nd, hnd⟩ : ∃ nd, nd = ns[k] := ⟨_, rfl⟩
      rw [← hnd] at c0 c1 c3 c4 c5 hnf HAV HKV HTK
      obtain ⟨k0, k1, rs, k3, k4, ks⟩ := nd
      have hrs := hnf.rs
      have hkl := hnf.kl
      simp only at c0 c1 c3 c4 c5 HAV HKV hrs hkl
      clear hnd hnf
      have o1 : ((wr.alloc (.cells #[.int .i64 k0, .string k1, .slice av1 av2 av3, .string k3, .int .i64 k4, .slice kv1 ks.length kv3] 37)).alloc (.cells #[] 110)).ownsRow w.heap.size 110 2 (.slice (some ⟨wr.heap.size + 1, 0, none⟩) 0 0) 0 [] := by
        have := empty_row (wr.alloc (.cells #[.int .i64 k0, .string k1, .slice av1 av2 av3, .string k3, .int .i64 k4, .slice kv1 ks.length kv3] 37)) w.heap.size 110 2 (by have := hb.size; simp; omega)
        rwa [World.size_alloc] at this
      have b1 : Below wr.heap.size wr ((wr.alloc (.cells #[.int .i64 k0, .string k1, .slice av1 av2 av3, .string k3, .int .i64 k4, .slice kv1 ks.length kv3] 37)).alloc (.cells #[] 110)) := ((Below.refl _ _).alloc (Nat.le_refl _) _).alloc (by simp) _
      have x1 : ((wr.alloc (.cells #[.int .i64 k0, .string k1, .slice av1 av2 av3, .string k3, .int .i64 k4, .slice kv1 ks.length kv3] 37)).alloc (.cells #[] 110)).heap[wr.heap.size]? = some (.cells #[.int .i64 k0, .string k1, .slice av1 av2 av3, .string k3, .int .i64 k4, .slice kv1 ks.length kv3] 37 (0, 0)) := by
        rw [Below.heap_alloc _ _ _ (by simp)]
        exact World.alloc_heap_new _ _
      have hav1 := HAV.out.below b1
      have HB1 := (show Hid _ from b1)
      have HX1 := (show Hid _ from x1)
      clear b1 x1
      have HOW := (show Hid (OwnN w.heap.size wr vo (ns.take k)) from HW.out.own)
      obtain ⟨qs, hq1, hq2, hq3⟩ := HOW.out
      have hql : qs.length = k := by have := congrArg List.length hq1; simp at this; omega
      have HQ1 := (show Hid (qs.map (fun q => q.1) = ns.take k) from hq1)
      have HQ2 := (show Hid _ from hq2)
      have HQ3 := (show Hid _ from hq3)
      obtain ⟨ao, no, co, rfl⟩ := own_slice hq2
      clear hq1 hq2 hq3 HOW
      have bW := hb.size
      go_wp2_with (first
        | (at_builtin
           refine wpList_appV _ rfl (.tmp 19) (.tmp 21) 35 rfl w.heap.size 110 ia _ 2 32 Tryz.underlying35 hia hza0 hza1 hza2 rfl (by decide) (.slice (some ⟨wr.heap.size + 1, 0, none⟩) 0 0) (.slice av1 av2 av3) 0 rs.length _ (pairCells rs) rfl rfl o1 hav1 (pairCells_len _) (pair_oneCell _) (by omega) (by unfold maxLen; omega) (by simp; omega) ?_
           intro v4 w4 o4 g4
           rw [List.nil_append, Nat.zero_add] at o4
           have b4 : Below wr.heap.size wr w4 := HB1.out.grown g4 (by simp; omega) (fun r e => by cases e; exact Nat.le_succ _)
           have x4 : w4.heap[wr.heap.size]? = some (.cells #[.int .i64 k0, .string k1, .slice av1 av2 av3, .string k3, .int .i64 k4, .slice kv1 ks.length kv3] 37 (0, 0)) := (g4.block _ (by simp; omega) (by simp [Value.ownBlock])).trans HX1.out
           have y5 : w4.cell? ⟨wr.heap.size, 5, none⟩ = some (.slice kv1 ks.length kv3) := by simp only [World.cell?, x4]; rfl
           have y2 : w4.cell? ⟨wr.heap.size, 2, none⟩ = some (.slice av1 av2 av3) := by simp only [World.cell?, x4]; rfl
           have z2 : w4.frozen? ⟨wr.heap.size, 2, none⟩ = false := by simp [World.frozen?, x4]
           have hlt4 := blk_lt x4
           obtain ⟨a4, n4, d4, rfl⟩ := own_slice o4
           have HX4 := (show Hid _ from x4)
           have HB4 := (show Hid (Below wr.heap.size wr w4) from b4)
           have HO4 := (show Hid _ from o4)
           have g5 : w4.grownBy ((w4.setCell ⟨wr.heap.size, 2, none⟩ (.slice a4 n4 d4)).alloc (.cells #[] 3)) (some wr.heap.size) := grown_trans (grown_setCell _ _ _ _) (World.grownBy_alloc _ _ _)
           have o5 : Own w.heap.size 3 .i64 ((w4.setCell ⟨wr.heap.size, 2, none⟩ (.slice a4 n4 d4)).alloc (.cells #[] 3)) (.slice (some ⟨w4.heap.size, 0, none⟩) 0 0) [] := by
             have := empty_row (w4.setCell ⟨wr.heap.size, 2, none⟩ (.slice a4 n4 d4)) w.heap.size 3 1 (by simp [World.setCell]; omega)
             rwa [show (w4.setCell ⟨wr.heap.size, 2, none⟩ (.slice a4 n4 d4)).heap.size = w4.heap.size by simp [World.setCell]] at this
           have b5 : Below wr.heap.size wr ((w4.setCell ⟨wr.heap.size, 2, none⟩ (.slice a4 n4 d4)).alloc (.cells #[] 3)) := b4.grown g5 (by omega) (fun r e => by cases e; exact Nat.le_refl _)
           have x5 : ((w4.setCell ⟨wr.heap.size, 2, none⟩ (.slice a4 n4 d4)).alloc (.cells #[] 3)).heap[wr.heap.size]? = some (.cells #[.int .i64 k0, .string k1, .slice a4 n4 d4, .string k3, .int .i64 k4, .slice kv1 ks.length kv3] 37 (0, 0)) := by
             rw [Below.heap_alloc _ _ _ (by simp [World.setCell]; omega)]
             exact setCell_at x4
           have hkv5 := HKV.out.below b5
           have HX5 := (show Hid _ from x5)
           have HB5 := (show Hid _ from b5)
           have HG5 := (show Hid _ from g5)
           clear x4 x5 b4 b5 g5 o4 g4 o1 hav1 c0 c1 c2 c3 c4 c5 HX1 HB1)
        | (at_builtin
           refine wpList_app _ rfl (.tmp 24) (.tmp 26) 27 rfl w.heap.size 3 ii (.int .i64 0) 8 Tryz.underlying27 hii hzi0 hzi1 hzi2 rfl .i64 (.slice (some ⟨w4.heap.size, 0, none⟩) 0 0) (.slice kv1 ks.length kv3) [] ks rfl rfl o5 hkv5 (by simp; omega) (by unfold maxLen; simp; omega) (by simp [World.setCell]; omega) ?_
           intro v6 w6 o6 g6
           rw [List.nil_append] at o6
           obtain ⟨a6, n6, d6, rfl⟩ := own_slice o6
           have g46 : w4.grownBy w6 (some wr.heap.size) := ⟨g6.os.trans HG5.out.os, g6.tape.trans HG5.out.tape, g6.output.trans HG5.out.output, Nat.le_trans HG5.out.size g6.size, fun r hr hne => (g6.block r (Nat.lt_of_lt_of_le hr HG5.out.size) (fun e => by cases e; exact Nat.lt_irrefl _ hr)).trans (HG5.out.block r hr hne)⟩
           have b6 : Below wr.heap.size wr w6 := HB5.out.grown g6 (by have := HG5.out.size; omega) (fun r e => by cases e; exact Nat.le_of_lt hlt4)
           have x6 : w6.heap[wr.heap.size]? = some (.cells #[.int .i64 k0, .string k1, .slice a4 n4 d4, .string k3, .int .i64 k4, .slice kv1 ks.length kv3] 37 (0, 0)) := (g6.block _ (blk_lt HX5.out) (fun e => by simp only [Value.ownBlock, Option.some.injEq] at e; omega)).trans HX5.out
           have o46 := kept_of_type HO4.out g46 (fun r e => by cases e; exact ⟨_, _, _, HX4.out, by decide⟩)
           have y0 : w6.cell? ⟨wr.heap.size, 0, none⟩ = some (.int .i64 k0) := by simp only [World.cell?, x6]; rfl
           have y1 : w6.cell? ⟨wr.heap.size, 1, none⟩ = some (.string k1) := by simp only [World.cell?, x6]; rfl
           have y2 : w6.cell? ⟨wr.heap.size, 2, none⟩ = some (.slice a4 n4 d4) := by simp only [World.cell?, x6]; rfl
           have y3 : w6.cell? ⟨wr.heap.size, 3, none⟩ = some (.string k3) := by simp only [World.cell?, x6]; rfl
           have y4 : w6.cell? ⟨wr.heap.size, 4, none⟩ = some (.int .i64 k4) := by simp only [World.cell?, x6]; rfl
           have y5 : w6.cell? ⟨wr.heap.size, 5, none⟩ = some (.slice kv1 ks.length kv3) := by simp only [World.cell?, x6]; rfl
           have z5 : w6.frozen? ⟨wr.heap.size, 5, none⟩ = false := by simp [World.frozen?, x6]
           have hlt6 := blk_lt x6
           have cO6 : w6.cell? ⟨w.heap.size + 1 + 1, 0, none⟩ = some (.slice ao no co) := (b6.cell (p := ⟨w.heap.size + 1 + 1, 0, none⟩) hsz).trans cO
           have hne6 : wr.heap.size ≠ w.heap.size + 1 + 1 := by omega
           have g8 : w6.grownBy ((w6.setCell ⟨wr.heap.size, 5, none⟩ (.slice a6 n6 d6)).alloc (.cells #[.int .i64 k0, .string k1, .slice a4 n4 d4, .string k3, .int .i64 k4, .slice a6 n6 d6] 37)) (some wr.heap.size) := grown_trans (grown_setCell _ _ _ _) (World.grownBy_alloc _ _ _)
           have b8 : Below wr.heap.size wr ((w6.setCell ⟨wr.heap.size, 5, none⟩ (.slice a6 n6 d6)).alloc (.cells #[.int .i64 k0, .string k1, .slice a4 n4 d4, .string k3, .int .i64 k4, .slice a6 n6 d6] 37)) := b6.grown g8 (by omega) (fun r e => by cases e; exact Nat.le_refl _)
           have x8 : ((w6.setCell ⟨wr.heap.size, 5, none⟩ (.slice a6 n6 d6)).alloc (.cells #[.int .i64 k0, .string k1, .slice a4 n4 d4, .string k3, .int .i64 k4, .slice a6 n6 d6] 37)).heap[w6.heap.size]? = some (.cells #[.int .i64 k0, .string k1, .slice a4 n4 d4, .string k3, .int .i64 k4, .slice a6 n6 d6] 37 (0, 0)) := by
             have := World.alloc_heap_new (w6.setCell ⟨wr.heap.size, 5, none⟩ (.slice a6 n6 d6)) (.cells #[.int .i64 k0, .string k1, .slice a4 n4 d4, .string k3, .int .i64 k4, .slice a6 n6 d6] 37)
             rwa [show (w6.setCell ⟨wr.heap.size, 5, none⟩ (.slice a6 n6 d6)).heap.size = w6.heap.size by simp [World.setCell]] at this
           have o48 := kept_of_type o46 g8 (fun r e => by cases e; exact ⟨_, _, _, x6, by decide⟩)
           have o68 : Own w.heap.size 3 .i64 _ _ ks := kept_of_type o6 g8 (fun r e => by cases e; exact ⟨_, _, _, x6, by decide⟩)
           have sv8 := sv_oneNode (q := ((⟨k0, k1, rs, k3, k4, ks⟩, (.slice a4 n4 d4, .slice a6 n6 d6)) : PNode × (Value × Value))) x8
           have hrow8 := ownsRow_below HQ2.out b8
           rw [show (ns.take k).length = k by simp; omega] at hrow8
           have one8 := node_oneCell (q := ((⟨k0, k1, rs, k3, k4, ks⟩, (.slice a4 n4 d4, .slice a6 n6 d6)) : PNode × (Value × Value))) ⟨o48, o68⟩
           have HQQ := (show Hid (_ ∧ _) from ⟨o48, o68⟩)
           have HB8 := (show Hid _ from b8)
           clear o6 g6 g46 b6 x6 o46 g8 b8 x8 o48 o68 HX4 HO4 HX5 HB5 HG5 o5 hkv5)
        | (at_builtin
           refine wpList_appV _ rfl (.tmp 30) (.tmp 32) 24 rfl w.heap.size 37 iN _ 6 96 Tryz.underlying24 hiN hzN0 hzN1 hzN2 rfl (by decide) (.slice ao no co) (.slice (some ⟨w6.heap.size, 0, none⟩) 1 1) k 1 (nodeCells qs) _ rfl rfl hrow8 sv8 rfl one8 (by omega) (by unfold maxLen; omega) (by simp [World.setCell]; omega) ?_
           intro v9 w9 o9 g9
           obtain ⟨a9, n9, d9, rfl⟩ := own_slice o9
           have own9 := OwnN.snoc (q := ((⟨k0, k1, rs, k3, k4, ks⟩, (.slice a4 n4 d4, .slice a6 n6 d6)) : PNode × (Value × Value))) (by rw [hql]; exact hrow8) (fun q hq => ⟨ownsRow_below (HQ3.out q hq).1 HB8.out, (HQ3.out q hq).2.below HB8.out⟩) HQQ.out (by rw [hql]; exact o9) g9
           rw [HQ1.out] at own9
           have t9 := blk_type ((HB8.out.block _ (by omega)).trans HW.out.bT) g9 (row_type hrow8 (by decide))
           have r9 := blk_type ((HB8.out.block _ (by omega)).trans HW.out.bR) g9 (row_type hrow8 (by decide))
           have q9 := blk_type ((HB8.out.block _ (by omega)).trans HW.out.bO) g9 (row_type hrow8 (by decide))
           have cO9 : w9.cell? ⟨w.heap.size + 1 + 1, 0, none⟩ = some (.slice ao no co) := by simp only [World.cell?, q9]; rfl
           have fO9 : w9.frozen? ⟨w.heap.size + 1 + 1, 0, none⟩ = false := by simp [World.frozen?, q9]
           have b9 : Below w.heap.size w w9 := by
             have b08 := hb.trans (HB8.out.mono hb.size)
             refine b08.grown g9 b08.size (fun r e => ?_)
             have := hrow8.lt r e
             exact this.1
           have H9 := (show Hid (_ ∧ _ ∧ _ ∧ _ ∧ _) from ⟨own9, t9, r9, q9, b9⟩)
           clear o9 g9 own9 t9 r9 q9 b9 hrow8 sv8 one8 HQQ HB8))
      have H9' := H9.out
      obtain ⟨own9, t9, r9, q9, b9⟩ := H9'
      have gs := setCell_at (k := 0) (u := .slice a9 n9 d9) q9
      go_roundw
      case rel =>
        refine ⟨k + 1, .slice a9 n9 d9, by omega, by go_num, ?_⟩
        refine ⟨?_, ?_, gs, ?_, b9.setCell (p := ⟨w.heap.size + 1 + 1, 0, none⟩) (by simp; omega) _⟩
        · exact (Below.heap_setCell w9 ⟨w.heap.size + 1 + 1, 0, none⟩ _ w.heap.size (by show w.heap.size ≠ w.heap.size + 1 + 1; omega)).trans t9
        · exact (Below.heap_setCell w9 ⟨w.heap.size + 1 + 1, 0, none⟩ _ (w.heap.size + 1) (by show w.heap.size + 1 ≠ w.heap.size + 1 + 1; omega)).trans r9
        · rw [HTK.out]
          exact own9.kept (grown_setCell _ _ _ _) (fun r e => by cases e; exact ⟨_, _, _, q9, by decide, by decide, by decide⟩)
      case measure => simp [intOf]; omega
    · have hke : k = ns.length := by omega
      have cR : wr.cell? ⟨w.heap.size + 1, 0, none⟩ = some (.slice none 0 0) := by simp only [World.cell?, HW.out.bR]; rfl
      have fR : wr.frozen? ⟨w.heap.size + 1, 0, none⟩ = false := by simp [World.frozen?, HW.out.bR]
      have own0 := HW.out.own
      rw [hke, List.take_length] at own0
      obtain ⟨ao, no, co, rfl⟩ : ∃ ao no co, vo = .slice ao no co := by obtain ⟨_, _, h, _⟩ := own0; exact own_slice h
      have HOW := (show Hid _ from own0)
      clear own0
      go_wp2
      have gs := setCell_at (k := 0) (u := .slice ao no co) HW.out.bR
      refine bodyPost_ret (results_cell_row rfl _ _ (w.heap.size + 1) 26 _ (0, 0) _ rfl gs Tryz.underlying26 rfl rfl) rfl ?_
      exact ⟨.slice ao no co, rfl, OwnN.kept HOW.out (grown_setCell _ _ _ _) (fun r e => by cases e; exact ⟨_, _, _, HW.out.bR, by decide, by decide, by decide⟩), hb.setCell (p := ⟨w.heap.size + 1, 0, none⟩) (by simp) _⟩
end Go.Proofs.YtkljadaggnbjkaaGreat

/- The program's copyOfNodes. No condition. -/
namespace Go.Proofs.YtkljadaggnbjkaaGreat
open Go.RowKit
set_option maxRecDepth 100000
set_option linter.unusedVariables false

theorem six_of {zs : List Value} {m : Nat} (h : zs.length = (m + 1) * 6) : ∃ a0 a1 a2 a3 a4 a5 rest, zs = a0 :: a1 :: a2 :: a3 :: a4 :: a5 :: rest ∧ rest.length = m * 6 := by
  match zs, h with
  | a0 :: a1 :: a2 :: a3 :: a4 :: a5 :: rest, h => exact ⟨a0, a1, a2, a3, a4, a5, rest, rfl, by simp only [List.length_cons] at h; omega⟩
  | [], h => simp only [List.length_nil] at h; omega
  | [_], h => simp only [List.length_cons, List.length_nil] at h; omega
  | [_, _], h => simp only [List.length_cons, List.length_nil] at h; omega
  | [_, _, _], h => simp only [List.length_cons, List.length_nil] at h; omega
  | [_, _, _, _], h => simp only [List.length_cons, List.length_nil] at h; omega
  | [_, _, _, _, _], h => simp only [List.length_cons, List.length_nil] at h; omega
theorem set_at_len {L : List Value} {a u : Value} {R : List Value} {n : Nat} (h : n = L.length) : (L ++ a :: R).set n u = (L ++ [u]) ++ R := by
  subst h
  rw [List.set_append_right _ _ (Nat.le_refl _)]
  simp

theorem six_cells {W : World} {B g n c k : Nat} {L : List Value} {a0 a1 a2 a3 a4 a5 : Value} {rest : List Value} (h : W.ownsRow B 37 6 (.slice (some ⟨g, 0, none⟩) n c) n (L ++ a0 :: a1 :: a2 :: a3 :: a4 :: a5 :: rest)) (hl : L.length = k * 6) (hk : k < n) :
    (W.cell? ⟨g, k * 6, none⟩ = some a0 ∧ W.cell? ⟨g, k * 6 + 1, none⟩ = some a1 ∧ W.cell? ⟨g, k * 6 + 2, none⟩ = some a2 ∧ W.cell? ⟨g, k * 6 + 3, none⟩ = some a3 ∧ W.cell? ⟨g, k * 6 + 4, none⟩ = some a4 ∧ W.cell? ⟨g, k * 6 + 5, none⟩ = some a5) ∧ ∀ j, W.frozen? ⟨g, j, none⟩ = false := by
  refine ⟨⟨?_, ?_, ?_, ?_, ?_, ?_⟩, fun j => h.frozenAt j⟩
  · rw [h.cellAt (k * 6) (by omega), List.getElem?_append_right (by omega), hl, Nat.sub_self]; rfl
  · rw [h.cellAt (k * 6 + 1) (by omega), List.getElem?_append_right (by omega), hl, Nat.add_sub_cancel_left]; rfl
  · rw [h.cellAt (k * 6 + 2) (by omega), List.getElem?_append_right (by omega), hl, Nat.add_sub_cancel_left]; rfl
  · rw [h.cellAt (k * 6 + 3) (by omega), List.getElem?_append_right (by omega), hl, Nat.add_sub_cancel_left]; rfl
  · rw [h.cellAt (k * 6 + 4) (by omega), List.getElem?_append_right (by omega), hl, Nat.add_sub_cancel_left]; rfl
  · rw [h.cellAt (k * 6 + 5) (by omega), List.getElem?_append_right (by omega), hl, Nat.add_sub_cancel_left]; rfl

theorem six_sets {W : World} {B g n c k : Nat} {L : List Value} {a0 a1 a2 a3 a4 a5 : Value} {rest : List Value} (h : W.ownsRow B 37 6 (.slice (some ⟨g, 0, none⟩) n c) n (L ++ a0 :: a1 :: a2 :: a3 :: a4 :: a5 :: rest)) (hl : L.length = k * 6) (u0 u1 u2 u3 u4 u5 : Value) :
    ((((((W.setCell ⟨g, k * 6, none⟩ u0).setCell ⟨g, k * 6 + 1, none⟩ u1).setCell ⟨g, k * 6 + 2, none⟩ u2).setCell ⟨g, k * 6 + 3, none⟩ u3).setCell ⟨g, k * 6 + 4, none⟩ u4).setCell ⟨g, k * 6 + 5, none⟩ u5).ownsRow B 37 6 (.slice (some ⟨g, 0, none⟩) n c) n ((L ++ [u0, u1, u2, u3, u4, u5]) ++ rest) ∧ W.grownBy ((((((W.setCell ⟨g, k * 6, none⟩ u0).setCell ⟨g, k * 6 + 1, none⟩ u1).setCell ⟨g, k * 6 + 2, none⟩ u2).setCell ⟨g, k * 6 + 3, none⟩ u3).setCell ⟨g, k * 6 + 4, none⟩ u4).setCell ⟨g, k * 6 + 5, none⟩ u5) (some g) := by
  obtain ⟨h0, g0⟩ := World.ownsRow.stored h (k * 6) u0
  rw [set_at_len (by omega)] at h0
  obtain ⟨h1, g1⟩ := World.ownsRow.stored h0 (k * 6 + 1) u1
  rw [set_at_len (by simp only [List.length_append, List.length_singleton]; omega)] at h1
  obtain ⟨h2, g2⟩ := World.ownsRow.stored h1 (k * 6 + 2) u2
  rw [set_at_len (by simp only [List.length_append, List.length_singleton]; omega)] at h2
  obtain ⟨h3, g3⟩ := World.ownsRow.stored h2 (k * 6 + 3) u3
  rw [set_at_len (by simp only [List.length_append, List.length_singleton]; omega)] at h3
  obtain ⟨h4, g4⟩ := World.ownsRow.stored h3 (k * 6 + 4) u4
  rw [set_at_len (by simp only [List.length_append, List.length_singleton]; omega)] at h4
  obtain ⟨h5, g5⟩ := World.ownsRow.stored h4 (k * 6 + 5) u5
  rw [set_at_len (by simp only [List.length_append, List.length_singleton]; omega)] at h5
  refine ⟨by simpa using h5, grown_trans (grown_trans (grown_trans (grown_trans (grown_trans g0 g1) g2) g3) g4) g5⟩

/-- While the nodes are copied: k of them are. -/
structure CopyI (w : World) (ns : List PNode) (k : Nat) (qs : List (PNode × (Value × Value))) (zs : List Value) (W : World) : Prop where
  qm : qs.map (fun q => q.1) = ns.take k
  row : W.ownsRow w.heap.size 37 6 (.slice (some ⟨w.heap.size, 0, none⟩) ns.length ns.length) ns.length (nodeCells qs ++ zs)
  zl : zs.length = (ns.length - k) * 6
  lists : ∀ q ∈ qs, W.ownsRow w.heap.size 110 2 q.2.1 q.1.attrs.length (pairCells q.1.attrs) ∧ Own w.heap.size 3 .i64 W q.2.2 q.1.kids
  bel : Below w.heap.size w W

set_option maxHeartbeats 2000000 in
set_option maxRecDepth 100000 in
theorem icopy_any {w : World} {v : Value} {ns : List PNode} (hn : NodesAt w v ns) (hfit : ∀ n ∈ ns, NodeFit n) (hlen : ns.length ≤ 1048576) :
    Calls Tryz.prog 66 #[v] w fun e w' => ∃ v', e = .returned v' ∧ OwnN w.heap.size w' v' ns ∧ Below w.heap.size w w' := by
  have HFIT := (show Hid (∀ n ∈ ns, NodeFit n) from hfit)
  obtain ⟨a, cap, rfl, hc1, hc2, hcs⟩ := hn.slice
  have HCS := (show Hid _ from hcs)
  clear hcs hn hfit
  obtain ⟨ia, hia, hza0, hza1, hza2⟩ := info_parts Tryz.infoAttrRow
  obtain ⟨ii, hii, hzi0, hzi1, hzi2⟩ := info_parts Tryz.infoIntRow
  obtain ⟨iN, hiN, hzN0, hzN1, hzN2⟩ := info_parts Tryz.infoNodeRow
  go_enter Tryz.func66, Tryz.ntmps66
  go_wp2_with (at_make; refine wpList_make_full _ rfl (.tmp 7) (.tmp 7) 24 rfl w.heap.size 37 iN _ 6 Tryz.underlying24 hiN hzN0 hzN1 .i64 .i64 ns.length ns.length ns.length rfl rfl rfl rfl (by rw [hzN2]; omega) (by unfold maxLen; omega) (Nat.le_refl _) ?_; intro w1 o1 g1)
  have HI : Hid (CopyI w ns 0 [] (madeCells (Value.agg #[.int .i64 0, .string ⟨#[]⟩, .slice none 0 0, .string ⟨#[]⟩, .int .i64 0, .slice none 0 0]).cells (ns.length * 6)).toList w1) :=
    ⟨by simp, by simpa [nodeCells] using o1, by simp [madeCells], (fun q hq => by cases hq), (Below.refl _ _).grown g1 (Nat.le_refl _) (fun k hk => by cases hk)⟩
  clear o1 g1
  go_loopw [11] (fun i wr => ∃ (k : Nat) (qs : List (PNode × (Value × Value))) (zs : List Value), k ≤ ns.length ∧ i = .int .i64 k ∧ CopyI w ns k qs zs wr) (fun i _ => ns.length - (intOf i).toNat)
  case atStart => exact ⟨0, _, _, Nat.zero_le _, rfl, HI.out⟩
  case round =>
    clear HI
    obtain ⟨k, qs, zs, hk, rfl, hW⟩ := hrel
    have HW := (show Hid (CopyI w ns k qs zs wr) from hW)
    have hb := hW.bel
    have hql : qs.length = k := by have := congrArg List.length hW.qm; simp at this; omega
    clear hW
    by_cases hlt : k < ns.length
    · obtain ⟨b, off, av, kv, rfl, hblt, c0, c1, c2, c3, c4, c5, hav, hkv⟩ := HCS.out k hlt
      replace c0 := (hb.cell (p := ⟨b, off + k * 6, none⟩) hblt).trans c0
      replace c1 := (hb.cell (p := ⟨b, off + k * 6 + 1, none⟩) hblt).trans c1
      replace c2 := (hb.cell (p := ⟨b, off + k * 6 + 2, none⟩) hblt).trans c2
      replace c3 := (hb.cell (p := ⟨b, off + k * 6 + 3, none⟩) hblt).trans c3
      replace c4 := (hb.cell (p := ⟨b, off + k * 6 + 4, none⟩) hblt).trans c4
      replace c5 := (hb.cell (p := ⟨b, off + k * 6 + 5, none⟩) hblt).trans c5
      have hnf := HFIT.out ns[k] (List.getElem_mem hlt)
      have HAV := (show Hid (Sv 2 wr av (pairCells ns[k].attrs)) from hav.below hb)
      have HKV := (show Hid (Sl .i64 wr kv ns[k].kids) from hkv.below hb)
      obtain ⟨av1, av2, av3, rfl, _⟩ := hav
      obtain ⟨kv1, kv3, rfl, _⟩ := hkv
      have HTK : Hid (ns.take (k + 1) = ns.take k ++ [ns[k]]) := take_snoc ns hlt
      obtain ⟨nd, hnd⟩ : ∃ nd, nd = ns[k] := ⟨_, rfl⟩
      rw [← hnd] at c0 c1 c3 c4 c5 hnf HAV HKV HTK
      obtain ⟨k0, k1, rs, k3, k4, ks⟩ := nd
      have hrs := hnf.rs
      have hkl := hnf.kl
      simp only at c0 c1 c3 c4 c5 HAV HKV hrs hkl
      clear hnd hnf
      obtain ⟨wa, hwa⟩ : ∃ x, x = wr.alloc (.cells #[.int .i64 k0, .string k1, .slice av1 av2 av3, .string k3, .int .i64 k4, .slice kv1 ks.length kv3] 37) := ⟨_, rfl⟩
      have b1 : Below wr.heap.size wr wa := by rw [hwa]; exact (Below.refl _ _).alloc (Nat.le_refl _) _
      have x1 : wa.heap[wr.heap.size]? = some (.cells #[.int .i64 k0, .string k1, .slice av1 av2 av3, .string k3, .int .i64 k4, .slice kv1 ks.length kv3] 37 (0, 0)) := by rw [hwa]; exact World.alloc_heap_new _ _
      have hav1 := HAV.out.below b1
      have hs1 := blk_lt x1
      have y2 : wa.cell? ⟨wr.heap.size, 2, none⟩ = some (.slice av1 av2 av3) := by simp only [World.cell?, x1]; rfl
      have hbs := hb.size
      have HB1 := (show Hid _ from b1)
      have HX1 := (show Hid _ from x1)
      clear b1 x1
      have hg6 : (nodeCells qs).length = k * 6 := by rw [nodeCells_len, hql]
      have hzl := HW.out.zl
      obtain ⟨m, hm⟩ : ∃ m, ns.length - k = m + 1 := ⟨ns.length - k - 1, by omega⟩
      rw [hm] at hzl
      obtain ⟨e0, e1, e2, e3, e4, e5, rest, hzs, hrest⟩ := six_of hzl
      have hrow := HW.out.row
      rw [hzs] at hrow
      have HROW := (show Hid _ from hrow)
      have HLI := (show Hid _ from HW.out.lists)
      have HG6 := (show Hid ((nodeCells qs).length = k * 6) from hg6)
      have HRE := (show Hid (rest.length = (ns.length - (k + 1)) * 6) from (by rw [hrest]; congr 1; omega))
      clear hzl hzs hrow hg6 hrest hm
      go_wp2_with (first
        | (at_builtin
           rw [← hwa]
           refine wpList_appV _ rfl (.const (.slice none 0 0)) (.tmp 17) 35 rfl w.heap.size 110 ia _ 2 32 Tryz.underlying35 hia hza0 hza1 hza2 rfl (by decide) (.slice none 0 0) (.slice av1 av2 av3) 0 rs.length [] (pairCells rs) rfl rfl (World.ownsRow_nil _ _ _ _) hav1 (pairCells_len _) (pair_oneCell _) (by omega) (by unfold maxLen; omega) (by omega) ?_
           intro v4 w4 o4 g4
           clear hwa
           rw [List.nil_append, Nat.zero_add] at o4
           have b4 : Below wr.heap.size wr w4 := HB1.out.grown g4 (by omega) (fun r e => by cases e)
           have x4 : w4.heap[wr.heap.size]? = some (.cells #[.int .i64 k0, .string k1, .slice av1 av2 av3, .string k3, .int .i64 k4, .slice kv1 ks.length kv3] 37 (0, 0)) := (g4.block _ (by omega) (by simp [Value.ownBlock])).trans HX1.out
           have y2' : w4.cell? ⟨wr.heap.size, 2, none⟩ = some (.slice av1 av2 av3) := by simp only [World.cell?, x4]; rfl
           have y5' : w4.cell? ⟨wr.heap.size, 5, none⟩ = some (.slice kv1 ks.length kv3) := by simp only [World.cell?, x4]; rfl
           have z2 : w4.frozen? ⟨wr.heap.size, 2, none⟩ = false := by simp [World.frozen?, x4]
           have hlt4 := blk_lt x4
           obtain ⟨a4, n4, d4, rfl⟩ := own_slice o4
           have gs4 : w4.grownBy (w4.setCell ⟨wr.heap.size, 2, none⟩ (.slice a4 n4 d4)) (some wr.heap.size) := grown_setCell _ _ _ _
           have x5 : (w4.setCell ⟨wr.heap.size, 2, none⟩ (.slice a4 n4 d4)).heap[wr.heap.size]? = some (.cells #[.int .i64 k0, .string k1, .slice a4 n4 d4, .string k3, .int .i64 k4, .slice kv1 ks.length kv3] 37 (0, 0)) := setCell_at x4
           have b5 : Below wr.heap.size wr (w4.setCell ⟨wr.heap.size, 2, none⟩ (.slice a4 n4 d4)) := b4.grown gs4 b4.size (fun r e => by cases e; exact Nat.le_refl _)
           have o5 := kept_of_type o4 gs4 (fun r e => by cases e; exact ⟨_, _, _, x4, by decide⟩)
           have hkv5 := HKV.out.below b5
           have hs5 := blk_lt x5
           have HX5 := (show Hid _ from x5)
           have HB5 := (show Hid _ from b5)
           have HO5 := (show Hid _ from o5)
           clear x4 x5 b4 b5 gs4 o4 g4 o5 hav1 c0 c1 c2 c3 c4 c5 HX1 HB1 y2 hs1)
        | (at_builtin
           refine wpList_app _ rfl (.const (.slice none 0 0)) (.tmp 21) 27 rfl w.heap.size 3 ii (.int .i64 0) 8 Tryz.underlying27 hii hzi0 hzi1 hzi2 rfl .i64 (.slice none 0 0) (.slice kv1 ks.length kv3) [] ks rfl rfl (World.ownsRow_nil _ _ _ _) hkv5 (by simp; omega) (by unfold maxLen; simp; omega) (by simp [World.setCell]; omega) ?_
           intro v6 w6 o6 g6
           rw [List.nil_append] at o6
           obtain ⟨a6, n6, d6, rfl⟩ := own_slice o6
           have b6 : Below wr.heap.size wr w6 := HB5.out.grown g6 (by have := HB5.out.size; omega) (fun r e => by cases e)
           have x6 : w6.heap[wr.heap.size]? = some (.cells #[.int .i64 k0, .string k1, .slice a4 n4 d4, .string k3, .int .i64 k4, .slice kv1 ks.length kv3] 37 (0, 0)) := (g6.block _ hs5 (by simp [Value.ownBlock])).trans HX5.out
           have o46 := kept_of_type HO5.out g6 (fun r e => by cases e)
           have z5 : w6.frozen? ⟨wr.heap.size, 5, none⟩ = false := by simp [World.frozen?, x6]
           have y00 : w6.cell? ⟨wr.heap.size, 0, none⟩ = some (.int .i64 k0) := by simp only [World.cell?, x6]; rfl
           have y10 : w6.cell? ⟨wr.heap.size, 1, none⟩ = some (.string k1) := by simp only [World.cell?, x6]; rfl
           have y20 : w6.cell? ⟨wr.heap.size, 2, none⟩ = some (.slice a4 n4 d4) := by simp only [World.cell?, x6]; rfl
           have y30 : w6.cell? ⟨wr.heap.size, 3, none⟩ = some (.string k3) := by simp only [World.cell?, x6]; rfl
           have y40 : w6.cell? ⟨wr.heap.size, 4, none⟩ = some (.int .i64 k4) := by simp only [World.cell?, x6]; rfl
           have y50 : w6.cell? ⟨wr.heap.size, 5, none⟩ = some (.slice kv1 ks.length kv3) := by simp only [World.cell?, x6]; rfl
           have hlt6 := blk_lt x6
           obtain ⟨w7, hw7⟩ : ∃ x, x = w6.setCell ⟨wr.heap.size, 5, none⟩ (.slice a6 n6 d6) := ⟨_, rfl⟩
           have g7 : w6.grownBy w7 (some wr.heap.size) := by rw [hw7]; exact grown_setCell _ _ _ _
           have x7 : w7.heap[wr.heap.size]? = some (.cells #[.int .i64 k0, .string k1, .slice a4 n4 d4, .string k3, .int .i64 k4, .slice a6 n6 d6] 37 (0, 0)) := by rw [hw7]; exact setCell_at x6
           have b7 : Below wr.heap.size wr w7 := b6.grown g7 b6.size (fun r e => by cases e; exact Nat.le_refl _)
           have o47 := kept_of_type o46 g7 (fun r e => by cases e; exact ⟨_, _, _, x6, by decide⟩)
           have o67 : Own w.heap.size 3 .i64 _ _ ks := kept_of_type o6 g7 (fun r e => by cases e; exact ⟨_, _, _, x6, by decide⟩)
           have HQ := (show Hid (_ ∧ _) from ⟨o47, o67⟩)
           have HB7 := (show Hid _ from b7)
           have HX7 := (show Hid _ from x7)
           have hrow6 := ownsRow_below HROW.out b6
           obtain ⟨⟨r0, r1, r2, r3, r4, r5⟩, hfz⟩ := six_cells hrow6 HG6.out hlt
           have f0 := hfz (k * 6)
           have f1 := hfz (k * 6 + 1)
           have f2 := hfz (k * 6 + 2)
           have f3 := hfz (k * 6 + 3)
           have f4 := hfz (k * 6 + 4)
           have f5 := hfz (k * 6 + 5)
           clear hfz
           have HROW7 := (show Hid _ from ownsRow_below HROW.out b7)
           have hne6 : wr.heap.size ≠ w.heap.size := by
             have := (hrow6.lt w.heap.size rfl).2
             have h2 := (World.ownsRow.lt HROW.out w.heap.size rfl).2
             omega
           clear hrow6 o6 g6 b6 x6 o46 g7 b7 x7 o47 o67 HX5 HB5 HO5 hkv5))
      go_roundw
      case rel =>
        have hrow7 := HROW7.out
        rw [hw7] at hrow7
        obtain ⟨o8, g8⟩ := six_sets (k := k) hrow7 HG6.out (.int .i64 k0) (.string k1) (.slice a4 n4 d4) (.string k3) (.int .i64 k4) (.slice a6 n6 d6)
        have b8 := (hb.trans (HB7.out.mono hb.size)).grown (by rw [hw7]; exact g8) (hb.trans (HB7.out.mono hb.size)).size (fun r e => by cases e; exact Nat.le_refl _)
        refine ⟨k + 1, qs ++ [((⟨k0, k1, rs, k3, k4, ks⟩, (.slice a4 n4 d4, .slice a6 n6 d6)) : PNode × (Value × Value))], rest, by omega, by go_num, ?_⟩
        refine ⟨by rw [List.map_append, HW.out.qm, HTK.out]; rfl, ?_, HRE.out, ?_, b8⟩
        · rw [nodeCells_app]
          simpa [nodeCells, nodeRow] using o8
        · have key : ∀ q : PNode × (Value × Value), (w7.ownsRow w.heap.size 110 2 q.2.1 q.1.attrs.length (pairCells q.1.attrs) ∧ Own w.heap.size 3 .i64 w7 q.2.2 q.1.kids) → _ := fun q h => lists_kept (q := q) (by rw [hw7]; exact hrow7) (by rw [hw7]; exact g8) h
          intro q hq
          rcases List.mem_append.mp hq with hq | hq
          · have := HLI.out q hq
            exact key q ⟨ownsRow_below this.1 HB7.out, this.2.below HB7.out⟩
          · simp only [List.mem_cons, List.not_mem_nil, or_false] at hq
            subst hq
            exact key _ HQ.out
      case measure => simp [intOf]; omega
    · have hke : k = ns.length := by omega
      have hz : zs = [] := List.length_eq_zero_iff.mp (by rw [HW.out.zl, hke]; simp)
      have HO : Hid (OwnN w.heap.size wr (.slice (some ⟨w.heap.size, 0, none⟩) ns.length ns.length) ns) := ⟨qs, by rw [HW.out.qm, hke, List.take_length], by have := HW.out.row; rwa [hz, List.append_nil] at this, HW.out.lists⟩
      clear hz
      go_wp2
      go_ret
      exact ⟨_, rfl, HO.out, hb⟩
end Go.Proofs.YtkljadaggnbjkaaGreat
