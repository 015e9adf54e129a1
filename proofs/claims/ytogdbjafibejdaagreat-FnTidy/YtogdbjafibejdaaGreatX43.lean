/- strings.Builder at this program: the library's contracts of WriteString and String, laid by hand. -/
import Derived.Shelf.Strings.BuilderK
import Derived.Shelf.Small.Utf8
import Derived.Test.YtogdbjafibejdaaGreatX42
import Derived.Test.YtogdbjafibejdaaGreatX16
import Derived.Test.YtogdbjafibejdaaGreatX35
import Derived.Test.YtogdbjafibejdaaGreatX15
import Derived.Test.YtogdbjafibejdaaGreatX33
namespace Go.Proofs.YtogdbjafibejdaaGreat
open Go.RowKit Go.Shelf
set_option maxRecDepth 100000
set_option linter.unusedVariables false

def bldRen2 : Go.Shelf.Ren := ⟨fun | 166 => 76 | 169 => 77 | 240 => 123 | 276 => 161 | n => n, fun | 0 => 0 | 3 => 3 | 4 => 4 | 5 => 5 | 9 => 9 | 20 => 20 | 37 => 22 | 70 => 87 | 72 => 89 | 75 => 94 | 80 => 97 | 21 => 21 | 127 => 146 | 164 => 178 | n => n, fun | n => n⟩
theorem bldLays1662 : Go.Proofs.Lays.n166 Tryz.prog bldRen2 := {
  mixed := by kernel_rfl
  f166 := Tryz.func76.trans (congrArg some (by kernel_rfl))
  f240 := Tryz.func123.trans (congrArg some (by kernel_rfl))
  f276 := Tryz.func161.trans (congrArg some (by kernel_rfl))
  t0 := Tryz.underlying0
  a0 := Tryz.isAgg0
  z0 := Tryz.sizeOf0
  v0 := Tryz.zeroValue0
  t3 := Tryz.underlying3
  a3 := Tryz.isAgg3
  z3 := Tryz.sizeOf3
  v3 := Tryz.zeroValue3
  t4 := Tryz.underlying4
  a4 := Tryz.isAgg4
  z4 := Tryz.sizeOf4
  v4 := Tryz.zeroValue4
  t9 := Tryz.underlying9
  a9 := Tryz.isAgg9
  z9 := Tryz.sizeOf9
  v9 := Tryz.zeroValue9
  t20 := Tryz.underlying20
  a20 := Tryz.isAgg20
  z20 := Tryz.sizeOf20
  v20 := Tryz.zeroValue20
  t37 := Tryz.underlying22
  a37 := Tryz.isAgg22
  z37 := Tryz.sizeOf22
  v37 := Tryz.zeroValue22
  t70 := Tryz.underlying87
  a70 := Tryz.isAgg87
  z70 := Tryz.sizeOf87
  v70 := Tryz.zeroValue87
  t72 := Tryz.underlying89
  a72 := Tryz.isAgg89
  z72 := Tryz.sizeOf89
  v72 := Tryz.zeroValue89
  t75 := Tryz.underlying94
  a75 := Tryz.isAgg94
  z75 := Tryz.sizeOf94
  v75 := Tryz.zeroValue94
  t164 := Tryz.underlying178
  a164 := Tryz.isAgg178
  z164 := Tryz.sizeOf178
  v164 := Tryz.zeroValue178 }
theorem bldLays1692 : Go.Proofs.Lays.n169 Tryz.prog bldRen2 := {
  mixed := by kernel_rfl
  f169 := Tryz.func77.trans (congrArg some (by kernel_rfl))
  t0 := Tryz.underlying0
  a0 := Tryz.isAgg0
  z0 := Tryz.sizeOf0
  v0 := Tryz.zeroValue0
  t3 := Tryz.underlying3
  a3 := Tryz.isAgg3
  z3 := Tryz.sizeOf3
  v3 := Tryz.zeroValue3
  t9 := Tryz.underlying9
  a9 := Tryz.isAgg9
  z9 := Tryz.sizeOf9
  v9 := Tryz.zeroValue9
  t37 := Tryz.underlying22
  a37 := Tryz.isAgg22
  z37 := Tryz.sizeOf22
  v37 := Tryz.zeroValue22
  t70 := Tryz.underlying87
  a70 := Tryz.isAgg87
  z70 := Tryz.sizeOf87
  v70 := Tryz.zeroValue87
  t72 := Tryz.underlying89
  a72 := Tryz.isAgg89
  z72 := Tryz.sizeOf89
  v72 := Tryz.zeroValue89
  t127 := Tryz.underlying146
  a127 := Tryz.isAgg146
  z127 := Tryz.sizeOf146
  v127 := Tryz.zeroValue146 }
theorem bldExtra2 : Builder.Extra Tryz.prog bldRen2 := {
  sizeBuilder := by kernel_rfl
  liesBuilder := by kernel_rfl
  t5 := Tryz.underlying5
  a5 := Tryz.isAgg5
  z5 := Tryz.sizeOf5
  v5 := Tryz.zeroValue5
  infoByte := by kernel_rfl
  cellsByte := by kernel_rfl
  sizeByte := by kernel_rfl
  neB5 := by decide }

/-- The builder in block b, whose row lies from block B on, holds these bytes. -/
def Bld2 (B b : Nat) (l : List UInt8) (w : World) : Prop := Lib.IsBuilderF 89 5 B b (Lib.byteCells l) w

theorem bld_new2 (w : World) : Bld2 w.heap.size w.heap.size [] (w.alloc (.cells #[.pointer none, .slice none 0 0] 89)) := Lib.IsBuilderF.of (Lib.fresh_isBuilder 89 5 w)

theorem bld_write2 (B b : Nat) (l : List UInt8) (s : ByteArray) (w : World) (h : Bld2 B b l w) (hlen : l.length + s.size ≤ 140737488355328) (hBw : B ≤ w.heap.size) :
    Calls Tryz.prog 76 #[.pointer (some ⟨b, 0, none⟩), .string s] w fun e w' => e = .returned (.tuple #[.int .i64 s.size, .nilIface]) ∧ Bld2 B b (l ++ s.data.toList) w' ∧ Below B w w' ∧ Lib.OthersKept 5 (some b) w w' := by
  refine (Any.Builder_WriteString_k bldLays1662 bldExtra2 B b (Lib.byteCells l) s w h (by rw [Lib.byteCells_length]; exact hlen) hBw).mono ?_
  rintro e w' ⟨rfl, h1, b1, k1⟩
  refine ⟨rfl, ?_, b1, k1⟩
  unfold Bld2
  rw [Lib.byteCells_append]
  exact Or.inr h1

theorem bld_string2 (B b : Nat) (l : List UInt8) (w : World) (h : Bld2 B b l w) (hBw : B ≤ w.heap.size) :
    Calls Tryz.prog 77 #[.pointer (some ⟨b, 0, none⟩)] w fun e w' => e = .returned (.string ⟨l.toArray⟩) ∧ Bld2 B b l w' ∧ Below B w w' ∧ Lib.OthersKept 5 (some b) w w' :=
  Any.Builder_String_any_k bldLays1692 bldExtra2 B b l w h hBw
end Go.Proofs.YtogdbjafibejdaaGreat

/- The builder within a printer: copyCheck, WriteString, String at a place within a struct. No condition. -/
namespace Go.Proofs.YtogdbjafibejdaaGreat
open Go.RowKit
set_option maxRecDepth 100000
set_option linter.unusedVariables false

/-- The printer in block b: its tree's nodes nv, its builder, which has l; its row lies from block B on. -/
def PrAt (B b : Nat) (nv p : Value) (l : List UInt8) (w : World) : Prop :=
  B ≤ b ∧ ∃ v, w.heap[b]? = some (.cells #[nv, p, v] 102 (0, 0)) ∧ w.ownsRowF B 5 1 v l.length (Lib.byteCells l) ∧ v.ownBlock ≠ some b ∧ (v = .slice none 0 0 ∨ l ≠ [])
def IsPr (B b : Nat) (nv : Value) (l : List UInt8) (w : World) : Prop := PrAt B b nv (.pointer none) l w ∨ PrAt B b nv (.pointer (some ⟨b, 1, none⟩)) l w
theorem IsPr.at' {B b : Nat} {nv : Value} {l : List UInt8} {w : World} (h : IsPr B b nv l w) : ∃ p, PrAt B b nv p l w := by
  rcases h with h | h
  · exact ⟨_, h⟩
  · exact ⟨_, h⟩
theorem IsPr.cell0 {B b : Nat} {nv : Value} {l : List UInt8} {w : World} (h : IsPr B b nv l w) : w.cell? ⟨b, 0, none⟩ = some nv := by
  obtain ⟨p, _, v, hb, _⟩ := h.at'
  simp [World.cell?, hb]
theorem IsPr.ge {B b : Nat} {nv : Value} {l : List UInt8} {w : World} (h : IsPr B b nv l w) : B ≤ b := by obtain ⟨p, hB, _⟩ := h.at'; exact hB
theorem IsPr.lt {B b : Nat} {nv : Value} {l : List UInt8} {w : World} (h : IsPr B b nv l w) : b < w.heap.size := by
  obtain ⟨p, _, v, hb, _⟩ := h.at'
  exact blk_lt hb
theorem IsPr.cells {B b : Nat} {nv : Value} {l : List UInt8} {w : World} (h : IsPr B b nv l w) : ∃ cs, w.heap[b]? = some (.cells cs 102 (0, 0)) := by
  obtain ⟨p, _, v, hb, _⟩ := h.at'
  exact ⟨_, hb⟩

/-- What writing turns: the printer's block and rows of bytes. -/
def PrK (B b : Nat) (w w' : World) : Prop := Kz B (fun t => t = 5) (fun j => j = b) (fun j => j = b) w w'
theorem PrK.refl {B b : Nat} {w : World} (h : b < w.heap.size) : PrK B b w w := Kz.refl (fun k e => by omega)
theorem PrK.trans {B b : Nat} {w w' w'' : World} (h : PrK B b w w') (k : PrK B b w' w'') : PrK B b w w'' := Kz.trans h k
theorem PrK.of_below {B b : Nat} {w w' : World} (h : Below w.heap.size w w') (hb : b < w.heap.size) : PrK B b w w' := Kz.of_below h (fun k e => by omega)
theorem PrK.below {B b : Nat} {w w' : World} (h : PrK B b w w') (hn : B ≤ w.heap.size) : Below B w w' := Kz.below h hn

theorem IsPr.kept {B b : Nat} {nv : Value} {l : List UInt8} {w w' : World} (h : IsPr B b nv l w) (hk : ∀ (k : Nat) (o : Obj), w.heap[k]? = some o → k = b ∨ InT (fun t => t = 5) o → w'.heap[k]? = some o) : IsPr B b nv l w' := by
  have key : ∀ p, PrAt B b nv p l w → PrAt B b nv p l w' := by
    rintro p ⟨hB, v, hb, hown, hne⟩
    refine ⟨hB, v, hk _ _ hb (.inl rfl), ?_, hne⟩
    refine ⟨hown.1, ?_⟩
    rcases hown.2 with h0 | ⟨g, cap, cur, fz, hv, hg, hc, h3, h4, h5, h6⟩
    · exact .inl h0
    · exact .inr ⟨g, cap, cur, fz, hv, hg, hk _ _ hc (.inr ⟨_, _, _, rfl, rfl⟩), h3, h4, h5, h6⟩
  exact h.imp (key _) (key _)
theorem IsPr.below {B b : Nat} {nv : Value} {l : List UInt8} {w w' : World} (h : IsPr B b nv l w) (hb : Below w.heap.size w w') : IsPr B b nv l w' :=
  h.kept (fun k o hk _ => (hb.block k (blk_lt hk)).trans hk)

set_option maxHeartbeats 1000000 in
set_option maxRecDepth 100000 in
theorem prCheck_fresh (b : Nat) (w : World) {nv v : Value} (hb : w.heap[b]? = some (.cells #[nv, .pointer none, v] 102 (0, 0))) :
    Calls Tryz.prog 123 #[.pointer (some ⟨b, 1, none⟩)] w fun e w' => e = .returned (.tuple #[]) ∧ w' = w.setCell ⟨b, 1, none⟩ (.pointer (some ⟨b, 1, none⟩)) := by
  have h1 : w.cell? ⟨b, 1, none⟩ = some (.pointer none) := by simp [World.cell?, hb]
  have hfz : w.frozen? ⟨b, 1, none⟩ = false := by simp [World.frozen?, hb]
  have hsh : w.shape? b = some (102, 3) := by simp [World.shape?, hb]
  clear hb
  go_enter Tryz.func123, Tryz.ntmps123
  obtain ⟨j, hj, hjs⟩ := Option.map_eq_some_iff.1 (show (Tryz.prog.info? 89).map TypeInfo.size = some 2 from by kernel_rfl)
  have hlies : liesAt Tryz.prog Tryz.prog.depth 102 (3 / Tryz.prog.cellsOf 102) 1 89 1 = true := by kernel_rfl
  go_wp2
  rw [Lib.run_to_unsafe w ⟨b, 1, none⟩ Tryz.underlying87 Tryz.underlying178 hj (by rw [hjs]; decide) hsh (show 1 < 3 by decide)]
  simp only [Result.andThen]
  rw [Oper.upon_value]
  go_wp2
  rw [run_callFunc_extern Tryz.func161 (by kernel_rfl) (by kernel_rfl) (by kernel_rfl) (e := Extern.AbiNoEscape.same) (by kernel_rfl)]
  rw [Lib.run_noEscape]
  simp only [Result.andThen]
  rw [Oper.upon_value]
  go_wp2
  rw [Lib.run_from_unsafe w ⟨b, 1, none⟩ Tryz.underlying178 Tryz.underlying87 hj hsh hlies]
  simp only [Result.andThen]
  rw [Oper.upon_value]
  go_wp2
  go_end0
  exact ⟨rfl, rfl⟩

set_option maxHeartbeats 1000000 in
set_option maxRecDepth 100000 in
theorem prCheck_used (b : Nat) (w : World) {nv v : Value} (hb : w.heap[b]? = some (.cells #[nv, .pointer (some ⟨b, 1, none⟩), v] 102 (0, 0))) :
    Calls Tryz.prog 123 #[.pointer (some ⟨b, 1, none⟩)] w fun e w' => e = .returned (.tuple #[]) ∧ w' = w := by
  have h1 : w.cell? ⟨b, 1, none⟩ = some (.pointer (some ⟨b, 1, none⟩)) := by simp [World.cell?, hb]
  clear hb
  go_enter Tryz.func123, Tryz.ntmps123
  obtain ⟨j, hj, hjs⟩ := Option.map_eq_some_iff.1 (show (Tryz.prog.info? 89).map TypeInfo.size = some 2 from by kernel_rfl)
  go_wp2
  rw [Lib.run_neq_ptr_same w _ Tryz.underlying87 hj]
  go_wp2
  go_end0
  exact ⟨rfl, rfl⟩

theorem PrAt.used {B b : Nat} {nv p : Value} {l : List UInt8} {w : World} (h : PrAt B b nv p l w) (q : Value) : PrAt B b nv q l (w.setCell ⟨b, 1, none⟩ q) := by
  obtain ⟨hB, v, hb, hown, hne⟩ := h
  refine ⟨hB, v, ?_, ?_, hne⟩
  · simpa using setCell_at (k := 1) (u := q) hb
  · refine hown.kept (row := some b) (grown_setCell w b 1 q) ?_
    exact Or.inr hne.1

theorem prCheck_any {B b : Nat} {nv : Value} {l : List UInt8} {w : World} (h : IsPr B b nv l w) :
    Calls Tryz.prog 123 #[.pointer (some ⟨b, 1, none⟩)] w fun e w' => e = .returned (.tuple #[]) ∧ PrAt B b nv (.pointer (some ⟨b, 1, none⟩)) l w' ∧ Below B w w' ∧ Lib.OthersKept 5 (some b) w w' := by
  rcases h with h | h
  · obtain ⟨hB, v, hb, _⟩ := id h
    refine (prCheck_fresh b w hb).mono ?_
    rintro e w' ⟨rfl, rfl⟩
    exact ⟨rfl, h.used _, (Below.refl B w).setCell (p := ⟨b, 1, none⟩) hB _, (Lib.OthersKept.refl _ _ w).setCell ⟨b, 1, none⟩ rfl _⟩
  · obtain ⟨hB, v, hb, _⟩ := id h
    refine (prCheck_used b w hb).mono ?_
    rintro e w' ⟨rfl, rfl⟩
    exact ⟨rfl, h, Below.refl B _, Lib.OthersKept.refl _ _ _⟩

theorem PrK.of_others {B b : Nat} {w w' : World} (hb : Below B w w') (hk : Lib.OthersKept 5 (some b) w w') {cs : Array Value} {t : TypeId} {fz : Nat × Nat} (hc : w.heap[b]? = some (.cells cs t fz)) : PrK B b w w' :=
  ⟨hb.os, hb.tape, hb.output, hb.size, (fun q o hq ho => by
    rcases ho with ho | ho | ho
    · rw [hb.block q ho]; exact hq
    · exact hk q o hq (fun e => ho.1 (by injection e)) (fun c fz e => ho.2 ⟨_, _, _, e, rfl⟩)
    · refine hk q o hq (fun e => ?_) (fun c fz e => by rw [e] at ho; cases ho)
      injection e with e
      rw [e] at hq
      rw [hc] at hq
      cases hq
      cases ho), fun q hq => ⟨by have := blk_lt hc; have := hb.size; omega, .inl hq⟩⟩

set_option maxHeartbeats 2000000 in
set_option maxRecDepth 100000 in
/-- WriteString at a printer's builder. -/
theorem prWrite_any {B b : Nat} {nv : Value} {l : List UInt8} {w : World} (h : IsPr B b nv l w) (s : ByteArray) (hlen : l.length + s.size ≤ 140737488355328) (hBw : B ≤ w.heap.size) :
    Calls Tryz.prog 76 #[.pointer (some ⟨b, 1, none⟩), .string s] w fun e w' => e = .returned (.tuple #[.int .i64 s.size, .nilIface]) ∧ IsPr B b nv (l ++ s.data.toList) w' ∧ PrK B b w w' := by
  obtain ⟨i0, hi, hz0, hz1, hz2⟩ := info_parts Tryz.infoB
  have HC := (show Hid _ from h.cells)
  go_enter Tryz.func76, Tryz.ntmps76
  go_wp2_with fail
  go_at_call 123
  refine (prCheck_any h).mono ?_
  rintro e w1 ⟨rfl, h1, hb1, hk1⟩
  obtain ⟨hB, v, hbk, hown, hne, hnn⟩ := h1
  have c1 : w1.cell? ⟨b, 2, none⟩ = some v := by rw [Lib.cell_of_heap hbk]; rfl
  have hwz := hb1.size
  go_wp2_with (at_builtin; refine Lib.wpList_append_own_stringF _ rfl _ _ 22 9 rfl B 5 i0 Tryz.underlying22 Tryz.underlying9 hi hz0 hz1 hz2 _ _ _ rfl hown s rfl ?c3 ?c4 ?c5 ?_)
  case c3 => unfold maxLen; omega
  case c4 => omega
  case c5 => omega
  intro v' w2 hown' hgrow hiff
  have hnn' : v' = .slice none 0 0 ∨ l ++ s.data.toList ≠ [] := by
    by_cases h0 : s.size = 0
    · rcases hnn with h1 | h1
      · exact .inl (hiff.mpr ⟨h1, by simpa using h0⟩)
      · exact .inr (fun e => h1 (List.append_eq_nil_iff.mp e).1)
    · refine .inr (fun e => h0 ?_)
      have := congrArg List.length (List.append_eq_nil_iff.mp e).2
      exact this
  have HNN := (show Hid _ from hnn')
  clear hnn' hiff hnn
  have hb2 : w2.heap[b]? = some (.cells #[nv, .pointer (some ⟨b, 1, none⟩), v] 102 (0, 0)) := by
    rw [hgrow.block b (blk_lt hbk) (fun e => hne e.symm)]
    exact hbk
  have d1 : w2.cell? ⟨b, 2, none⟩ = some v := by rw [Lib.cell_of_heap hb2]; rfl
  have f1 : w2.frozen? ⟨b, 2, none⟩ = false := Lib.frozen_of_heap hb2 2
  obtain ⟨ao, n', cap, rfl⟩ : ∃ ao n' cap, v' = .slice ao n' cap := by
    rcases hown'.2 with ⟨hv, _⟩ | ⟨g, cap, cur, fz, hv, _⟩
    · exact ⟨_, _, _, hv⟩
    · exact ⟨_, _, _, hv⟩
  have hne' : (Value.slice ao n' cap).ownBlock ≠ some b := Lib.ownBlock_neF hown' hb2 (by decide)
  have hb3 : (w2.setCell ⟨b, 2, none⟩ (.slice ao n' cap)).heap[b]? = some (.cells #[nv, .pointer (some ⟨b, 1, none⟩), .slice ao n' cap] 102 (0, 0)) := by simpa using setCell_at (k := 2) (u := .slice ao n' cap) hb2
  have hown3 : (w2.setCell ⟨b, 2, none⟩ (.slice ao n' cap)).ownsRowF B 5 1 (.slice ao n' cap) (l.length + s.size) (Lib.byteCells l ++ Lib.strCells s) := hown'.kept (row := some b) (grown_setCell w2 b 2 _) (Or.inr hne')
  have HFIN : Hid (IsPr B b nv (l ++ s.data.toList) (w2.setCell ⟨b, 2, none⟩ (.slice ao n' cap)) ∧ PrK B b w (w2.setCell ⟨b, 2, none⟩ (.slice ao n' cap))) := by
    refine ⟨.inr ⟨hB, _, hb3, ?_, hne', HNN.out⟩, ?_⟩
    · rw [Lib.byteCells_append, ← Lib.strCells_eq]
      simpa using hown3
    · obtain ⟨cs, hcs⟩ := HC.out
      refine PrK.of_others ?_ ((hk1.grown hgrow (Lib.ownsRowF_kind hown)).setCell ⟨b, 2, none⟩ rfl _) hcs
      exact (hb1.grown hgrow (by have := hb1.size; omega) (fun k hk => (hown.lt k hk).1)).setCell (p := ⟨b, 2, none⟩) hB _
  clear hb3 hown3 hown' hgrow hk1 hb1 hown hne hne' hbk hb2
  go_wp2
  go_ret2
  exact ⟨rfl, HFIN.out⟩
end Go.Proofs.YtogdbjafibejdaaGreat

/- String of a printer's builder. No condition. -/
namespace Go.Proofs.YtogdbjafibejdaaGreat
open Go.RowKit
set_option maxRecDepth 100000
set_option linter.unusedVariables false

set_option maxHeartbeats 2000000 in
set_option maxRecDepth 100000 in
theorem prString_some {B b g cap : Nat} {nv p : Value} {l : List UInt8} {w : World} (h0 : l ≠ []) (hbk : w.heap[b]? = some (.cells #[nv, p, .slice (some ⟨g, 0, none⟩) l.length cap] 102 (0, 0))) (hown : w.ownsRowF B 5 1 (.slice (some ⟨g, 0, none⟩) l.length cap) l.length (Lib.byteCells l)) :
    Calls Tryz.prog 77 #[.pointer (some ⟨b, 1, none⟩)] w fun e w' => e = .returned (.string ⟨l.toArray⟩) ∧ Below B w w' := by
  have hl0 : l.length ≠ 0 := by simpa using h0
  obtain ⟨cur, fz, hbg, hg, hfz, hnc, hcm, hcs⟩ : ∃ cur fz, B ≤ g ∧ w.heap[g]? = some (.cells cur 5 fz) ∧ fz.2 ≤ l.length * 1 ∧ l.length ≤ cap ∧ cap ≤ maxLen ∧ cur.size = cap * 1 := by
    rcases hown.2 with ⟨_, hz⟩ | ⟨g', cap', cur, fz, hv, r1, r2, r3, r4, r5, r6, r7⟩
    · exact absurd hz hl0
    · cases hv
      exact ⟨cur, fz, r1, r2, r3, r4, r5, r6⟩
  have c1 : w.drew.cell? ⟨b, 2, none⟩ = some (.slice (some ⟨g, 0, none⟩) l.length cap) := by
    have : w.drew.heap[b]? = some (.cells #[nv, p, .slice (some ⟨g, 0, none⟩) l.length cap] 102 (0, 0)) := hbk
    rw [Lib.cell_of_heap this]; rfl
  have hSD : (Builtin.unsafeSliceData_ #[22] 146 #[.slice (some ⟨g, 0, none⟩) l.length cap]).run Tryz.prog w.drew = .ok (.pointer (some ⟨g, 0, none⟩)) w.drew :=
    Lib.run_unsafeSliceData_row _ _ _ _ _ _ (by omega)
  have hUS : (Builtin.unsafeString_ #[146, 3] 9 #[.pointer (some ⟨g, 0, none⟩), .int .i64 l.length]).run Tryz.prog w.drew = .ok (.string ⟨l.toArray⟩) (w.drew.freeze ⟨g, 0, none⟩ l.length) := by
    refine Lib.run_unsafeString_row w.drew 146 3 9 5 Tryz.underlying146 (by kernel_rfl) g cur.size (by have hg' : w.drew.heap[g]? = some (.cells cur 5 fz) := hg; simp [World.shape?, hg']) l h0 (by omega) (by unfold maxLen at hcm; omega) ?_
    intro j x hx
    have := hown.cells (g := g) rfl j (.int .u8 x.toNat) (by simp [Lib.byteCells, hx])
    exact this
  clear hown hbk hcs hnc hcm hfz
  go_enter Tryz.func77, Tryz.ntmps77
  go_wp2
  refine region_tail 10 (by kernel_rfl) (by kernel_rfl) ?_
  intro w2 K2 hW2 hK2
  have ne := One.any w2
  have d1 : ∀ n : One w2, n.w.cell? ⟨b, 2, none⟩ = some (.slice (some ⟨g, 0, none⟩) l.length cap) := fun n => by rw [n.eq, hW2.out]; exact c1
  have hSD2 : ∀ n : One w2, (Builtin.unsafeSliceData_ #[22] 146 #[.slice (some ⟨g, 0, none⟩) l.length cap]).run Tryz.prog n.w = .ok (.pointer (some ⟨g, 0, none⟩)) n.w := fun n => by rw [n.eq, hW2.out]; exact hSD
  simp only [List.take_succ_cons, List.take_zero, List.drop_succ_cons, List.drop_zero] at hK2 ⊢
  clear hSD c1
  repeat (go_big_quiet_step (fail))
  refine wpQuiet_nil ?_
  refine hK2.out _ ?_
  rw [hW2.out]
  go_wp2
  go_ret
  exact ⟨rfl, Lib.below_freeze (Below.drew (Below.refl B w)) (p := ⟨g, 0, none⟩) hbg _⟩

set_option maxHeartbeats 2000000 in
set_option maxRecDepth 100000 in
theorem prString_nil {B b : Nat} {nv p : Value} {w : World} (hbk : w.heap[b]? = some (.cells #[nv, p, .slice none 0 0] 102 (0, 0))) :
    Calls Tryz.prog 77 #[.pointer (some ⟨b, 1, none⟩)] w fun e w' => e = .returned (.string ⟨#[]⟩) ∧ Below B w w' := by
  have hUS := fun W q => Lib.run_unsafeString_none (P := Tryz.prog) W 146 3 9 q
  have c1 : w.drew.cell? ⟨b, 2, none⟩ = some (.slice none 0 0) := by
    have : w.drew.heap[b]? = some (.cells #[nv, p, .slice none 0 0] 102 (0, 0)) := hbk
    rw [Lib.cell_of_heap this]; rfl
  have hSD : (Builtin.unsafeSliceData_ #[22] 146 #[.slice none 0 0]).run Tryz.prog w.drew = .ok (.pointer none) w.drew := rfl
  clear hbk
  go_enter Tryz.func77, Tryz.ntmps77
  go_wp2
  refine region_tail 10 (by kernel_rfl) (by kernel_rfl) ?_
  intro w2 K2 hW2 hK2
  have ne := One.any w2
  have d1 : ∀ n : One w2, n.w.cell? ⟨b, 2, none⟩ = some (.slice none 0 0) := fun n => by rw [n.eq, hW2.out]; exact c1
  have hSD2 : ∀ n : One w2, (Builtin.unsafeSliceData_ #[22] 146 #[.slice none 0 0]).run Tryz.prog n.w = .ok (.pointer none) n.w := fun n => by rw [n.eq, hW2.out]; exact hSD
  simp only [List.take_succ_cons, List.take_zero, List.drop_succ_cons, List.drop_zero] at hK2 ⊢
  clear hSD c1
  repeat (go_big_quiet_step (fail))
  refine wpQuiet_nil ?_
  refine hK2.out _ ?_
  rw [hW2.out]
  go_wp2
  go_ret
  exact ⟨rfl, Below.drew (Below.refl B w)⟩

/-- String of a printer's builder, whatever it has. -/
theorem prString_any {B b : Nat} {nv : Value} {l : List UInt8} {w : World} (h : IsPr B b nv l w) (hBw : B ≤ w.heap.size) :
    Calls Tryz.prog 77 #[.pointer (some ⟨b, 1, none⟩)] w fun e w' => e = .returned (.string ⟨l.toArray⟩) ∧ Below B w w' := by
  obtain ⟨p, hB, v, hbk, hown, hne, hnn⟩ := h.at'
  by_cases hl : l = []
  · subst hl
    rcases hnn with rfl | h0
    · exact prString_nil hbk
    · exact absurd rfl h0
  · rcases hown.2 with ⟨_, hz⟩ | ⟨g, cap, cur, fz, rfl, hbg, hg, _⟩
    · exact absurd (by simpa using hz) hl
    · exact prString_some hl hbk hown
end Go.Proofs.YtogdbjafibejdaaGreat

/- strings.Builder at this program: the library's contracts of WriteString and String, laid by hand. -/
namespace Go.Proofs.YtogdbjafibejdaaGreat
open Go.RowKit Go.Shelf
set_option maxRecDepth 100000
set_option linter.unusedVariables false

def bldRen : Go.Shelf.Ren := ⟨fun | 118 => 210 | 166 => 76 | 169 => 77 | 240 => 123 | 276 => 161 | n => n, fun | 0 => 0 | 3 => 3 | 4 => 4 | 5 => 5 | 9 => 9 | 20 => 20 | 37 => 22 | 70 => 87 | 72 => 89 | 75 => 94 | 80 => 97 | 21 => 21 | 127 => 146 | 164 => 178 | n => n, fun | n => n⟩
theorem bldLays118 : Go.Proofs.Lays.n118 Tryz.prog bldRen := {
  mixed := by kernel_rfl
  f118 := Tryz.func210.trans (congrArg some (by kernel_rfl))
  t3 := Tryz.underlying3
  a3 := Tryz.isAgg3
  z3 := Tryz.sizeOf3
  v3 := Tryz.zeroValue3
  t4 := Tryz.underlying4
  a4 := Tryz.isAgg4
  z4 := Tryz.sizeOf4
  v4 := Tryz.zeroValue4
  t21 := Tryz.underlying21
  a21 := Tryz.isAgg21
  z21 := Tryz.sizeOf21
  v21 := Tryz.zeroValue21 }
theorem bldLays166 : Go.Proofs.Lays.n166 Tryz.prog bldRen := {
  mixed := by kernel_rfl
  f166 := Tryz.func76.trans (congrArg some (by kernel_rfl))
  f240 := Tryz.func123.trans (congrArg some (by kernel_rfl))
  f276 := Tryz.func161.trans (congrArg some (by kernel_rfl))
  t0 := Tryz.underlying0
  a0 := Tryz.isAgg0
  z0 := Tryz.sizeOf0
  v0 := Tryz.zeroValue0
  t3 := Tryz.underlying3
  a3 := Tryz.isAgg3
  z3 := Tryz.sizeOf3
  v3 := Tryz.zeroValue3
  t4 := Tryz.underlying4
  a4 := Tryz.isAgg4
  z4 := Tryz.sizeOf4
  v4 := Tryz.zeroValue4
  t9 := Tryz.underlying9
  a9 := Tryz.isAgg9
  z9 := Tryz.sizeOf9
  v9 := Tryz.zeroValue9
  t20 := Tryz.underlying20
  a20 := Tryz.isAgg20
  z20 := Tryz.sizeOf20
  v20 := Tryz.zeroValue20
  t37 := Tryz.underlying22
  a37 := Tryz.isAgg22
  z37 := Tryz.sizeOf22
  v37 := Tryz.zeroValue22
  t70 := Tryz.underlying87
  a70 := Tryz.isAgg87
  z70 := Tryz.sizeOf87
  v70 := Tryz.zeroValue87
  t72 := Tryz.underlying89
  a72 := Tryz.isAgg89
  z72 := Tryz.sizeOf89
  v72 := Tryz.zeroValue89
  t75 := Tryz.underlying94
  a75 := Tryz.isAgg94
  z75 := Tryz.sizeOf94
  v75 := Tryz.zeroValue94
  t164 := Tryz.underlying178
  a164 := Tryz.isAgg178
  z164 := Tryz.sizeOf178
  v164 := Tryz.zeroValue178 }
theorem bldLays169 : Go.Proofs.Lays.n169 Tryz.prog bldRen := {
  mixed := by kernel_rfl
  f169 := Tryz.func77.trans (congrArg some (by kernel_rfl))
  t0 := Tryz.underlying0
  a0 := Tryz.isAgg0
  z0 := Tryz.sizeOf0
  v0 := Tryz.zeroValue0
  t3 := Tryz.underlying3
  a3 := Tryz.isAgg3
  z3 := Tryz.sizeOf3
  v3 := Tryz.zeroValue3
  t9 := Tryz.underlying9
  a9 := Tryz.isAgg9
  z9 := Tryz.sizeOf9
  v9 := Tryz.zeroValue9
  t37 := Tryz.underlying22
  a37 := Tryz.isAgg22
  z37 := Tryz.sizeOf22
  v37 := Tryz.zeroValue22
  t70 := Tryz.underlying87
  a70 := Tryz.isAgg87
  z70 := Tryz.sizeOf87
  v70 := Tryz.zeroValue87
  t72 := Tryz.underlying89
  a72 := Tryz.isAgg89
  z72 := Tryz.sizeOf89
  v72 := Tryz.zeroValue89
  t127 := Tryz.underlying146
  a127 := Tryz.isAgg146
  z127 := Tryz.sizeOf146
  v127 := Tryz.zeroValue146 }
theorem bldExtra : Builder.Extra Tryz.prog bldRen := {
  sizeBuilder := by kernel_rfl
  liesBuilder := by kernel_rfl
  t5 := Tryz.underlying5
  a5 := Tryz.isAgg5
  z5 := Tryz.sizeOf5
  v5 := Tryz.zeroValue5
  infoByte := by kernel_rfl
  cellsByte := by kernel_rfl
  sizeByte := by kernel_rfl
  neB5 := by decide }

/-- The builder in block b, whose row lies from block B on, holds these bytes. -/
def Bld (B b : Nat) (l : List UInt8) (w : World) : Prop := Lib.IsBuilderF 89 5 B b (Lib.byteCells l) w

theorem bld_new (w : World) : Bld w.heap.size w.heap.size [] (w.alloc (.cells #[.pointer none, .slice none 0 0] 89)) := Lib.IsBuilderF.of (Lib.fresh_isBuilder 89 5 w)

theorem bld_write (B b : Nat) (l : List UInt8) (s : ByteArray) (w : World) (h : Bld B b l w) (hlen : l.length + s.size ≤ 140737488355328) (hBw : B ≤ w.heap.size) :
    Calls Tryz.prog 76 #[.pointer (some ⟨b, 0, none⟩), .string s] w fun e w' => e = .returned (.tuple #[.int .i64 s.size, .nilIface]) ∧ Bld B b (l ++ s.data.toList) w' ∧ Below B w w' ∧ Lib.OthersKept 5 (some b) w w' := by
  refine (Any.Builder_WriteString_k bldLays166 bldExtra B b (Lib.byteCells l) s w h (by rw [Lib.byteCells_length]; exact hlen) hBw).mono ?_
  rintro e w' ⟨rfl, h1, b1, k1⟩
  refine ⟨rfl, ?_, b1, k1⟩
  unfold Bld
  rw [Lib.byteCells_append]
  exact Or.inr h1

theorem bld_string (B b : Nat) (l : List UInt8) (w : World) (h : Bld B b l w) (hBw : B ≤ w.heap.size) :
    Calls Tryz.prog 77 #[.pointer (some ⟨b, 0, none⟩)] w fun e w' => e = .returned (.string ⟨l.toArray⟩) ∧ Bld B b l w' ∧ Below B w w' ∧ Lib.OthersKept 5 (some b) w w' :=
  Any.Builder_String_any_k bldLays169 bldExtra B b l w h hBw

theorem runeLen_any (r : Int) (w : World) : Calls Tryz.prog 210 #[.int .i32 r] w fun e w' => e = .returned (.int .i64 (Lib.runeLen r)) ∧ w' = w := Any.utf8_RuneLen bldLays118 r w
end Go.Proofs.YtogdbjafibejdaaGreat
