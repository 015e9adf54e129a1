import Derived.Shelf.Strings.BuilderK
import Derived.Shelf.Small.Utf8
import Derived.Test.YtckhmolmnlcabaaB24
import Derived.Test.YtckhmolmnlcabaaB23
import Derived.Test.YtckhmolmnlcabaaB16
import Derived.Test.YtckhmolmnlcabaaB12
import Derived.Test.YtckhmolmnlcabaaB4
import Derived.Test.YtckhmolmnlcabaaGrow
import Derived.Test.YtckhmolmnlcabaaB14
/- strings.Builder at this program: the library's contracts of WriteString and String, laid by hand. -/
namespace Go.Proofs.Ytckhmolmnlcabaa
open Go.RowKit Go.Shelf
set_option maxRecDepth 100000
set_option linter.unusedVariables false

def bldRen2 : Go.Shelf.Ren := ⟨fun | 166 => 15 | 169 => 16 | 240 => 28 | 276 => 45 | n => n, fun | 0 => 0 | 3 => 3 | 4 => 4 | 5 => 5 | 9 => 9 | 20 => 20 | 37 => 22 | 70 => 43 | 72 => 45 | 75 => 50 | 80 => 53 | 21 => 21 | 127 => 63 | 164 => 74 | n => n, fun | n => n⟩
theorem bldLays1662 : Go.Proofs.Lays.n166 Try.prog bldRen2 := {
  mixed := by kernel_rfl
  f166 := Try.func15.trans (congrArg some (by kernel_rfl))
  f240 := Try.func28.trans (congrArg some (by kernel_rfl))
  f276 := Try.func45.trans (congrArg some (by kernel_rfl))
  t0 := Try.underlying0
  a0 := Try.isAgg0
  z0 := Try.sizeOf0
  v0 := Try.zeroValue0
  t3 := Try.underlying3
  a3 := Try.isAgg3
  z3 := Try.sizeOf3
  v3 := Try.zeroValue3
  t4 := Try.underlying4
  a4 := Try.isAgg4
  z4 := Try.sizeOf4
  v4 := Try.zeroValue4
  t9 := Try.underlying9
  a9 := Try.isAgg9
  z9 := Try.sizeOf9
  v9 := Try.zeroValue9
  t20 := Try.underlying20
  a20 := Try.isAgg20
  z20 := Try.sizeOf20
  v20 := Try.zeroValue20
  t37 := Try.underlying22
  a37 := Try.isAgg22
  z37 := Try.sizeOf22
  v37 := Try.zeroValue22
  t70 := Try.underlying43
  a70 := Try.isAgg43
  z70 := Try.sizeOf43
  v70 := Try.zeroValue43
  t72 := Try.underlying45
  a72 := Try.isAgg45
  z72 := Try.sizeOf45
  v72 := Try.zeroValue45
  t75 := Try.underlying50
  a75 := Try.isAgg50
  z75 := Try.sizeOf50
  v75 := Try.zeroValue50
  t164 := Try.underlying74
  a164 := Try.isAgg74
  z164 := Try.sizeOf74
  v164 := Try.zeroValue74 }
theorem bldLays1692 : Go.Proofs.Lays.n169 Try.prog bldRen2 := {
  mixed := by kernel_rfl
  f169 := Try.func16.trans (congrArg some (by kernel_rfl))
  t0 := Try.underlying0
  a0 := Try.isAgg0
  z0 := Try.sizeOf0
  v0 := Try.zeroValue0
  t3 := Try.underlying3
  a3 := Try.isAgg3
  z3 := Try.sizeOf3
  v3 := Try.zeroValue3
  t9 := Try.underlying9
  a9 := Try.isAgg9
  z9 := Try.sizeOf9
  v9 := Try.zeroValue9
  t37 := Try.underlying22
  a37 := Try.isAgg22
  z37 := Try.sizeOf22
  v37 := Try.zeroValue22
  t70 := Try.underlying43
  a70 := Try.isAgg43
  z70 := Try.sizeOf43
  v70 := Try.zeroValue43
  t72 := Try.underlying45
  a72 := Try.isAgg45
  z72 := Try.sizeOf45
  v72 := Try.zeroValue45
  t127 := Try.underlying63
  a127 := Try.isAgg63
  z127 := Try.sizeOf63
  v127 := Try.zeroValue63 }
theorem bldExtra2 : Builder.Extra Try.prog bldRen2 := {
  sizeBuilder := by kernel_rfl
  liesBuilder := by kernel_rfl
  t5 := Try.underlying5
  a5 := Try.isAgg5
  z5 := Try.sizeOf5
  v5 := Try.zeroValue5
  infoByte := by kernel_rfl
  cellsByte := by kernel_rfl
  sizeByte := by kernel_rfl
  neB5 := by decide }

/-- The builder in block b, whose row lies from block B on, holds these bytes. -/
def Bld2 (B b : Nat) (l : List UInt8) (w : World) : Prop := Lib.IsBuilderF 45 5 B b (Lib.byteCells l) w

theorem bld_new2 (w : World) : Bld2 w.heap.size w.heap.size [] (w.alloc (.cells #[.pointer none, .slice none 0 0] 45)) := Lib.IsBuilderF.of (Lib.fresh_isBuilder 45 5 w)

theorem bld_write2 (B b : Nat) (l : List UInt8) (s : ByteArray) (w : World) (h : Bld2 B b l w) (hlen : l.length + s.size ≤ 140737488355328) (hBw : B ≤ w.heap.size) :
    Calls Try.prog 15 #[.pointer (some ⟨b, 0, none⟩), .string s] w fun e w' => e = .returned (.tuple #[.int .i64 s.size, .nilIface]) ∧ Bld2 B b (l ++ s.data.toList) w' ∧ Below B w w' ∧ Lib.OthersKept 5 (some b) w w' := by
  refine (Any.Builder_WriteString_k bldLays1662 bldExtra2 B b (Lib.byteCells l) s w h (by rw [Lib.byteCells_length]; exact hlen) hBw).mono ?_
  rintro e w' ⟨rfl, h1, b1, k1⟩
  refine ⟨rfl, ?_, b1, k1⟩
  unfold Bld2
  rw [Lib.byteCells_append]
  exact Or.inr h1

theorem bld_string2 (B b : Nat) (l : List UInt8) (w : World) (h : Bld2 B b l w) (hBw : B ≤ w.heap.size) :
    Calls Try.prog 16 #[.pointer (some ⟨b, 0, none⟩)] w fun e w' => e = .returned (.string ⟨l.toArray⟩) ∧ Bld2 B b l w' ∧ Below B w w' ∧ Lib.OthersKept 5 (some b) w w' :=
  Any.Builder_String_any_k bldLays1692 bldExtra2 B b l w h hBw
end Go.Proofs.Ytckhmolmnlcabaa

/- The program's TextOf. No condition. -/
namespace Go.Proofs.Ytckhmolmnlcabaa
open Go.RowKit Go.Shelf
set_option maxRecDepth 100000
set_option linter.unusedVariables false
attribute [local go_sem] Oper.semAt_some

/-- A builder stays where its block and all bytes stay. -/
theorem bld_agree {B b n0 n1 : Nat} {S : Nat → Prop} {l : List UInt8} {W W' : World} (h : Bld2 B b l W) (ha : Agree n0 n1 (fun t => t = 5) S W W') (hS : S b) : Bld2 B b l W' := by
  have key : ∀ p, Lib.BuilderAtF 45 5 B b p (Lib.byteCells l) W → Lib.BuilderAtF 45 5 B b p (Lib.byteCells l) W' := by
    rintro p ⟨hB, v, hb, hown, hne⟩
    refine ⟨hB, v, ha.same _ _ hb (.inr (.inl ⟨hS, rfl⟩)), ?_, hne⟩
    obtain ⟨h1, h2 | ⟨g, cap, cur, fz, e1, e2, e3, e4⟩⟩ := hown
    · exact ⟨h1, .inl h2⟩
    · exact ⟨h1, .inr ⟨g, cap, cur, fz, e1, e2, ha.same _ _ e3 (.inr (.inr (.inl ⟨_, _, _, rfl, rfl⟩))), e4⟩⟩
  rcases h with h | h
  · exact .inl (key _ h)
  · exact .inr (key _ h)
theorem bld_cells {B b : Nat} {l : List UInt8} {W : World} (h : Bld2 B b l W) : ∃ cs, W.heap[b]? = some (.cells cs 45 (0, 0)) := by
  rcases h with ⟨_, v, hb, _⟩ | ⟨_, v, hb, _⟩ <;> exact ⟨_, hb⟩
theorem bld_lt {B b : Nat} {l : List UInt8} {W : World} (h : Bld2 B b l W) : b < W.heap.size := by
  obtain ⟨cs, hcs⟩ := bld_cells h
  exact blk_lt hcs
theorem bld_below {B b : Nat} {l : List UInt8} {W W' : World} (h : Bld2 B b l W) (hb : Below W.heap.size W W') : Bld2 B b l W' := bld_agree (n0 := 0) (n1 := 0) (S := fun _ => True) h (Agree.of_below hb) trivial
theorem agree_below {n0 n1 : Nat} {T : TypeId → Prop} {S : Nat → Prop} {w0 W W' : World} (h : Below n0 w0 W) (hn : n0 ≤ W.heap.size) (ha : Agree n0 n1 T S W W') : Below n0 w0 W' :=
  ⟨ha.os.trans h.os, ha.tape.trans h.tape, ha.output.trans h.output, Nat.le_trans h.size ha.size, fun k hk => by
    have hlt : k < W.heap.size := by omega
    have e := ha.same k W.heap[k] (by simp [hlt]) (.inl hk)
    rw [e, ← h.block k hk]
    simp [hlt]⟩

set_option maxHeartbeats 2000000 in
set_option maxRecDepth 100000 in
theorem itextOf_any {w : World} {v : Value} {ns : List PNode} (hn : NodesAt w v ns) (hfit : ∀ n ∈ ns, NodeFit n) (hlen : ns.length ≤ 1048576) (at' : Int) :
    Calls Try.prog 6 #[.agg #[v], .int .i64 at'] w fun e w' => ∃ s, e = .returned (.string s) ∧ ((TreeOkP ns ∧ 0 ≤ at' ∧ at' < ns.length → s = ⟨(textL ns ns.length at'.toNat).toArray⟩) ∧ (¬ (TreeOkP ns ∧ 0 ≤ at' ∧ at' < ns.length) → s = ⟨#[]⟩)) ∧ Below w.heap.size w w' := by
  have HN := (show Hid (NodesAt w v ns) from hn)
  have HFIT := (show Hid (∀ n ∈ ns, NodeFit n) from hfit)
  obtain ⟨a, cap, rfl, hc1, hc2, hcs⟩ := hn.slice
  have HCS := (show Hid _ from hcs)
  clear hn hfit hcs
  obtain ⟨w1, hw1⟩ : ∃ x, x = w.alloc (.cells #[.slice a ns.length cap] 26) := ⟨_, rfl⟩
  have b1 : Below w.heap.size w w1 := by rw [hw1]; exact (Below.refl _ _).alloc (Nat.le_refl _) _
  have g1 : w1.heap[w.heap.size]? = some (.cells #[.slice a ns.length cap] 26 (0, 0)) := by rw [hw1]; exact World.alloc_heap_new _ _
  have HG1 := (show Hid _ from g1)
  clear g1
  refine (callsIn_wide (n := 5)).1 ?_
  refine callsIn_of_wp_marks Try.func6 rfl trivial ?_ rfl
  simp only [Try.ntmps6, List.size_toArray, List.length_cons, List.length_nil, Nat.reduceAdd, Nat.reduceSub, Array.replicate_succ, Array.replicate_zero, List.push_toArray, List.append_toArray, List.nil_append, List.cons_append]
  gi_wp2
  rw [← hw1]
  refine ⟨trivial, (callsIn_wide.2 (itreeOk_any (HN.out.below b1) HFIT.out hlen)).mono ?_⟩
  rintro e w2 ⟨r, rfl, hr, b2⟩
  clear hw1
  have hb2 := b1.trans (b2.mono b1.size)
  have HB2 := (show Hid (Below w.heap.size w w2) from hb2)
  have g2 := (b2.block _ (blk_lt HG1.out)).trans HG1.out
  have k0 : w2.cell? ⟨w.heap.size, 0, none⟩ = some (.slice a ns.length cap) := by simp only [World.cell?, g2]; rfl
  have hl2 := blk_lt g2
  clear g2 b2 hb2 b1 HG1
  cases r
  · have HF : Hid (¬ TreeOkP ns) := fun h => by have := hr.mpr h; cases this
    clear hr
    gi_wp2
    refine leaves_dmarks (by simp) w.heap.size [] _ List.nodup_nil (fun d hd => by cases hd) ?_
    intro w' bw kw
    exact ⟨_, results_tmp rfl _ _ _, ⟨#[]⟩, rfl, ⟨fun h => absurd h.1 HF.out, fun _ => rfl⟩, HB2.out.trans bw⟩
  have HT : Hid (TreeOkP ns) := hr.mp rfl
  clear hr
  obtain ⟨w4, hw4⟩ : ∃ x, x = (w2.alloc (.cells #[.slice a ns.length cap] 41)).alloc (.cells #[.pointer (some ⟨w2.heap.size, 0, none⟩)] 39) := ⟨_, rfl⟩
  have b24 : Below w2.heap.size w2 w4 := by rw [hw4]; exact ((Below.refl _ w2).alloc (Nat.le_refl _) _).alloc (by simp) _
  have hs4 : w4.heap.size = w2.heap.size + 1 + 1 := by rw [hw4, World.size_alloc, World.size_alloc]
  have gA : w4.heap[w2.heap.size]? = some (.cells #[.slice a ns.length cap] 41 (0, 0)) := by rw [hw4, Below.heap_alloc _ _ _ (by simp)]; exact World.alloc_heap_new _ _
  have gP : w4.heap[w2.heap.size + 1]? = some (.cells #[.pointer (some ⟨w2.heap.size, 0, none⟩)] 39 (0, 0)) := by
    rw [hw4]
    have := World.alloc_heap_new (w2.alloc (.cells #[.slice a ns.length cap] 41)) (.cells #[.pointer (some ⟨w2.heap.size, 0, none⟩)] 39)
    rwa [World.size_alloc] at this
  have cA : w4.cell? ⟨w2.heap.size, 0, none⟩ = some (.slice a ns.length cap) := by simp only [World.cell?, gA]; rfl
  have cP : w4.cell? ⟨w2.heap.size + 1, 0, none⟩ = some (.pointer (some ⟨w2.heap.size, 0, none⟩)) := by simp only [World.cell?, gP]; rfl
  have hb4 : Below w.heap.size w w4 := HB2.out.trans (b24.mono HB2.out.size)
  have HB4 := (show Hid (Below w.heap.size w w4) from hb4)
  have HN4 := (show Hid (NodesAt w4 (.slice a ns.length cap) ns) from HN.out.below hb4)
  have hge4 : w.heap.size ≤ w4.heap.size := hb4.size
  have hPl := blk_lt gP
  have hAl := blk_lt gA
  have HS4 := (show Hid _ from hs4)
  clear b24 hb4 gA hs4
  gi_wp2
  rw [← hw4]
  refine ⟨trivial, (callsIn_wide.2 (ihas_any cA at')).mono ?_⟩
  rintro e wx ⟨rfl, hx⟩
  rw [hx]
  clear hw4 hx wx
  by_cases hin : 0 ≤ at' ∧ at' < ns.length
  · rw [decide_eq_true hin]
    obtain ⟨k, rfl⟩ : ∃ k : Nat, at' = (k : Int) := ⟨at'.toNat, by omega⟩
    have hk : k < ns.length := by omega
    have HDP := (show Hid (deepOk ns ns.length k) from tree_deep HT.out hk)
    have hbn := bld_new2 w4
    have b45 : Below w4.heap.size w4 (w4.alloc (.cells #[.pointer none, .slice none 0 0] 45)) := (Below.refl _ _).alloc (Nat.le_refl _) _
    have hs5 : (w4.alloc (.cells #[.pointer none, .slice none 0 0] 45)).heap.size = w4.heap.size + 1 := by simp
    obtain ⟨w5, hw5⟩ : ∃ x, x = w4.alloc (.cells #[.pointer none, .slice none 0 0] 45) := ⟨_, rfl⟩
    rw [← hw5] at hbn b45 hs5
    obtain ⟨w6, hw6⟩ : ∃ x, x = (w5.alloc (.cells #[.pointer (some ⟨w2.heap.size, 0, none⟩)] 39)).alloc (.cells #[.int .i64 (k : Int)] 3) := ⟨_, rfl⟩
    have b56 : Below w5.heap.size w5 w6 := by rw [hw6]; exact ((Below.refl _ w5).alloc (Nat.le_refl _) _).alloc (by simp) _
    have hs6 : w6.heap.size = w5.heap.size + 1 + 1 := by rw [hw6, World.size_alloc, World.size_alloc]
    have gY : w6.heap[w5.heap.size]? = some (.cells #[.pointer (some ⟨w2.heap.size, 0, none⟩)] 39 (0, 0)) := by rw [hw6, Below.heap_alloc _ _ _ (by simp)]; exact World.alloc_heap_new _ _
    have gZ : w6.heap[w5.heap.size + 1]? = some (.cells #[.int .i64 (k : Int)] 3 (0, 0)) := by
      rw [hw6]
      have := World.alloc_heap_new (w5.alloc (.cells #[.pointer (some ⟨w2.heap.size, 0, none⟩)] 39)) (.cells #[.int .i64 (k : Int)] 3)
      rwa [World.size_alloc] at this
    have cY : w6.cell? ⟨w5.heap.size, 0, none⟩ = some (.pointer (some ⟨w2.heap.size, 0, none⟩)) := by simp only [World.cell?, gY]; rfl
    have cZ : w6.cell? ⟨w5.heap.size + 1, 0, none⟩ = some (.int .i64 (k : Int)) := by simp only [World.cell?, gZ]; rfl
    have b46 : Below w4.heap.size w4 w6 := b45.trans (b56.mono b45.size)
    have hbn6 : Bld2 w4.heap.size w4.heap.size [] w6 := bld_below hbn b56
    have HS5 := (show Hid _ from hs5)
    have HS6 := (show Hid _ from hs6)
    clear gY gZ hbn hs5 hs6
    gi_wp2
    rw [← hw5]
    refine ⟨trivial, (from_in _ _ _ _).mono ?_⟩
    rintro e wx ⟨rfl, hx⟩
    rw [hx, ← hw6]
    clear hx wx hw6 hw5
    gi_wp2
    refine wpIn_tells2 (T := fun t => t = 5) (w0 := w6) (n0 := w4.heap.size) (all := down ns ns.length k) (gf := 26) (lb := #[.pointer (some ⟨w5.heap.size, 0, none⟩), .pointer (some ⟨w5.heap.size + 1, 0, none⟩)]) rfl (enters_of Try.func26 (by kernel_rfl) rfl)
      (from_tells2 (w := w6) ⟨by decide, by decide, by decide⟩ HN4.out hAl cA (by omega) HDP.out b46 cY cZ (by have := HS5.out; have := HS6.out; omega) (by have := HS5.out; have := HS6.out; omega)) (Below.refl _ _) b46.size
      (fun S pre Wq => (∀ j, S j ↔ j = w4.heap.size) ∧ Bld2 w4.heap.size w4.heap.size (pre.flatMap fun x => txAt ns x.toNat) Wq ∧ Below w4.heap.size w4 Wq)
      ?hF (fun j => j = w4.heap.size) (fun j hj => by have := HS5.out; have := HS6.out; omega) ⟨fun j => Iff.rfl, hbn6, b46⟩
      (fun x => { tmps := #[.agg #[.slice a ns.length cap], .int .i64 (k : Int), .pointer (some ⟨w.heap.size, 0, none⟩), undef, .string ⟨#[]⟩, .pointer (some ⟨w2.heap.size + 1, 0, none⟩), .pointer (some ⟨w4.heap.size, 0, none⟩), .int .i64 x, undef, .agg #[.slice a ns.length cap], .bool true, .bool false, .pointer (some ⟨w.heap.size, 0, none⟩), .slice a ns.length cap, .agg #[.slice a ns.length cap], .pointer (some ⟨w2.heap.size, 0, none⟩), .pointer (some ⟨w2.heap.size, 0, none⟩), .int .i64 (k : Int), .bool true, .bool false, .pointer (some ⟨w2.heap.size, 0, none⟩), .int .i64 (k : Int), .func (.func 26) #[] #[.pointer (some ⟨w5.heap.size, 0, none⟩), .pointer (some ⟨w5.heap.size + 1, 0, none⟩)], .int .i64 x, undef, undef, undef, undef, undef, undef, undef, undef, undef, undef, undef, undef, undef, undef], defers := [] }) ?assign ?body ?done
    case hF =>
      rintro S pre Wa Wb ⟨h1, h2, h3⟩ hag
      exact ⟨h1, bld_agree h2 hag ((h1 _).mpr rfl), agree_below h3 h3.size hag⟩
    case assign =>
      intro l m x Wa K' hK'
      gi_wp2
      exact hK'
    case body =>
      rintro l m S pre x W hx ⟨h1, h2, h3⟩ hSW
      obtain ⟨d, hd⟩ := HT.out.linked k hk
      obtain ⟨hx0, hx1, _⟩ := down_dep HT.out.fit ns.length d k hd x (hx.subset (by simp))
      obtain ⟨j, rfl⟩ : ∃ j : Nat, x = (j : Int) := ⟨x.toNat, by omega⟩
      have hj : j < ns.length := by omega
      have hpl : ((pre ++ [(j : Int)]).flatMap fun x => txAt ns x.toNat).length ≤ 524288000 := by
        obtain ⟨r, hr⟩ := hx
        have h5 := text_len HT.out (fun n hn => (HFIT.out n hn).tx) hk
        rw [text_down, ← hr, List.flatMap_append, List.length_append] at h5
        omega
      rw [List.flatMap_append, List.length_append, List.flatMap_singleton] at hpl
      obtain ⟨b, off, av, kv, rfl, hblt, c0, c1, c2, c3, c4, c5, hav, hkv⟩ := HCS.out j hj
      have hbW := HB4.out.trans (h3.mono HB4.out.size)
      replace c0 := (hbW.cell (p := ⟨b, off + j * 6, none⟩) hblt).trans c0
      replace c1 := (hbW.cell (p := ⟨b, off + j * 6 + 1, none⟩) hblt).trans c1
      replace c2 := (hbW.cell (p := ⟨b, off + j * 6 + 2, none⟩) hblt).trans c2
      replace c3 := (hbW.cell (p := ⟨b, off + j * 6 + 3, none⟩) hblt).trans c3
      replace c4 := (hbW.cell (p := ⟨b, off + j * 6 + 4, none⟩) hblt).trans c4
      replace c5 := (hbW.cell (p := ⟨b, off + j * 6 + 5, none⟩) hblt).trans c5
      obtain ⟨av1, av2, av3, rfl, _⟩ := hav
      obtain ⟨kv1, kv3, rfl, _⟩ := hkv
      have cPW := (h3.cell (p := ⟨w2.heap.size + 1, 0, none⟩) hPl).trans cP
      have cAW := (h3.cell (p := ⟨w2.heap.size, 0, none⟩) hAl).trans cA
      have HTX : Hid (txAt ns ((j : Int)).toNat = txL ns[j]) := (by rw [show ((j : Int)).toNat = j by simp, txAt_at hj] : txAt ns ((j : Int)).toNat = txL ns[j])
      obtain ⟨nd, hnd⟩ : ∃ nd, nd = ns[j] := ⟨_, rfl⟩
      have hnf := HFIT.out ns[j] (List.getElem_mem hj)
      rw [HTX.out] at hpl
      rw [← hnd] at c0 c1 c3 c4 c5 HTX hnf hpl
      obtain ⟨k0', k1', rs', k3', k4', ks'⟩ := nd
      simp only at c0 c1 c3 c4 c5
      have htxs := hnf.tx
      simp only at htxs
      obtain ⟨W1, hW1⟩ : ∃ q, q = W.alloc (.cells #[.int .i64 k0', .string k1', .slice av1 av2 av3, .string k3', .int .i64 k4', .slice kv1 ks'.length kv3] 34) := ⟨_, rfl⟩
      have bW1 : Below W.heap.size W W1 := by rw [hW1]; exact (Below.refl _ _).alloc (Nat.le_refl _) _
      have hBl1 : Bld2 w4.heap.size w4.heap.size (pre.flatMap fun x => txAt ns x.toNat) W1 := bld_below h2 bW1
      have hs3 := h3.size
      have HK1 := (show Hid (Kz w4.heap.size (fun t => t = 5) S S W W1) from Kz.of_below bW1 hSW)
      have HH1 := (show Hid (∀ j, S j ↔ j = w4.heap.size) from h1)
      have H31 := (show Hid (Below w4.heap.size w4 W1) from h3.trans (bW1.mono hs3))
      have HBL := (show Hid (Bld2 w4.heap.size w4.heap.size (pre.flatMap fun x => txAt ns x.toNat) W1) from hBl1)
      clear hnd hnf hbW h1 h2 h3 bW1 hBl1
      have hsum0 : (pre ++ [(j : Int)]).flatMap (fun x => txAt ns x.toNat) = pre.flatMap (fun x => txAt ns x.toNat) ++ txL ⟨k0', k1', rs', k3', k4', ks'⟩ := by rw [List.flatMap_append, List.flatMap_singleton, HTX.out]
      have HSUM := (show Hid ((pre ++ [(j : Int)]).flatMap (fun x => txAt ns x.toNat) = pre.flatMap (fun x => txAt ns x.toNat) ++ txL ⟨k0', k1', rs', k3', k4', ks'⟩) from hsum0)
      clear hsum0
      by_cases h4 : k0' = 4
      · subst h4
        have htl : txL ⟨4, k1', rs', k3', k4', ks'⟩ = k3'.data.toList := by simp [txL]
        rw [htl] at hpl HSUM
        have CW := (show Hid _ from bld_write2 w4.heap.size w4.heap.size (pre.flatMap fun x => txAt ns x.toNat) k3' W1 HBL.out (by simp at hpl ⊢; omega) H31.out.size)
        clear hpl htl
        gi_wp2
        refine ⟨trivial, (fun h => by cases h), ?_⟩
        rw [← hW1]
        refine (CallsIn.inRound l (callsIn_wide.2 CW.out)).mono ?_
        rintro e W2 ⟨rfl, hb2, hbel2, hok2⟩
        have hbs : w4.heap.size < W1.heap.size := bld_lt HBL.out
        have hK2 : Kz w4.heap.size (fun t => t = 5) S S W1 W2 := by
          refine ⟨hbel2.os, hbel2.tape, hbel2.output, hbel2.size, fun q o hq ho => ?_, fun q hq => ⟨by have := (HH1.out q).mp hq; have := hbel2.size; omega, .inl hq⟩⟩
          rcases ho with ho | ho | ho
          · rw [hbel2.block q ho]; exact hq
          · refine hok2 q o hq (fun e => ho.1 ((HH1.out q).mpr (by injection e))) (fun c fz e => ho.2 ⟨_, _, _, e, rfl⟩)
          · refine hok2 q o hq (fun e => ?_) (fun c fz e => by rw [e] at ho; cases ho)
            injection e with e
            rw [e] at hq
            obtain ⟨cs, hcs'⟩ := bld_cells HBL.out
            rw [hcs'] at hq
            cases hq
            cases ho
        have hb2' : Bld2 w4.heap.size w4.heap.size ((pre ++ [(j : Int)]).flatMap fun x => txAt ns x.toNat) W2 := by rw [HSUM.out]; exact hb2
        have END := (show Hid (∃ S', Kz w4.heap.size (fun t => t = 5) S S' W W2 ∧ (∀ j, S' j ↔ j = w4.heap.size) ∧ Bld2 w4.heap.size w4.heap.size ((pre ++ [(j : Int)]).flatMap fun x => txAt ns x.toNat) W2 ∧ Below w4.heap.size w4 W2) from ⟨S, HK1.out.trans hK2, HH1.out, hb2', H31.out.trans hbel2⟩)
        clear hK2 hb2 hb2' hbel2 hok2
        gi_wp2
        simpa using END.out
      · have htl : txL ⟨k0', k1', rs', k3', k4', ks'⟩ = [] := by simp [txL, h4]
        rw [htl, List.append_nil] at HSUM
        have END := (show Hid (∃ S', Kz w4.heap.size (fun t => t = 5) S S' W W1 ∧ (∀ j, S' j ↔ j = w4.heap.size) ∧ Bld2 w4.heap.size w4.heap.size ((pre ++ [(j : Int)]).flatMap fun x => txAt ns x.toNat) W1 ∧ Below w4.heap.size w4 W1) from ⟨S, HK1.out, HH1.out, (by rw [HSUM.out]; exact HBL.out), H31.out⟩)
        clear htl hpl
        gi_wp2
        rw [← hW1]
        simpa using END.out
    case done =>
      rintro D S' Wd hD ⟨h1, h2, h3⟩ hKd hDD
      have CS := (show Hid _ from bld_string2 w4.heap.size w4.heap.size _ Wd h2 h3.size)
      rw [← text_down] at CS
      have H3 := (show Hid (Below w4.heap.size w4 Wd) from h3)
      clear h2 h3
      gi_wp2
      refine ⟨trivial, (callsIn_wide.2 CS.out).mono ?_⟩
      rintro e We ⟨rfl, hb2, hbel2, hok2⟩
      have hDe : We.heap[D]? = some (.deferred (some [])) := hok2 D _ hDD (fun e => by injection e with e; have := HS5.out; have := HS6.out; omega) (fun c fz e => by cases e)
      have HE := (show Hid (Below w.heap.size w We) from (HB4.out.trans (H3.out.mono HB4.out.size)).trans (hbel2.mono HB4.out.size))
      have HDE := (show Hid _ from hDe)
      have hDw : w.heap.size ≤ D := by have := HS5.out; have := HS6.out; omega
      clear hb2 hbel2 hok2 hDe
      gi_wp2
      refine leaves_dmarks (by simp) w.heap.size [D] _ (by simp) (fun d hd => by simp only [List.mem_cons, List.not_mem_nil, or_false] at hd; subst hd; exact ⟨hDw, HDE.out⟩) ?_
      intro w' bw kw
      refine ⟨_, results_tmp rfl _ _ _, _, rfl, ⟨fun _ => by simp, fun h => absurd ⟨HT.out, by omega, by omega⟩ h⟩, HE.out.trans bw⟩
  · rw [decide_eq_false hin]
    have HF : Hid (¬ (0 ≤ at' ∧ at' < ns.length)) := hin
    clear hin
    gi_wp2
    refine leaves_dmarks (by simp) w.heap.size [] _ List.nodup_nil (fun d hd => by cases hd) ?_
    intro w' bw kw
    exact ⟨_, results_tmp rfl _ _ _, ⟨#[]⟩, rfl, ⟨fun h => absurd h.2 HF.out, fun _ => rfl⟩, HB4.out.trans bw⟩
end Go.Proofs.Ytckhmolmnlcabaa

/- Trees that are right as the specification has it, in plain words. No condition. -/
namespace Go.Proofs.Ytckhmolmnlcabaa
open Go.RowKit
set_option maxRecDepth 100000
set_option linter.unusedVariables false

/-- What the specification asks: the document's words, and that the page has no Parent. -/
def STreeOkP (ns : List PNode) : Prop := TreeOkP ns ∧ parOf ns 0 = -1

/-- The Parent is a node's number, or -1; that of node 0 is -1. -/
def SPar (ns : List PNode) (k : Nat) : Prop := -1 ≤ parOf ns k ∧ parOf ns k ≤ ns.length - 1 ∧ (k = 0 → parOf ns k = -1)
theorem tree_par {ns : List PNode} (h : STreeOkP ns) {k : Nat} (hk : k < ns.length) : SPar ns k := by
  obtain ⟨d, hd⟩ := h.1.linked k hk
  refine ⟨?_, ?_, fun e => e ▸ h.2⟩
  all_goals
    cases d with
    | zero => have := hd.2; omega
    | succ d =>
      obtain ⟨p, hp, hm⟩ := hd
      have := fit_kid h.1.fit hm
      rw [show ((k : Int)).toNat = k by simp] at this
      omega
theorem tree_kid {ns : List PNode} (h : STreeOkP ns) {k : Nat} {x : Int} (hx : x ∈ kidsOf ns k) : 1 ≤ x ∧ x ≤ ns.length - 1 := by
  have hk := fit_kid h.1.fit hx
  by_cases e : x = 0
  · have h3 := hk.2.2.2
    rw [e] at h3
    have h4 := h.2
    rw [show (0 : Int).toNat = 0 from rfl] at h3
    omega
  · omega
theorem tree_bad {ns : List PNode} {k : Nat} {pre : List Int} (hk : k < ns.length) (hb : BadPre ns k pre) (hp : pre <+: kidsOf ns k) (hf : ∀ i, i < k → FitPre ns i (kidsOf ns i)) : ¬ STreeOkP ns := fun h => bad_not hk hb hp hf h.1.fit

/-- The array's cells tell what stands; N of them. -/
def StandsN (N : Nat) (ns : List PNode) (k : Nat) (pre : List Int) (arr : Array Value) : Prop := arr.size = N ∧ ∀ j, j < N → ∃ b, arr[j]? = some (.bool b) ∧ (b = true ↔ Stand ns k pre j)
theorem StandsN.snoc {N : Nat} {ns : List PNode} {k : Nat} {pre : List Int} {arr : Array Value} (h : StandsN N ns k pre arr) (j : Nat) (hj : j < N) : StandsN N ns k (pre ++ [(j : Int)]) (arr.setIfInBounds j (.bool true)) := by
  refine ⟨by simpa using h.1, fun i hi => ?_⟩
  by_cases e : j = i
  · subst e
    refine ⟨true, ?_, ?_⟩
    · have := h.1; simp [this, hj]
    · simp [Stand]
  · obtain ⟨b, hb, hs⟩ := h.2 i hi
    refine ⟨b, by rw [Array.getElem?_setIfInBounds]; simp [e, hb], hs.trans ?_⟩
    have : ¬ ((i : Int) = (j : Int)) := by omega
    simp [Stand, this]
theorem StandsN.next {N : Nat} {ns : List PNode} {k : Nat} {arr : Array Value} (h : StandsN N ns k (kidsOf ns k) arr) : StandsN N ns (k + 1) [] arr := by
  refine ⟨h.1, fun i hi => ?_⟩
  obtain ⟨b, hb, hs⟩ := h.2 i hi
  refine ⟨b, hb, hs.trans ?_⟩
  simp only [Stand, List.not_mem_nil, false_or]
  constructor
  · rintro (hm | ⟨j, hj, hm⟩)
    · exact ⟨k, by omega, hm⟩
    · exact ⟨j, by omega, hm⟩
  · rintro ⟨j, hj, hm⟩
    by_cases e : j = k
    · subst e; exact .inl hm
    · exact .inr ⟨j, by omega, hm⟩
theorem standsN_zero (N : Nat) (ns : List PNode) (arr : Array Value) (h : arr = Array.replicate N (.bool false)) : StandsN N ns 0 [] arr := by
  subst h
  refine ⟨by simp, fun j hj => ⟨false, by simp [hj], ?_⟩⟩
  simp [Stand]

/-- k steps up. -/
def up (ns : List PNode) : Nat → Nat → Int
  | 0, i => i
  | k + 1, i => parOf ns (up ns k i).toNat
theorem up_shift {ns : List PNode} {i p : Nat} (h : parOf ns i = p) : ∀ m, up ns (m + 1) i = up ns m p
  | 0 => by simp [up, h]
  | m + 1 => by
    show parOf ns (up ns (m + 1) i).toNat = parOf ns (up ns m p).toNat
    rw [up_shift h m]
theorem dep_up {ns : List PNode} (hf : KidsFit ns) : ∀ (d i : Nat), dep ns d i → up ns (d + 1) i = -1
  | 0, i, h => by simpa [up] using h.2
  | d + 1, i, ⟨p, hp, hk⟩ => by
    have := (fit_kid hf hk).2.2.2
    rw [show ((i : Int)).toNat = i by simp] at this
    rw [up_shift this, dep_up hf d p hp]
/-- In a right tree a way up ends in time. -/
theorem tree_up {ns : List PNode} (h : STreeOkP ns) {i : Nat} (hi : i < ns.length) : ∃ d, d ≤ ns.length ∧ up ns d i < 0 := by
  obtain ⟨d, hd⟩ := h.1.linked i hi
  have := dep_lt h.1.fit hd
  exact ⟨d + 1, by omega, by rw [dep_up h.1.fit d i hd]; omega⟩
theorem tree_seen {ns : List PNode} (h : STreeOkP ns) {i : Nat} (hi : i < ns.length) : Stand ns ns.length [] i ↔ 0 ≤ parOf ns i := by
  obtain ⟨d, hd⟩ := h.1.linked i hi
  constructor
  · rintro (hm | ⟨p, hp, hm⟩)
    · cases hm
    · have := (fit_kid h.1.fit hm).2.2.2
      rw [show ((i : Int)).toNat = i by simp] at this
      omega
  · intro h0
    cases d with
    | zero => have := hd.2; omega
    | succ d =>
      obtain ⟨p, hp, hm⟩ := hd
      exact .inr ⟨p, (fit_kid h.1.fit hm).1, hm⟩
/-- What the loops look for makes a right tree. -/
theorem tree_of {ns : List PNode} (h1 : 1 ≤ ns.length) (h5 : ns.length ≤ 500) (hg : ∀ k (h : k < ns.length), goodB ns[k] k = true) (hp : ∀ k, k < ns.length → SPar ns k) (hf : KidsFit ns)
    (hs : ∀ i, i < ns.length → (Stand ns ns.length [] i ↔ 0 ≤ parOf ns i)) (hu : ∀ i, i < ns.length → ∃ d, up ns d i < 0) : STreeOkP ns := by
  refine ⟨⟨h1, h5, hg, hf, ?_⟩, (hp 0 (by omega)).2.2 rfl⟩
  have key : ∀ d i, i < ns.length → up ns d i < 0 → ∃ e, dep ns e i := by
    intro d
    induction d with
    | zero => intro i _ h; simp [up] at h; omega
    | succ d ih =>
      intro i hi h
      by_cases h0 : 0 ≤ parOf ns i
      · obtain ⟨p, hpp⟩ : ∃ p : Nat, parOf ns i = p := ⟨(parOf ns i).toNat, by omega⟩
        rcases (hs i hi).mpr h0 with hm | ⟨q, hq, hm⟩
        · cases hm
        · have := (fit_kid hf hm).2.2.2
          rw [show ((i : Int)).toNat = i by simp] at this
          have : p = q := by omega
          subst this
          rw [up_shift hpp] at h
          obtain ⟨e, he⟩ := ih p hq h
          exact ⟨e + 1, p, he, hm⟩
      · exact ⟨0, hi, by have := (hp i hi).1; omega⟩
  exact fun i hi => by obtain ⟨d, hd⟩ := hu i hi; exact key d i hi hd
end Go.Proofs.Ytckhmolmnlcabaa

/- The specification's l6Node. No condition. -/
namespace Go.Proofs.Ytckhmolmnlcabaa
open Go.RowKit
set_option maxRecDepth 100000
set_option linter.unusedVariables false

set_option maxHeartbeats 1000000 in
theorem snode_page {w : World} (nm tx : ByteArray) (p : Int) {a ka : Option Addr} {na ca nk kc : Nat} :
    Calls Try.prog 20 #[.agg #[.int .i64 1, .string nm, .slice a na ca, .string tx, .int .i64 p, .slice ka nk kc]] w fun e w' => e = .returned (.bool (empB nm && decide (na = 0) && empB tx)) ∧ Below w.heap.size w w' := by
  unfold empB
  by_cases hnm : nm.toList = [] <;> by_cases htx : tx.toList = [] <;> by_cases hna : na = 0
  all_goals (go_enter Try.func20, Try.ntmps20; go_wp2)
  all_goals (go_ret; exact ⟨ret_bool (by simp [*]), (Below.refl _ _).alloc (Nat.le_refl _) _⟩)

set_option maxHeartbeats 1000000 in
theorem snode_other {w : World} (nm tx : ByteArray) (p : Int) {a ka : Option Addr} {na ca nk kc : Nat} (k : Int) (h1 : k ≠ 1) (h2 : k ≠ 2) (h3 : k ≠ 3) (h4 : k ≠ 4) (h5 : k ≠ 5) :
    Calls Try.prog 20 #[.agg #[.int .i64 (k), .string nm, .slice a na ca, .string tx, .int .i64 p, .slice ka nk kc]] w fun e w' => e = .returned (.bool (false)) ∧ Below w.heap.size w w' := by
  by_cases hnm : nm.toList = [] <;> by_cases htx : tx.toList = []
  all_goals (go_enter Try.func20, Try.ntmps20; go_wp2)
  all_goals (go_ret; exact ⟨ret_bool (by simp), (Below.refl _ _).alloc (Nat.le_refl _) _⟩)

set_option maxHeartbeats 1000000 in
theorem snode_doc {w : World} (nm tx : ByteArray) (p : Int) {a ka : Option Addr} {na ca nk kc : Nat} (hnm : nm.size ≤ 1048576) (htx : tx.size ≤ 1048576) :
    Calls Try.prog 20 #[.agg #[.int .i64 2, .string nm, .slice a na ca, .string tx, .int .i64 p, .slice ka nk kc]] w fun e w' => e = .returned (.bool ((decide (nm.size ≤ 60) && utfOk (bs nm)) && decide (na = 0) && empB tx && decide (nk = 0))) ∧ Below w.heap.size w w' := by
  have hy0 : (w.alloc (.cells #[.int .i64 2, .string nm, .slice a na ca, .string tx, .int .i64 p, .slice ka nk kc] 34)).heap[w.heap.size]? = some (.cells #[.int .i64 2, .string nm, .slice a na ca, .string tx, .int .i64 p, .slice ka nk kc] 34 (0, 0)) := World.alloc_heap_new _ _
  have HY0 := (show Hid _ from hy0)
  have c1 := fun w => l1Ok_any nm w (by omega)
  obtain ⟨u, eu⟩ : ∃ u, u = utfOk (bs nm) := ⟨_, rfl⟩
  rw [← eu] at c1 ⊢
  have C1 := (show Hid _ from c1)
  clear c1 eu hy0
  unfold empB
  by_cases hn0 : nm.toList = [] <;> by_cases ht0 : tx.toList = [] <;> by_cases hna : na = 0 <;> by_cases h60 : nm.size ≤ 60
  all_goals (go_enter Try.func20, Try.ntmps20; go_wp2_with fail)
  all_goals first
    | (go_ret; exact ⟨ret_bool (by simp [*]), (Below.refl _ _).alloc (Nat.le_refl _) _⟩)
    | (go_at_call 29
       refine (C1.out _).mono ?_
       rintro e w3 ⟨rfl, b3⟩
       have hy := (b3.block w.heap.size (by simp)).trans (World.alloc_heap_new _ _)
       have y5 : w3.cell? ⟨w.heap.size, 5, none⟩ = some (.slice ka nk kc) := by simp only [World.cell?, hy]; rfl
       replace b3 := ((Below.refl w.heap.size w).alloc (Nat.le_refl _) _).trans (b3.mono (by simp))
       clear hy HY0
       cases u <;> go_wp2
       all_goals (go_ret; exact ⟨ret_bool (by first | (simp [*]; done) | simp [*, natb0]), b3⟩))

set_option maxHeartbeats 1000000 in
theorem snode_text {w : World} (nm tx : ByteArray) (p : Int) {a ka : Option Addr} {na ca nk kc : Nat} (hnm : nm.size ≤ 1048576) (htx : tx.size ≤ 1048576) :
    Calls Try.prog 20 #[.agg #[.int .i64 4, .string nm, .slice a na ca, .string tx, .int .i64 p, .slice ka nk kc]] w fun e w' => e = .returned (.bool (!empB tx && utfOk (bs tx) && empB nm && decide (na = 0) && decide (nk = 0))) ∧ Below w.heap.size w w' := by
  have hy0 : (w.alloc (.cells #[.int .i64 4, .string nm, .slice a na ca, .string tx, .int .i64 p, .slice ka nk kc] 34)).heap[w.heap.size]? = some (.cells #[.int .i64 4, .string nm, .slice a na ca, .string tx, .int .i64 p, .slice ka nk kc] 34 (0, 0)) := World.alloc_heap_new _ _
  have HY0 := (show Hid _ from hy0)
  have c1 := fun w => l1Ok_any tx w (by omega)
  obtain ⟨u, eu⟩ : ∃ u, u = utfOk (bs tx) := ⟨_, rfl⟩
  rw [← eu] at c1 ⊢
  have C1 := (show Hid _ from c1)
  clear c1 eu hy0
  unfold empB
  by_cases hn0 : nm.toList = [] <;> by_cases ht0 : tx.toList = [] <;> by_cases hna : na = 0
  all_goals (go_enter Try.func20, Try.ntmps20; go_wp2_with fail)
  all_goals first
    | (go_ret; exact ⟨ret_bool (by simp [*]), (Below.refl _ _).alloc (Nat.le_refl _) _⟩)
    | (go_at_call 29
       refine (C1.out _).mono ?_
       rintro e w3 ⟨rfl, b3⟩
       have hy := (b3.block w.heap.size (by simp)).trans (World.alloc_heap_new _ _)
       have y5 : w3.cell? ⟨w.heap.size, 5, none⟩ = some (.slice ka nk kc) := by simp only [World.cell?, hy]; rfl
       replace b3 := ((Below.refl w.heap.size w).alloc (Nat.le_refl _) _).trans (b3.mono (by simp))
       clear hy HY0
       cases u <;> go_wp2
       all_goals (go_ret; exact ⟨ret_bool (by first | (simp [*]; done) | simp [*, natb0]), b3⟩))

set_option maxHeartbeats 1000000 in
theorem snode_com {w : World} (nm tx : ByteArray) (p : Int) {a ka : Option Addr} {na ca nk kc : Nat} (hnm : nm.size ≤ 1048576) (htx : tx.size ≤ 1048576) :
    Calls Try.prog 20 #[.agg #[.int .i64 5, .string nm, .slice a na ca, .string tx, .int .i64 p, .slice ka nk kc]] w fun e w' => e = .returned (.bool (utfOk (bs tx) && empB nm && decide (na = 0) && decide (nk = 0))) ∧ Below w.heap.size w w' := by
  have hy0 : (w.alloc (.cells #[.int .i64 5, .string nm, .slice a na ca, .string tx, .int .i64 p, .slice ka nk kc] 34)).heap[w.heap.size]? = some (.cells #[.int .i64 5, .string nm, .slice a na ca, .string tx, .int .i64 p, .slice ka nk kc] 34 (0, 0)) := World.alloc_heap_new _ _
  have HY0 := (show Hid _ from hy0)
  have c1 := fun w => l1Ok_any tx w (by omega)
  obtain ⟨u, eu⟩ : ∃ u, u = utfOk (bs tx) := ⟨_, rfl⟩
  rw [← eu] at c1 ⊢
  have C1 := (show Hid _ from c1)
  clear c1 eu hy0
  unfold empB
  by_cases hn0 : nm.toList = [] <;> by_cases ht0 : tx.toList = [] <;> by_cases hna : na = 0
  all_goals (go_enter Try.func20, Try.ntmps20; go_wp2_with fail)
  all_goals first
    | (go_ret; exact ⟨ret_bool (by simp [*]), (Below.refl _ _).alloc (Nat.le_refl _) _⟩)
    | (go_at_call 29
       refine (C1.out _).mono ?_
       rintro e w3 ⟨rfl, b3⟩
       have hy := (b3.block w.heap.size (by simp)).trans (World.alloc_heap_new _ _)
       have y5 : w3.cell? ⟨w.heap.size, 5, none⟩ = some (.slice ka nk kc) := by simp only [World.cell?, hy]; rfl
       replace b3 := ((Below.refl w.heap.size w).alloc (Nat.le_refl _) _).trans (b3.mono (by simp))
       clear hy HY0
       cases u <;> go_wp2
       all_goals (go_ret; exact ⟨ret_bool (by first | (simp [*]; done) | simp [*, natb0]), b3⟩))

set_option maxHeartbeats 1000000 in
theorem snode_elem {w : World} (nm tx : ByteArray) (p : Int) {a ka : Option Addr} {na ca nk kc : Nat} {rs : List (ByteArray × ByteArray)} (hav : Sv 2 w (.slice a na ca) (pairCells rs)) (hnm : nm.size ≤ 1048576) (htx : tx.size ≤ 1048576) (hrs : rs.length ≤ 1048576) (hrr : ∀ p ∈ rs, p.1.size ≤ 1099511627776 ∧ p.2.size ≤ 1099511627776) :
    Calls Try.prog 20 #[.agg #[.int .i64 3, .string nm, .slice a na ca, .string tx, .int .i64 p, .slice ka nk kc]] w fun e w' => e = .returned (.bool (nameOk (bs nm) && attrsOk rs && empB tx)) ∧ Below w.heap.size w w' := by
  have b1 : Below w.heap.size w (w.alloc (.cells #[.int .i64 3, .string nm, .slice a na ca, .string tx, .int .i64 p, .slice ka nk kc] 34)) := (Below.refl _ _).alloc (Nat.le_refl _) _
  have hy0 : (w.alloc (.cells #[.int .i64 3, .string nm, .slice a na ca, .string tx, .int .i64 p, .slice ka nk kc] 34)).heap[w.heap.size]? = some (.cells #[.int .i64 3, .string nm, .slice a na ca, .string tx, .int .i64 p, .slice ka nk kc] 34 (0, 0)) := World.alloc_heap_new _ _
  have HY0 := (show Hid _ from hy0)
  have c1 := fun w => snameOk_any nm w (by omega)
  have c2 : ∀ w', Below w.heap.size w w' → Calls Try.prog 31 #[.slice a na ca] w' fun e w'' => e = .returned (.bool (attrsOk rs)) ∧ Below w'.heap.size w' w'' := fun w' hb => sattrsOk_any (hav.below hb) (by omega) hrr
  obtain ⟨u, eu⟩ : ∃ u, u = nameOk (bs nm) := ⟨_, rfl⟩
  obtain ⟨u2, eu2⟩ : ∃ u2, u2 = attrsOk rs := ⟨_, rfl⟩
  rw [← eu] at c1 ⊢
  rw [← eu2] at c2 ⊢
  have C1 := (show Hid _ from c1)
  have C2 := (show Hid _ from c2)
  clear c1 c2 eu eu2 hy0 hav hrr
  unfold empB
  by_cases hn0 : nm.toList = [] <;> by_cases ht0 : tx.toList = []
  all_goals (go_enter Try.func20, Try.ntmps20; go_wp2_with fail)
  all_goals first
    | (go_ret; exact ⟨ret_bool (by simp [*]), b1⟩)
    | (go_at_call 30
       refine (C1.out _).mono ?_
       rintro e w3 ⟨rfl, b3⟩
       have hy := (b3.block w.heap.size (by simp)).trans HY0.out
       have y2 : w3.cell? ⟨w.heap.size, 2, none⟩ = some (.slice a na ca) := by simp only [World.cell?, hy]; rfl
       replace b3 := b1.trans (b3.mono b1.size)
       clear hy HY0
       cases u
       · go_wp2
         go_ret
         exact ⟨ret_bool (by simp), b3⟩
       · go_wp2_with fail
         go_at_call 31
         refine (C2.out _ b3).mono ?_
         rintro e w4 ⟨rfl, b4⟩
         replace b4 := b3.trans (b4.mono b3.size)
         go_wp2
         go_ret
         exact ⟨ret_bool (by simp [*]), b4⟩)

/-- l6Node, of every node. -/
theorem snodeOk_any {w : World} (k : Int) (nm tx : ByteArray) (p : Int) {a ka : Option Addr} {na ca nk kc : Nat} {rs : List (ByteArray × ByteArray)} (hav : Sv 2 w (.slice a na ca) (pairCells rs)) (hnm : nm.size ≤ 1048576) (htx : tx.size ≤ 1048576) (hrs : rs.length ≤ 1048576) (hrr : ∀ p ∈ rs, p.1.size ≤ 1099511627776 ∧ p.2.size ≤ 1099511627776) :
    Calls Try.prog 20 #[.agg #[.int .i64 k, .string nm, .slice a na ca, .string tx, .int .i64 p, .slice ka nk kc]] w fun e w' => e = .returned (.bool (nodeB k nm rs tx nk)) ∧ Below w.heap.size w w' := by
  obtain ⟨_, _, ev, _⟩ := hav.pair
  have hna : na = rs.length := by cases ev; rfl
  unfold nodeB
  by_cases h1 : k = 1
  · subst h1
    rw [if_pos rfl, ← hna]
    exact snode_page nm tx p
  rw [if_neg h1]
  by_cases h2 : k = 2
  · subst h2
    rw [if_pos rfl, ← hna]
    exact snode_doc nm tx p hnm htx
  rw [if_neg h2]
  by_cases h3 : k = 3
  · subst h3
    rw [if_pos rfl]
    exact snode_elem nm tx p hav hnm htx hrs hrr
  rw [if_neg h3]
  by_cases h4 : k = 4
  · subst h4
    rw [if_pos rfl, ← hna]
    exact snode_text nm tx p hnm htx
  rw [if_neg h4]
  by_cases h5 : k = 5
  · subst h5
    rw [if_pos rfl, ← hna]
    exact snode_com nm tx p hnm htx
  rw [if_neg h5]
  exact snode_other nm tx p k h1 h2 h3 h4 h5
end Go.Proofs.Ytckhmolmnlcabaa

/- The specification's TreeOk. No condition. -/
namespace Go.Proofs.Ytckhmolmnlcabaa
open Go.RowKit
set_option maxRecDepth 100000
set_option linter.unusedVariables false

/-- What lies while the loops go on: the tree's box, what stands. -/
structure SeenW (w : World) (v : Value) (ns : List PNode) (k : Nat) (pre : List Int) (W : World) : Prop where
  bT : W.heap[w.heap.size]? = some (.cells #[v] 26 (0, 0))
  bS : ∃ arr, W.heap[w.heap.size + 1]? = some (.cells arr 4 (0, 0)) ∧ StandsN ns.length ns k pre arr
  bel : Below w.heap.size w W
theorem SeenW.below {w : World} {v : Value} {ns : List PNode} {k : Nat} {pre : List Int} {W W' : World} (h : SeenW w v ns k pre W) (b : Below W.heap.size W W') : SeenW w v ns k pre W' := by
  obtain ⟨h1, ⟨arr, h2, h2'⟩, h3⟩ := h
  exact ⟨(b.block _ (blk_lt h1)).trans h1, ⟨arr, (b.block _ (blk_lt h2)).trans h2, h2'⟩, h3.trans (b.mono h3.size)⟩
/-- The first k nodes are right, as far as one loop tells. -/
structure SeenP (ns : List PNode) (k : Nat) : Prop where
  good : ∀ j (h : j < ns.length), j < k → goodB ns[j] j = true
  par : ∀ j, j < k → SPar ns j
  fit : ∀ i, i < k → FitPre ns i (kidsOf ns i)

theorem seen_start {w w1 w3 : World} {v : Value} {ns : List PNode} (g1 : w1.heap[w.heap.size]? = some (.cells #[v] 26 (0, 0))) (s1 : w1.heap.size = w.heap.size + 1) (b1 : Below w.heap.size w w1) (hn : 1 ≤ ns.length)
    (o3 : w3.ownsRow (w.heap.size + 1) 4 1 (.slice (some ⟨w1.heap.size, 0, none⟩) ns.length ns.length) ns.length (madeCells (Value.bool false).cells (ns.length * 1)).toList) (g3 : w1.grownBy w3 none) : SeenW w v ns 0 [] w3 := by
  have b3 : Below w1.heap.size w1 w3 := ⟨g3.os, g3.tape, g3.output, g3.size, fun k hk => g3.block k hk (fun e => by cases e)⟩
  have e1 : (madeCells (Value.bool false).cells ns.length).toList = List.replicate ns.length (Value.bool false) := toList_madeCells_one _ _
  rw [Nat.mul_one, e1] at o3
  obtain ⟨hl, ⟨hv, h0⟩ | ⟨g, cap, cur, hv, hB, hh, hn', hm, hz, ht⟩⟩ := o3
  · omega
  · cases hv
    rw [s1] at hh
    refine ⟨(b3.block _ (blk_lt g1)).trans g1, ⟨cur, hh, standsN_zero _ _ _ ?_⟩, b1.trans (b3.mono b1.size)⟩
    rw [List.take_of_length_le (by simp; omega)] at ht
    exact Array.toList_inj.mp (by rw [ht]; simp)

/-- The copy of a node in block g. -/
def NodeBox (g : Nat) (k0 : Int) (k1 : ByteArray) (av : Value) (k3 : ByteArray) (kv : Value) (W : World) : Prop := ∃ k4 : Int, W.heap[g]? = some (.cells #[.int .i64 k0, .string k1, av, .string k3, .int .i64 k4, kv] 34 (0, 0))

theorem lt_of_cell {w : World} {g o : Nat} {u : Value} (h : w.cell? ⟨g, o, none⟩ = some u) : g < w.heap.size := by
  by_cases hlt : g < w.heap.size
  · exact hlt
  · exfalso; simp [World.cell?, Array.getElem?_eq_none (Nat.le_of_not_lt hlt)] at h

theorem Try.infoBool : (Try.prog.info? 4).map (fun i => (i.zero, i.size, i.bytes)) = some (some (.bool false), 1, 1) := by kernel_rfl

set_option maxHeartbeats 2000000 in
theorem streeOk_any {w : World} {v : Value} {ns : List PNode} (hn : NodesAt w v ns) (hfit : ∀ n ∈ ns, NodeFit n) (hlen : ns.length ≤ 1048576) :
    Calls Try.prog 8 #[.agg #[v]] w fun e w' => ∃ r, e = .returned (.bool r) ∧ (r = true ↔ STreeOkP ns) ∧ Below w.heap.size w w' := by
  have HFIT := (show Hid (∀ n ∈ ns, NodeFit n) from hfit)
  obtain ⟨a, cap, rfl, hc1, hc2, hcs⟩ := hn.slice
  have C0 := fun w => l1In_any ns.length 1 500 w
  have HC0 := (show Hid _ from C0)
  have bT0 : Below w.heap.size w (w.alloc (.cells #[.slice a ns.length cap] 26)) := (Below.refl _ _).alloc (Nat.le_refl _) _
  clear C0
  by_cases h15 : ns.length < 1 ∨ 500 < ns.length
  · have hF : ¬ STreeOkP ns := fun h => by have := h.1.one; have := h.1.most; omega
    have HF := (show Hid _ from hF)
    have hin : inB (ns.length : Int) 1 500 = false := by simp [inB]; omega
    rw [hin] at HC0
    clear hcs hn hfit hin hF
    go_enter Try.func8, Try.ntmps8
    go_wp2_with fail
    go_at_call 19
    refine (HC0.out _).mono ?_
    rintro e w2 ⟨rfl, rfl⟩
    go_wp2
    go_ret
    exact ⟨false, rfl, ⟨fun h => (by cases h), fun h => absurd h HF.out⟩, bT0⟩
  have hin : inB (ns.length : Int) 1 500 = true := by simp [inB]; omega
  rw [hin] at HC0
  have h1 : 1 ≤ ns.length := by omega
  have h5 : ns.length ≤ 500 := by omega
  obtain ⟨b, off, _, _, rfl, hblt, hrest⟩ := hcs 0 h1
  have HCS := (show Hid (∀ k (hk : k < ns.length), ∃ av kv, Sv 2 w av (pairCells ns[k].attrs) ∧ Sl .i64 w kv ns[k].kids ∧ w.cell? ⟨b, off + k * 6, none⟩ = some (.int .i64 ns[k].kind) ∧ w.cell? ⟨b, off + k * 6 + 1, none⟩ = some (.string ns[k].name) ∧ w.cell? ⟨b, off + k * 6 + 2, none⟩ = some av ∧ w.cell? ⟨b, off + k * 6 + 3, none⟩ = some (.string ns[k].text) ∧ w.cell? ⟨b, off + k * 6 + 4, none⟩ = some (.int .i64 ns[k].parent) ∧ w.cell? ⟨b, off + k * 6 + 5, none⟩ = some kv) from fun k hk => by
    obtain ⟨_, _, av, kv, e, _, c0, c1, c2, c3, c4, c5, hav, hkv⟩ := hcs k hk
    cases e
    exact ⟨av, kv, hav, hkv, c0, c1, c2, c3, c4, c5⟩)
  clear hcs hn hfit hin hrest h15
  obtain ⟨i0, hi, hz0, hz1, hz2⟩ := info_parts Try.infoBool
  have gT : (w.alloc (.cells #[.slice (some ⟨b, off, none⟩) ns.length cap] 26)).heap[w.heap.size]? = some (.cells #[.slice (some ⟨b, off, none⟩) ns.length cap] 26 (0, 0)) := World.alloc_heap_new _ _
  have HGT := (show Hid _ from gT)
  clear gT
  go_enter Try.func8, Try.ntmps8
  go_wp2_with fail
  go_at_call 19
  refine (HC0.out _).mono ?_
  rintro e w2 ⟨rfl, rfl⟩
  go_wp2_with (at_make; refine wpList_make_full _ rfl (.tmp 18) (.tmp 18) 56 rfl (w.heap.size + 1) 4 i0 (.bool false) 1 Try.underlying56 hi hz0 hz1 .i64 .i64 ns.length ns.length ns.length rfl rfl rfl rfl (by rw [hz2]; omega) (by unfold maxLen; omega) (by simp) ?_; intro w3 o3 g3)
  have hstart := seen_start HGT.out (by simp) bT0 h1 o3 g3
  have HS0 := (show Hid _ from hstart)
  clear o3 g3 hstart HGT bT0 hi hz0 hz1 hz2
  go_loopw [5] (fun i wr => ∃ k : Nat, k ≤ ns.length ∧ i = .int .i64 k ∧ SeenP ns k ∧ SeenW w (.slice (some ⟨b, off, none⟩) ns.length cap) ns k [] wr) (fun i _ => ns.length - (intOf i).toNat)
  case atStart => exact ⟨0, Nat.zero_le _, rfl, ⟨fun j _ hj => absurd hj (Nat.not_lt_zero j), fun j hj => absurd hj (Nat.not_lt_zero j), fun j hj => absurd hj (Nat.not_lt_zero j)⟩, HS0.out⟩
  case round =>
    clear HS0
    obtain ⟨k, hk, rfl, hP, hW⟩ := hrel
    have HP := (show Hid (SeenP ns k) from hP)
    have HW := (show Hid (SeenW w _ ns k [] wr) from hW)
    have hb := hW.bel
    have cT : wr.cell? ⟨w.heap.size, 0, none⟩ = some (.slice (some ⟨b, off, none⟩) ns.length cap) := by simp only [World.cell?, hW.bT]; rfl
    have hsz := blk_lt hW.bS.choose_spec.1
    clear hP hW
    by_cases hlt : k < ns.length
    · obtain ⟨av, kv, hav, hkv, c0, c1, c2, c3, c4, c5⟩ := HCS.out k hlt
      replace c0 := (hb.cell (p := ⟨b, off + k * 6, none⟩) hblt).trans c0
      replace c1 := (hb.cell (p := ⟨b, off + k * 6 + 1, none⟩) hblt).trans c1
      replace c2 := (hb.cell (p := ⟨b, off + k * 6 + 2, none⟩) hblt).trans c2
      replace c3 := (hb.cell (p := ⟨b, off + k * 6 + 3, none⟩) hblt).trans c3
      replace c4 := (hb.cell (p := ⟨b, off + k * 6 + 4, none⟩) hblt).trans c4
      replace c5 := (hb.cell (p := ⟨b, off + k * 6 + 5, none⟩) hblt).trans c5
      have hav' := hav.below hb
      obtain ⟨av1, av2, av3, rfl, _⟩ := hav
      have HKV := (show Hid (Sl .i64 w kv ns[k].kids) from hkv)
      obtain ⟨kv1, kv3, rfl, hkcap, hkmax, _⟩ := hkv
      have hkm : kv3 < 9223372036854775808 := Nat.lt_of_le_of_lt hkmax (by decide)
      have hnf := HFIT.out ns[k] (List.getElem_mem hlt)
      have CN := (show Hid (∀ w', Below wr.heap.size wr w' → Calls Try.prog 20 #[.agg #[.int .i64 ns[k].kind, .string ns[k].name, .slice av1 av2 av3, .string ns[k].text, .int .i64 ns[k].parent, .slice kv1 ns[k].kids.length kv3]] w' fun e w'' => e = .returned (.bool (nodeB ns[k].kind ns[k].name ns[k].attrs ns[k].text ns[k].kids.length)) ∧ Below w'.heap.size w' w'') from fun w' hb' => snodeOk_any _ _ _ _ (hav'.below hb') hnf.nm hnf.tx hnf.rs hnf.each)
      have HGK : Hid (goodB ns[k] k = (decide ((ns[k].kind == 1) = ((k : Int) == 0)) && nodeB ns[k].kind ns[k].name ns[k].attrs ns[k].text ns[k].kids.length)) := by
        show goodB ns[k] k = _
        unfold goodB
        rw [eq_kinds]
      have HBAD : Hid (goodB ns[k] k = false → ¬ STreeOkP ns) := fun h ht => by have := ht.1.good k hlt; rw [h] at this; cases this
      have HPP : Hid (parOf ns k = ns[k].parent) := parOf_at hlt
      have HKK : Hid (kidsOf ns k = ns[k].kids) := kidsOf_at hlt
      obtain ⟨gk, hgk⟩ : ∃ gk, gk = goodB ns[k] k := ⟨_, rfl⟩
      have HGG := (show Hid (gk = goodB ns[k] k) from hgk)
      rw [← hgk] at HGK HBAD
      obtain ⟨nb, hnb⟩ : ∃ nb, nb = nodeB ns[k].kind ns[k].name ns[k].attrs ns[k].text ns[k].kids.length := ⟨_, rfl⟩
      rw [← hnb] at HGK CN
      obtain ⟨k0, hk0⟩ : ∃ k0, k0 = ns[k].kind := ⟨_, rfl⟩
      obtain ⟨k1, hk1⟩ : ∃ k1, k1 = ns[k].name := ⟨_, rfl⟩
      obtain ⟨k3, hk3⟩ : ∃ k3, k3 = ns[k].text := ⟨_, rfl⟩
      obtain ⟨k4, hk4⟩ : ∃ k4, k4 = ns[k].parent := ⟨_, rfl⟩
      obtain ⟨ks, hks⟩ : ∃ ks, ks = ns[k].kids := ⟨_, rfl⟩
      rw [← hk0] at c0 HGK CN
      rw [← hk1] at c1 CN
      rw [← hk3] at c3 CN
      rw [← hk4] at c4 CN HPP
      rw [← hks] at c5 CN HKV HKK hkcap
      clear hgk hnb hk0 hk1 hk3 hk4 hks hnf hav'
      obtain ⟨wx, hwx⟩ : ∃ wx, wx = wr.alloc (.cells #[.int .i64 k0, .string k1, .slice av1 av2 av3, .string k3, .int .i64 k4, .slice kv1 ks.length kv3] 34) := ⟨_, rfl⟩
      have bx : Below wr.heap.size wr wx := by rw [hwx]; exact (Below.refl _ _).alloc (Nat.le_refl _) _
      have hx : wx.heap[wr.heap.size]? = some (.cells #[.int .i64 k0, .string k1, .slice av1 av2 av3, .string k3, .int .i64 k4, .slice kv1 ks.length kv3] 34 (0, 0)) := by rw [hwx]; exact World.alloc_heap_new _ _
      have HX := (show Hid _ from hx)
      clear hx
      go_wp2_with fail
      go_at_call 20
      rw [← hwx]
      refine (CN.out _ bx).mono ?_
      rintro e w2 ⟨rfl, b2⟩
      have hx2 := (b2.block wr.heap.size (blk_lt HX.out)).trans HX.out
      replace b2 := bx.trans (b2.mono bx.size)
      clear bx hwx HX CN c0 c1 c2 c3 c4 c5
      have y0 : w2.cell? ⟨wr.heap.size, 0, none⟩ = some (.int .i64 k0) := by simp only [World.cell?, hx2]; rfl
      have y4 : w2.cell? ⟨wr.heap.size, 4, none⟩ = some (.int .i64 k4) := by simp only [World.cell?, hx2]; rfl
      have HX2 := (show Hid _ from hx2)
      have HB2 := (show Hid (Below wr.heap.size wr w2) from b2)
      have HBW := (show Hid (Below w.heap.size w w2) from hb.trans (b2.mono hb.size))
      clear hx2 b2
      have RF : Hid (¬ STreeOkP ns → ∀ w', Below w2.heap.size w2 w' → ∃ r, Ending.returned (.bool false) = .returned (.bool r) ∧ (r = true ↔ STreeOkP ns) ∧ Below w.heap.size w w') := fun h w' b' => ⟨false, rfl, ⟨fun h => (by cases h), fun h' => absurd h' h⟩, HBW.out.trans (b'.mono HBW.out.size)⟩
      cases nb
      · have HNO := (show Hid (¬ STreeOkP ns) from HBAD.out (by rw [HGK.out, Bool.and_false]))
        go_wp2
        go_ret
        exact RF.out HNO.out _ (Below.refl _ _)
      · by_cases hq : (k0 == 1) = ((k : Int) == 0)
        · have HGQ : Hid (gk = true) := HGK.out.trans (by rw [decide_eq_true hq]; rfl)
          have CI := (show Hid _ from fun w => l1In_any k4 (-1) ((ns.length : Int) - 1) w)
          obtain ⟨ip, hip⟩ : ∃ ip, ip = inB k4 (-1) ((ns.length : Int) - 1) := ⟨_, rfl⟩
          have HIP := (show Hid (ip = inB k4 (-1) ((ns.length : Int) - 1)) from hip)
          rw [← hip] at CI
          clear hip
          go_wp2_with fail
          go_at_call 19
          refine (CI.out _).mono ?_
          rintro e w2' ⟨rfl, e2⟩
          rw [e2]
          clear e2
          cases ip
          · have HNO := (show Hid (¬ STreeOkP ns) from fun h => by
              have hp := tree_par h hlt
              rw [SPar, HPP.out] at hp
              have := HIP.out
              simp [inB] at this
              omega)
            go_wp2
            go_ret
            exact RF.out HNO.out _ (Below.refl _ _)
          · by_cases hz : k = 0 ∧ k4 ≠ -1
            · have HNO := (show Hid (¬ STreeOkP ns) from fun h => by
                have hp := (tree_par h hlt).2.2 hz.1
                rw [HPP.out] at hp
                exact hz.2 hp)
              obtain ⟨hz1, hz2⟩ := hz
              have hk0' : (k : Int) = 0 := by omega
              go_wp2
              go_ret
              exact RF.out HNO.out _ (Below.refl _ _)
            · have HSP : Hid (SPar ns k) := by
                have := HIP.out.symm
                simp [inB] at this
                refine ⟨by rw [HPP.out]; omega, by rw [HPP.out]; omega, fun e => ?_⟩
                rw [HPP.out]
                by_cases e' : k4 = -1
                · exact e'
                · exact absurd ⟨e, e'⟩ hz
              have hz' : (k : Int) ≠ 0 ∨ k4 = -1 := by
                by_cases e : k = 0
                · by_cases e' : k4 = -1
                  · exact .inr e'
                  · exact absurd ⟨e, e'⟩ hz
                · exact .inl (by omega)
              clear hz
              have HS2 := (show Hid (SeenW w _ ns k [] w2) from HW.out.below HB2.out)
              have HGD := (show Hid (goodB ns[k] k = true) from HGG.out.symm.trans HGQ.out)
              clear HIP CI HGK HBAD HGG HGQ
              obtain ⟨NB, hNB⟩ : ∃ NB, NB = wr.heap.size := ⟨_, rfl⟩
              have hsz2 : w.heap.size + 1 < NB := by omega
              rw [← hNB] at HX2 y0 y4
              have HNB := (show Hid (NB = wr.heap.size) from hNB)
              clear HB2 hNB hsz HW cT
              rcases hz' with hz' | hz'
              all_goals (try subst hz')
              all_goals (rw [← HNB.out])
              all_goals go_wp2
              all_goals go_loopw [7] (fun q wi => ∃ j : Nat, j ≤ ks.length ∧ q = .int .i64 j ∧ FitPre ns k (ks.take j) ∧ SeenW w (.slice (some ⟨b, off, none⟩) ns.length cap) ns k (ks.take j) wi ∧ NodeBox NB k0 k1 (.slice av1 av2 av3) k3 (.slice kv1 ks.length kv3) wi) (fun q _ => ks.length - (intOf q).toNat)
              all_goals try (exact ⟨0, Nat.zero_le _, rfl, ⟨List.nodup_nil, fun x hx => by cases hx⟩, HS2.out, ⟨_, HX2.out⟩⟩)
              all_goals
                obtain ⟨j, hj, rfl, hfp, hwi, hnb⟩ := hrel
                have HFP := (show Hid (FitPre ns k (ks.take j)) from hfp)
                have HWI := (show Hid (SeenW w _ ns k (ks.take j) wr) from hwi)
                have HNB := (show Hid (NodeBox NB k0 k1 (.slice av1 av2 av3) k3 (.slice kv1 ks.length kv3) wr) from hnb)
                obtain ⟨k5, hk5⟩ := hnb
                have y5 : wr.cell? ⟨NB, 5, none⟩ = some (.slice kv1 ks.length kv3) := by simp only [World.cell?, hk5]; rfl
                clear hfp hk5
                have hbi := hwi.bel
                have cTi : wr.cell? ⟨w.heap.size, 0, none⟩ = some (.slice (some ⟨b, off, none⟩) ns.length cap) := by simp only [World.cell?, hwi.bT]; rfl
                have RI : Hid (¬ STreeOkP ns → ∃ r, Ending.returned (.bool false) = .returned (.bool r) ∧ (r = true ↔ STreeOkP ns) ∧ Below w.heap.size w wr) := fun h => ⟨false, rfl, ⟨fun h => (by cases h), fun h' => absurd h' h⟩, hbi⟩
                by_cases hjl : j < ks.length
                · obtain ⟨x, hx⟩ : ∃ x, x = ks[j] := ⟨_, rfl⟩
                  have hks : ks.getD j 0 = x := by simp [List.getD_eq_getElem?_getD, hjl, hx]
                  have HTK : Hid (ks.take (j + 1) = ks.take j ++ [x]) := by rw [hx]; exact take_snoc ks hjl
                  have HXM : Hid (x ∈ kidsOf ns k) := by rw [HKK.out, hx]; exact List.getElem_mem hjl
                  have HPX : Hid (ks.take j ++ [x] <+: kidsOf ns k) := by rw [HKK.out, ← HTK.out]; exact List.take_prefix _ _
                  obtain ⟨_, _, ek, _, _, _, hkc⟩ := HKV.out
                  cases ek
                  obtain ⟨kb, ko, rfl, ck⟩ := hkc j hjl
                  rw [hks] at ck
                  have hkb : kb < w.heap.size := lt_of_cell ck
                  replace ck := (hbi.cell (p := ⟨kb, ko + j, none⟩) hkb).trans ck
                  have CI := (show Hid _ from fun w => l1In_any x 1 ((ns.length : Int) - 1) w)
                  obtain ⟨ix, hix⟩ : ∃ ix, ix = inB x 1 ((ns.length : Int) - 1) := ⟨_, rfl⟩
                  have HIX := (show Hid (ix = inB x 1 ((ns.length : Int) - 1)) from hix)
                  rw [← hix] at CI
                  have HWI2 := (show Hid (SeenW w _ ns k (ks.take j) wr) from hwi)
                  clear hix hks hx hkc hwi
                  go_wp2_with fail
                  go_at_call 19
                  refine (CI.out _).mono ?_
                  rintro e w2' ⟨rfl, e2⟩
                  rw [e2]
                  clear e2
                  cases ix
                  · have HNO := (show Hid (¬ STreeOkP ns) from fun h => by
                      have hp := tree_kid h HXM.out
                      have := HIX.out
                      simp [inB] at this
                      omega)
                    go_wp2
                    go_ret
                    exact RI.out HNO.out
                  · have hxr : 1 ≤ x ∧ x ≤ (ns.length : Int) - 1 := by
                      have := HIX.out.symm
                      simp [inB] at this
                      exact this
                    obtain ⟨jj, rfl⟩ : ∃ jj : Nat, x = jj := ⟨x.toNat, by omega⟩
                    have hjj : jj < ns.length := by omega
                    obtain ⟨arr, hS, hS1, hS2⟩ := HWI2.out.bS
                    obtain ⟨bj, hbj, hst⟩ := hS2 jj hjj
                    have cS : wr.cell? ⟨w.heap.size + 1, jj, none⟩ = some (.bool bj) := by simp only [World.cell?, hS]; exact hbj
                    have fS : wr.frozen? ⟨w.heap.size + 1, jj, none⟩ = false := by simp [World.frozen?, hS]
                    have HST := (show Hid (bj = true ↔ Stand ns k (ks.take j) jj) from hst)
                    have HS := (show Hid _ from hS)
                    have HSN := (show Hid (StandsN ns.length ns k (ks.take j) arr) from ⟨hS1, hS2⟩)
                    obtain ⟨_, _, _, _, _, _, _, _, cP, _⟩ := HCS.out jj hjj
                    replace cP := (hbi.cell (p := ⟨b, off + jj * 6 + 4, none⟩) hblt).trans cP
                    have HPJ : Hid (parOf ns jj = ns[jj].parent) := parOf_at hjj
                    obtain ⟨pj, hpj⟩ : ∃ pj, pj = ns[jj].parent := ⟨_, rfl⟩
                    rw [← hpj] at cP HPJ
                    clear hpj hst hS hS1 hS2 hbj
                    cases bj
                    · by_cases hp : pj = (k : Int)
                      · subst hp
                        go_wp2
                        have gS := setCell_at (k := jj) (u := .bool true) HS.out
                        have bS' : Below w.heap.size w (wr.setCell ⟨w.heap.size + 1, jj, none⟩ (.bool true)) := hbi.setCell (p := ⟨w.heap.size + 1, jj, none⟩) (by simp) _
                        obtain ⟨k6, hk6⟩ := HNB.out
                        go_roundw
                        case rel =>
                          refine ⟨j + 1, by omega, by go_num, ?_, ?_, k6, ?_⟩
                          · rw [HTK.out]
                            exact fit_snoc HFP.out hjj (fun h => by have := HST.out.mpr h; cases this) HPJ.out
                          · rw [HTK.out]
                            exact ⟨(Below.heap_setCell wr ⟨w.heap.size + 1, jj, none⟩ (.bool true) w.heap.size (by show w.heap.size ≠ w.heap.size + 1; omega)).trans HWI2.out.bT, ⟨_, gS, HSN.out.snoc jj hjj⟩, bS'⟩
                          · exact (Below.heap_setCell wr ⟨w.heap.size + 1, jj, none⟩ (.bool true) NB (by show NB ≠ w.heap.size + 1; omega)).trans hk6
                        case measure => simp [intOf]; omega
                      · have HNO := (show Hid (¬ STreeOkP ns) from tree_bad hlt ⟨_, _, rfl, .inr (.inr (by rw [show ((jj : Int)).toNat = jj by simp, HPJ.out]; exact hp))⟩ HPX.out HP.out.fit)
                        go_wp2
                        go_ret
                        exact RI.out HNO.out
                    · have HNO := (show Hid (¬ STreeOkP ns) from tree_bad hlt ⟨_, _, rfl, .inr (.inl (HST.out.mp (by simp)))⟩ HPX.out HP.out.fit)
                      go_wp2
                      go_ret
                      exact RI.out HNO.out
                · have hje : j = ks.length := by omega
                  have HFK : Hid (FitPre ns k (kidsOf ns k)) := by rw [HKK.out, ← List.take_length (l := ks), ← hje]; exact HFP.out
                  have HWK : Hid (SeenW w (.slice (some ⟨b, off, none⟩) ns.length cap) ns k (kidsOf ns k) wr) := by rw [HKK.out, ← List.take_length (l := ks), ← hje]; exact hwi
                  clear hwi
                  go_wp2
                  go_roundw
                  case rel =>
                    refine ⟨k + 1, by omega, by go_num, ⟨fun i h hi => ?_, fun i hi => ?_, fun i hi => ?_⟩, ?_⟩
                    · by_cases e : i = k
                      · subst e; exact HGD.out
                      · exact HP.out.good i h (by omega)
                    · by_cases e : i = k
                      · subst e; exact HSP.out
                      · exact HP.out.par i (by omega)
                    · by_cases e : i = k
                      · subst e; exact HFK.out
                      · exact HP.out.fit i (by omega)
                    · obtain ⟨t1, ⟨arr, t2, t2'⟩, t3⟩ := HWK.out
                      exact ⟨t1, ⟨arr, t2, t2'.next⟩, t3⟩
                  case measure => simp [intOf]; omega
        · have HNO := (show Hid (¬ STreeOkP ns) from HBAD.out (HGK.out.trans (by rw [decide_eq_false hq]; rfl)))
          go_wp2
          go_ret
          exact RF.out HNO.out _ (Below.refl _ _)
    · have hke : k = ns.length := by omega
      subst hke
      have HKF : Hid (KidsFit ns) := fun i hi => HP.out.fit i hi
      go_wp2
      go_loopw [9] (fun i wr => ∃ m : Nat, m ≤ ns.length ∧ i = .int .i64 m ∧ (∀ j, j < m → (Stand ns ns.length [] j ↔ 0 ≤ parOf ns j) ∧ ∃ d, up ns d j < 0) ∧ SeenW w (.slice (some ⟨b, off, none⟩) ns.length cap) ns ns.length [] wr) (fun i _ => ns.length - (intOf i).toNat)
      case atStart => exact ⟨0, Nat.zero_le _, rfl, fun j hj => absurd hj (Nat.not_lt_zero j), HW.out⟩
      case round =>
        clear HW cT hb hsz
        obtain ⟨m, hm, rfl, hup, hW2⟩ := hrel
        have HUP := (show Hid (∀ j, j < m → (Stand ns ns.length [] j ↔ 0 ≤ parOf ns j) ∧ ∃ d, up ns d j < 0) from hup)
        have HW2 := (show Hid (SeenW w _ ns ns.length [] wr) from hW2)
        have hb2 := hW2.bel
        clear hup
        by_cases hml : m < ns.length
        · obtain ⟨arr, hS, hS1, hS2⟩ := hW2.bS
          obtain ⟨bm, hbm, hst⟩ := hS2 m hml
          have cS : wr.cell? ⟨w.heap.size + 1, m, none⟩ = some (.bool bm) := by simp only [World.cell?, hS]; exact hbm
          have cT2 : wr.cell? ⟨w.heap.size, 0, none⟩ = some (.slice (some ⟨b, off, none⟩) ns.length cap) := by simp only [World.cell?, hW2.bT]; rfl
          obtain ⟨_, _, _, _, _, _, _, _, cP, _⟩ := HCS.out m hml
          replace cP := (hb2.cell (p := ⟨b, off + m * 6 + 4, none⟩) hblt).trans cP
          have HPM : Hid (parOf ns m = ns[m].parent) := parOf_at hml
          obtain ⟨pm, hpm⟩ : ∃ pm, pm = ns[m].parent := ⟨_, rfl⟩
          rw [← hpm] at cP HPM
          have HST := (show Hid (bm = true ↔ Stand ns ns.length [] m) from hst)
          clear hpm hst hS hS1 hS2 hbm hW2
          have RJ : Hid (¬ STreeOkP ns → ∀ w', Below wr.heap.size wr w' → ∃ r, Ending.returned (.bool false) = .returned (.bool r) ∧ (r = true ↔ STreeOkP ns) ∧ Below w.heap.size w w') := fun h w' b' => ⟨false, rfl, ⟨fun h => (by cases h), fun h' => absurd h' h⟩, hb2.trans (b'.mono hb2.size)⟩
          by_cases hsm : bm = decide (0 ≤ pm)
          · have HSM : Hid (Stand ns ns.length [] m ↔ 0 ≤ parOf ns m) := by
              have h1 := HST.out
              rw [hsm, decide_eq_true_iff] at h1
              rw [HPM.out]; exact h1.symm
            subst hsm
            go_wp2
            go_big_quiet (fail)
            go_wp2
            have bq : Below wr.heap.size wr (wr.drewN nq) := ⟨rfl, rfl, rfl, Nat.le_refl _, fun _ _ => rfl⟩
            have HWQ := (show Hid (SeenW w _ ns ns.length [] (wr.drewN nq)) from HW2.out.below bq)
            obtain ⟨wq, hwq⟩ : ∃ wq, wq = wr.drewN nq := ⟨_, rfl⟩
            rw [← hwq] at HWQ ⊢
            clear hwq bq cS cT2 cP HW2 HST RJ hb2
            go_loopw [10, 11] (fun u q wi => ∃ c : Nat, c ≤ ns.length + 1 ∧ u = .int .i64 (up ns c m) ∧ q = .int .i64 c ∧ -1 ≤ up ns c m ∧ up ns c m < ns.length ∧ (∀ d, d < c → 0 ≤ up ns d m) ∧ SeenW w (.slice (some ⟨b, off, none⟩) ns.length cap) ns ns.length [] wi) (fun _ q _ => ns.length + 2 - (intOf q).toNat)
            case atStart => exact ⟨0, Nat.zero_le _, rfl, rfl, by simp only [up]; omega, by simpa [up] using hml, fun d hd => absurd hd (Nat.not_lt_zero d), HWQ.out⟩
            case round =>
              obtain ⟨c, hc, rfl, rfl, hu1, hu2, hud, hWi⟩ := hrel
              have hbi := hWi.bel
              have HWi := (show Hid (SeenW w _ ns ns.length [] wr) from hWi)
              have HUD := (show Hid (∀ d, d < c → 0 ≤ up ns d m) from hud)
              have HSU : Hid (up ns (c + 1) m = parOf ns (up ns c m).toNat) := rfl
              obtain ⟨uc, huc⟩ : ∃ uc, uc = up ns c m := ⟨_, rfl⟩
              have HUC := (show Hid (uc = up ns c m) from huc)
              rw [← huc] at hu1 hu2 HSU ⊢
              clear huc hud
              by_cases h0 : 0 ≤ uc
              · by_cases hcn : ns.length < c
                · have HNO := (show Hid (¬ STreeOkP ns) from fun h => by
                    obtain ⟨d, hd1, hd2⟩ := tree_up h hml
                    have := HUD.out d (by omega)
                    omega)
                  clear hWi
                  go_wp2
                  go_ret
                  exact ⟨false, rfl, ⟨fun h => (by cases h), fun h' => absurd h' HNO.out⟩, hbi⟩
                · obtain ⟨uj, rfl⟩ : ∃ uj : Nat, uc = uj := ⟨uc.toNat, by omega⟩
                  have huj : uj < ns.length := by omega
                  have cTi : wr.cell? ⟨w.heap.size, 0, none⟩ = some (.slice (some ⟨b, off, none⟩) ns.length cap) := by simp only [World.cell?, hWi.bT]; rfl
                  obtain ⟨_, _, _, _, _, _, _, _, cQ, _⟩ := HCS.out uj huj
                  replace cQ := (hbi.cell (p := ⟨b, off + uj * 6 + 4, none⟩) hblt).trans cQ
                  have HPQ : Hid (up ns (c + 1) m = ns[uj].parent) := by
                    rw [HSU.out, show ((uj : Int)).toNat = uj by simp]
                    exact parOf_at huj
                  have HSQ : Hid (-1 ≤ ns[uj].parent ∧ ns[uj].parent < ns.length) := by
                    have := HP.out.par uj huj
                    rw [SPar, parOf_at huj] at this
                    exact ⟨this.1, by omega⟩
                  obtain ⟨pq, hpq⟩ : ∃ pq, pq = ns[uj].parent := ⟨_, rfl⟩
                  rw [← hpq] at cQ HPQ HSQ
                  clear hpq hWi
                  go_wp2
                  go_roundw
                  case rel =>
                    refine ⟨c + 1, by omega, by rw [HPQ.out], by go_num, by rw [HPQ.out]; exact HSQ.out.1, by rw [HPQ.out]; exact HSQ.out.2, fun d hd => ?_, HWi.out⟩
                    by_cases e : d = c
                    · subst e; rw [← HUC.out]; omega
                    · exact HUD.out d (by omega)
                  case measure => simp [intOf]; omega
              · have HEN : Hid (∃ d, up ns d m < 0) := ⟨c, by rw [← HUC.out]; omega⟩
                clear hWi
                go_wp2
                go_roundw
                case rel =>
                  refine ⟨m + 1, by omega, by go_num, fun j hj => ?_, HWi.out⟩
                  by_cases e : j = m
                  · subst e; exact ⟨HSM.out, HEN.out⟩
                  · exact HUP.out j (by omega)
                case measure => simp [intOf]; omega
          · have HNO := (show Hid (¬ STreeOkP ns) from fun h => hsm (by
              have h1 := tree_seen h hml
              rw [HPM.out] at h1
              rw [Bool.eq_iff_iff, HST.out, h1, decide_eq_true_iff]))
            go_wp2
            go_big_quiet (fail)
            go_wp2
            · go_ret
              exact RJ.out HNO.out _ ⟨rfl, rfl, rfl, Nat.le_refl _, fun _ _ => rfl⟩
            · rename_i hh
              exact absurd (by simpa using hh) hsm
        · have HOK : Hid (STreeOkP ns) := tree_of h1 h5 (fun k h => HP.out.good k h h) (fun k h => HP.out.par k h) HKF.out (fun i hi => (HUP.out i (by omega)).1) (fun i hi => (HUP.out i (by omega)).2)
          clear hW2
          go_wp2
          go_ret
          exact ⟨true, rfl, ⟨fun _ => HOK.out, fun _ => rfl⟩, hb2⟩
end Go.Proofs.Ytckhmolmnlcabaa

/- A row of open elements, in plain words. No condition. -/
namespace Go.Proofs.Ytckhmolmnlcabaa
open Go.RowKit
set_option maxRecDepth 100000
set_option linter.unusedVariables false

def nmOf (ns : List PNode) (x : Int) : ByteArray := (ns[x.toNat]?.map PNode.name).getD ⟨#[]⟩
def kdOf (ns : List PNode) (x : Int) : Int := (ns[x.toNat]?.map PNode.kind).getD 0
theorem nmOf_at {ns : List PNode} {k : Nat} (h : k < ns.length) : nmOf ns (k : Int) = ns[k].name := by simp [nmOf, h]
theorem kdOf_at {ns : List PNode} {k : Nat} (h : k < ns.length) : kdOf ns (k : Int) = ns[k].kind := by simp [kdOf, h]
/-- The number x is that of an element. -/
def elB (ns : List PNode) (x : Int) : Bool := inB x 0 ((ns.length : Int) - 1) && decide (kdOf ns x = 3)
theorem inB_at {ns : List PNode} {x : Int} (h : inB x 0 ((ns.length : Int) - 1) = true) : ∃ k : Nat, x = (k : Int) ∧ k < ns.length := by
  have h' : 0 ≤ x ∧ x ≤ (ns.length : Int) - 1 := by simpa [inB] using h
  exact ⟨x.toNat, by omega, by omega⟩
theorem elB_at {ns : List PNode} {x : Int} (h : elB ns x = true) : ∃ k : Nat, x = (k : Int) ∧ k < ns.length := by
  rw [elB, Bool.and_eq_true] at h
  exact inB_at h.1
structure RowP (ns : List PNode) (row : List Int) : Prop where
  len : row.length ≤ 40
  el : ∀ i (h : i < row.length), elB ns row[i] = true
  once : ∀ i k (h : i < row.length) (hk : k < i), row[k] ≠ row[i]
/-- One more than the place of the last one that fits among the first n; 0 where there is none. -/
def lastAt (p : Int → Bool) (xs : List Int) : Nat → Nat
  | 0 => 0
  | n + 1 => if p (xs.getD n 0) then n + 1 else lastAt p xs n
theorem lastAt_le (p : Int → Bool) (xs : List Int) (n : Nat) : lastAt p xs n ≤ n := by
  induction n with
  | zero => exact Nat.le_refl _
  | succ n ih => unfold lastAt; split <;> omega
theorem lastAt_no {p : Int → Bool} {xs : List Int} {n : Nat} (h : p (xs.getD n 0) = false) : lastAt p xs (n + 1) = lastAt p xs n := by rw [lastAt, h]; rfl
theorem lastAt_yes {p : Int → Bool} {xs : List Int} {n : Nat} (h : p (xs.getD n 0) = true) : lastAt p xs (n + 1) = n + 1 := by rw [lastAt, h]; rfl
theorem lastAt_above {p : Int → Bool} {xs : List Int} {n : Nat} : ∀ i, lastAt p xs n ≤ i → i < n → p (xs.getD i 0) = false := by
  induction n with
  | zero => intro i _ h; omega
  | succ n ih =>
    intro i h1 h2
    cases hp : p (xs.getD n 0) with
    | true => rw [lastAt_yes hp] at h1; omega
    | false =>
      rw [lastAt_no hp] at h1
      by_cases e : i = n
      · subst e; exact hp
      · exact ih i h1 (by omega)
end Go.Proofs.Ytckhmolmnlcabaa
