/- strings.Builder at this program: the library's contracts of WriteString and String, laid by hand. -/
import Derived.Shelf.Strings.BuilderK
import Derived.Shelf.Small.Utf8
import Derived.Test.YtogdbjafibejdaaGreatU42
import Derived.Test.YtogdbjafibejdaaGreatU37
import Derived.Test.YtogdbjafibejdaaGreatU28
namespace Go.Proofs.YtogdbjafibejdaaGreat
open Go.RowKit Go.Shelf
set_option maxRecDepth 100000
set_option linter.unusedVariables false

def bldRen2 : Go.Shelf.Ren := ⟨fun | 166 => 76 | 169 => 77 | 240 => 123 | 276 => 161 | n => n, fun | 0 => 0 | 3 => 3 | 4 => 4 | 5 => 5 | 9 => 9 | 20 => 20 | 37 => 22 | 70 => 87 | 72 => 89 | 75 => 94 | 80 => 97 | 21 => 21 | 127 => 146 | 164 => 178 | n => n, fun | n => n⟩
theorem bldLays1662 : Go.Proofs.Lays.n166 Tryz.prog bldRen2 := {
  mixed := by kernel_rfl
  f166 := Tryz.func76.trans (congrArg some (by kernel_rfl))
  f240 := Tryz.func123.trans (congrArg some (by kernel_rfl))
  f276 := Tryz.func161.trans (congrArg some (by kernel_rfl))
  t0 := Tryz.underlying0
  a0 := Tryz.isAgg0
  z0 := Tryz.sizeOf0
  v0 := Tryz.zeroValue0
  t3 := Tryz.underlying3
  a3 := Tryz.isAgg3
  z3 := Tryz.sizeOf3
  v3 := Tryz.zeroValue3
  t4 := Tryz.underlying4
  a4 := Tryz.isAgg4
  z4 := Tryz.sizeOf4
  v4 := Tryz.zeroValue4
  t9 := Tryz.underlying9
  a9 := Tryz.isAgg9
  z9 := Tryz.sizeOf9
  v9 := Tryz.zeroValue9
  t20 := Tryz.underlying20
  a20 := Tryz.isAgg20
  z20 := Tryz.sizeOf20
  v20 := Tryz.zeroValue20
  t37 := Tryz.underlying22
  a37 := Tryz.isAgg22
  z37 := Tryz.sizeOf22
  v37 := Tryz.zeroValue22
  t70 := Tryz.underlying87
  a70 := Tryz.isAgg87
  z70 := Tryz.sizeOf87
  v70 := Tryz.zeroValue87
  t72 := Tryz.underlying89
  a72 := Tryz.isAgg89
  z72 := Tryz.sizeOf89
  v72 := Tryz.zeroValue89
  t75 := Tryz.underlying94
  a75 := Tryz.isAgg94
  z75 := Tryz.sizeOf94
  v75 := Tryz.zeroValue94
  t164 := Tryz.underlying178
  a164 := Tryz.isAgg178
  z164 := Tryz.sizeOf178
  v164 := Tryz.zeroValue178 }
theorem bldLays1692 : Go.Proofs.Lays.n169 Tryz.prog bldRen2 := {
  mixed := by kernel_rfl
  f169 := Tryz.func77.trans (congrArg some (by kernel_rfl))
  t0 := Tryz.underlying0
  a0 := Tryz.isAgg0
  z0 := Tryz.sizeOf0
  v0 := Tryz.zeroValue0
  t3 := Tryz.underlying3
  a3 := Tryz.isAgg3
  z3 := Tryz.sizeOf3
  v3 := Tryz.zeroValue3
  t9 := Tryz.underlying9
  a9 := Tryz.isAgg9
  z9 := Tryz.sizeOf9
  v9 := Tryz.zeroValue9
  t37 := Tryz.underlying22
  a37 := Tryz.isAgg22
  z37 := Tryz.sizeOf22
  v37 := Tryz.zeroValue22
  t70 := Tryz.underlying87
  a70 := Tryz.isAgg87
  z70 := Tryz.sizeOf87
  v70 := Tryz.zeroValue87
  t72 := Tryz.underlying89
  a72 := Tryz.isAgg89
  z72 := Tryz.sizeOf89
  v72 := Tryz.zeroValue89
  t127 := Tryz.underlying146
  a127 := Tryz.isAgg146
  z127 := Tryz.sizeOf146
  v127 := Tryz.zeroValue146 }
theorem bldExtra2 : Builder.Extra Tryz.prog bldRen2 := {
  sizeBuilder := by kernel_rfl
  liesBuilder := by kernel_rfl
  t5 := Tryz.underlying5
  a5 := Tryz.isAgg5
  z5 := Tryz.sizeOf5
  v5 := Tryz.zeroValue5
  infoByte := by kernel_rfl
  cellsByte := by kernel_rfl
  sizeByte := by kernel_rfl
  neB5 := by decide }

/-- The builder in block b, whose row lies from block B on, holds these bytes. -/
def Bld2 (B b : Nat) (l : List UInt8) (w : World) : Prop := Lib.IsBuilderF 89 5 B b (Lib.byteCells l) w

theorem bld_new2 (w : World) : Bld2 w.heap.size w.heap.size [] (w.alloc (.cells #[.pointer none, .slice none 0 0] 89)) := Lib.IsBuilderF.of (Lib.fresh_isBuilder 89 5 w)

theorem bld_write2 (B b : Nat) (l : List UInt8) (s : ByteArray) (w : World) (h : Bld2 B b l w) (hlen : l.length + s.size ≤ 140737488355328) (hBw : B ≤ w.heap.size) :
    Calls Tryz.prog 76 #[.pointer (some ⟨b, 0, none⟩), .string s] w fun e w' => e = .returned (.tuple #[.int .i64 s.size, .nilIface]) ∧ Bld2 B b (l ++ s.data.toList) w' ∧ Below B w w' ∧ Lib.OthersKept 5 (some b) w w' := by
  refine (Any.Builder_WriteString_k bldLays1662 bldExtra2 B b (Lib.byteCells l) s w h (by rw [Lib.byteCells_length]; exact hlen) hBw).mono ?_
  rintro e w' ⟨rfl, h1, b1, k1⟩
  refine ⟨rfl, ?_, b1, k1⟩
  unfold Bld2
  rw [Lib.byteCells_append]
  exact Or.inr h1

theorem bld_string2 (B b : Nat) (l : List UInt8) (w : World) (h : Bld2 B b l w) (hBw : B ≤ w.heap.size) :
    Calls Tryz.prog 77 #[.pointer (some ⟨b, 0, none⟩)] w fun e w' => e = .returned (.string ⟨l.toArray⟩) ∧ Bld2 B b l w' ∧ Below B w w' ∧ Lib.OthersKept 5 (some b) w w' :=
  Any.Builder_String_any_k bldLays1692 bldExtra2 B b l w h hBw
end Go.Proofs.YtogdbjafibejdaaGreat

/- The program's TextOf. No condition. -/
namespace Go.Proofs.YtogdbjafibejdaaGreat
open Go.RowKit Go.Shelf
set_option maxRecDepth 100000
set_option linter.unusedVariables false
attribute [local go_sem] Oper.semAt_some

/-- A builder stays where its block and all bytes stay. -/
theorem bld_agree {B b n0 n1 : Nat} {S : Nat → Prop} {l : List UInt8} {W W' : World} (h : Bld2 B b l W) (ha : Agree n0 n1 (fun t => t = 5) S W W') (hS : S b) : Bld2 B b l W' := by
  have key : ∀ p, Lib.BuilderAtF 89 5 B b p (Lib.byteCells l) W → Lib.BuilderAtF 89 5 B b p (Lib.byteCells l) W' := by
    rintro p ⟨hB, v, hb, hown, hne⟩
    refine ⟨hB, v, ha.same _ _ hb (.inr (.inl ⟨hS, rfl⟩)), ?_, hne⟩
    obtain ⟨h1, h2 | ⟨g, cap, cur, fz, e1, e2, e3, e4⟩⟩ := hown
    · exact ⟨h1, .inl h2⟩
    · exact ⟨h1, .inr ⟨g, cap, cur, fz, e1, e2, ha.same _ _ e3 (.inr (.inr (.inl ⟨_, _, _, rfl, rfl⟩))), e4⟩⟩
  rcases h with h | h
  · exact .inl (key _ h)
  · exact .inr (key _ h)
theorem bld_cells {B b : Nat} {l : List UInt8} {W : World} (h : Bld2 B b l W) : ∃ cs, W.heap[b]? = some (.cells cs 89 (0, 0)) := by
  rcases h with ⟨_, v, hb, _⟩ | ⟨_, v, hb, _⟩ <;> exact ⟨_, hb⟩
theorem bld_lt {B b : Nat} {l : List UInt8} {W : World} (h : Bld2 B b l W) : b < W.heap.size := by
  obtain ⟨cs, hcs⟩ := bld_cells h
  exact blk_lt hcs
theorem bld_below {B b : Nat} {l : List UInt8} {W W' : World} (h : Bld2 B b l W) (hb : Below W.heap.size W W') : Bld2 B b l W' := bld_agree (n0 := 0) (n1 := 0) (S := fun _ => True) h (Agree.of_below hb) trivial
theorem agree_below {n0 n1 : Nat} {T : TypeId → Prop} {S : Nat → Prop} {w0 W W' : World} (h : Below n0 w0 W) (hn : n0 ≤ W.heap.size) (ha : Agree n0 n1 T S W W') : Below n0 w0 W' :=
  ⟨ha.os.trans h.os, ha.tape.trans h.tape, ha.output.trans h.output, Nat.le_trans h.size ha.size, fun k hk => by
    have hlt : k < W.heap.size := by omega
    have e := ha.same k W.heap[k] (by simp [hlt]) (.inl hk)
    rw [e, ← h.block k hk]
    simp [hlt]⟩

set_option maxHeartbeats 2000000 in
set_option maxRecDepth 100000 in
theorem itextOf_any {w : World} {v : Value} {ns : List PNode} (hn : NodesAt w v ns) (hfit : ∀ n ∈ ns, NodeFit n) (hlen : ns.length ≤ 1048576) (at' : Int) :
    Calls Tryz.prog 22 #[.agg #[v], .int .i64 at'] w fun e w' => ∃ s, e = .returned (.string s) ∧ ((TreeOkP ns ∧ 0 ≤ at' ∧ at' < ns.length → s = ⟨(textL ns ns.length at'.toNat).toArray⟩) ∧ (¬ (TreeOkP ns ∧ 0 ≤ at' ∧ at' < ns.length) → s = ⟨#[]⟩)) ∧ Below w.heap.size w w' := by
  have HN := (show Hid (NodesAt w v ns) from hn)
  have HFIT := (show Hid (∀ n ∈ ns, NodeFit n) from hfit)
  obtain ⟨a, cap, rfl, hc1, hc2, hcs⟩ := hn.slice
  have HCS := (show Hid _ from hcs)
  clear hn hfit hcs
  obtain ⟨w1, hw1⟩ : ∃ x, x = w.alloc (.cells #[.slice a ns.length cap] 26) := ⟨_, rfl⟩
  have b1 : Below w.heap.size w w1 := by rw [hw1]; exact (Below.refl _ _).alloc (Nat.le_refl _) _
  have g1 : w1.heap[w.heap.size]? = some (.cells #[.slice a ns.length cap] 26 (0, 0)) := by rw [hw1]; exact World.alloc_heap_new _ _
  have HG1 := (show Hid _ from g1)
  clear g1
  refine (callsIn_wide (n := 5)).1 ?_
  refine callsIn_of_wp_marks Tryz.func22 rfl trivial ?_ rfl
  simp only [Tryz.ntmps22, List.size_toArray, List.length_cons, List.length_nil, Nat.reduceAdd, Nat.reduceSub, Array.replicate_succ, Array.replicate_zero, List.push_toArray, List.append_toArray, List.nil_append, List.cons_append]
  gi_wp2
  rw [← hw1]
  refine ⟨trivial, (callsIn_wide.2 (itreeOk_any (HN.out.below b1) HFIT.out hlen)).mono ?_⟩
  rintro e w2 ⟨r, rfl, hr, b2⟩
  clear hw1
  have hb2 := b1.trans (b2.mono b1.size)
  have HB2 := (show Hid (Below w.heap.size w w2) from hb2)
  have g2 := (b2.block _ (blk_lt HG1.out)).trans HG1.out
  have k0 : w2.cell? ⟨w.heap.size, 0, none⟩ = some (.slice a ns.length cap) := by simp only [World.cell?, g2]; rfl
  have hl2 := blk_lt g2
  clear g2 b2 hb2 b1 HG1
  cases r
  · have HF : Hid (¬ TreeOkP ns) := fun h => by have := hr.mpr h; cases this
    clear hr
    gi_wp2
    refine leaves_dmarks (by simp) w.heap.size [] _ List.nodup_nil (fun d hd => by cases hd) ?_
    intro w' bw kw
    exact ⟨_, results_tmp rfl _ _ _, ⟨#[]⟩, rfl, ⟨fun h => absurd h.1 HF.out, fun _ => rfl⟩, HB2.out.trans bw⟩
  have HT : Hid (TreeOkP ns) := hr.mp rfl
  clear hr
  obtain ⟨w4, hw4⟩ : ∃ x, x = (w2.alloc (.cells #[.slice a ns.length cap] 77)).alloc (.cells #[.pointer (some ⟨w2.heap.size, 0, none⟩)] 64) := ⟨_, rfl⟩
  have b24 : Below w2.heap.size w2 w4 := by rw [hw4]; exact ((Below.refl _ w2).alloc (Nat.le_refl _) _).alloc (by simp) _
  have hs4 : w4.heap.size = w2.heap.size + 1 + 1 := by rw [hw4, World.size_alloc, World.size_alloc]
  have gA : w4.heap[w2.heap.size]? = some (.cells #[.slice a ns.length cap] 77 (0, 0)) := by rw [hw4, Below.heap_alloc _ _ _ (by simp)]; exact World.alloc_heap_new _ _
  have gP : w4.heap[w2.heap.size + 1]? = some (.cells #[.pointer (some ⟨w2.heap.size, 0, none⟩)] 64 (0, 0)) := by
    rw [hw4]
    have := World.alloc_heap_new (w2.alloc (.cells #[.slice a ns.length cap] 77)) (.cells #[.pointer (some ⟨w2.heap.size, 0, none⟩)] 64)
    rwa [World.size_alloc] at this
  have cA : w4.cell? ⟨w2.heap.size, 0, none⟩ = some (.slice a ns.length cap) := by simp only [World.cell?, gA]; rfl
  have cP : w4.cell? ⟨w2.heap.size + 1, 0, none⟩ = some (.pointer (some ⟨w2.heap.size, 0, none⟩)) := by simp only [World.cell?, gP]; rfl
  have hb4 : Below w.heap.size w w4 := HB2.out.trans (b24.mono HB2.out.size)
  have HB4 := (show Hid (Below w.heap.size w w4) from hb4)
  have HN4 := (show Hid (NodesAt w4 (.slice a ns.length cap) ns) from HN.out.below hb4)
  have hge4 : w.heap.size ≤ w4.heap.size := hb4.size
  have hPl := blk_lt gP
  have hAl := blk_lt gA
  have HS4 := (show Hid _ from hs4)
  clear b24 hb4 gA hs4
  gi_wp2
  rw [← hw4]
  refine ⟨trivial, (callsIn_wide.2 (ihas_any cA at')).mono ?_⟩
  rintro e wx ⟨rfl, hx⟩
  rw [hx]
  clear hw4 hx wx
  by_cases hin : 0 ≤ at' ∧ at' < ns.length
  · rw [decide_eq_true hin]
    obtain ⟨k, rfl⟩ : ∃ k : Nat, at' = (k : Int) := ⟨at'.toNat, by omega⟩
    have hk : k < ns.length := by omega
    have HDP := (show Hid (deepOk ns ns.length k) from tree_deep HT.out hk)
    have hbn := bld_new2 w4
    have b45 : Below w4.heap.size w4 (w4.alloc (.cells #[.pointer none, .slice none 0 0] 89)) := (Below.refl _ _).alloc (Nat.le_refl _) _
    have hs5 : (w4.alloc (.cells #[.pointer none, .slice none 0 0] 89)).heap.size = w4.heap.size + 1 := by simp
    obtain ⟨w5, hw5⟩ : ∃ x, x = w4.alloc (.cells #[.pointer none, .slice none 0 0] 89) := ⟨_, rfl⟩
    rw [← hw5] at hbn b45 hs5
    obtain ⟨w6, hw6⟩ : ∃ x, x = (w5.alloc (.cells #[.pointer (some ⟨w2.heap.size, 0, none⟩)] 64)).alloc (.cells #[.int .i64 (k : Int)] 3) := ⟨_, rfl⟩
    have b56 : Below w5.heap.size w5 w6 := by rw [hw6]; exact ((Below.refl _ w5).alloc (Nat.le_refl _) _).alloc (by simp) _
    have hs6 : w6.heap.size = w5.heap.size + 1 + 1 := by rw [hw6, World.size_alloc, World.size_alloc]
    have gY : w6.heap[w5.heap.size]? = some (.cells #[.pointer (some ⟨w2.heap.size, 0, none⟩)] 64 (0, 0)) := by rw [hw6, Below.heap_alloc _ _ _ (by simp)]; exact World.alloc_heap_new _ _
    have gZ : w6.heap[w5.heap.size + 1]? = some (.cells #[.int .i64 (k : Int)] 3 (0, 0)) := by
      rw [hw6]
      have := World.alloc_heap_new (w5.alloc (.cells #[.pointer (some ⟨w2.heap.size, 0, none⟩)] 64)) (.cells #[.int .i64 (k : Int)] 3)
      rwa [World.size_alloc] at this
    have cY : w6.cell? ⟨w5.heap.size, 0, none⟩ = some (.pointer (some ⟨w2.heap.size, 0, none⟩)) := by simp only [World.cell?, gY]; rfl
    have cZ : w6.cell? ⟨w5.heap.size + 1, 0, none⟩ = some (.int .i64 (k : Int)) := by simp only [World.cell?, gZ]; rfl
    have b46 : Below w4.heap.size w4 w6 := b45.trans (b56.mono b45.size)
    have hbn6 : Bld2 w4.heap.size w4.heap.size [] w6 := bld_below hbn b56
    have HS5 := (show Hid _ from hs5)
    have HS6 := (show Hid _ from hs6)
    clear gY gZ hbn hs5 hs6
    gi_wp2
    rw [← hw5]
    refine ⟨trivial, (from_in _ _ _ _).mono ?_⟩
    rintro e wx ⟨rfl, hx⟩
    rw [hx, ← hw6]
    clear hx wx hw6 hw5
    gi_wp2
    refine wpIn_tells2 (T := fun t => t = 5) (w0 := w6) (n0 := w4.heap.size) (all := down ns ns.length k) (gf := 121) (lb := #[.pointer (some ⟨w5.heap.size, 0, none⟩), .pointer (some ⟨w5.heap.size + 1, 0, none⟩)]) rfl (enters_of Tryz.func121 (by kernel_rfl) rfl)
      (from_tells2 (w := w6) ⟨by decide, by decide, by decide⟩ HN4.out hAl cA (by omega) HDP.out b46 cY cZ (by have := HS5.out; have := HS6.out; omega) (by have := HS5.out; have := HS6.out; omega)) (Below.refl _ _) b46.size
      (fun S pre Wq => (∀ j, S j ↔ j = w4.heap.size) ∧ Bld2 w4.heap.size w4.heap.size (pre.flatMap fun x => txAt ns x.toNat) Wq ∧ Below w4.heap.size w4 Wq)
      ?hF (fun j => j = w4.heap.size) (fun j hj => by have := HS5.out; have := HS6.out; omega) ⟨fun j => Iff.rfl, hbn6, b46⟩
      (fun x => { tmps := #[.agg #[.slice a ns.length cap], .int .i64 (k : Int), .pointer (some ⟨w.heap.size, 0, none⟩), undef, .string ⟨#[]⟩, .pointer (some ⟨w2.heap.size + 1, 0, none⟩), .pointer (some ⟨w4.heap.size, 0, none⟩), .int .i64 x, undef, .agg #[.slice a ns.length cap], .bool true, .bool false, .pointer (some ⟨w.heap.size, 0, none⟩), .slice a ns.length cap, .agg #[.slice a ns.length cap], .pointer (some ⟨w2.heap.size, 0, none⟩), .pointer (some ⟨w2.heap.size, 0, none⟩), .int .i64 (k : Int), .bool true, .bool false, .pointer (some ⟨w2.heap.size, 0, none⟩), .int .i64 (k : Int), .func (.func 121) #[] #[.pointer (some ⟨w5.heap.size, 0, none⟩), .pointer (some ⟨w5.heap.size + 1, 0, none⟩)], .int .i64 x, undef, undef, undef, undef, undef, undef, undef, undef, undef, undef, undef, undef, undef, undef], defers := [] }) ?assign ?body ?done
    case hF =>
      rintro S pre Wa Wb ⟨h1, h2, h3⟩ hag
      exact ⟨h1, bld_agree h2 hag ((h1 _).mpr rfl), agree_below h3 h3.size hag⟩
    case assign =>
      intro l m x Wa K' hK'
      gi_wp2
      exact hK'
    case body =>
      rintro l m S pre x W hx ⟨h1, h2, h3⟩ hSW
      obtain ⟨d, hd⟩ := HT.out.linked k hk
      obtain ⟨hx0, hx1, _⟩ := down_dep HT.out.fit ns.length d k hd x (hx.subset (by simp))
      obtain ⟨j, rfl⟩ : ∃ j : Nat, x = (j : Int) := ⟨x.toNat, by omega⟩
      have hj : j < ns.length := by omega
      have hpl : ((pre ++ [(j : Int)]).flatMap fun x => txAt ns x.toNat).length ≤ 524288000 := by
        obtain ⟨r, hr⟩ := hx
        have h5 := text_len HT.out (fun n hn => (HFIT.out n hn).tx) hk
        rw [text_down, ← hr, List.flatMap_append, List.length_append] at h5
        omega
      rw [List.flatMap_append, List.length_append, List.flatMap_singleton] at hpl
      obtain ⟨b, off, av, kv, rfl, hblt, c0, c1, c2, c3, c4, c5, hav, hkv⟩ := HCS.out j hj
      have hbW := HB4.out.trans (h3.mono HB4.out.size)
      replace c0 := (hbW.cell (p := ⟨b, off + j * 6, none⟩) hblt).trans c0
      replace c1 := (hbW.cell (p := ⟨b, off + j * 6 + 1, none⟩) hblt).trans c1
      replace c2 := (hbW.cell (p := ⟨b, off + j * 6 + 2, none⟩) hblt).trans c2
      replace c3 := (hbW.cell (p := ⟨b, off + j * 6 + 3, none⟩) hblt).trans c3
      replace c4 := (hbW.cell (p := ⟨b, off + j * 6 + 4, none⟩) hblt).trans c4
      replace c5 := (hbW.cell (p := ⟨b, off + j * 6 + 5, none⟩) hblt).trans c5
      obtain ⟨av1, av2, av3, rfl, _⟩ := hav
      obtain ⟨kv1, kv3, rfl, _⟩ := hkv
      have cPW := (h3.cell (p := ⟨w2.heap.size + 1, 0, none⟩) hPl).trans cP
      have cAW := (h3.cell (p := ⟨w2.heap.size, 0, none⟩) hAl).trans cA
      have HTX : Hid (txAt ns ((j : Int)).toNat = txL ns[j]) := (by rw [show ((j : Int)).toNat = j by simp, txAt_at hj] : txAt ns ((j : Int)).toNat = txL ns[j])
      obtain ⟨nd, hnd⟩ : ∃ nd, nd = ns[j] := ⟨_, rfl⟩
      have hnf := HFIT.out ns[j] (List.getElem_mem hj)
      rw [HTX.out] at hpl
      rw [← hnd] at c0 c1 c3 c4 c5 HTX hnf hpl
      obtain ⟨k0', k1', rs', k3', k4', ks'⟩ := nd
      simp only at c0 c1 c3 c4 c5
      have htxs := hnf.tx
      simp only at htxs
      obtain ⟨W1, hW1⟩ : ∃ q, q = W.alloc (.cells #[.int .i64 k0', .string k1', .slice av1 av2 av3, .string k3', .int .i64 k4', .slice kv1 ks'.length kv3] 36) := ⟨_, rfl⟩
      have bW1 : Below W.heap.size W W1 := by rw [hW1]; exact (Below.refl _ _).alloc (Nat.le_refl _) _
      have hBl1 : Bld2 w4.heap.size w4.heap.size (pre.flatMap fun x => txAt ns x.toNat) W1 := bld_below h2 bW1
      have hs3 := h3.size
      have HK1 := (show Hid (Kz w4.heap.size (fun t => t = 5) S S W W1) from Kz.of_below bW1 hSW)
      have HH1 := (show Hid (∀ j, S j ↔ j = w4.heap.size) from h1)
      have H31 := (show Hid (Below w4.heap.size w4 W1) from h3.trans (bW1.mono hs3))
      have HBL := (show Hid (Bld2 w4.heap.size w4.heap.size (pre.flatMap fun x => txAt ns x.toNat) W1) from hBl1)
      clear hnd hnf hbW h1 h2 h3 bW1 hBl1
      have hsum0 : (pre ++ [(j : Int)]).flatMap (fun x => txAt ns x.toNat) = pre.flatMap (fun x => txAt ns x.toNat) ++ txL ⟨k0', k1', rs', k3', k4', ks'⟩ := by rw [List.flatMap_append, List.flatMap_singleton, HTX.out]
      have HSUM := (show Hid ((pre ++ [(j : Int)]).flatMap (fun x => txAt ns x.toNat) = pre.flatMap (fun x => txAt ns x.toNat) ++ txL ⟨k0', k1', rs', k3', k4', ks'⟩) from hsum0)
      clear hsum0
      by_cases h4 : k0' = 4
      · subst h4
        have htl : txL ⟨4, k1', rs', k3', k4', ks'⟩ = k3'.data.toList := by simp [txL]
        rw [htl] at hpl HSUM
        have CW := (show Hid _ from bld_write2 w4.heap.size w4.heap.size (pre.flatMap fun x => txAt ns x.toNat) k3' W1 HBL.out (by simp at hpl ⊢; omega) H31.out.size)
        clear hpl htl
        gi_wp2
        refine ⟨trivial, (fun h => by cases h), ?_⟩
        rw [← hW1]
        refine (CallsIn.inRound l (callsIn_wide.2 CW.out)).mono ?_
        rintro e W2 ⟨rfl, hb2, hbel2, hok2⟩
        have hbs : w4.heap.size < W1.heap.size := bld_lt HBL.out
        have hK2 : Kz w4.heap.size (fun t => t = 5) S S W1 W2 := by
          refine ⟨hbel2.os, hbel2.tape, hbel2.output, hbel2.size, fun q o hq ho => ?_, fun q hq => ⟨by have := (HH1.out q).mp hq; have := hbel2.size; omega, .inl hq⟩⟩
          rcases ho with ho | ho | ho
          · rw [hbel2.block q ho]; exact hq
          · refine hok2 q o hq (fun e => ho.1 ((HH1.out q).mpr (by injection e))) (fun c fz e => ho.2 ⟨_, _, _, e, rfl⟩)
          · refine hok2 q o hq (fun e => ?_) (fun c fz e => by rw [e] at ho; cases ho)
            injection e with e
            rw [e] at hq
            obtain ⟨cs, hcs'⟩ := bld_cells HBL.out
            rw [hcs'] at hq
            cases hq
            cases ho
        have hb2' : Bld2 w4.heap.size w4.heap.size ((pre ++ [(j : Int)]).flatMap fun x => txAt ns x.toNat) W2 := by rw [HSUM.out]; exact hb2
        have END := (show Hid (∃ S', Kz w4.heap.size (fun t => t = 5) S S' W W2 ∧ (∀ j, S' j ↔ j = w4.heap.size) ∧ Bld2 w4.heap.size w4.heap.size ((pre ++ [(j : Int)]).flatMap fun x => txAt ns x.toNat) W2 ∧ Below w4.heap.size w4 W2) from ⟨S, HK1.out.trans hK2, HH1.out, hb2', H31.out.trans hbel2⟩)
        clear hK2 hb2 hb2' hbel2 hok2
        gi_wp2
        simpa using END.out
      · have htl : txL ⟨k0', k1', rs', k3', k4', ks'⟩ = [] := by simp [txL, h4]
        rw [htl, List.append_nil] at HSUM
        have END := (show Hid (∃ S', Kz w4.heap.size (fun t => t = 5) S S' W W1 ∧ (∀ j, S' j ↔ j = w4.heap.size) ∧ Bld2 w4.heap.size w4.heap.size ((pre ++ [(j : Int)]).flatMap fun x => txAt ns x.toNat) W1 ∧ Below w4.heap.size w4 W1) from ⟨S, HK1.out, HH1.out, (by rw [HSUM.out]; exact HBL.out), H31.out⟩)
        clear htl hpl
        gi_wp2
        rw [← hW1]
        simpa using END.out
    case done =>
      rintro D S' Wd hD ⟨h1, h2, h3⟩ hKd hDD
      have CS := (show Hid _ from bld_string2 w4.heap.size w4.heap.size _ Wd h2 h3.size)
      rw [← text_down] at CS
      have H3 := (show Hid (Below w4.heap.size w4 Wd) from h3)
      clear h2 h3
      gi_wp2
      refine ⟨trivial, (callsIn_wide.2 CS.out).mono ?_⟩
      rintro e We ⟨rfl, hb2, hbel2, hok2⟩
      have hDe : We.heap[D]? = some (.deferred (some [])) := hok2 D _ hDD (fun e => by injection e with e; have := HS5.out; have := HS6.out; omega) (fun c fz e => by cases e)
      have HE := (show Hid (Below w.heap.size w We) from (HB4.out.trans (H3.out.mono HB4.out.size)).trans (hbel2.mono HB4.out.size))
      have HDE := (show Hid _ from hDe)
      have hDw : w.heap.size ≤ D := by have := HS5.out; have := HS6.out; omega
      clear hb2 hbel2 hok2 hDe
      gi_wp2
      refine leaves_dmarks (by simp) w.heap.size [D] _ (by simp) (fun d hd => by simp only [List.mem_cons, List.not_mem_nil, or_false] at hd; subst hd; exact ⟨hDw, HDE.out⟩) ?_
      intro w' bw kw
      refine ⟨_, results_tmp rfl _ _ _, _, rfl, ⟨fun _ => by simp, fun h => absurd ⟨HT.out, by omega, by omega⟩ h⟩, HE.out.trans bw⟩
  · rw [decide_eq_false hin]
    have HF : Hid (¬ (0 ≤ at' ∧ at' < ns.length)) := hin
    clear hin
    gi_wp2
    refine leaves_dmarks (by simp) w.heap.size [] _ List.nodup_nil (fun d hd => by cases hd) ?_
    intro w' bw kw
    exact ⟨_, results_tmp rfl _ _ _, ⟨#[]⟩, rfl, ⟨fun h => absurd h.2 HF.out, fun _ => rfl⟩, HB4.out.trans bw⟩
end Go.Proofs.YtogdbjafibejdaaGreat
