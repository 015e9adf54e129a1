/- The program's tellFrom and from, inside the fence. No condition. -/
import Derived.Test.YthdfhckmgneioaaGreatIKids
import Derived.Test.YthdfhckmgneioaaGreatTells
import Derived.Test.YthdfhckmgneioaaGreatDownP
import Derived.Test.YthdfhckmgneioaaGreatIAttr
import Derived.Test.YthdfhckmgneioaaGreatDraw
namespace Go.Proofs.YthdfhckmgneioaaGreat
open Go.RowKit Go.Shelf
set_option maxRecDepth 100000
set_option linter.unusedVariables false
attribute [local go_sem] Oper.semAt_some

/-- The boxes of tellFrom. -/
def TellBox (A l B : Nat) (W : World) : Prop :=
  W.heap[B]? = some (.cells #[.pointer (some ⟨A, 0, none⟩)] 44 (0, 0)) ∧ W.heap[B + 1]? = some (.cells #[.func (.yield l) #[] #[]] 73 (0, 0)) ∧ W.heap[B + 1 + 1]? = some (.cells #[.bool false] 4 (0, 0))
theorem TellBox.kq {A l B n0 n1 : Nat} {W W' : World} (h : TellBox A l B W) (k : Kq n0 n1 W W') (hB : n1 ≤ B) : TellBox A l B W' :=
  ⟨k.same _ _ h.1 (.inr (.inl hB)), k.same _ _ h.2.1 (.inr (.inl (by omega))), k.same _ _ h.2.2 (.inr (.inl (by omega)))⟩
theorem TellBox.own {A l B C : Nat} {W W' : World} {row : Option Nat} (h : TellBox A l B W) (hg : W.grownBy W' row) (hr : ∀ r, row = some r → C ≤ r ∧ ∃ o : Obj, W.heap[r]? = some o ∧ o.isCells = false) : TellBox A l B W' :=
  ⟨cells_from h.1 hg hr, cells_from h.2.1 hg hr, cells_from h.2.2 hg hr⟩
theorem tellBox_new (A l : Nat) (W : World) : TellBox A l W.heap.size (((W.alloc (.cells #[.pointer (some ⟨A, 0, none⟩)] 44)).alloc (.cells #[.func (.yield l) #[] #[]] 73)).alloc (.cells #[.bool false] 4)) := by
  refine ⟨?_, ?_, ?_⟩
  · rw [Below.heap_alloc _ _ _ (by simp; omega), Below.heap_alloc _ _ _ (by simp)]
    exact World.alloc_heap_new _ _
  · rw [Below.heap_alloc _ _ _ (by simp)]
    have := World.alloc_heap_new (W.alloc (.cells #[.pointer (some ⟨A, 0, none⟩)] 44)) (.cells #[.func (.yield l) #[] #[]] 73)
    rwa [World.size_alloc] at this
  · have := World.alloc_heap_new ((W.alloc (.cells #[.pointer (some ⟨A, 0, none⟩)] 44)).alloc (.cells #[.func (.yield l) #[] #[]] 73)) (.cells #[.bool false] 4)
    rwa [World.size_alloc, World.size_alloc] at this

set_option maxHeartbeats 1000000 in
theorem tellFrom_in {w0 : World} {v : Value} {ns : List PNode} {A l n1 : Nat} (hn : NodesAt w0 v ns) (hA : A < w0.heap.size) (cA : w0.cell? ⟨A, 0, none⟩ = some v) (hlen : ns.length ≤ 1048576) (J : List Int → World → Prop) (hF : FreeFrom n1 J)
    (hY : ∀ m pre x W1, J pre W1 → YieldAt Fence.wide m Tryz.prog l #[.int .i64 x] W1 fun e W' => e = .returned (.bool true) ∧ J (pre ++ [x]) W' ∧ Kq w0.heap.size n1 W1 W') :
    ∀ (f k : Nat), deepOk ns f k → ∀ (n : Nat) (pre : List Int) (W : World), Below w0.heap.size w0 W → n1 ≤ W.heap.size → J pre W →
      CallsIn Fence.wide n Tryz.prog 106 #[.pointer (some ⟨A, 0, none⟩), .int .i64 (k : Int), .func (.yield l) #[] #[]] W fun e W' => e = .returned (.bool true) ∧ J (pre ++ down ns f k) W' ∧ Kq w0.heap.size n1 W W' := by
  have hJ := hF.own (Nat.le_refl _)
  intro f
  induction f with
  | zero => intro k h; exact h.elim
  | succ f ih =>
    intro k hk n pre W hW hn1 hJW
    have hklt := hk.1
    have IH := (show Hid _ from ih)
    have HN := (show Hid (NodesAt w0 v ns) from hn)
    have HK := (show Hid (∀ x ∈ kidsOf ns k, 0 ≤ x ∧ deepOk ns f x.toNat) from hk.2)
    clear ih hn hk
    refine (callsIn_wide (n := n)).2 ((callsIn_wide (n := 5)).1 ?_)
    have hbox := tellBox_new A l W
    have b3 := (((Below.refl _ W).alloc (Nat.le_refl _) (.cells #[.pointer (some ⟨A, 0, none⟩)] 44)).alloc (by simp) (.cells #[.func (.yield l) #[] #[]] 73)).alloc (by simp; omega) (.cells #[.bool false] 4)
    have hJ3 : J pre _ := hJ.alloc (.cells #[.bool false] 4) (hJ.alloc (.cells #[.func (.yield l) #[] #[]] 73) (hJ.alloc (.cells #[.pointer (some ⟨A, 0, none⟩)] 44) hJW))
    obtain ⟨fn, tmps, assign, body, hy, hR⟩ := hY 4 pre (k : Int) _ hJ3
    have cY : (((W.alloc (.cells #[.pointer (some ⟨A, 0, none⟩)] 44)).alloc (.cells #[.func (.yield l) #[] #[]] 73)).alloc (.cells #[.bool false] 4)).cell? ⟨W.heap.size + 1, 0, none⟩ = some (.func (.yield l) #[] #[]) := by simp only [World.cell?, hbox.2.1]; rfl
    have HB := (show Hid (TellBox A l W.heap.size _) from hbox)
    have HB3 := (show Hid _ from b3)
    clear hbox b3 hJ3
    refine callsIn_of_wp_marks Tryz.func106 rfl trivial ?_ rfl
    simp only [Tryz.ntmps106, List.size_toArray, List.length_cons, List.length_nil, Nat.reduceAdd, Nat.reduceSub, Array.replicate_succ, Array.replicate_zero, List.push_toArray, List.append_toArray, List.nil_append, List.cons_append]
    gi_wp2
    refine hR.mono ?_
    rintro e W4 ⟨rfl, hJ4, hK4⟩
    have bx4 := HB.out.kq hK4 hn1
    have k4 : Kq w0.heap.size n1 W W4 := (Kq.of_below HB3.out).trans hK4
    have b4 : Below w0.heap.size w0 W4 := hW.trans (k4.below hW.size)
    have c4 : W4.cell? ⟨W.heap.size, 0, none⟩ = some (.pointer (some ⟨A, 0, none⟩)) := by simp only [World.cell?, bx4.1]; rfl
    have HX4 := (show Hid (TellBox A l W.heap.size W4) from bx4)
    have HK4 := (show Hid (Kq w0.heap.size n1 W W4) from k4)
    have HB4 := (show Hid (Below w0.heap.size w0 W4) from b4)
    have HJ4 := (show Hid (J (pre ++ [(k : Int)]) W4) from hJ4)
    have hlt4 := blk_lt bx4.2.2
    clear HB HB3 hK4 bx4 k4 b4 hJ4 cY hy hR
    gi_wp2
    refine ⟨trivial, (kids_in _ _ _ _).mono ?_⟩
    rintro e w' ⟨rfl, rfl⟩
    gi_wp2
    obtain ⟨W5, hW5⟩ : ∃ W5, W5 = (W4.alloc (.cells #[.pointer (some ⟨A, 0, none⟩)] 44)).alloc (.cells #[.int .i64 (k : Int)] 3) := ⟨_, rfl⟩
    have b5 : Below W4.heap.size W4 W5 := by rw [hW5]; exact ((Below.refl _ W4).alloc (Nat.le_refl _) _).alloc (by simp) _
    have sz5 : W5.heap.size = W4.heap.size + 2 := by rw [hW5]; simp
    have gY : W5.heap[W4.heap.size]? = some (.cells #[.pointer (some ⟨A, 0, none⟩)] 44 (0, 0)) := by
      rw [hW5, Below.heap_alloc _ _ _ (by simp)]
      exact World.alloc_heap_new _ _
    have gZ : W5.heap[W4.heap.size + 1]? = some (.cells #[.int .i64 (k : Int)] 3 (0, 0)) := by
      rw [hW5]
      have := World.alloc_heap_new (W4.alloc (.cells #[.pointer (some ⟨A, 0, none⟩)] 44)) (.cells #[.int .i64 (k : Int)] 3)
      rwa [World.size_alloc] at this
    have cY : W5.cell? ⟨W4.heap.size, 0, none⟩ = some (.pointer (some ⟨A, 0, none⟩)) := by simp only [World.cell?, gY]; rfl
    have cZ : W5.cell? ⟨W4.heap.size + 1, 0, none⟩ = some (.int .i64 (k : Int)) := by simp only [World.cell?, gZ]; rfl
    have hJ5 : J (pre ++ [(k : Int)]) W5 := by rw [hW5]; exact hJ.alloc _ (hJ.alloc _ HJ4.out)
    have k5 : Kq w0.heap.size n1 W W5 := HK4.out.trans (Kq.of_below b5)
    have bx5 : TellBox A l W.heap.size W5 := ⟨(b5.block _ (by omega)).trans HX4.out.1, (b5.block _ (by omega)).trans HX4.out.2.1, (b5.block _ (by omega)).trans HX4.out.2.2⟩
    have hbel : Below w0.heap.size w0 W5 := HB4.out.trans (b5.mono HB4.out.size)
    have hsz : W.heap.size ≤ W5.heap.size := k5.size
    have hle0 : w0.heap.size ≤ W.heap.size := hW.size
    rw [← hW5]
    refine wpIn_rangeFunc_ownF (F := Fence.wide) rfl (by omega) (gf := 104) (lb := #[.pointer (some ⟨W4.heap.size, 0, none⟩), .pointer (some ⟨W4.heap.size + 1, 0, none⟩)]) rfl trivial (enters_of Tryz.func104 (by kernel_rfl) rfl)
      (kids_stops (fun x : { x : Int // x ∈ kidsOf ns k } => x.1) 4 W4.heap.size (W4.heap.size + 1) A w0 W5 _ ns k hklt (kidsOf ns k).attach (by rw [List.attach_map_subtype_val, kidsOf_at hklt]) hlen HN.out hbel (by omega) (by omega) hA cY cZ cA)
      belowK_t (belowK_b hbel.size) (Below.refl _ _) (fun _ => rfl)
      (fun pre' Wq => J (pre ++ [(k : Int)] ++ (pre'.map (fun x => x.1)).flatMap (fun x => down ns f x.toNat)) Wq ∧ Kq w0.heap.size n1 W Wq ∧ TellBox A l W.heap.size Wq)
      (fun _ _ _ => False)
      ?hI (fun _ _ _ _ _ hs _ _ => hs) ⟨by simpa using hJ5, k5, bx5⟩
      (fun x => { tmps := #[.pointer (some ⟨A, 0, none⟩), .int .i64 (k : Int), .func (.yield l) #[] #[], .pointer (some ⟨W.heap.size, 0, none⟩), undef, .pointer (some ⟨W.heap.size + 1, 0, none⟩), .pointer (some ⟨W.heap.size + 1 + 1, 0, none⟩), .int .i64 x.1, .func (.yield l) #[] #[], .int .i64 (k : Int), .bool true, .bool false, .pointer (some ⟨A, 0, none⟩), .int .i64 (k : Int), .func (.func 104) #[] #[.pointer (some ⟨W4.heap.size, 0, none⟩), .pointer (some ⟨W4.heap.size + 1, 0, none⟩)], .int .i64 x.1, undef, undef, undef, undef, undef], defers := [] }) ?assign ?body ?done ?stop
    case hI =>
      intro pre' Wa Wb row hs hg hr
      exact ⟨hJ _ Wa Wb row hs.1 hg (fun r e => ⟨by have := (hr r e).1; omega, (hr r e).2⟩), hs.2.1.own hsz hg hr, hs.2.2.own hg hr⟩
    case assign =>
      intro l' x Wa K' hK'
      gi_wp2
      exact hK'
    case body =>
      rintro l' pre' x Wb ⟨hJb, hKb, hXb⟩ hlt
      have cb0 : Wb.cell? ⟨W.heap.size, 0, none⟩ = some (.pointer (some ⟨A, 0, none⟩)) := by simp only [World.cell?, hXb.1]; rfl
      have cb1 : Wb.cell? ⟨W.heap.size + 1, 0, none⟩ = some (.func (.yield l) #[] #[]) := by simp only [World.cell?, hXb.2.1]; rfl
      obtain ⟨x, hx⟩ := x
      obtain ⟨hx0, hdx⟩ := HK.out x hx
      obtain ⟨j, rfl⟩ : ∃ j : Nat, x = j := ⟨x.toNat, by omega⟩
      rw [show ((j : Int)).toNat = j by simp] at hdx
      have CC := (show Hid _ from IH.out j hdx 2 _ Wb (hW.trans (hKb.below hW.size)) (by have := hKb.size; omega) hJb)
      have HKb := (show Hid _ from hKb)
      have HXb := (show Hid (TellBox A l W.heap.size Wb) from hXb)
      clear hJb hKb hXb
      gi_wp2
      refine ⟨trivial, (CallsIn.inRound l' CC.out).mono ?_⟩
      rintro e Wc ⟨rfl, hJc, hKc⟩
      have hKc' := HKb.out.trans hKc
      have hXc := HXb.out.kq hKc hn1
      gi_wp2
      exact ⟨hKc.keeps, hKc.below (by have := HKb.out.size; omega), by simpa [List.flatMap_append, List.append_assoc] using hJc, hKc', hXc⟩
    case done =>
      rintro D ys Wd hD rfl ⟨hJd, hKd, hXd⟩ hDd
      have cR : Wd.cell? ⟨W.heap.size + 1 + 1, 0, none⟩ = some (.bool false) := by simp only [World.cell?, hXd.2.2]; rfl
      have fR : Wd.frozen? ⟨W.heap.size + 1 + 1, 0, none⟩ = false := by simp [World.frozen?, hXd.2.2]
      have hds : (Wd.setCell ⟨W.heap.size + 1 + 1, 0, none⟩ (.bool true)).heap[D]? = some (.deferred (some [])) := (KeepsOthers.setCell Wd ⟨W.heap.size + 1 + 1, 0, none⟩ (.bool true)).same D _ hDd rfl
      have gR := setCell_at (k := 0) (u := .bool true) hXd.2.2
      gi_wp2
      refine ⟨by simp, .inl ⟨_, _, rfl, run_takeDeferred hds, ?_⟩⟩
      have hne : W.heap.size + 1 + 1 ≠ D := fun e => by rw [← e, hXd.2.2] at hDd; cases hDd
      have gR' : ((Wd.setCell ⟨W.heap.size + 1 + 1, 0, none⟩ (.bool true)).putObj D (.deferred none)).heap[W.heap.size + 1 + 1]? = _ := (World.putObj_heap_other hne).trans gR
      have hc : ((Wd.setCell ⟨W.heap.size + 1 + 1, 0, none⟩ (.bool true)).putObj D (.deferred none)).cell? ⟨W.heap.size + 1 + 1, 0, none⟩ = some (.bool true) := by simp only [World.cell?, gR']; rfl
      refine ⟨.bool true, ?_, rfl, ?_, ?_⟩
      · simp [results, Tryz.f106, go_sem, hc]
      · have e1 : pre ++ [(k : Int)] ++ List.flatMap (fun x => down ns f x.toNat) (List.map (fun x => x.1) (kidsOf ns k).attach) = pre ++ down ns (f + 1) k := by
          rw [List.attach_map_subtype_val]; simp [down]
        rw [e1] at hJd
        exact hF _ _ _ (some D) (hF _ _ _ (some (W.heap.size + 1 + 1)) hJd (grown_setCell _ _ _ _) (fun r e => by cases e; omega)) (grownBy_putObj' _ _ _) (fun r e => by cases e; omega)
      · refine ⟨hKd.os, hKd.tape, hKd.output, ?_, fun j o hj ho => ?_⟩
        · have := hKd.size; simpa [World.setCell] using this
        · have hlt := blk_lt hj
          rw [World.putObj_heap_other (by omega), Below.heap_setCell Wd ⟨W.heap.size + 1 + 1, 0, none⟩ (.bool true) j (by show j ≠ W.heap.size + 1 + 1; omega)]
          exact hKd.same j o hj ho
    case stop =>
      rintro D c pre' Wd hD _ h _
      exact h.elim

set_option maxHeartbeats 400000 in
theorem from_in (n : Nat) (pa : Option Addr) (k : Int) (w : World) :
    CallsIn Fence.wide n Tryz.prog 93 #[.pointer pa, .int .i64 k] w fun e w' => e = .returned (.func (.func 105) #[] #[.pointer (some ⟨w.heap.size, 0, none⟩), .pointer (some ⟨w.heap.size + 1, 0, none⟩)]) ∧ w' = (w.alloc (.cells #[.pointer pa] 44)).alloc (.cells #[.int .i64 k] 3) := by
  refine callsIn_of_wp Tryz.func93 rfl trivial ?_ rfl
  simp only [Tryz.ntmps93, List.size_toArray, List.length_cons, List.length_nil, Nat.reduceAdd, Nat.reduceSub, Array.replicate_succ, Array.replicate_zero, List.push_toArray, List.append_toArray, List.nil_append, List.cons_append]
  gi_wp2
  go_ret
  exact ⟨rfl, rfl⟩

set_option maxHeartbeats 400000 in
/-- What 'from' hands back tells the node and all that stand below it. -/
theorem from_tells {w0 w : World} {v : Value} {ns : List PNode} {A Ba Bt f k : Nat} (hn : NodesAt w0 v ns) (hA : A < w0.heap.size) (cA : w0.cell? ⟨A, 0, none⟩ = some v) (hlen : ns.length ≤ 1048576) (hk : deepOk ns f k) (hw : Below w0.heap.size w0 w)
    (ca : w.cell? ⟨Ba, 0, none⟩ = some (.pointer (some ⟨A, 0, none⟩))) (ct : w.cell? ⟨Bt, 0, none⟩ = some (.int .i64 (k : Int))) (hBa : Ba < w.heap.size) (hBt : Bt < w.heap.size) :
    SeqTells Tryz.prog 105 #[.pointer (some ⟨Ba, 0, none⟩), .pointer (some ⟨Bt, 0, none⟩)] w0.heap.size (down ns f k) w := by
  intro n l n1 J W hW hn1 hF hY h0
  have hb : Below w0.heap.size w0 W := hw.trans (hW.mono hw.size)
  have CC := (show Hid _ from tellFrom_in hn hA cA hlen J hF hY f k hk 4 [] W hb hn1 h0)
  have ca' := (hW.cell (p := ⟨Ba, 0, none⟩) hBa).trans ca
  have ct' := (hW.cell (p := ⟨Bt, 0, none⟩) hBt).trans ct
  refine (callsIn_wide (n := n)).2 ((callsIn_wide (n := 5)).1 ?_)
  refine callsIn_of_wp Tryz.func105 rfl trivial ?_ rfl
  simp only [Tryz.ntmps105, List.size_toArray, List.length_cons, List.length_nil, Nat.reduceAdd, Nat.reduceSub, Array.replicate_succ, Array.replicate_zero, List.push_toArray, List.append_toArray, List.nil_append, List.cons_append]
  gi_wp2
  refine ⟨trivial, CallsIn.mono CC.out ?_⟩
  rintro e W' ⟨rfl, hJ', hK'⟩
  gi_wp2
  go_end0
  exact ⟨⟨_, rfl⟩, by simpa using hJ', hK'⟩
end Go.Proofs.YthdfhckmgneioaaGreat
