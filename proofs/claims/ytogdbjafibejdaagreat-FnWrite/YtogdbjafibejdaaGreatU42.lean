/- The program's tellFrom and from, inside the fence. No condition. -/
import Derived.Test.YtogdbjafibejdaaGreatU26
import Derived.Test.YtogdbjafibejdaaGreatU27
import Derived.Test.YtogdbjafibejdaaGreatU41
import Derived.Test.YtogdbjafibejdaaGreatU16
import Derived.Test.YtogdbjafibejdaaGreatU15
import Derived.Test.YtogdbjafibejdaaGreatU2
import Derived.Test.YtogdbjafibejdaaGreatU1
import Derived.Test.YtogdbjafibejdaaGreatU8
namespace Go.Proofs.YtogdbjafibejdaaGreat
open Go.RowKit Go.Shelf
set_option maxRecDepth 100000
set_option linter.unusedVariables false
attribute [local go_sem] Oper.semAt_some

theorem TellBox.kz {A l B n0 : Nat} {T : TypeId → Prop} {S S' : Nat → Prop} {W W' : World} (h : TellBox A l B W) (k : Kz n0 T S S' W W') (hB : ∀ j, B ≤ j → j < B + 3 → ¬ S j) (hT : ¬ T 64 ∧ ¬ T 80 ∧ ¬ T 4) : TellBox A l B W' :=
  ⟨k.same _ _ h.1 (.inr (.inl ⟨hB _ (by omega) (by omega), fun ⟨_, _, _, e, ht⟩ => by cases e; exact hT.1 ht⟩)), k.same _ _ h.2.1 (.inr (.inl ⟨hB _ (by omega) (by omega), fun ⟨_, _, _, e, ht⟩ => by cases e; exact hT.2.1 ht⟩)), k.same _ _ h.2.2 (.inr (.inl ⟨hB _ (by omega) (by omega), fun ⟨_, _, _, e, ht⟩ => by cases e; exact hT.2.2 ht⟩))⟩

set_option maxHeartbeats 800000 in
/-- What kids hands back tells all kids, in their order. -/
theorem kids_tells2 {w0 w : World} {T : TypeId → Prop} {v : Value} {ns : List PNode} {A Ba Bt k : Nat} (hn : NodesAt w0 v ns) (hA : A < w0.heap.size) (cA : w0.cell? ⟨A, 0, none⟩ = some v) (hlen : ns.length ≤ 1048576) (hk : k < ns.length) (hw : Below w0.heap.size w0 w)
    (ca : w.cell? ⟨Ba, 0, none⟩ = some (.pointer (some ⟨A, 0, none⟩))) (ct : w.cell? ⟨Bt, 0, none⟩ = some (.int .i64 (k : Int))) (hBa : Ba < w.heap.size) (hBt : Bt < w.heap.size) :
    SeqTells2 Tryz.prog T 158 #[.pointer (some ⟨Ba, 0, none⟩), .pointer (some ⟨Bt, 0, none⟩)] w0.heap.size (kidsOf ns k) w := by
  intro n l n1 J S W hWw hn1 hn0 hSW hF hY h0
  have hW : Below w0.heap.size w0 W := hw.trans (hWw.mono hw.size)
  have hBa' := (hWw.cell (p := ⟨Ba, 0, none⟩) hBa).trans ca
  have hBt' := (hWw.cell (p := ⟨Bt, 0, none⟩) hBt).trans ct
  have hA' := (hW.cell (p := ⟨A, 0, none⟩) hA).trans cA
  obtain ⟨a, cap, rfl, hc1, hc2, hcs⟩ := hn.slice
  obtain ⟨b, off, av, kv, rfl, hblt, _, _, _, _, _, c5, _, hsl⟩ := hcs k hk
  have c5' := (hW.cell (p := ⟨b, off + k * 6 + 5, none⟩) hblt).trans c5
  obtain ⟨ka, kcap, rfl, hk1, hk2, _, hkc⟩ := hsl
  have hkm : kcap < 9223372036854775808 := Nat.lt_of_le_of_lt hk2 (by decide)
  rw [← kidsOf_at hk] at hkc c5' hk1
  obtain ⟨zs, hzs⟩ : ∃ zs, zs = kidsOf ns k := ⟨_, rfl⟩
  rw [← hzs] at hkc c5' hk1 hY ⊢
  have HKC := (show Hid (Cells .i64 w0 ka zs) from hkc)
  have HW := (show Hid (Below w0.heap.size w0 W) from hW)
  clear hcs hkc c5 hW hn hzs ca ct cA
  refine (callsIn_wide (n := n)).2 ((callsIn_wide (n := 5)).1 ?_)
  refine callsIn_of_wp Tryz.func158 rfl trivial ?_ rfl
  simp only [Tryz.ntmps158, List.size_toArray, List.length_cons, List.length_nil, Nat.reduceAdd, Nat.reduceSub, Array.replicate_succ, Array.replicate_zero, List.push_toArray, List.append_toArray, List.nil_append, List.cons_append]
  gi_wp2
  gi_quiet (fail)
  have hbq : Below W.heap.size W (W.drewN nq) := ⟨rfl, rfl, rfl, Nat.le_refl _, fun _ _ => rfl⟩
  have h0' : J S [] (W.drewN nq) := hF _ _ _ _ h0 (Agree.of_below hbq)
  have hk0 : Kz w0.heap.size T S S W (W.drewN nq) := Kz.of_below hbq hSW
  gi_wp2
  gi_loopw [15] (fun i wr => ∃ (j : Nat) (S' : Nat → Prop), j ≤ zs.length ∧ i = .int .i64 j ∧ J S' (zs.take j) wr ∧ Kz w0.heap.size T S S' W wr) (fun i _ => zs.length - (intOf i).toNat)
  case atStart => exact ⟨0, S, Nat.zero_le _, rfl, by simpa using h0', hk0⟩
  case round =>
    obtain ⟨j, S', hj, rfl, hJs, hks⟩ := hrel
    by_cases hlt : j < zs.length
    · have hnx : Below w0.heap.size w0 wr := HW.out.trans (hks.below hn0)
      obtain ⟨kb, ko, rfl, ck⟩ := HKC.out j hlt
      rw [show zs.getD j 0 = zs[j] by simp [List.getD_eq_getElem?_getD, hlt]] at ck
      have hkb : kb < w0.heap.size := by
        by_cases h : kb < w0.heap.size
        · exact h
        · exfalso; simp [World.cell?, Array.getElem?_eq_none (Nat.le_of_not_lt h)] at ck
      have ck' := (hnx.cell (p := ⟨kb, ko + j, none⟩) hkb).trans ck
      have HP : Hid (zs.take j ++ [zs[j]] = zs.take (j + 1)) := (take_snoc zs hlt).symm
      obtain ⟨fn, tmps, assign, body, hy, hR⟩ := hY 4 S' (zs.take j) zs[j] wr (by rw [HP.out]; exact List.take_prefix _ _) hJs (fun i hi => (hks.sub i hi).1)
      have HKS := (show Hid (Kz w0.heap.size T S S' W wr) from hks)
      clear ck hnx hks
      gi_wp2
      refine hR.mono ?_
      rintro e W3 ⟨rfl, S3, hJ3, hk3⟩
      gi_wp2
      go_roundw
      case rel => exact ⟨j + 1, S3, by omega, by go_num, by rw [← HP.out]; exact hJ3, HKS.out.trans hk3⟩
      case measure => simp [intOf]; omega
    · obtain rfl : j = zs.length := by omega
      rw [List.take_length] at hJs
      gi_wp2
      go_end0
      exact ⟨⟨_, rfl⟩, S', hJs, hks⟩

set_option maxHeartbeats 1000000 in
theorem tellFrom_in2 {w0 : World} {T : TypeId → Prop} (hT : ¬ T 64 ∧ ¬ T 80 ∧ ¬ T 4) {v : Value} {ns : List PNode} {A l n1 : Nat} (hn : NodesAt w0 v ns) (hA : A < w0.heap.size) (cA : w0.cell? ⟨A, 0, none⟩ = some v) (hlen : ns.length ≤ 1048576) (J : (Nat → Prop) → List Int → World → Prop) (hF : FreeS w0.heap.size n1 T J)
    (G : List Int → Prop) (hY : ∀ m S pre x W1, G (pre ++ [x]) → J S pre W1 → (∀ k, S k → k < W1.heap.size) → YieldAt Fence.wide m Tryz.prog l #[.int .i64 x] W1 fun e W' => e = .returned (.bool true) ∧ ∃ S', J S' (pre ++ [x]) W' ∧ Kz w0.heap.size T S S' W1 W') :
    ∀ (f k : Nat), deepOk ns f k → ∀ (n : Nat) (S : Nat → Prop) (pre : List Int) (W : World), (∀ l', l' ≠ [] → l' <+: down ns f k → G (pre ++ l')) → Below w0.heap.size w0 W → n1 ≤ W.heap.size → (∀ k, S k → k < W.heap.size) → J S pre W →
      CallsIn Fence.wide n Tryz.prog 122 #[.pointer (some ⟨A, 0, none⟩), .int .i64 (k : Int), .func (.yield l) #[] #[]] W fun e W' => e = .returned (.bool true) ∧ ∃ S', J S' (pre ++ down ns f k) W' ∧ Kz w0.heap.size T S S' W W' := by
  intro f
  induction f with
  | zero => intro k h; exact h.elim
  | succ f ih =>
    intro k hk n S pre W hG hW hn1 hSW hJW
    have HGG := (show Hid (∀ l', l' ≠ [] → l' <+: down ns (f + 1) k → G (pre ++ l')) from hG)
    clear hG
    have hklt := hk.1
    have IH := (show Hid _ from ih)
    have HN := (show Hid (NodesAt w0 v ns) from hn)
    have HK := (show Hid (∀ x ∈ kidsOf ns k, 0 ≤ x ∧ deepOk ns f x.toNat) from hk.2)
    clear ih hn hk
    refine (callsIn_wide (n := n)).2 ((callsIn_wide (n := 5)).1 ?_)
    have hbox := tellBox_new A l W
    have b3 := (((Below.refl _ W).alloc (Nat.le_refl _) (.cells #[.pointer (some ⟨A, 0, none⟩)] 64)).alloc (by simp) (.cells #[.func (.yield l) #[] #[]] 80)).alloc (by simp; omega) (.cells #[.bool false] 4)
    have hJ3 : J S pre _ := hF _ _ _ _ hJW (Agree.of_below b3)
    have hsz3 : (((W.alloc (.cells #[.pointer (some ⟨A, 0, none⟩)] 64)).alloc (.cells #[.func (.yield l) #[] #[]] 80)).alloc (.cells #[.bool false] 4)).heap.size = W.heap.size + 3 := by simp
    have hNS : ∀ j, W.heap.size ≤ j → j < W.heap.size + 3 → ¬ S j := fun j h1 _ hj => by have := hSW j hj; omega
    obtain ⟨fn, tmps, assign, body, hy, hR⟩ := hY 4 S pre (k : Int) _ (HGG.out [(k : Int)] (by simp) (by rw [down]; exact ⟨_, rfl⟩)) hJ3 (fun j hj => by have := hSW j hj; omega)
    have cY : (((W.alloc (.cells #[.pointer (some ⟨A, 0, none⟩)] 64)).alloc (.cells #[.func (.yield l) #[] #[]] 80)).alloc (.cells #[.bool false] 4)).cell? ⟨W.heap.size + 1, 0, none⟩ = some (.func (.yield l) #[] #[]) := by simp only [World.cell?, hbox.2.1]; rfl
    have HB := (show Hid (TellBox A l W.heap.size _) from hbox)
    have HB3 := (show Hid (Below W.heap.size W _) from b3)
    have HSZ3 := (show Hid _ from hsz3)
    have HNS := (show Hid (∀ j, W.heap.size ≤ j → j < W.heap.size + 3 → ¬ S j) from hNS)
    have HSW := (show Hid (∀ k, S k → k < W.heap.size) from hSW)
    clear hbox b3 hJ3 hsz3 hNS hSW
    refine callsIn_of_wp_marks Tryz.func122 rfl trivial ?_ rfl
    simp only [Tryz.ntmps122, List.size_toArray, List.length_cons, List.length_nil, Nat.reduceAdd, Nat.reduceSub, Array.replicate_succ, Array.replicate_zero, List.push_toArray, List.append_toArray, List.nil_append, List.cons_append]
    gi_wp2
    refine hR.mono ?_
    rintro e W4 ⟨rfl, S4, hJ4, hK4⟩
    have bx4 := TellBox.kz HB.out hK4 HNS.out hT
    have k4 : Kz w0.heap.size T S S4 W W4 := (Kz.of_below HB3.out HSW.out).trans hK4
    have hNS4 : ∀ j, W.heap.size ≤ j → j < W.heap.size + 3 → ¬ S4 j := fun j h1 h2 hj => by
      rcases (hK4.sub j hj).2 with h | h
      · exact HNS.out j h1 h2 h
      · have := HSZ3.out; omega
    have b4 : Below w0.heap.size w0 W4 := hW.trans (k4.below hW.size)
    have c4 : W4.cell? ⟨W.heap.size, 0, none⟩ = some (.pointer (some ⟨A, 0, none⟩)) := by simp only [World.cell?, bx4.1]; rfl
    have HX4 := (show Hid (TellBox A l W.heap.size W4) from bx4)
    have HK4 := (show Hid (Kz w0.heap.size T S S4 W W4) from k4)
    have HNS4 := (show Hid (∀ j, W.heap.size ≤ j → j < W.heap.size + 3 → ¬ S4 j) from hNS4)
    have HB4 := (show Hid (Below w0.heap.size w0 W4) from b4)
    have HJ4 := (show Hid (J S4 (pre ++ [(k : Int)]) W4) from hJ4)
    have hlt4 := blk_lt bx4.2.2
    clear HB HB3 hK4 bx4 k4 b4 hJ4 cY hy hR hNS4 HSZ3
    gi_wp2
    refine ⟨trivial, (kids_in _ _ _ _).mono ?_⟩
    rintro e w' ⟨rfl, rfl⟩
    gi_wp2
    obtain ⟨W5, hW5⟩ : ∃ W5, W5 = (W4.alloc (.cells #[.pointer (some ⟨A, 0, none⟩)] 64)).alloc (.cells #[.int .i64 (k : Int)] 3) := ⟨_, rfl⟩
    have b5 : Below W4.heap.size W4 W5 := by rw [hW5]; exact ((Below.refl _ W4).alloc (Nat.le_refl _) _).alloc (by simp) _
    have sz5 : W5.heap.size = W4.heap.size + 2 := by rw [hW5]; simp
    have gY : W5.heap[W4.heap.size]? = some (.cells #[.pointer (some ⟨A, 0, none⟩)] 64 (0, 0)) := by
      rw [hW5, Below.heap_alloc _ _ _ (by simp)]
      exact World.alloc_heap_new _ _
    have gZ : W5.heap[W4.heap.size + 1]? = some (.cells #[.int .i64 (k : Int)] 3 (0, 0)) := by
      rw [hW5]
      have := World.alloc_heap_new (W4.alloc (.cells #[.pointer (some ⟨A, 0, none⟩)] 64)) (.cells #[.int .i64 (k : Int)] 3)
      rwa [World.size_alloc] at this
    have cY : W5.cell? ⟨W4.heap.size, 0, none⟩ = some (.pointer (some ⟨A, 0, none⟩)) := by simp only [World.cell?, gY]; rfl
    have cZ : W5.cell? ⟨W4.heap.size + 1, 0, none⟩ = some (.int .i64 (k : Int)) := by simp only [World.cell?, gZ]; rfl
    have hJ5 : J S4 (pre ++ [(k : Int)]) W5 := hF _ _ _ _ HJ4.out (Agree.of_below b5)
    have k5 : Kz w0.heap.size T S S4 W W5 := HK4.out.trans (Kz.of_below b5 (fun j hj => (HK4.out.sub j hj).1))
    have bx5 : TellBox A l W.heap.size W5 := ⟨(b5.block _ (by omega)).trans HX4.out.1, (b5.block _ (by omega)).trans HX4.out.2.1, (b5.block _ (by omega)).trans HX4.out.2.2⟩
    have hbel : Below w0.heap.size w0 W5 := HB4.out.trans (b5.mono HB4.out.size)
    have hsz : W.heap.size ≤ W5.heap.size := k5.size
    have hle0 : w0.heap.size ≤ W.heap.size := hW.size
    rw [← hW5]
    refine wpIn_tells2 (T := T) (w0 := W5) (n0 := w0.heap.size) (all := kidsOf ns k) (gf := 158) (lb := #[.pointer (some ⟨W4.heap.size, 0, none⟩), .pointer (some ⟨W4.heap.size + 1, 0, none⟩)]) rfl (enters_of Tryz.func158 (by kernel_rfl) rfl)
      (kids_tells2 HN.out hA cA hlen hklt hbel cY cZ (by omega) (by omega)) (Below.refl _ _) hbel.size
      (fun S' pre' Wq => J S' (pre ++ [(k : Int)] ++ pre'.flatMap (fun x => down ns f x.toNat)) Wq ∧ Kz w0.heap.size T S S' W Wq ∧ TellBox A l W.heap.size Wq ∧ ∀ j, W.heap.size ≤ j → j < W.heap.size + 3 → ¬ S' j)
      ?hI S4 (fun j hj => by have := (HK4.out.sub j hj).1; omega) ⟨by simpa using hJ5, k5, bx5, HNS4.out⟩
      (fun x => { tmps := #[.pointer (some ⟨A, 0, none⟩), .int .i64 (k : Int), .func (.yield l) #[] #[], .pointer (some ⟨W.heap.size, 0, none⟩), undef, .pointer (some ⟨W.heap.size + 1, 0, none⟩), .pointer (some ⟨W.heap.size + 1 + 1, 0, none⟩), .int .i64 x, .func (.yield l) #[] #[], .int .i64 (k : Int), .bool true, .bool false, .pointer (some ⟨A, 0, none⟩), .int .i64 (k : Int), .func (.func 158) #[] #[.pointer (some ⟨W4.heap.size, 0, none⟩), .pointer (some ⟨W4.heap.size + 1, 0, none⟩)], .int .i64 x, undef, undef, undef, undef, undef], defers := [] }) ?assign ?body ?done
    case hI =>
      rintro S' pre' Wa Wb ⟨h1, h2, h3, h4⟩ hag
      refine ⟨hF _ _ _ _ h1 ⟨hag.os, hag.tape, hag.output, hag.size, fun j o hj ho => hag.same j o hj (by
        rcases ho with ho | ho | ho | ho
        · exact .inl ho
        · exact .inr (.inl ho)
        · exact .inr (.inr (.inl ho))
        · exact .inr (.inr (.inr (by omega))))⟩, ⟨hag.os.trans h2.os, hag.tape.trans h2.tape, hag.output.trans h2.output, Nat.le_trans h2.size hag.size, fun j o hj ho => hag.same j o (h2.same j o hj ho) (.inr (.inr (.inr (by have := blk_lt hj; omega)))), fun j hj => ⟨Nat.lt_of_lt_of_le (h2.sub j hj).1 hag.size, (h2.sub j hj).2⟩⟩, ⟨hag.same _ _ h3.1 (.inr (.inr (.inr (by omega)))), hag.same _ _ h3.2.1 (.inr (.inr (.inr (by omega)))), hag.same _ _ h3.2.2 (.inr (.inr (.inr (by omega))))⟩, h4⟩
    case assign =>
      intro l' m' x Wa K' hK'
      gi_wp2
      exact hK'
    case body =>
      rintro l' m' Sb pre' x Wb hpx ⟨hJb, hKb, hXb, hNb⟩ hSb
      have cb0 : Wb.cell? ⟨W.heap.size, 0, none⟩ = some (.pointer (some ⟨A, 0, none⟩)) := by simp only [World.cell?, hXb.1]; rfl
      have cb1 : Wb.cell? ⟨W.heap.size + 1, 0, none⟩ = some (.func (.yield l) #[] #[]) := by simp only [World.cell?, hXb.2.1]; rfl
      have hx : x ∈ kidsOf ns k := hpx.subset (by simp)
      obtain ⟨hx0, hdx⟩ := HK.out x hx
      obtain ⟨j, rfl⟩ : ∃ j : Nat, x = j := ⟨x.toNat, by omega⟩
      rw [show ((j : Int)).toNat = j by simp] at hdx
      have hGj : ∀ l', l' ≠ [] → l' <+: down ns f j → G (pre ++ [(k : Int)] ++ pre'.flatMap (fun x => down ns f x.toNat) ++ l') := fun l' hl1 hl2 => by
        have := HGG.out ((k : Int) :: (pre'.flatMap (fun x => down ns f x.toNat) ++ l')) (by simp) (by
          obtain ⟨r1, hr1⟩ := hpx
          obtain ⟨r2, hr2⟩ := hl2
          refine ⟨r2 ++ r1.flatMap (fun x => down ns f x.toNat), ?_⟩
          rw [down, ← hr1, List.flatMap_append, List.flatMap_append, List.flatMap_singleton, show ((j : Int)).toNat = j by simp, ← hr2]
          simp [List.append_assoc])
        simpa [List.append_assoc] using this
      have CC := (show Hid _ from IH.out j hdx (m' - 1) Sb _ Wb hGj (hW.trans (hKb.below hW.size)) (by have := hKb.size; omega) (fun i hi => (hKb.sub i hi).1) hJb)
      have HKb := (show Hid (Kz w0.heap.size T S Sb W Wb) from hKb)
      have HNb := (show Hid (∀ j, W.heap.size ≤ j → j < W.heap.size + 3 → ¬ Sb j) from hNb)
      have hlb := blk_lt hXb.2.2
      have HXb := (show Hid (TellBox A l W.heap.size Wb) from hXb)
      clear hJb hKb hXb hNb hGj hpx
      gi_wp2
      refine ⟨trivial, (fun h => by cases h), (CallsIn.inRound l' CC.out).mono ?_⟩
      rintro e Wc ⟨rfl, Sc, hJc, hKc⟩
      have hKc' := HKb.out.trans hKc
      have hXc := TellBox.kz HXb.out hKc HNb.out hT
      have hNc : ∀ i, W.heap.size ≤ i → i < W.heap.size + 3 → ¬ Sc i := fun i h1 h2 hi => by
        rcases (hKc.sub i hi).2 with h | h
        · exact HNb.out i h1 h2 h
        · omega
      have hJc' : J Sc (pre ++ [(k : Int)] ++ (pre' ++ [(j : Int)]).flatMap (fun x => down ns f x.toNat)) Wc := by simpa [List.flatMap_append, List.append_assoc] using hJc
      have END := (show Hid (∃ S', Kz w0.heap.size T Sb S' Wb Wc ∧ J S' (pre ++ [(k : Int)] ++ (pre' ++ [(j : Int)]).flatMap (fun x => down ns f x.toNat)) Wc ∧ Kz w0.heap.size T S S' W Wc ∧ TellBox A l W.heap.size Wc ∧ ∀ i, W.heap.size ≤ i → i < W.heap.size + 3 → ¬ S' i) from ⟨Sc, hKc, hJc', hKc', hXc, hNc⟩)
      clear hKc hJc hJc' hKc' hXc hNc
      gi_wp2
      simpa using END.out
    case done =>
      rintro D Sd Wd hD ⟨hJd, hKd, hXd, hNd⟩ hKdd hDd
      have cR : Wd.cell? ⟨W.heap.size + 1 + 1, 0, none⟩ = some (.bool false) := by simp only [World.cell?, hXd.2.2]; rfl
      have fR : Wd.frozen? ⟨W.heap.size + 1 + 1, 0, none⟩ = false := by simp [World.frozen?, hXd.2.2]
      have hds : (Wd.setCell ⟨W.heap.size + 1 + 1, 0, none⟩ (.bool true)).heap[D]? = some (.deferred (some [])) := (KeepsOthers.setCell Wd ⟨W.heap.size + 1 + 1, 0, none⟩ (.bool true)).same D _ hDd rfl
      have gR := setCell_at (k := 0) (u := .bool true) hXd.2.2
      gi_wp2
      refine ⟨by simp, .inl ⟨_, _, rfl, run_takeDeferred hds, ?_⟩⟩
      have hne : W.heap.size + 1 + 1 ≠ D := fun e => by rw [← e, hXd.2.2] at hDd; cases hDd
      have gR' : ((Wd.setCell ⟨W.heap.size + 1 + 1, 0, none⟩ (.bool true)).putObj D (.deferred none)).heap[W.heap.size + 1 + 1]? = _ := (World.putObj_heap_other hne).trans gR
      have hc : ((Wd.setCell ⟨W.heap.size + 1 + 1, 0, none⟩ (.bool true)).putObj D (.deferred none)).cell? ⟨W.heap.size + 1 + 1, 0, none⟩ = some (.bool true) := by simp only [World.cell?, gR']; rfl
      have hag1 : Agree w0.heap.size n1 T Sd Wd (Wd.setCell ⟨W.heap.size + 1 + 1, 0, none⟩ (.bool true)) := Agree.own (grown_setCell _ _ _ _) (fun r e => by cases e; exact ⟨by omega, by omega, .inl ⟨hNd _ (by omega) (by omega), fun o ho ⟨_, _, _, e, ht⟩ => by rw [hXd.2.2] at ho; cases ho; cases e; exact hT.2.2 ht⟩⟩)
      have hag2 : Agree w0.heap.size n1 T Sd (Wd.setCell ⟨W.heap.size + 1 + 1, 0, none⟩ (.bool true)) ((Wd.setCell ⟨W.heap.size + 1 + 1, 0, none⟩ (.bool true)).putObj D (.deferred none)) := Agree.own (grownBy_putObj' _ _ _) (fun r e => by cases e; exact ⟨by omega, by omega, .inr ⟨_, hds, rfl⟩⟩)
      have e1 : pre ++ [(k : Int)] ++ List.flatMap (fun x => down ns f x.toNat) (kidsOf ns k) = pre ++ down ns (f + 1) k := by simp [down]
      rw [e1] at hJd
      refine ⟨.bool true, ?_, rfl, Sd, hF _ _ _ _ (hF _ _ _ _ hJd hag1) hag2, ?_⟩
      · simp [results, Tryz.f122, go_sem, hc]
      · exact (hKd.own (B := W.heap.size) (Nat.le_refl _) (grown_setCell Wd (W.heap.size + 1 + 1) 0 (.bool true)) (fun r e => by cases e; omega)).own (B := W.heap.size) (Nat.le_refl _) (grownBy_putObj' _ _ _) (fun r e => by cases e; omega)

set_option maxHeartbeats 400000 in
/-- What 'from' hands back tells the node and all that stand below it. -/
theorem from_tells2 {w0 w : World} {T : TypeId → Prop} (hT : ¬ T 64 ∧ ¬ T 80 ∧ ¬ T 4) {v : Value} {ns : List PNode} {A Ba Bt f k : Nat} (hn : NodesAt w0 v ns) (hA : A < w0.heap.size) (cA : w0.cell? ⟨A, 0, none⟩ = some v) (hlen : ns.length ≤ 1048576) (hk : deepOk ns f k) (hw : Below w0.heap.size w0 w)
    (ca : w.cell? ⟨Ba, 0, none⟩ = some (.pointer (some ⟨A, 0, none⟩))) (ct : w.cell? ⟨Bt, 0, none⟩ = some (.int .i64 (k : Int))) (hBa : Ba < w.heap.size) (hBt : Bt < w.heap.size) :
    SeqTells2 Tryz.prog T 121 #[.pointer (some ⟨Ba, 0, none⟩), .pointer (some ⟨Bt, 0, none⟩)] w0.heap.size (down ns f k) w := by
  intro n l n1 J S W hW hn1 hn0 hSW hF hY h0
  have hb : Below w0.heap.size w0 W := hw.trans (hW.mono hw.size)
  have CC := (show Hid _ from tellFrom_in2 hT hn hA cA hlen J hF (fun l => l <+: down ns f k) hY f k hk 4 S [] W (fun l' _ h => by simpa using h) hb hn1 hSW h0)
  have ca' := (hW.cell (p := ⟨Ba, 0, none⟩) hBa).trans ca
  have ct' := (hW.cell (p := ⟨Bt, 0, none⟩) hBt).trans ct
  refine (callsIn_wide (n := n)).2 ((callsIn_wide (n := 5)).1 ?_)
  refine callsIn_of_wp Tryz.func121 rfl trivial ?_ rfl
  simp only [Tryz.ntmps121, List.size_toArray, List.length_cons, List.length_nil, Nat.reduceAdd, Nat.reduceSub, Array.replicate_succ, Array.replicate_zero, List.push_toArray, List.append_toArray, List.nil_append, List.cons_append]
  gi_wp2
  refine ⟨trivial, CallsIn.mono CC.out ?_⟩
  rintro e W' ⟨rfl, S', hJ', hK'⟩
  gi_wp2
  go_end0
  exact ⟨⟨_, rfl⟩, S', by simpa using hJ', hK'⟩
end Go.Proofs.YtogdbjafibejdaaGreat

/- 'append(v, s...)' where v is the call's own and s a string. No condition. -/
namespace Go.Proofs.YtogdbjafibejdaaGreat
open Go.RowKit
set_option maxRecDepth 100000
set_option linter.unusedVariables false

theorem bs_cells (s : ByteArray) : (bs s).map (Value.int .u8) = (s.data.map (fun b => Value.int .u8 b.toNat)).toList := by
  simp [bs, Function.comp_def]

theorem first_str {P : Program} (w : World) (s : ByteArray) : (Builtin.firstCells 1 s.size (.string s)).run P w = .ok ((bs s).map (Value.int .u8)).toArray w := by
  rw [bs_cells]
  simp [Builtin.firstCells]
  apply Array.ext'
  simp

theorem run_append_str {P : Program} (w : World) (base : Nat) (t u ty e : TypeId) (i : TypeInfo) (z : Value) (ht : P.underlying t = some (.slice e)) (hu : P.underlying u = some .string)
    (hi : P.info? e = some i) (hz : i.zero = some z) (hsize : i.size = 1) (hby : i.bytes = 1) (hzs : z.cells.size = 1) (v : Value) (xs : List Int) (hown : Own base e .u8 w v xs) (hne : xs ≠ [])
    (s : ByteArray) (hb : xs.length + s.size ≤ 140737488355328) (hbase : base ≤ w.heap.size) :
    ∃ v' w', (Builtin.append_ #[t, u] ty #[v, .string s]).run P w = .ok v' w' ∧ Own base e .u8 w' v' (xs ++ bs s) ∧ w.grownBy w' v.ownBlock := by
  have h63 : xs.length + s.size ≤ maxLen := by unfold maxLen; omega
  obtain ⟨ys, hys⟩ : ∃ ys, ys = xs.map (Value.int .u8) := ⟨_, rfl⟩
  obtain ⟨news, hnw⟩ : ∃ ns, ns = (bs s).map (Value.int .u8) := ⟨_, rfl⟩
  have hnl : news.length = s.size := by rw [hnw, List.length_map, bs_len]
  have hyl : ys.length = xs.length := by rw [hys, List.length_map]
  have hpos : 0 < xs.length := List.length_pos_iff.mpr hne
  have h1 : ∀ u ∈ news, u.oneCell' = true := by rw [hnw]; exact ints_oneCell .u8 (bs s)
  have hlen : (ys ++ news).length = xs.length + s.size := by rw [List.length_append, hyl, hnl]
  have hxl : (xs ++ bs s).length = xs.length + s.size := by rw [List.length_append, bs_len]
  have hmap : (xs ++ bs s).map (Value.int .u8) = ys ++ news := by rw [List.map_append, ← hys, ← hnw]
  have hown' := hown
  unfold Own at hown ⊢
  rw [← hys] at hown
  rw [hmap, hxl]
  rcases hown.2 with ⟨rfl, h0⟩ | ⟨g, cap, cur, rfl, hbg, hg, hnc, hcm, hcs, htake⟩
  · omega
  · simp only [Nat.mul_one] at hcs htake
    by_cases hroom : xs.length + s.size ≤ cap
    · have hf := first_str (P := P) w s
      rw [← hnw] at hf
      have hfit : xs.length * 1 + news.length ≤ cur.size := by rw [hnl, hcs]; omega
      have hst := run_storeCells_at P g (xs.length * 1) e news 0 cur w hg (by simpa using hfit) h1
      simp only [Nat.add_zero, Nat.mul_one] at hst
      have hr : (Builtin.append_ #[t, u] ty #[.slice (some ⟨g, 0, none⟩) xs.length cap, .string s]).run P w = .ok (.slice (some ⟨g, 0, none⟩) (xs.length + s.size) cap) (w.setRow g (cur.toList.take xs.length ++ news ++ cur.toList.drop (xs.length + news.length)).toArray) := by
        simp [Builtin.append_, run_underlying ht, run_underlying hu, sizeOf, typeInfo, hi, hsize, Builtin.lenOf, hroom, hf, Addr.add_lit, hst]
      refine ⟨_, _, hr, ⟨by rw [hlen, Nat.mul_one], .inr ⟨g, cap, _, rfl, hbg, setRow_heap w g cur _ e _ hg, hroom, hcm, ?_, ?_⟩⟩, ⟨rfl, rfl, rfl, by simp, fun k _ hk => setRow_other w g k _ (fun e => hk (by simp [Value.ownBlock, e]))⟩⟩
      · simp only [List.size_toArray, List.length_append, List.length_take, List.length_drop, Array.length_toList]
        omega
      · simp only [Nat.mul_one]
        rw [htake, ← hlen]
        exact List.take_left
    · have holds : ∀ j u, ys[j]? = some u → w.cell? ((⟨g, 0, none⟩ : Addr).add j) = some u := hown.cells (g := g) rfl
      have hfo := run_firstCells_some (P := P) w.drew 1 xs.length ⟨g, 0, none⟩ xs.length cap ys (by rw [hyl, Nat.mul_one]) (by simpa using holds)
      have hf := first_str (P := P) w.drew s
      rw [← hnw] at hf
      have h63' : ¬ (9223372036854775807 < ((xs.length : Int) + (s.size : Int))) := by unfold maxLen at h63; omega
      have hfits := growslice_fits (need := xs.length + s.size) (old := cap) (bytes := 1) (by omega) (by omega)
      have h48' : ¬ (281474976710656 < Builtin.nextslicecap (xs.length + s.size) cap) := by omega
      have hge := grownCap_ge w (xs.length + s.size) cap e
      have hcm' : grownCap w (xs.length + s.size) cap e ≤ maxLen := grownCap_le_maxLen w (xs.length + s.size) cap e h63
      have hr : (Builtin.append_ #[t, u] ty #[.slice (some ⟨g, 0, none⟩) xs.length cap, .string s]).run P w = .ok (.slice (some ⟨w.heap.size, 0, none⟩) (xs.length + s.size) (grownCap w (xs.length + s.size) cap e))
          (w.drew.alloc (.cells (ys.toArray ++ news.toArray ++ Builtin.zeroCells z.cells (grownCap w (xs.length + s.size) cap e - (xs.length + s.size))) e)) := by
        simp [Builtin.append_, run_underlying ht, run_underlying hu, sizeOf, typeInfo, zeroValue, hi, hz, hsize, hby, Builtin.lenOf, hroom, h63', h48', Question.forced, hf, hfo, newRow, grownCap]
        congr 2
        apply Array.ext'
        simp [List.append_assoc]
      refine ⟨_, _, hr, ⟨by rw [hlen, Nat.mul_one], .inr ⟨w.heap.size, _, _, rfl, hbase, heap_alloc_new w.drew _, hge, hcm', ?_, ?_⟩⟩, ⟨rfl, rfl, rfl, by simp, fun k hk _ => Below.heap_alloc w.drew _ k hk⟩⟩
      · simp only [Array.size_append, List.size_toArray, size_zeroCells, hzs, hyl, hnl, Nat.mul_one]
        omega
      · simp only [Array.toList_append, List.append_assoc, Nat.mul_one]
        rw [← List.append_assoc, ← hlen]
        exact List.take_left

theorem wpList_app_str {P : Program} (w : World) {ops : Array Oper} {rest : List Oper} {o : Oper} {a : Act} {Q : Exit → Act → World → Prop} (hgd : o.guard = none)
    (s x : Operand) (t u : TypeId) (ho : o.op = Op.call { callee := Callee.builtin Builtin.append, args := #[s, x], argTypes := #[t, u] }) (B : Nat) (e : TypeId) (i : TypeInfo)
    (z : Value) (ht : P.underlying t = some (TypeDesc.slice e)) (hu : P.underlying u = some .string) (hi : P.info? e = some i) (hz : i.zero = some z) (hsize : i.size = 1) (hby : i.bytes = 1)
    (hzs : z.cells.size = 1) (v : Value) (st : ByteArray) (xs : List Int) (hs : a.eval s = v) (hx : a.eval x = .string st) (hown : Own B e .u8 w v xs) (hne : xs ≠ [])
    (hb : xs.length + st.size ≤ 140737488355328) (hbase : B ≤ w.heap.size)
    (h : ∀ (v' : Value) (w' : World), Own B e .u8 w' v' (xs ++ bs st) → w.grownBy w' v.ownBlock → wpList P ops Q rest (a.put o.dst v') w') :
    wpList P ops Q (o :: rest) a w := by
  obtain ⟨v', w', hr, h2, h3⟩ := run_append_str (P := P) w B t u o.type e i z ht hu hi hz hsize hby hzs v xs hown hne st hb hbase
  refine wpList_plain hgd fun _ hK => ?_
  unfold Oper.wp execOp
  simp only [ho, resolve, invoke, builtin, Sem.run_bind, Sem.run_pure, Result.andThen_ok, List.map_toArray, List.map_cons, List.map_nil, hs, hx, hr]
  exact hK _ _ (h v' w' h2 h3)
end Go.Proofs.YtogdbjafibejdaaGreat
