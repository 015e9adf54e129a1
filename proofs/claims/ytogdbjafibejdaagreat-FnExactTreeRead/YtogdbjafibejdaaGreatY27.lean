/- The program's tellFrom and from, inside the fence. No condition. -/
import Derived.Test.YtogdbjafibejdaaGreatY25
import Derived.Test.YtogdbjafibejdaaGreatY26
import Derived.Test.YtogdbjafibejdaaGreatY6
import Derived.Test.YtogdbjafibejdaaGreatY24
import Derived.Test.YtogdbjafibejdaaGreatY21
import Derived.Test.YtogdbjafibejdaaGreatY8
import Derived.Test.YtogdbjafibejdaaGreatY20
import Derived.Test.YtogdbjafibejdaaGreatY14
import Derived.Test.YtogdbjafibejdaaGreatY2
namespace Go.Proofs.YtogdbjafibejdaaGreat
open Go.RowKit Go.Shelf
set_option maxRecDepth 100000
set_option linter.unusedVariables false
attribute [local go_sem] Oper.semAt_some

theorem TellBox.kz {A l B n0 : Nat} {T : TypeId → Prop} {S S' : Nat → Prop} {W W' : World} (h : TellBox A l B W) (k : Kz n0 T S S' W W') (hB : ∀ j, B ≤ j → j < B + 3 → ¬ S j) (hT : ¬ T 64 ∧ ¬ T 80 ∧ ¬ T 4) : TellBox A l B W' :=
  ⟨k.same _ _ h.1 (.inr (.inl ⟨hB _ (by omega) (by omega), fun ⟨_, _, _, e, ht⟩ => by cases e; exact hT.1 ht⟩)), k.same _ _ h.2.1 (.inr (.inl ⟨hB _ (by omega) (by omega), fun ⟨_, _, _, e, ht⟩ => by cases e; exact hT.2.1 ht⟩)), k.same _ _ h.2.2 (.inr (.inl ⟨hB _ (by omega) (by omega), fun ⟨_, _, _, e, ht⟩ => by cases e; exact hT.2.2 ht⟩))⟩

set_option maxHeartbeats 800000 in
theorem kids_tells2 {w0 w : World} {T : TypeId → Prop} {v : Value} {ns : List PNode} {A Ba Bt k : Nat} (hn : NodesAt w0 v ns) (hA : A < w0.heap.size) (cA : w0.cell? ⟨A, 0, none⟩ = some v) (hlen : ns.length ≤ 1048576) (hk : k < ns.length) (hw : Below w0.heap.size w0 w)
    (ca : w.cell? ⟨Ba, 0, none⟩ = some (.pointer (some ⟨A, 0, none⟩))) (ct : w.cell? ⟨Bt, 0, none⟩ = some (.int .i64 (k : Int))) (hBa : Ba < w.heap.size) (hBt : Bt < w.heap.size) :
    SeqTells2 Tryz.prog T 158 #[.pointer (some ⟨Ba, 0, none⟩), .pointer (some ⟨Bt, 0, none⟩)] w0.heap.size (kidsOf ns k) w := by
  intro n l n1 J S W hWw hn1 hn0 hSW hF hY h0
  have hW : Below w0.heap.size w0 W := hw.trans (hWw.mono hw.size)
  have hBa' := (hWw.cell (p := ⟨Ba, 0, none⟩) hBa).trans ca
  have hBt' := (hWw.cell (p := ⟨Bt, 0, none⟩) hBt).trans ct
  have hA' := (hW.cell (p := ⟨A, 0, none⟩) hA).trans cA
  obtain ⟨a, cap, rfl, hc1, hc2, hcs⟩ := hn.slice
  obtain ⟨b, off, av, kv, rfl, hblt, _, _, _, _, _, c5, _, hsl⟩ := hcs k hk
  have c5' := (hW.cell (p := ⟨b, off + k * 6 + 5, none⟩) hblt).trans c5
  obtain ⟨ka, kcap, rfl, hk1, hk2, _, hkc⟩ := hsl
  have hkm : kcap < 9223372036854775808 := Nat.lt_of_le_of_lt hk2 (by decide)
  rw [← kidsOf_at hk] at hkc c5' hk1
  obtain ⟨zs, hzs⟩ : ∃ zs, zs = kidsOf ns k := ⟨_, rfl⟩
  rw [← hzs] at hkc c5' hk1 hY ⊢
  have HKC := (show Hid (Cells .i64 w0 ka zs) from hkc)
  have HW := (show Hid (Below w0.heap.size w0 W) from hW)
  clear hcs hkc c5 hW hn hzs ca ct cA
  refine (callsIn_wide (n := n)).2 ((callsIn_wide (n := 5)).1 ?_)
  refine callsIn_of_wp Tryz.func158 rfl trivial ?_ rfl
  simp only [Tryz.ntmps158, List.size_toArray, List.length_cons, List.length_nil, Nat.reduceAdd, Nat.reduceSub, Array.replicate_succ, Array.replicate_zero, List.push_toArray, List.append_toArray, List.nil_append, List.cons_append]
  gi_wp2
  gi_quiet (fail)
  have hbq : Below W.heap.size W (W.drewN nq) := ⟨rfl, rfl, rfl, Nat.le_refl _, fun _ _ => rfl⟩
  have h0' : J S [] (W.drewN nq) := hF _ _ _ _ h0 (Agree.of_below hbq)
  have hk0 : Kz w0.heap.size T S S W (W.drewN nq) := Kz.of_below hbq hSW
  gi_wp2
  gi_loopw [15] (fun i wr => ∃ (j : Nat) (S' : Nat → Prop), j ≤ zs.length ∧ i = .int .i64 j ∧ J S' (zs.take j) wr ∧ Kz w0.heap.size T S S' W wr) (fun i _ => zs.length - (intOf i).toNat)
  case atStart => exact ⟨0, S, Nat.zero_le _, rfl, by simpa using h0', hk0⟩
  case round =>
    obtain ⟨j, S', hj, rfl, hJs, hks⟩ := hrel
    by_cases hlt : j < zs.length
    · have hnx : Below w0.heap.size w0 wr := HW.out.trans (hks.below hn0)
      obtain ⟨kb, ko, rfl, ck⟩ := HKC.out j hlt
      rw [show zs.getD j 0 = zs[j] by simp [List.getD_eq_getElem?_getD, hlt]] at ck
      have hkb : kb < w0.heap.size := by
        by_cases h : kb < w0.heap.size
        · exact h
        · exfalso; simp [World.cell?, Array.getElem?_eq_none (Nat.le_of_not_lt h)] at ck
      have ck' := (hnx.cell (p := ⟨kb, ko + j, none⟩) hkb).trans ck
      have HP : Hid (zs.take j ++ [zs[j]] = zs.take (j + 1)) := (take_snoc zs hlt).symm
      obtain ⟨fn, tmps, assign, body, hy, hR⟩ := hY 4 S' (zs.take j) zs[j] wr (by rw [HP.out]; exact List.take_prefix _ _) hJs (fun i hi => (hks.sub i hi).1)
      have HKS := (show Hid (Kz w0.heap.size T S S' W wr) from hks)
      clear ck hnx hks
      gi_wp2
      refine hR.mono ?_
      rintro e W3 ⟨rfl, S3, hJ3, hk3⟩
      gi_wp2
      go_roundw
      case rel => exact ⟨j + 1, S3, by omega, by go_num, by rw [← HP.out]; exact hJ3, HKS.out.trans hk3⟩
      case measure => simp [intOf]; omega
    · obtain rfl : j = zs.length := by omega
      rw [List.take_length] at hJs
      gi_wp2
      go_end0
      exact ⟨⟨_, rfl⟩, S', hJs, hks⟩

set_option maxHeartbeats 1000000 in
theorem tellFrom_in2 {w0 : World} {T : TypeId → Prop} (hT : ¬ T 64 ∧ ¬ T 80 ∧ ¬ T 4) {v : Value} {ns : List PNode} {A l n1 : Nat} (hn : NodesAt w0 v ns) (hA : A < w0.heap.size) (cA : w0.cell? ⟨A, 0, none⟩ = some v) (hlen : ns.length ≤ 1048576) (J : (Nat → Prop) → List Int → World → Prop) (hF : FreeS w0.heap.size n1 T J)
    (G : List Int → Prop) (hY : ∀ m S pre x W1, G (pre ++ [x]) → J S pre W1 → (∀ k, S k → k < W1.heap.size) → YieldAt Fence.wide m Tryz.prog l #[.int .i64 x] W1 fun e W' => e = .returned (.bool true) ∧ ∃ S', J S' (pre ++ [x]) W' ∧ Kz w0.heap.size T S S' W1 W') :
    ∀ (f k : Nat), deepOk ns f k → ∀ (n : Nat) (S : Nat → Prop) (pre : List Int) (W : World), (∀ l', l' ≠ [] → l' <+: down ns f k → G (pre ++ l')) → Below w0.heap.size w0 W → n1 ≤ W.heap.size → (∀ k, S k → k < W.heap.size) → J S pre W →
      CallsIn Fence.wide n Tryz.prog 122 #[.pointer (some ⟨A, 0, none⟩), .int .i64 (k : Int), .func (.yield l) #[] #[]] W fun e W' => e = .returned (.bool true) ∧ ∃ S', J S' (pre ++ down ns f k) W' ∧ Kz w0.heap.size T S S' W W' := by
  intro f
  induction f with
  | zero => intro k h; exact h.elim
  | succ f ih =>
    intro k hk n S pre W hG hW hn1 hSW hJW
    have HGG := (show Hid (∀ l', l' ≠ [] → l' <+: down ns (f + 1) k → G (pre ++ l')) from hG)
    clear hG
    have hklt := hk.1
    have IH := (show Hid _ from ih)
    have HN := (show Hid (NodesAt w0 v ns) from hn)
    have HK := (show Hid (∀ x ∈ kidsOf ns k, 0 ≤ x ∧ deepOk ns f x.toNat) from hk.2)
    clear ih hn hk
    refine (callsIn_wide (n := n)).2 ((callsIn_wide (n := 5)).1 ?_)
    have hbox := tellBox_new A l W
    have b3 := (((Below.refl _ W).alloc (Nat.le_refl _) (.cells #[.pointer (some ⟨A, 0, none⟩)] 64)).alloc (by simp) (.cells #[.func (.yield l) #[] #[]] 80)).alloc (by simp; omega) (.cells #[.bool false] 4)
    have hJ3 : J S pre _ := hF _ _ _ _ hJW (Agree.of_below b3)
    have hsz3 : (((W.alloc (.cells #[.pointer (some ⟨A, 0, none⟩)] 64)).alloc (.cells #[.func (.yield l) #[] #[]] 80)).alloc (.cells #[.bool false] 4)).heap.size = W.heap.size + 3 := by simp
    have hNS : ∀ j, W.heap.size ≤ j → j < W.heap.size + 3 → ¬ S j := fun j h1 _ hj => by have := hSW j hj; omega
    obtain ⟨fn, tmps, assign, body, hy, hR⟩ := hY 4 S pre (k : Int) _ (HGG.out [(k : Int)] (by simp) (by rw [down]; exact ⟨_, rfl⟩)) hJ3 (fun j hj => by have := hSW j hj; omega)
    have cY : (((W.alloc (.cells #[.pointer (some ⟨A, 0, none⟩)] 64)).alloc (.cells #[.func (.yield l) #[] #[]] 80)).alloc (.cells #[.bool false] 4)).cell? ⟨W.heap.size + 1, 0, none⟩ = some (.func (.yield l) #[] #[]) := by simp only [World.cell?, hbox.2.1]; rfl
    have HB := (show Hid (TellBox A l W.heap.size _) from hbox)
    have HB3 := (show Hid (Below W.heap.size W _) from b3)
    have HSZ3 := (show Hid _ from hsz3)
    have HNS := (show Hid (∀ j, W.heap.size ≤ j → j < W.heap.size + 3 → ¬ S j) from hNS)
    have HSW := (show Hid (∀ k, S k → k < W.heap.size) from hSW)
    clear hbox b3 hJ3 hsz3 hNS hSW
    refine callsIn_of_wp_marks Tryz.func122 rfl trivial ?_ rfl
    simp only [Tryz.ntmps122, List.size_toArray, List.length_cons, List.length_nil, Nat.reduceAdd, Nat.reduceSub, Array.replicate_succ, Array.replicate_zero, List.push_toArray, List.append_toArray, List.nil_append, List.cons_append]
    gi_wp2
    refine hR.mono ?_
    rintro e W4 ⟨rfl, S4, hJ4, hK4⟩
    have bx4 := TellBox.kz HB.out hK4 HNS.out hT
    have k4 : Kz w0.heap.size T S S4 W W4 := (Kz.of_below HB3.out HSW.out).trans hK4
    have hNS4 : ∀ j, W.heap.size ≤ j → j < W.heap.size + 3 → ¬ S4 j := fun j h1 h2 hj => by
      rcases (hK4.sub j hj).2 with h | h
      · exact HNS.out j h1 h2 h
      · have := HSZ3.out; omega
    have b4 : Below w0.heap.size w0 W4 := hW.trans (k4.below hW.size)
    have c4 : W4.cell? ⟨W.heap.size, 0, none⟩ = some (.pointer (some ⟨A, 0, none⟩)) := by simp only [World.cell?, bx4.1]; rfl
    have HX4 := (show Hid (TellBox A l W.heap.size W4) from bx4)
    have HK4 := (show Hid (Kz w0.heap.size T S S4 W W4) from k4)
    have HNS4 := (show Hid (∀ j, W.heap.size ≤ j → j < W.heap.size + 3 → ¬ S4 j) from hNS4)
    have HB4 := (show Hid (Below w0.heap.size w0 W4) from b4)
    have HJ4 := (show Hid (J S4 (pre ++ [(k : Int)]) W4) from hJ4)
    have hlt4 := blk_lt bx4.2.2
    clear HB HB3 hK4 bx4 k4 b4 hJ4 cY hy hR hNS4 HSZ3
    gi_wp2
    refine ⟨trivial, (kids_in _ _ _ _).mono ?_⟩
    rintro e w' ⟨rfl, rfl⟩
    gi_wp2
    obtain ⟨W5, hW5⟩ : ∃ W5, W5 = (W4.alloc (.cells #[.pointer (some ⟨A, 0, none⟩)] 64)).alloc (.cells #[.int .i64 (k : Int)] 3) := ⟨_, rfl⟩
    have b5 : Below W4.heap.size W4 W5 := by rw [hW5]; exact ((Below.refl _ W4).alloc (Nat.le_refl _) _).alloc (by simp) _
    have sz5 : W5.heap.size = W4.heap.size + 2 := by rw [hW5]; simp
    have gY : W5.heap[W4.heap.size]? = some (.cells #[.pointer (some ⟨A, 0, none⟩)] 64 (0, 0)) := by
      rw [hW5, Below.heap_alloc _ _ _ (by simp)]
      exact World.alloc_heap_new _ _
    have gZ : W5.heap[W4.heap.size + 1]? = some (.cells #[.int .i64 (k : Int)] 3 (0, 0)) := by
      rw [hW5]
      have := World.alloc_heap_new (W4.alloc (.cells #[.pointer (some ⟨A, 0, none⟩)] 64)) (.cells #[.int .i64 (k : Int)] 3)
      rwa [World.size_alloc] at this
    have cY : W5.cell? ⟨W4.heap.size, 0, none⟩ = some (.pointer (some ⟨A, 0, none⟩)) := by simp only [World.cell?, gY]; rfl
    have cZ : W5.cell? ⟨W4.heap.size + 1, 0, none⟩ = some (.int .i64 (k : Int)) := by simp only [World.cell?, gZ]; rfl
    have hJ5 : J S4 (pre ++ [(k : Int)]) W5 := hF _ _ _ _ HJ4.out (Agree.of_below b5)
    have k5 : Kz w0.heap.size T S S4 W W5 := HK4.out.trans (Kz.of_below b5 (fun j hj => (HK4.out.sub j hj).1))
    have bx5 : TellBox A l W.heap.size W5 := ⟨(b5.block _ (by omega)).trans HX4.out.1, (b5.block _ (by omega)).trans HX4.out.2.1, (b5.block _ (by omega)).trans HX4.out.2.2⟩
    have hbel : Below w0.heap.size w0 W5 := HB4.out.trans (b5.mono HB4.out.size)
    have hsz : W.heap.size ≤ W5.heap.size := k5.size
    have hle0 : w0.heap.size ≤ W.heap.size := hW.size
    rw [← hW5]
    refine wpIn_tells2 (T := T) (w0 := W5) (n0 := w0.heap.size) (all := kidsOf ns k) (gf := 158) (lb := #[.pointer (some ⟨W4.heap.size, 0, none⟩), .pointer (some ⟨W4.heap.size + 1, 0, none⟩)]) rfl (enters_of Tryz.func158 (by kernel_rfl) rfl)
      (kids_tells2 HN.out hA cA hlen hklt hbel cY cZ (by omega) (by omega)) (Below.refl _ _) hbel.size
      (fun S' pre' Wq => J S' (pre ++ [(k : Int)] ++ pre'.flatMap (fun x => down ns f x.toNat)) Wq ∧ Kz w0.heap.size T S S' W Wq ∧ TellBox A l W.heap.size Wq ∧ ∀ j, W.heap.size ≤ j → j < W.heap.size + 3 → ¬ S' j)
      ?hI S4 (fun j hj => by have := (HK4.out.sub j hj).1; omega) ⟨by simpa using hJ5, k5, bx5, HNS4.out⟩
      (fun x => { tmps := #[.pointer (some ⟨A, 0, none⟩), .int .i64 (k : Int), .func (.yield l) #[] #[], .pointer (some ⟨W.heap.size, 0, none⟩), undef, .pointer (some ⟨W.heap.size + 1, 0, none⟩), .pointer (some ⟨W.heap.size + 1 + 1, 0, none⟩), .int .i64 x, .func (.yield l) #[] #[], .int .i64 (k : Int), .bool true, .bool false, .pointer (some ⟨A, 0, none⟩), .int .i64 (k : Int), .func (.func 158) #[] #[.pointer (some ⟨W4.heap.size, 0, none⟩), .pointer (some ⟨W4.heap.size + 1, 0, none⟩)], .int .i64 x, undef, undef, undef, undef, undef], defers := [] }) ?assign ?body ?done
    case hI =>
      rintro S' pre' Wa Wb ⟨h1, h2, h3, h4⟩ hag
      refine ⟨hF _ _ _ _ h1 ⟨hag.os, hag.tape, hag.output, hag.size, fun j o hj ho => hag.same j o hj (by
        rcases ho with ho | ho | ho | ho
        · exact .inl ho
        · exact .inr (.inl ho)
        · exact .inr (.inr (.inl ho))
        · exact .inr (.inr (.inr (by omega))))⟩, ⟨hag.os.trans h2.os, hag.tape.trans h2.tape, hag.output.trans h2.output, Nat.le_trans h2.size hag.size, fun j o hj ho => hag.same j o (h2.same j o hj ho) (.inr (.inr (.inr (by have := blk_lt hj; omega)))), fun j hj => ⟨Nat.lt_of_lt_of_le (h2.sub j hj).1 hag.size, (h2.sub j hj).2⟩⟩, ⟨hag.same _ _ h3.1 (.inr (.inr (.inr (by omega)))), hag.same _ _ h3.2.1 (.inr (.inr (.inr (by omega)))), hag.same _ _ h3.2.2 (.inr (.inr (.inr (by omega))))⟩, h4⟩
    case assign =>
      intro l' m' x Wa K' hK'
      gi_wp2
      exact hK'
    case body =>
      rintro l' m' Sb pre' x Wb hpx ⟨hJb, hKb, hXb, hNb⟩ hSb
      have cb0 : Wb.cell? ⟨W.heap.size, 0, none⟩ = some (.pointer (some ⟨A, 0, none⟩)) := by simp only [World.cell?, hXb.1]; rfl
      have cb1 : Wb.cell? ⟨W.heap.size + 1, 0, none⟩ = some (.func (.yield l) #[] #[]) := by simp only [World.cell?, hXb.2.1]; rfl
      have hx : x ∈ kidsOf ns k := hpx.subset (by simp)
      obtain ⟨hx0, hdx⟩ := HK.out x hx
      obtain ⟨j, rfl⟩ : ∃ j : Nat, x = j := ⟨x.toNat, by omega⟩
      rw [show ((j : Int)).toNat = j by simp] at hdx
      have hGj : ∀ l', l' ≠ [] → l' <+: down ns f j → G (pre ++ [(k : Int)] ++ pre'.flatMap (fun x => down ns f x.toNat) ++ l') := fun l' hl1 hl2 => by
        have := HGG.out ((k : Int) :: (pre'.flatMap (fun x => down ns f x.toNat) ++ l')) (by simp) (by
          obtain ⟨r1, hr1⟩ := hpx
          obtain ⟨r2, hr2⟩ := hl2
          refine ⟨r2 ++ r1.flatMap (fun x => down ns f x.toNat), ?_⟩
          rw [down, ← hr1, List.flatMap_append, List.flatMap_append, List.flatMap_singleton, show ((j : Int)).toNat = j by simp, ← hr2]
          simp [List.append_assoc])
        simpa [List.append_assoc] using this
      have CC := (show Hid _ from IH.out j hdx (m' - 1) Sb _ Wb hGj (hW.trans (hKb.below hW.size)) (by have := hKb.size; omega) (fun i hi => (hKb.sub i hi).1) hJb)
      have HKb := (show Hid (Kz w0.heap.size T S Sb W Wb) from hKb)
      have HNb := (show Hid (∀ j, W.heap.size ≤ j → j < W.heap.size + 3 → ¬ Sb j) from hNb)
      have hlb := blk_lt hXb.2.2
      have HXb := (show Hid (TellBox A l W.heap.size Wb) from hXb)
      clear hJb hKb hXb hNb hGj hpx
      gi_wp2
      refine ⟨trivial, (fun h => by cases h), (CallsIn.inRound l' CC.out).mono ?_⟩
      rintro e Wc ⟨rfl, Sc, hJc, hKc⟩
      have hKc' := HKb.out.trans hKc
      have hXc := TellBox.kz HXb.out hKc HNb.out hT
      have hNc : ∀ i, W.heap.size ≤ i → i < W.heap.size + 3 → ¬ Sc i := fun i h1 h2 hi => by
        rcases (hKc.sub i hi).2 with h | h
        · exact HNb.out i h1 h2 h
        · omega
      have hJc' : J Sc (pre ++ [(k : Int)] ++ (pre' ++ [(j : Int)]).flatMap (fun x => down ns f x.toNat)) Wc := by simpa [List.flatMap_append, List.append_assoc] using hJc
      have END := (show Hid (∃ S', Kz w0.heap.size T Sb S' Wb Wc ∧ J S' (pre ++ [(k : Int)] ++ (pre' ++ [(j : Int)]).flatMap (fun x => down ns f x.toNat)) Wc ∧ Kz w0.heap.size T S S' W Wc ∧ TellBox A l W.heap.size Wc ∧ ∀ i, W.heap.size ≤ i → i < W.heap.size + 3 → ¬ S' i) from ⟨Sc, hKc, hJc', hKc', hXc, hNc⟩)
      clear hKc hJc hJc' hKc' hXc hNc
      gi_wp2
      simpa using END.out
    case done =>
      rintro D Sd Wd hD ⟨hJd, hKd, hXd, hNd⟩ hKdd hDd
      have cR : Wd.cell? ⟨W.heap.size + 1 + 1, 0, none⟩ = some (.bool false) := by simp only [World.cell?, hXd.2.2]; rfl
      have fR : Wd.frozen? ⟨W.heap.size + 1 + 1, 0, none⟩ = false := by simp [World.frozen?, hXd.2.2]
      have hds : (Wd.setCell ⟨W.heap.size + 1 + 1, 0, none⟩ (.bool true)).heap[D]? = some (.deferred (some [])) := (KeepsOthers.setCell Wd ⟨W.heap.size + 1 + 1, 0, none⟩ (.bool true)).same D _ hDd rfl
      have gR := setCell_at (k := 0) (u := .bool true) hXd.2.2
      gi_wp2
      refine ⟨by simp, .inl ⟨_, _, rfl, run_takeDeferred hds, ?_⟩⟩
      have hne : W.heap.size + 1 + 1 ≠ D := fun e => by rw [← e, hXd.2.2] at hDd; cases hDd
      have gR' : ((Wd.setCell ⟨W.heap.size + 1 + 1, 0, none⟩ (.bool true)).putObj D (.deferred none)).heap[W.heap.size + 1 + 1]? = _ := (World.putObj_heap_other hne).trans gR
      have hc : ((Wd.setCell ⟨W.heap.size + 1 + 1, 0, none⟩ (.bool true)).putObj D (.deferred none)).cell? ⟨W.heap.size + 1 + 1, 0, none⟩ = some (.bool true) := by simp only [World.cell?, gR']; rfl
      have hag1 : Agree w0.heap.size n1 T Sd Wd (Wd.setCell ⟨W.heap.size + 1 + 1, 0, none⟩ (.bool true)) := Agree.own (grown_setCell _ _ _ _) (fun r e => by cases e; exact ⟨by omega, by omega, .inl ⟨hNd _ (by omega) (by omega), fun o ho ⟨_, _, _, e, ht⟩ => by rw [hXd.2.2] at ho; cases ho; cases e; exact hT.2.2 ht⟩⟩)
      have hag2 : Agree w0.heap.size n1 T Sd (Wd.setCell ⟨W.heap.size + 1 + 1, 0, none⟩ (.bool true)) ((Wd.setCell ⟨W.heap.size + 1 + 1, 0, none⟩ (.bool true)).putObj D (.deferred none)) := Agree.own (grownBy_putObj' _ _ _) (fun r e => by cases e; exact ⟨by omega, by omega, .inr ⟨_, hds, rfl⟩⟩)
      have e1 : pre ++ [(k : Int)] ++ List.flatMap (fun x => down ns f x.toNat) (kidsOf ns k) = pre ++ down ns (f + 1) k := by simp [down]
      rw [e1] at hJd
      refine ⟨.bool true, ?_, rfl, Sd, hF _ _ _ _ (hF _ _ _ _ hJd hag1) hag2, ?_⟩
      · simp [results, Tryz.f122, go_sem, hc]
      · exact (hKd.own (B := W.heap.size) (Nat.le_refl _) (grown_setCell Wd (W.heap.size + 1 + 1) 0 (.bool true)) (fun r e => by cases e; omega)).own (B := W.heap.size) (Nat.le_refl _) (grownBy_putObj' _ _ _) (fun r e => by cases e; omega)

set_option maxHeartbeats 400000 in
theorem from_tells2 {w0 w : World} {T : TypeId → Prop} (hT : ¬ T 64 ∧ ¬ T 80 ∧ ¬ T 4) {v : Value} {ns : List PNode} {A Ba Bt f k : Nat} (hn : NodesAt w0 v ns) (hA : A < w0.heap.size) (cA : w0.cell? ⟨A, 0, none⟩ = some v) (hlen : ns.length ≤ 1048576) (hk : deepOk ns f k) (hw : Below w0.heap.size w0 w)
    (ca : w.cell? ⟨Ba, 0, none⟩ = some (.pointer (some ⟨A, 0, none⟩))) (ct : w.cell? ⟨Bt, 0, none⟩ = some (.int .i64 (k : Int))) (hBa : Ba < w.heap.size) (hBt : Bt < w.heap.size) :
    SeqTells2 Tryz.prog T 121 #[.pointer (some ⟨Ba, 0, none⟩), .pointer (some ⟨Bt, 0, none⟩)] w0.heap.size (down ns f k) w := by
  intro n l n1 J S W hW hn1 hn0 hSW hF hY h0
  have hb : Below w0.heap.size w0 W := hw.trans (hW.mono hw.size)
  have CC := (show Hid _ from tellFrom_in2 hT hn hA cA hlen J hF (fun l => l <+: down ns f k) hY f k hk 4 S [] W (fun l' _ h => by simpa using h) hb hn1 hSW h0)
  have ca' := (hW.cell (p := ⟨Ba, 0, none⟩) hBa).trans ca
  have ct' := (hW.cell (p := ⟨Bt, 0, none⟩) hBt).trans ct
  refine (callsIn_wide (n := n)).2 ((callsIn_wide (n := 5)).1 ?_)
  refine callsIn_of_wp Tryz.func121 rfl trivial ?_ rfl
  simp only [Tryz.ntmps121, List.size_toArray, List.length_cons, List.length_nil, Nat.reduceAdd, Nat.reduceSub, Array.replicate_succ, Array.replicate_zero, List.push_toArray, List.append_toArray, List.nil_append, List.cons_append]
  gi_wp2
  refine ⟨trivial, CallsIn.mono CC.out ?_⟩
  rintro e W' ⟨rfl, S', hJ', hK'⟩
  gi_wp2
  go_end0
  exact ⟨⟨_, rfl⟩, S', by simpa using hJ', hK'⟩
end Go.Proofs.YtogdbjafibejdaaGreat

/- What the exact law of AttrAdd asks of the program's function, and rows of values that are apart. -/
namespace Go.Proofs.YtogdbjafibejdaaGreat
open Go.RowKit
set_option maxRecDepth 100000
set_option linter.unusedVariables false
end Go.Proofs.YtogdbjafibejdaaGreat

/- The contract of the program's TokenOk. -/
namespace Go.Proofs.YtogdbjafibejdaaGreat
open Go.RowKit
set_option maxRecDepth 100000
set_option linter.unusedVariables false

theorem doctypeNameOk_any (s : ByteArray) (w : World) (hs : s.size ≤ 1048576) : Calls Tryz.prog 109 #[.string s] w fun e w' => e = .returned (.bool (decide (s.size ≤ 60) && utfOk (bs s))) ∧ Below w.heap.size w w' := by
  have c1 := fun w => textOk_any s w (by omega)
  obtain ⟨u, eu⟩ : ∃ u, u = utfOk (bs s) := ⟨_, rfl⟩
  rw [← eu] at c1 ⊢
  have C1 := (show Hid _ from c1)
  clear c1 eu
  by_cases h60 : s.size ≤ 60
  · rw [decide_eq_true h60]
    go_enter Tryz.func109, Tryz.ntmps109
    go_wp2_with fail
    go_at_call 112
    refine (C1.out _).mono ?_
    rintro e w2 ⟨rfl, b2⟩
    go_wp2
    go_ret
    exact ⟨ret_bool (by simp), b2⟩
  · rw [decide_eq_false h60]
    go_enter Tryz.func109, Tryz.ntmps109
    go_wp2
    go_ret
    exact ⟨ret_bool (by simp), Below.refl _ _⟩

end Go.Proofs.YtogdbjafibejdaaGreat

/- The draws of attributes. -/
namespace Go.Proofs.YtogdbjafibejdaaGreat
open Go.RowKit
set_option maxRecDepth 100000
set_option linter.unusedVariables false
theorem row_past {B size n g : Nat} {e : TypeId} {w w' : World} {v : Value} {xs : List Value} (h : w.ownsRow B e size v n xs) (hg : w.grownBy w' (some g)) (hB : g < B) : w'.ownsRow B e size v n xs := by
  by_cases h0 : v.ownBlock = none
  · exact World.ownsRow.kept h hg (.inl h0)
  · obtain ⟨k, hk⟩ := Option.ne_none_iff_exists'.mp h0
    exact World.ownsRow.kept h hg (.inr (by rw [hk]; intro e; injection e with e; have := (World.ownsRow.lt h k hk).1; omega))

end Go.Proofs.YtogdbjafibejdaaGreat

/- The laws' helpers on tokens. -/
namespace Go.Proofs.YtogdbjafibejdaaGreat
open Go.RowKit
set_option maxRecDepth 100000
set_option linter.unusedVariables false
end Go.Proofs.YtogdbjafibejdaaGreat

/- The program's nodeOk. No condition. -/
namespace Go.Proofs.YtogdbjafibejdaaGreat
open Go.RowKit
set_option maxRecDepth 100000
set_option linter.unusedVariables false

theorem natb0 (n : Nat) : ((n : Int) == 0) = decide (n = 0) := by rw [Bool.eq_iff_iff, beq_iff_eq, decide_eq_true_iff]; omega
def empB (s : ByteArray) : Bool := decide (s.toList = [])
def nodeB (k : Int) (nm : ByteArray) (rs : List (ByteArray × ByteArray)) (tx : ByteArray) (nk : Nat) : Bool :=
  if k = 1 then empB nm && decide (rs.length = 0) && empB tx
  else if k = 2 then (decide (nm.size ≤ 60) && utfOk (bs nm)) && decide (rs.length = 0) && empB tx && decide (nk = 0)
  else if k = 3 then nameOk (bs nm) && attrsOk rs && empB tx
  else if k = 4 then !empB tx && utfOk (bs tx) && empB nm && decide (rs.length = 0) && decide (nk = 0)
  else if k = 5 then utfOk (bs tx) && empB nm && decide (rs.length = 0) && decide (nk = 0)
  else false

set_option maxHeartbeats 1000000 in
theorem inode_page {w : World} (nm tx : ByteArray) (p : Int) {a ka : Option Addr} {na ca nk kc : Nat} :
    Calls Tryz.prog 59 #[.agg #[.int .i64 1, .string nm, .slice a na ca, .string tx, .int .i64 p, .slice ka nk kc]] w fun e w' => e = .returned (.bool (empB nm && decide (na = 0) && empB tx)) ∧ Below w.heap.size w w' := by
  unfold empB
  go_enter Tryz.func59, Tryz.ntmps59
  go_wp2
  all_goals (go_ret; exact ⟨ret_bool (by simp [*]), ((Below.refl _ _).alloc (Nat.le_refl _) _).alloc (by simp) _⟩)

set_option maxHeartbeats 1000000 in
theorem inode_doc {w : World} (nm tx : ByteArray) (p : Int) {a ka : Option Addr} {na ca nk kc : Nat} (hnm : nm.size ≤ 1048576) (htx : tx.size ≤ 1048576) :
    Calls Tryz.prog 59 #[.agg #[.int .i64 2, .string nm, .slice a na ca, .string tx, .int .i64 p, .slice ka nk kc]] w fun e w' => e = .returned (.bool ((decide (nm.size ≤ 60) && utfOk (bs nm)) && decide (na = 0) && empB tx && decide (nk = 0))) ∧ Below w.heap.size w w' := by
  have b1 : Below w.heap.size w ((w.alloc (.cells #[.int .i64 2, .string nm, .slice a na ca, .string tx, .int .i64 p, .slice ka nk kc] 36)).alloc (.cells #[.int .i64 2, .string nm, .slice a na ca, .string tx, .int .i64 p, .slice ka nk kc] 36)) := ((Below.refl _ _).alloc (Nat.le_refl _) _).alloc (by simp) _
  have hx0 : ((w.alloc (.cells #[.int .i64 2, .string nm, .slice a na ca, .string tx, .int .i64 p, .slice ka nk kc] 36)).alloc (.cells #[.int .i64 2, .string nm, .slice a na ca, .string tx, .int .i64 p, .slice ka nk kc] 36)).heap[w.heap.size + 1]? = some (.cells #[.int .i64 2, .string nm, .slice a na ca, .string tx, .int .i64 p, .slice ka nk kc] 36 (0, 0)) := by
    have := World.alloc_heap_new (w.alloc (.cells #[.int .i64 2, .string nm, .slice a na ca, .string tx, .int .i64 p, .slice ka nk kc] 36)) (.cells #[.int .i64 2, .string nm, .slice a na ca, .string tx, .int .i64 p, .slice ka nk kc] 36)
    rwa [World.size_alloc] at this
  have HX0 := (show Hid _ from hx0)
  have c1 := fun w => doctypeNameOk_any nm w (by omega)
  obtain ⟨u, eu⟩ : ∃ u, u = (decide (nm.size ≤ 60) && utfOk (bs nm)) := ⟨_, rfl⟩
  rw [← eu] at c1 ⊢
  have C1 := (show Hid _ from c1)
  clear c1 eu hx0
  unfold empB
  go_enter Tryz.func59, Tryz.ntmps59
  go_wp2_with fail
  go_at_call 109
  refine (C1.out _).mono ?_
  rintro e w3 ⟨rfl, b3⟩
  have hx := (b3.block (w.heap.size + 1) (by simp)).trans HX0.out
  have x0 : w3.cell? ⟨w.heap.size + 1, 0, none⟩ = some (.int .i64 2) := by simp only [World.cell?, hx]; rfl
  have f0 : w3.frozen? ⟨w.heap.size + 1, 0, none⟩ = false := by simp only [World.frozen?, hx]; rfl
  have x1 : w3.cell? ⟨w.heap.size + 1, 1, none⟩ = some (.string nm) := by simp only [World.cell?, hx]; rfl
  have f1 : w3.frozen? ⟨w.heap.size + 1, 1, none⟩ = false := by simp only [World.frozen?, hx]; rfl
  have x2 : w3.cell? ⟨w.heap.size + 1, 2, none⟩ = some (.slice a na ca) := by simp only [World.cell?, hx]; rfl
  have f2 : w3.frozen? ⟨w.heap.size + 1, 2, none⟩ = false := by simp only [World.frozen?, hx]; rfl
  have x3 : w3.cell? ⟨w.heap.size + 1, 3, none⟩ = some (.string tx) := by simp only [World.cell?, hx]; rfl
  have f3 : w3.frozen? ⟨w.heap.size + 1, 3, none⟩ = false := by simp only [World.frozen?, hx]; rfl
  have x4 : w3.cell? ⟨w.heap.size + 1, 4, none⟩ = some (.int .i64 p) := by simp only [World.cell?, hx]; rfl
  have f4 : w3.frozen? ⟨w.heap.size + 1, 4, none⟩ = false := by simp only [World.frozen?, hx]; rfl
  have x5 : w3.cell? ⟨w.heap.size + 1, 5, none⟩ = some (.slice ka nk kc) := by simp only [World.cell?, hx]; rfl
  have f5 : w3.frozen? ⟨w.heap.size + 1, 5, none⟩ = false := by simp only [World.frozen?, hx]; rfl
  replace b3 := b1.trans (b3.mono b1.size)
  have hlt := lt_of_block hx
  clear hx HX0
  cases u <;> go_wp2
  all_goals (go_ret; exact ⟨ret_bool (by first | (simp [*]; done) | simp [*, natb0]), b3.setCell (Nat.le_succ _) _⟩)

set_option maxHeartbeats 1000000 in
theorem inode_com {w : World} (nm tx : ByteArray) (p : Int) {a ka : Option Addr} {na ca nk kc : Nat} (hnm : nm.size ≤ 1048576) (htx : tx.size ≤ 1048576) :
    Calls Tryz.prog 59 #[.agg #[.int .i64 5, .string nm, .slice a na ca, .string tx, .int .i64 p, .slice ka nk kc]] w fun e w' => e = .returned (.bool (utfOk (bs tx) && empB nm && decide (na = 0) && decide (nk = 0))) ∧ Below w.heap.size w w' := by
  have b1 : Below w.heap.size w ((w.alloc (.cells #[.int .i64 5, .string nm, .slice a na ca, .string tx, .int .i64 p, .slice ka nk kc] 36)).alloc (.cells #[.int .i64 5, .string nm, .slice a na ca, .string tx, .int .i64 p, .slice ka nk kc] 36)) := ((Below.refl _ _).alloc (Nat.le_refl _) _).alloc (by simp) _
  have hx0 : ((w.alloc (.cells #[.int .i64 5, .string nm, .slice a na ca, .string tx, .int .i64 p, .slice ka nk kc] 36)).alloc (.cells #[.int .i64 5, .string nm, .slice a na ca, .string tx, .int .i64 p, .slice ka nk kc] 36)).heap[w.heap.size + 1]? = some (.cells #[.int .i64 5, .string nm, .slice a na ca, .string tx, .int .i64 p, .slice ka nk kc] 36 (0, 0)) := by
    have := World.alloc_heap_new (w.alloc (.cells #[.int .i64 5, .string nm, .slice a na ca, .string tx, .int .i64 p, .slice ka nk kc] 36)) (.cells #[.int .i64 5, .string nm, .slice a na ca, .string tx, .int .i64 p, .slice ka nk kc] 36)
    rwa [World.size_alloc] at this
  have HX0 := (show Hid _ from hx0)
  have c1 := fun w => textOk_any tx w (by omega)
  obtain ⟨u, eu⟩ : ∃ u, u = utfOk (bs tx) := ⟨_, rfl⟩
  rw [← eu] at c1 ⊢
  have C1 := (show Hid _ from c1)
  clear c1 eu hx0
  unfold empB
  go_enter Tryz.func59, Tryz.ntmps59
  go_wp2_with fail
  go_at_call 112
  refine (C1.out _).mono ?_
  rintro e w3 ⟨rfl, b3⟩
  have hx := (b3.block (w.heap.size + 1) (by simp)).trans HX0.out
  have x0 : w3.cell? ⟨w.heap.size + 1, 0, none⟩ = some (.int .i64 5) := by simp only [World.cell?, hx]; rfl
  have f0 : w3.frozen? ⟨w.heap.size + 1, 0, none⟩ = false := by simp only [World.frozen?, hx]; rfl
  have x1 : w3.cell? ⟨w.heap.size + 1, 1, none⟩ = some (.string nm) := by simp only [World.cell?, hx]; rfl
  have f1 : w3.frozen? ⟨w.heap.size + 1, 1, none⟩ = false := by simp only [World.frozen?, hx]; rfl
  have x2 : w3.cell? ⟨w.heap.size + 1, 2, none⟩ = some (.slice a na ca) := by simp only [World.cell?, hx]; rfl
  have f2 : w3.frozen? ⟨w.heap.size + 1, 2, none⟩ = false := by simp only [World.frozen?, hx]; rfl
  have x3 : w3.cell? ⟨w.heap.size + 1, 3, none⟩ = some (.string tx) := by simp only [World.cell?, hx]; rfl
  have f3 : w3.frozen? ⟨w.heap.size + 1, 3, none⟩ = false := by simp only [World.frozen?, hx]; rfl
  have x4 : w3.cell? ⟨w.heap.size + 1, 4, none⟩ = some (.int .i64 p) := by simp only [World.cell?, hx]; rfl
  have f4 : w3.frozen? ⟨w.heap.size + 1, 4, none⟩ = false := by simp only [World.frozen?, hx]; rfl
  have x5 : w3.cell? ⟨w.heap.size + 1, 5, none⟩ = some (.slice ka nk kc) := by simp only [World.cell?, hx]; rfl
  have f5 : w3.frozen? ⟨w.heap.size + 1, 5, none⟩ = false := by simp only [World.frozen?, hx]; rfl
  replace b3 := b1.trans (b3.mono b1.size)
  have hlt := lt_of_block hx
  clear hx HX0
  cases u <;> go_wp2
  all_goals (go_ret; exact ⟨ret_bool (by first | (simp [*]; done) | simp [*, natb0]), b3.setCell (Nat.le_succ _) _⟩)

set_option maxHeartbeats 1000000 in
theorem inode_elem {w : World} (nm tx : ByteArray) (p : Int) {a ka : Option Addr} {na ca nk kc : Nat} {rs : List (ByteArray × ByteArray)} (hav : Sv 2 w (.slice a na ca) (pairCells rs)) (hnm : nm.size ≤ 1048576) (htx : tx.size ≤ 1048576) (hrs : rs.length ≤ 1048576) (hrr : ∀ p ∈ rs, p.1.size ≤ 1099511627776 ∧ p.2.size ≤ 1099511627776) :
    Calls Tryz.prog 59 #[.agg #[.int .i64 3, .string nm, .slice a na ca, .string tx, .int .i64 p, .slice ka nk kc]] w fun e w' => e = .returned (.bool (nameOk (bs nm) && attrsOk rs && empB tx)) ∧ Below w.heap.size w w' := by
  have b1 : Below w.heap.size w ((w.alloc (.cells #[.int .i64 3, .string nm, .slice a na ca, .string tx, .int .i64 p, .slice ka nk kc] 36)).alloc (.cells #[.int .i64 3, .string nm, .slice a na ca, .string tx, .int .i64 p, .slice ka nk kc] 36)) := ((Below.refl _ _).alloc (Nat.le_refl _) _).alloc (by simp) _
  have hx0 : ((w.alloc (.cells #[.int .i64 3, .string nm, .slice a na ca, .string tx, .int .i64 p, .slice ka nk kc] 36)).alloc (.cells #[.int .i64 3, .string nm, .slice a na ca, .string tx, .int .i64 p, .slice ka nk kc] 36)).heap[w.heap.size + 1]? = some (.cells #[.int .i64 3, .string nm, .slice a na ca, .string tx, .int .i64 p, .slice ka nk kc] 36 (0, 0)) := by
    have := World.alloc_heap_new (w.alloc (.cells #[.int .i64 3, .string nm, .slice a na ca, .string tx, .int .i64 p, .slice ka nk kc] 36)) (.cells #[.int .i64 3, .string nm, .slice a na ca, .string tx, .int .i64 p, .slice ka nk kc] 36)
    rwa [World.size_alloc] at this
  have hy0 : ((w.alloc (.cells #[.int .i64 3, .string nm, .slice a na ca, .string tx, .int .i64 p, .slice ka nk kc] 36)).alloc (.cells #[.int .i64 3, .string nm, .slice a na ca, .string tx, .int .i64 p, .slice ka nk kc] 36)).heap[w.heap.size]? = some (.cells #[.int .i64 3, .string nm, .slice a na ca, .string tx, .int .i64 p, .slice ka nk kc] 36 (0, 0)) := by
    rw [Below.heap_alloc _ _ _ (by simp)]
    exact World.alloc_heap_new _ _
  have HX0 := (show Hid _ from hx0)
  have HY0 := (show Hid _ from hy0)
  have c1 := fun w => inameOk_any nm w (by omega)
  have c2 : ∀ w', Below w.heap.size w w' → Calls Tryz.prog 111 #[.slice a na ca] w' fun e w'' => e = .returned (.bool (attrsOk rs)) ∧ Below w'.heap.size w' w'' := fun w' hb => iattrsOk_any (hav.below hb) (by omega) hrr
  obtain ⟨u, eu⟩ : ∃ u, u = nameOk (bs nm) := ⟨_, rfl⟩
  obtain ⟨u2, eu2⟩ : ∃ u2, u2 = attrsOk rs := ⟨_, rfl⟩
  rw [← eu] at c1 ⊢
  rw [← eu2] at c2 ⊢
  have C1 := (show Hid _ from c1)
  have C2 := (show Hid _ from c2)
  clear c1 c2 eu eu2 hx0 hy0 hav hrr
  unfold empB
  go_enter Tryz.func59, Tryz.ntmps59
  go_wp2_with fail
  go_at_call 110
  refine (C1.out _).mono ?_
  rintro e w3 ⟨rfl, b3⟩
  have hx := (b3.block (w.heap.size + 1) (by simp)).trans HX0.out
  have hy := (b3.block w.heap.size (by simp; omega)).trans HY0.out
  have y2 : w3.cell? ⟨w.heap.size, 2, none⟩ = some (.slice a na ca) := by simp only [World.cell?, hy]; rfl
  replace b3 := b1.trans (b3.mono b1.size)
  have hlt := lt_of_block hx
  cases u
  · have HX := (show Hid _ from hx)
    have x0 : w3.cell? ⟨w.heap.size + 1, 0, none⟩ = some (.int .i64 3) := by simp only [World.cell?, hx]; rfl
    have f0 : w3.frozen? ⟨w.heap.size + 1, 0, none⟩ = false := by simp only [World.frozen?, hx]; rfl
    have x1 : w3.cell? ⟨w.heap.size + 1, 1, none⟩ = some (.string nm) := by simp only [World.cell?, hx]; rfl
    have f1 : w3.frozen? ⟨w.heap.size + 1, 1, none⟩ = false := by simp only [World.frozen?, hx]; rfl
    have x2 : w3.cell? ⟨w.heap.size + 1, 2, none⟩ = some (.slice a na ca) := by simp only [World.cell?, hx]; rfl
    have f2 : w3.frozen? ⟨w.heap.size + 1, 2, none⟩ = false := by simp only [World.frozen?, hx]; rfl
    have x3 : w3.cell? ⟨w.heap.size + 1, 3, none⟩ = some (.string tx) := by simp only [World.cell?, hx]; rfl
    have f3 : w3.frozen? ⟨w.heap.size + 1, 3, none⟩ = false := by simp only [World.frozen?, hx]; rfl
    have x4 : w3.cell? ⟨w.heap.size + 1, 4, none⟩ = some (.int .i64 p) := by simp only [World.cell?, hx]; rfl
    have f4 : w3.frozen? ⟨w.heap.size + 1, 4, none⟩ = false := by simp only [World.frozen?, hx]; rfl
    have x5 : w3.cell? ⟨w.heap.size + 1, 5, none⟩ = some (.slice ka nk kc) := by simp only [World.cell?, hx]; rfl
    have f5 : w3.frozen? ⟨w.heap.size + 1, 5, none⟩ = false := by simp only [World.frozen?, hx]; rfl
    clear hx hy HX0 HY0
    go_wp2
    all_goals (go_ret; exact ⟨ret_bool (by simp [*]), ((b3.setCell (Nat.le_succ _) _).setCell (Nat.le_succ _) _).setCell (Nat.le_succ _) _⟩)
  · have HX := (show Hid _ from hx)
    clear hx hy HX0 HY0
    go_wp2_with fail
    go_at_call 111
    refine (C2.out _ b3).mono ?_
    rintro e w4 ⟨rfl, b4⟩
    have hx := (b4.block (w.heap.size + 1) hlt).trans HX.out
    replace b4 := b3.trans (b4.mono b3.size)
    have x0 : w4.cell? ⟨w.heap.size + 1, 0, none⟩ = some (.int .i64 3) := by simp only [World.cell?, hx]; rfl
    have f0 : w4.frozen? ⟨w.heap.size + 1, 0, none⟩ = false := by simp only [World.frozen?, hx]; rfl
    have x1 : w4.cell? ⟨w.heap.size + 1, 1, none⟩ = some (.string nm) := by simp only [World.cell?, hx]; rfl
    have f1 : w4.frozen? ⟨w.heap.size + 1, 1, none⟩ = false := by simp only [World.frozen?, hx]; rfl
    have x2 : w4.cell? ⟨w.heap.size + 1, 2, none⟩ = some (.slice a na ca) := by simp only [World.cell?, hx]; rfl
    have f2 : w4.frozen? ⟨w.heap.size + 1, 2, none⟩ = false := by simp only [World.frozen?, hx]; rfl
    have x3 : w4.cell? ⟨w.heap.size + 1, 3, none⟩ = some (.string tx) := by simp only [World.cell?, hx]; rfl
    have f3 : w4.frozen? ⟨w.heap.size + 1, 3, none⟩ = false := by simp only [World.frozen?, hx]; rfl
    have x4 : w4.cell? ⟨w.heap.size + 1, 4, none⟩ = some (.int .i64 p) := by simp only [World.cell?, hx]; rfl
    have f4 : w4.frozen? ⟨w.heap.size + 1, 4, none⟩ = false := by simp only [World.frozen?, hx]; rfl
    have x5 : w4.cell? ⟨w.heap.size + 1, 5, none⟩ = some (.slice ka nk kc) := by simp only [World.cell?, hx]; rfl
    have f5 : w4.frozen? ⟨w.heap.size + 1, 5, none⟩ = false := by simp only [World.frozen?, hx]; rfl
    have hlt' := lt_of_block hx
    clear hx HX hlt b3
    cases u2 <;> go_wp2
    all_goals (go_ret; exact ⟨ret_bool (by simp [*]), ((b4.setCell (Nat.le_succ _) _).setCell (Nat.le_succ _) _).setCell (Nat.le_succ _) _⟩)

set_option maxHeartbeats 1000000 in
theorem inode_text0 {w : World} (nm tx : ByteArray) (p : Int) {a ka : Option Addr} {na ca nk kc : Nat} (hte : tx.toList = []) :
    Calls Tryz.prog 59 #[.agg #[.int .i64 4, .string nm, .slice a na ca, .string tx, .int .i64 p, .slice ka nk kc]] w fun e w' => e = .returned (.bool (false)) ∧ Below w.heap.size w w' := by
  go_enter Tryz.func59, Tryz.ntmps59
  go_wp2
  all_goals (go_ret; exact ⟨ret_bool (by simp), ((Below.refl _ _).alloc (Nat.le_refl _) _).alloc (by simp) _⟩)

set_option maxHeartbeats 1000000 in
theorem inode_text {w : World} (nm tx : ByteArray) (p : Int) {a ka : Option Addr} {na ca nk kc : Nat} (hnm : nm.size ≤ 1048576) (htx : tx.size ≤ 1048576) (hte : ¬ tx.toList = []) :
    Calls Tryz.prog 59 #[.agg #[.int .i64 4, .string nm, .slice a na ca, .string tx, .int .i64 p, .slice ka nk kc]] w fun e w' => e = .returned (.bool (utfOk (bs tx) && empB nm && decide (na = 0) && decide (nk = 0))) ∧ Below w.heap.size w w' := by
  have b1 : Below w.heap.size w ((w.alloc (.cells #[.int .i64 4, .string nm, .slice a na ca, .string tx, .int .i64 p, .slice ka nk kc] 36)).alloc (.cells #[.int .i64 4, .string nm, .slice a na ca, .string tx, .int .i64 p, .slice ka nk kc] 36)) := ((Below.refl _ _).alloc (Nat.le_refl _) _).alloc (by simp) _
  have hx0 : ((w.alloc (.cells #[.int .i64 4, .string nm, .slice a na ca, .string tx, .int .i64 p, .slice ka nk kc] 36)).alloc (.cells #[.int .i64 4, .string nm, .slice a na ca, .string tx, .int .i64 p, .slice ka nk kc] 36)).heap[w.heap.size + 1]? = some (.cells #[.int .i64 4, .string nm, .slice a na ca, .string tx, .int .i64 p, .slice ka nk kc] 36 (0, 0)) := by
    have := World.alloc_heap_new (w.alloc (.cells #[.int .i64 4, .string nm, .slice a na ca, .string tx, .int .i64 p, .slice ka nk kc] 36)) (.cells #[.int .i64 4, .string nm, .slice a na ca, .string tx, .int .i64 p, .slice ka nk kc] 36)
    rwa [World.size_alloc] at this
  have HX0 := (show Hid _ from hx0)
  have c1 := fun w => textOk_any tx w (by omega)
  obtain ⟨u, eu⟩ : ∃ u, u = utfOk (bs tx) := ⟨_, rfl⟩
  rw [← eu] at c1 ⊢
  have C1 := (show Hid _ from c1)
  clear c1 eu hx0
  unfold empB
  go_enter Tryz.func59, Tryz.ntmps59
  go_wp2_with fail
  go_at_call 112
  refine (C1.out _).mono ?_
  rintro e w3 ⟨rfl, b3⟩
  have hx := (b3.block (w.heap.size + 1) (by simp)).trans HX0.out
  have x0 : w3.cell? ⟨w.heap.size + 1, 0, none⟩ = some (.int .i64 4) := by simp only [World.cell?, hx]; rfl
  have f0 : w3.frozen? ⟨w.heap.size + 1, 0, none⟩ = false := by simp only [World.frozen?, hx]; rfl
  have x1 : w3.cell? ⟨w.heap.size + 1, 1, none⟩ = some (.string nm) := by simp only [World.cell?, hx]; rfl
  have f1 : w3.frozen? ⟨w.heap.size + 1, 1, none⟩ = false := by simp only [World.frozen?, hx]; rfl
  have x2 : w3.cell? ⟨w.heap.size + 1, 2, none⟩ = some (.slice a na ca) := by simp only [World.cell?, hx]; rfl
  have f2 : w3.frozen? ⟨w.heap.size + 1, 2, none⟩ = false := by simp only [World.frozen?, hx]; rfl
  have x3 : w3.cell? ⟨w.heap.size + 1, 3, none⟩ = some (.string tx) := by simp only [World.cell?, hx]; rfl
  have f3 : w3.frozen? ⟨w.heap.size + 1, 3, none⟩ = false := by simp only [World.frozen?, hx]; rfl
  have x4 : w3.cell? ⟨w.heap.size + 1, 4, none⟩ = some (.int .i64 p) := by simp only [World.cell?, hx]; rfl
  have f4 : w3.frozen? ⟨w.heap.size + 1, 4, none⟩ = false := by simp only [World.frozen?, hx]; rfl
  have x5 : w3.cell? ⟨w.heap.size + 1, 5, none⟩ = some (.slice ka nk kc) := by simp only [World.cell?, hx]; rfl
  have f5 : w3.frozen? ⟨w.heap.size + 1, 5, none⟩ = false := by simp only [World.frozen?, hx]; rfl
  replace b3 := b1.trans (b3.mono b1.size)
  have hlt := lt_of_block hx
  clear hx HX0
  cases u <;> go_wp2
  all_goals (go_ret; exact ⟨ret_bool (by first | (simp [*]; done) | simp [*, natb0]), b3.setCell (Nat.le_succ _) _⟩)

set_option maxHeartbeats 1000000 in
theorem inode_other {w : World} (nm tx : ByteArray) (p : Int) {a ka : Option Addr} {na ca nk kc : Nat} (k : Int) (h1 : k ≠ 1) (h2 : k ≠ 2) (h3 : k ≠ 3) (h4 : k ≠ 4) (h5 : k ≠ 5) :
    Calls Tryz.prog 59 #[.agg #[.int .i64 (k), .string nm, .slice a na ca, .string tx, .int .i64 p, .slice ka nk kc]] w fun e w' => e = .returned (.bool (false)) ∧ Below w.heap.size w w' := by
  go_enter Tryz.func59, Tryz.ntmps59
  go_wp2
  all_goals (go_ret; exact ⟨ret_bool (by simp), ((Below.refl _ _).alloc (Nat.le_refl _) _).alloc (by simp) _⟩)

theorem inodeOk_any {w : World} (k : Int) (nm tx : ByteArray) (p : Int) {a ka : Option Addr} {na ca nk kc : Nat} {rs : List (ByteArray × ByteArray)} (hav : Sv 2 w (.slice a na ca) (pairCells rs)) (hnm : nm.size ≤ 1048576) (htx : tx.size ≤ 1048576) (hrs : rs.length ≤ 1048576) (hrr : ∀ p ∈ rs, p.1.size ≤ 1099511627776 ∧ p.2.size ≤ 1099511627776) :
    Calls Tryz.prog 59 #[.agg #[.int .i64 k, .string nm, .slice a na ca, .string tx, .int .i64 p, .slice ka nk kc]] w fun e w' => e = .returned (.bool (nodeB k nm rs tx nk)) ∧ Below w.heap.size w w' := by
  obtain ⟨_, _, ev, _⟩ := hav.pair
  have hna : na = rs.length := by cases ev; rfl
  unfold nodeB
  by_cases h1 : k = 1
  · subst h1
    rw [if_pos rfl, ← hna]
    exact inode_page nm tx p
  rw [if_neg h1]
  by_cases h2 : k = 2
  · subst h2
    rw [if_pos rfl, ← hna]
    exact inode_doc nm tx p hnm htx
  rw [if_neg h2]
  by_cases h3 : k = 3
  · subst h3
    rw [if_pos rfl]
    exact inode_elem nm tx p hav hnm htx hrs hrr
  rw [if_neg h3]
  by_cases h4 : k = 4
  · subst h4
    rw [if_pos rfl, ← hna]
    by_cases hte : tx.toList = []
    · rw [show empB tx = true by simp [empB, hte]]
      exact inode_text0 nm tx p hte
    · rw [show empB tx = false by simp [empB, hte]]
      exact inode_text nm tx p hnm htx hte
  rw [if_neg h4]
  by_cases h5 : k = 5
  · subst h5
    rw [if_pos rfl, ← hna]
    exact inode_com nm tx p hnm htx
  rw [if_neg h5]
  exact inode_other nm tx p k h1 h2 h3 h4 h5
end Go.Proofs.YtogdbjafibejdaaGreat
