/- append of integers that tells its block: the old one, or a new one (AppB's, for seats of other chapters). No condition. -/
import Derived.Test.YtmpgbonolmmcpaaV1
import Derived.Laws.Append
import Derived.Test.YtmpgbonolmmcpaaV28
import Derived.Test.YtmpgbonolmmcpaaV22
import Derived.Test.YtmpgbonolmmcpaaV17
import Derived.Test.YtmpgbonolmmcpaaV16
namespace Go.Proofs.Ytmpgbonolmmcpaa
open Go.RowKit
set_option maxRecDepth 100000
set_option linter.unusedVariables false

theorem run_blkT {P : Program} (w : World) (base : Nat) (t ty e : TypeId) (i : TypeInfo) (z : Value) (size bytes : Nat) (ht : P.underlying t = some (.slice e)) (hi : P.info? e = some i) (hz : i.zero = some z)
    (hsize : i.size = size) (hby : i.bytes = bytes) (r n cap : Nat) (xs : List Value) (hown : w.ownsRow base e size (.slice (some ⟨r, 0, none⟩) n cap) n xs)
    (a : Addr) (m c : Nat) (news : List Value) (hl : news.length = m * size) (hnews : ∀ j u, news[j]? = some u → w.cell? (a.add j) = some u) (h1 : ∀ u ∈ news, u.oneCell' = true)
    (h63 : n + m ≤ maxLen) (hbytes : (n + m) * bytes ≤ 140737488355328) {v' : Value} {w' : World} (hr : (Builtin.append_ #[t, t] ty #[.slice (some ⟨r, 0, none⟩) n cap, .slice (some a) m c]).run P w = .ok v' w') :
    ∃ r' cap', v' = .slice (some ⟨r', 0, none⟩) (n + m) cap' ∧ (r' = r ∨ r' = w.heap.size) := by
  subst hsize
  subst hby
  have hsmall : n + m ≤ 9223372036854775807 := by simp only [maxLen] at h63; omega
  rcases hown.2 with ⟨e1, _⟩ | ⟨g, cap', cur, e1, hbg, hg, hnc, hcm, hcs, htake⟩
  · cases e1
  · cases e1
    by_cases hroom : n + m ≤ cap
    · have hfit : n * i.size + news.length ≤ cur.size := by rw [hl, hcs, ← Nat.add_mul]; exact Nat.mul_le_mul_right _ hroom
      have hr2 := run_append_room (P := P) w t ty e i ht hi r n cap cur hg a m c news hl hnews h1 hroom hfit
      rw [hr] at hr2
      cases hr2
      exact ⟨_, _, rfl, .inl rfl⟩
    · have holds : ∀ j u, xs[j]? = some u → w.cell? ((⟨r, 0, none⟩ : Addr).add j) = some u := hown.cells (g := r) rfl
      have hr2 := run_append_grow (P := P) w t ty e i z ht hi hz ⟨r, 0, none⟩ n cap xs hown.1 holds a m c news hl hnews (by omega) (by omega) (growslice_fits (by omega) hbytes)
      rw [hr] at hr2
      cases hr2
      exact ⟨_, _, rfl, .inr rfl⟩

/-- 'v = append(v, u...)' for integers: where the new one lies. -/
theorem wpList_appT {P : Program} (w : World) {ops : Array Oper} {rest : List Oper} {o : Oper} {a : Act} {Q : Exit → Act → World → Prop} (hgd : o.guard = none)
    (s x : Operand) (t : TypeId) (ho : o.op = Op.call { callee := Callee.builtin Builtin.append, args := #[s, x], argTypes := #[t, t] }) (B : Nat) (e : TypeId) (i : TypeInfo)
    (z : Value) (bytes : Nat) (ht : P.underlying t = some (TypeDesc.slice e)) (hi : P.info? e = some i) (hz : i.zero = some z) (hsize : i.size = 1) (hby : i.bytes = bytes)
    (hzs : z.cells.size = 1) (K : IntKind) (r cap : Nat) (xs : List Int) (ad : Addr) (c : Nat) (ys : List Int) (hs : a.eval s = .slice (some ⟨r, 0, none⟩) xs.length cap) (hx : a.eval x = .slice (some ad) ys.length c) (hown : Own B e K w (.slice (some ⟨r, 0, none⟩) xs.length cap) xs) (hu : Sl K w (.slice (some ad) ys.length c) ys)
    (hb : (xs.length + ys.length) * bytes ≤ 140737488355328) (h63 : xs.length + ys.length ≤ maxLen) (hbase : B ≤ w.heap.size)
    (h : ∀ (r' cap' : Nat) (w' : World), Own B e K w' (.slice (some ⟨r', 0, none⟩) (xs.length + ys.length) cap') (xs ++ ys) → w.grownBy w' (some r) → (r' = r ∨ r' = w.heap.size) → wpList P ops Q rest (a.put o.dst (.slice (some ⟨r', 0, none⟩) (xs.length + ys.length) cap')) w') :
    wpList P ops Q (o :: rest) a w := by
  obtain ⟨ao, cap0, e1, hlc, hcm, hnone, hc⟩ := hu
  cases e1
  obtain ⟨v', w', hr, h2, h3, h4⟩ := run_append_own (P := P) w B t o.type e i z 1 bytes ht hi hz hsize hby hzs (by decide) _ xs.length (xs.map (Value.int K)) hown ad ys.length c (ys.map (Value.int K)) (by simp) (Sl.news hc) (ints_oneCell K ys) h63 hb hbase
  obtain ⟨r', cap', rfl, hrr⟩ := run_blkT w B t o.type e i z 1 bytes ht hi hz hsize hby r xs.length cap (xs.map (Value.int K)) hown ad ys.length c (ys.map (Value.int K)) (by simp) (Sl.news hc) (ints_oneCell K ys) h63 hb hr
  refine wpList_plain hgd fun _ hK => ?_
  unfold Oper.wp execOp
  simp only [ho, resolve, invoke, builtin, Sem.run_bind, Sem.run_pure, Result.andThen_ok, List.map_toArray, List.map_cons, List.map_nil, hs, hx, hr]
  refine hK _ _ (h r' cap' w' ?_ h3 hrr)
  unfold Own
  rw [List.length_append, List.map_append]; exact h2

end Go.Proofs.Ytmpgbonolmmcpaa

/- The draw of the bytes of records. No condition. -/
namespace Go.Proofs.Ytmpgbonolmmcpaa
open Go.RowKit
set_option maxRecDepth 100000
set_option linter.unusedVariables false

theorem recL_len97 {r : PRec} (h : recD r) : (recL r).length ≤ 97 := by
  obtain ⟨_, _, h1, h2⟩ := h
  have f1 := form_len r.kind
  have f2 := textForm_len r.url
  have f3 := textForm_len r.body
  unfold recL
  rw [List.length_append, List.length_append]
  split
  · omega
  · simp only [List.length_nil]; omega
theorem textForm_byte {s : ByteArray} (h : s.size ≤ 1099511627776) : ∀ y ∈ textForm s, 0 ≤ y ∧ y ≤ 255 := bytes_app (form_byte (by omega)) (bs_byte s)
theorem recL_byte {r : PRec} (hk : r.kind ≤ 1099511627776) (hu : r.url.size ≤ 1099511627776) (hb : r.body.size ≤ 1099511627776) : ∀ y ∈ recL r, 0 ≤ y ∧ y ≤ 255 := by
  unfold recL
  refine bytes_app (bytes_app (form_byte (by omega)) (textForm_byte hu)) ?_
  split
  · exact textForm_byte hb
  · intro y hy; cases hy
theorem own_setB {B g n cap : Nat} {e : TypeId} {K : IntKind} {w : World} {xs : List Int} (h : Own B e K w (.slice (some ⟨g, 0, none⟩) n cap) xs) (hn : n = xs.length) (k : Nat) (hk : k < xs.length) (x : Int) :
    Own B e K (w.setCell ⟨g, k, none⟩ (.int K x)) (.slice (some ⟨g, 0, none⟩) n cap) (xs.set k x) ∧ w.grownBy (w.setCell ⟨g, k, none⟩ (.int K x)) (some g) := by
  subst hn
  obtain ⟨h1, h2⟩ := World.ownsRow.stored h k (.int K x)
  refine ⟨?_, h2⟩
  unfold Own
  rw [List.length_set, List.map_set]
  exact h1

theorem own_cap {B r n cap : Nat} {e : TypeId} {K : IntKind} {w : World} {xs : List Int} (h : Own B e K w (.slice (some ⟨r, 0, none⟩) n cap) xs) : n ≤ cap ∧ cap ≤ maxLen := by
  rcases h.shape with ⟨e, _⟩ | ⟨g, c, e, _, _, h1, h2⟩
  · cases e
  · cases e
    exact ⟨h1, h2⟩

set_option maxHeartbeats 2000000 in
set_option maxRecDepth 100000 in
theorem drawRB_any {w0 : World} {g : Nat} {v : Value} {xs : List Int} {w : World} (h : Cur w0 g v xs w) (hb : ∀ x ∈ xs, 0 ≤ x ∧ x ≤ 255) :
    Calls Try.prog 59 #[.pointer (some ⟨g, 0, none⟩)] w fun e w' => ∃ (u : Value) (zs : List Int), e = .returned u ∧ Sl .u8 w' u zs ∧ zs.length ≤ 1000 ∧ (∀ y ∈ zs, 0 ≤ y ∧ y ≤ 255) ∧ Cur w0 g v xs w' ∧ w.grownBy w' (some g) := by
  have HB : Hid (∀ x ∈ xs, 0 ≤ x ∧ x ≤ 255) := hb
  have hgl := h.lt
  have hw0 : w0.heap.size ≤ w.heap.size := h.2.2.1.size
  obtain ⟨i0, hi, hz0, hz1, hz2⟩ := info_parts Try.infoB
  clear hb
  have o1 : Own w.heap.size 5 .u8 (w.alloc (.cells #[] 5)) (.slice (some ⟨w.heap.size, 0, none⟩) 0 0) [] := own_empty 5 .u8 w
  have k1 := h.below ((Below.refl _ _).alloc (Nat.le_refl _) (.cells #[] 5))
  have G1 := (show Hid (w.grownBy _ (some g)) from World.grownBy_alloc w (.cells #[] 5) (some g))
  obtain ⟨w1, hw1⟩ : ∃ y, y = w.alloc (.cells #[] 5) := ⟨_, rfl⟩
  rw [← hw1] at o1 k1 G1
  have O1 := (show Hid (Own w.heap.size 5 .u8 w1 (.slice (some ⟨w.heap.size, 0, none⟩) 0 0) []) from o1)
  have hs1 : w.heap.size ≤ w1.heap.size := G1.out.size
  clear o1 h
  go_enter Try.func59, Try.ntmps59
  go_wp2_with fail
  go_at_call 61
  rw [← hw1]
  refine (drawRecs_any k1 HB.out).mono ?_
  rintro e w2 ⟨lv, qs, rfl, ol, hql, hqd, k2, g2⟩
  have O2 := (show Hid (Own w.heap.size 5 .u8 w2 (.slice (some ⟨w.heap.size, 0, none⟩) 0 0) []) from own_past O1.out g2 hgl)
  have G2 := (show Hid (w.grownBy w2 (some g)) from grown_trans G1.out g2)
  have HQ := (show Hid (∀ q ∈ qs, recD q) from hqd)
  have OL := (show Hid (OwnRs w.heap.size w2 lv qs) from World.ownsRow.baseD ol hs1)
  clear O1 G1 g2 hw1 hqd ol hs1
  obtain ⟨la, lc, rfl, _, _, _⟩ := (sv_of_own OL.out).recs
  go_wp2_with fail
  go_loopw [3, 5] (fun z i wr => ∃ (k r cap : Nat) (zs : List Int), k ≤ qs.length ∧ i = .int .i64 k ∧ z = .slice (some ⟨r, 0, none⟩) zs.length cap ∧ zs.length ≤ 97 * k ∧ Hid (Own w.heap.size 5 .u8 wr (.slice (some ⟨r, 0, none⟩) zs.length cap) zs) ∧ Hid (∀ y ∈ zs, 0 ≤ y ∧ y ≤ 255) ∧ Hid (OwnRs w.heap.size wr (.slice la qs.length lc) qs) ∧ Cur w0 g v xs wr ∧ Hid (w.grownBy wr (some g))) (fun _ i _ => qs.length - (intOf i).toNat)
  case atStart => exact ⟨0, w.heap.size, 0, [], Nat.zero_le _, rfl, rfl, Nat.le_refl _, O2, (show ∀ y ∈ ([] : List Int), 0 ≤ y ∧ y ≤ 255 from fun y hy => by cases hy), OL, k2, G2⟩
  case round =>
    clear O2 OL k2 G2
    obtain ⟨k, r, cap, zs, hk, rfl, rfl, hzl, O, BY, OL, K, G⟩ := hrel
    have hws := G.out.size
    by_cases hlt : k < qs.length
    · obtain ⟨a', c', ev, _, _, hca⟩ := (sv_of_own OL.out).recs
      cases ev
      obtain ⟨lb, lo, rfl, ll, c0, c1, c2⟩ := hca k hlt
      have hqd := HQ.out _ (List.getElem_mem hlt)
      obtain ⟨q, hq⟩ : ∃ q, q = qs[k] := ⟨_, rfl⟩
      rw [← hq] at c0 c1 c2 hqd
      clear hq hca
      have CP := (show Hid (Calls Try.prog 15 #[recV q] wr _) from srecPack_any q wr (by have := hqd.2.2.1; omega) (by have := hqd.2.2.2; omega))
      have RL := (show Hid ((recL q).length ≤ 97 ∧ ∀ y ∈ recL q, 0 ≤ y ∧ y ≤ 255) from ⟨recL_len97 hqd, recL_byte (by have := hqd.2.1; omega) (by have := hqd.2.2.1; omega) (by have := hqd.2.2.2; omega)⟩)
      have HP := (show Hid (packR q = if recB q = true then (recL q, true) else ([], false)) from rfl)
      go_wp2_with fail
      go_at_call 15
      refine CP.out.mono ?_
      rintro e w3 ⟨pv, rfl, op, b3⟩
      have O3 := (show Hid (Own w.heap.size 5 .u8 w3 (.slice (some ⟨r, 0, none⟩) zs.length cap) zs) from ownsRow_below O.out b3)
      have OL3 := (show Hid (OwnRs w.heap.size w3 (.slice (some ⟨lb, lo, none⟩) qs.length lc) qs) from ownsRow_below OL.out b3)
      have K3 := K.below b3
      have G3 := (show Hid (w.grownBy w3 (some g)) from grown_past G.out (row := none) ⟨b3.os, b3.tape, b3.output, b3.size, fun j hj _ => b3.block j hj⟩ (fun j hj => by cases hj))
      have hp2 := HP.out
      clear CP O OL K G c0 c1 c2 HP
      by_cases hr : recB q = true
      · rw [if_pos hr] at hp2
        rw [hp2] at op ⊢
        simp only at op ⊢
        have hpos := recL_pos hr
        rcases op.shape with ⟨_, hnil⟩ | ⟨pg, pc, rfl, hpB, hpl, hpc, hpm⟩
        · rw [hnil] at hpos; simp at hpos
        have PS := (show Hid (Sl .u8 w3 (.slice (some ⟨pg, 0, none⟩) (recL q).length pc) (recL q)) from op.sl)
        have hl97 := RL.out.1
        have hb3 := b3.size
        clear op hp2 b3
        go_wp2_with (at_builtin; refine wpList_appT _ rfl _ _ 22 rfl w.heap.size 5 i0 (.int .u8 0) 1 Try.underlying22 hi hz0 hz1 hz2 rfl .u8 r cap zs ⟨pg, 0, none⟩ pc (recL q) rfl rfl O3.out PS.out (by omega) (by unfold maxLen; omega) (by omega) ?_; intro r4 cap4 w4 o4 g4 _)
        have hrB : w.heap.size ≤ r := (World.ownsRow.lt O3.out r rfl).1
        have K4 := K3.kept g4 (fun e => by injection e with e; omega) (fun j hj => by injection hj with hj; omega)
        have OL4 := (show Hid (OwnRs w.heap.size w4 (.slice (some ⟨lb, lo, none⟩) qs.length lc) qs) from rk_other O3.out g4 OL3.out (by decide))
        have G4 := (show Hid (w.grownBy w4 (some g)) from grown_past G3.out g4 (fun j hj => by injection hj with hj; omega))
        have B4 := (show Hid (∀ y ∈ zs ++ recL q, 0 ≤ y ∧ y ≤ 255) from (show ∀ y ∈ zs ++ recL q, 0 ≤ y ∧ y ≤ 255 from bytes_app BY.out RL.out.2))
        have O4 := (show Hid (Own w.heap.size 5 .u8 w4 (.slice (some ⟨r4, 0, none⟩) (zs ++ recL q).length cap4) (zs ++ recL q)) from by rw [List.length_append]; exact o4)
        clear o4 g4 O3 OL3 K3 G3 PS
        go_wp2
        go_roundw
        case rel => exact ⟨k + 1, r4, cap4, zs ++ recL q, by omega, by go_num, by rw [List.length_append], by rw [List.length_append]; omega, O4, B4, OL4, K4, G4⟩
        case measure => simp [intOf]; omega
      · rw [if_neg hr] at hp2
        rw [hp2]
        clear hp2 op b3
        go_wp2
        go_roundw
        case rel => exact ⟨k + 1, r, cap, zs, by omega, by go_num, rfl, by omega, O3, BY, OL3, K3, G3⟩
        case measure => simp [intOf]; omega
    · clear OL
      by_cases h0 : zs = []
      · subst h0
        go_wp2_with fail
        go_at_call 83
        refine (once_any 6 (by omega) K HB.out).mono ?_
        rintro e w8 ⟨b8, rfl, k8, g8⟩
        have O8 := (show Hid (Own w.heap.size 5 .u8 w8 (.slice (some ⟨r, 0, none⟩) 0 cap) ([] : List Int)) from own_past O.out g8 hgl)
        have G8 := (show Hid (w.grownBy w8 (some g)) from grown_trans G.out g8)
        clear O G K g8
        cases b8
        · go_wp2
          go_ret
          exact ⟨_, ([] : List Int), rfl, O8.out.sl, by first | omega | (rw [List.length_set]; omega) | simp, BY.out, k8, G8.out⟩
        · go_wp2_with fail
          go_at_call 74
          refine (below_any _ (by omega) k8 HB.out).mono ?_
          rintro e w9 ⟨x, rfl, x0, x1, _, k9, g9⟩
          replace x1 := x1 (by omega)
          obtain ⟨n, rfl⟩ : ∃ n : Nat, x = n := ⟨x.toNat, by omega⟩
          have O9 := own_past O8.out g9 hgl
          have S9 := (show Hid (Sl .u8 w9 (.slice (some ⟨r, 0, none⟩) n cap) (([] : List Int).take n)) from O9.sl.take (r := n) (by first | omega | (rw [List.length_set]; omega) | (simp only [List.length_nil]; omega)))
          have G9 := (show Hid (w.grownBy w9 (some g)) from grown_trans G8.out g9)
          obtain ⟨hcap, hcm⟩ := own_cap O9
          have hncap : n ≤ cap := by omega
          clear O8 G8 O9 g9 k8
          go_wp2
          go_ret
          exact ⟨_, ([] : List Int).take n, rfl, S9.out, by rw [List.length_take]; first | omega | (rw [List.length_set]; omega) | (simp only [List.length_nil]; omega), fun y hy => BY.out y (List.mem_of_mem_take hy), k9, G9.out⟩
      · have hz : 0 < zs.length := List.length_pos_iff.mpr h0
        have hp : (0 < (zs.length : Int)) := by omega
        clear h0
        have hp2 : decide (0 < (zs.length : Int)) = true := decide_eq_true hp
        go_wp2_with fail
        go_at_call 83
        refine (once_any 3 (by omega) K HB.out).mono ?_
        rintro e w5 ⟨b5, rfl, k5, g5⟩
        have O5 := (show Hid (Own w.heap.size 5 .u8 w5 (.slice (some ⟨r, 0, none⟩) zs.length cap) zs) from own_past O.out g5 hgl)
        have G5 := (show Hid (w.grownBy w5 (some g)) from grown_trans G.out g5)
        clear O G K g5
        cases b5
        · go_wp2_with fail
          go_at_call 83
          refine (once_any 6 (by omega) k5 HB.out).mono ?_
          rintro e w8 ⟨b8, rfl, k8, g8⟩
          have O8 := (show Hid (Own w.heap.size 5 .u8 w8 (.slice (some ⟨r, 0, none⟩) zs.length cap) zs) from own_past O5.out g8 hgl)
          have G8 := (show Hid (w.grownBy w8 (some g)) from grown_trans G5.out g8)
          clear O5 G5 k5 g8
          cases b8
          · go_wp2
            go_ret
            exact ⟨_, zs, rfl, O8.out.sl, by first | omega | (rw [List.length_set]; omega) | simp, BY.out, k8, G8.out⟩
          · go_wp2_with fail
            go_at_call 74
            refine (below_any _ (by omega) k8 HB.out).mono ?_
            rintro e w9 ⟨x, rfl, x0, x1, _, k9, g9⟩
            replace x1 := x1 (by omega)
            obtain ⟨n, rfl⟩ : ∃ n : Nat, x = n := ⟨x.toNat, by omega⟩
            have O9 := own_past O8.out g9 hgl
            have S9 := (show Hid (Sl .u8 w9 (.slice (some ⟨r, 0, none⟩) n cap) (zs.take n)) from O9.sl.take (r := n) (by first | omega | (rw [List.length_set]; omega) | (simp only [List.length_nil]; omega)))
            have G9 := (show Hid (w.grownBy w9 (some g)) from grown_trans G8.out g9)
            obtain ⟨hcap, hcm⟩ := own_cap O9
            have hncap : n ≤ cap := by omega
            clear O8 G8 O9 g9 k8
            go_wp2
            go_ret
            exact ⟨_, zs.take n, rfl, S9.out, by rw [List.length_take]; first | omega | (rw [List.length_set]; omega) | (simp only [List.length_nil]; omega), fun y hy => BY.out y (List.mem_of_mem_take hy), k9, G9.out⟩
        · go_wp2_with fail
          go_at_call 74
          refine (below_any _ (by omega) k5 HB.out).mono ?_
          rintro e w6 ⟨y, rfl, y0, y1, _, k6, g6⟩
          replace y1 := y1 (by omega)
          obtain ⟨m, rfl⟩ : ∃ m : Nat, y = m := ⟨y.toNat, by omega⟩
          have O6 := (show Hid (Own w.heap.size 5 .u8 w6 (.slice (some ⟨r, 0, none⟩) zs.length cap) zs) from own_past O5.out g6 hgl)
          have G6 := (show Hid (w.grownBy w6 (some g)) from grown_trans G5.out g6)
          clear O5 G5 k5 g6
          go_wp2_with fail
          go_at_call 77
          refine Calls.mono (pickL_any k6 HB.out [0, 1, 2, 3, 32, 127, 128] (by simp) (by simp) _ rfl 7 rfl) ?_
          rintro e w7 ⟨q, rfl, hq, k7, g7⟩
          have hqb : 0 ≤ q ∧ q ≤ 255 := by simp at hq; omega
          have hwq : IntKind.u8.wrap q = q := by rw [IntKind.wrap_u8]; omega
          have o7 := own_past O6.out g7 hgl
          have G7 := (show Hid (w.grownBy w7 (some g)) from grown_trans G6.out g7)
          have hrB := (World.ownsRow.lt o7 r rfl).1
          have c0 : w7.cell? ⟨r, m, none⟩ = some (.int .u8 (zs.getD m 0)) := by
            have := World.ownsRow.cellAt o7 m (by omega)
            rw [this, List.getElem?_map, List.getElem?_eq_getElem (by omega), List.getD_eq_getElem?_getD, List.getElem?_eq_getElem (by omega)]
            rfl
          have f0 : w7.frozen? ⟨r, m, none⟩ = false := World.ownsRow.frozenAt o7 m
          obtain ⟨oA, gA⟩ := own_setB o7 rfl m (by omega) q
          have OA := (show Hid (Own w.heap.size 5 .u8 _ (.slice (some ⟨r, 0, none⟩) zs.length cap) (zs.set m q)) from oA)
          have GA := (show Hid (w.grownBy (w7.setCell ⟨r, m, none⟩ (.int .u8 q)) (some g)) from grown_past G7.out gA (fun j hj => by injection hj with hj; omega))
          have kA := k7.kept gA (fun e => by injection e with e; omega) (fun j hj => by injection hj with hj; omega)
          have BA := (show Hid (∀ y ∈ zs.set m q, 0 ≤ y ∧ y ≤ 255) from (show ∀ y ∈ zs.set m q, 0 ≤ y ∧ y ≤ 255 from fun y hy => by
            rcases List.mem_or_eq_of_mem_set hy with hy | rfl
            · exact BY.out y hy
            · exact hqb))
          obtain ⟨wA, hwA⟩ : ∃ W, W = w7.setCell ⟨r, m, none⟩ (.int .u8 q) := ⟨_, rfl⟩
          rw [← hwA] at OA GA kA
          clear oA gA o7 G7 k7 g7 O6 G6 k6 BY hq
          go_wp2_with fail
          rw [← hwA]
          clear hwA c0 f0 hwq
          go_at_call 83
          refine (once_any 6 (by omega) kA HB.out).mono ?_
          rintro e w8 ⟨b8, rfl, k8, g8⟩
          have O8 := (show Hid (Own w.heap.size 5 .u8 w8 (.slice (some ⟨r, 0, none⟩) zs.length cap) (zs.set m q)) from own_past OA.out g8 hgl)
          have G8 := (show Hid (w.grownBy w8 (some g)) from grown_trans GA.out g8)
          clear OA GA kA g8
          cases b8
          · go_wp2
            go_ret
            exact ⟨_, (zs.set m q), rfl, O8.out.sl, by first | omega | (rw [List.length_set]; omega) | simp, BA.out, k8, G8.out⟩
          · go_wp2_with fail
            go_at_call 74
            refine (below_any _ (by omega) k8 HB.out).mono ?_
            rintro e w9 ⟨x, rfl, x0, x1, _, k9, g9⟩
            replace x1 := x1 (by omega)
            obtain ⟨n, rfl⟩ : ∃ n : Nat, x = n := ⟨x.toNat, by omega⟩
            have O9 := own_past O8.out g9 hgl
            have S9 := (show Hid (Sl .u8 w9 (.slice (some ⟨r, 0, none⟩) n cap) ((zs.set m q).take n)) from O9.sl.take (r := n) (by first | omega | (rw [List.length_set]; omega) | (simp only [List.length_nil]; omega)))
            have G9 := (show Hid (w.grownBy w9 (some g)) from grown_trans G8.out g9)
            obtain ⟨hcap, hcm⟩ := own_cap O9
            have hncap : n ≤ cap := by omega
            clear O8 G8 O9 g9 k8
            go_wp2
            go_ret
            exact ⟨_, (zs.set m q).take n, rfl, S9.out, by rw [List.length_take]; first | omega | (rw [List.length_set]; omega) | (simp only [List.length_nil]; omega), fun y hy => BA.out y (List.mem_of_mem_take hy), k9, G9.out⟩
end Go.Proofs.Ytmpgbonolmmcpaa

/- What chapter 17's laws draw: a record, the bytes of records, a list of them. No condition. -/
namespace Go.Proofs.Ytmpgbonolmmcpaa
open Go.RowKit
set_option maxRecDepth 100000
set_option linter.unusedVariables false

theorem drawRecords_any {v : Value} {xs : List Int} {w : World} (h : Sl .u8 w v xs) (hb : ∀ x ∈ xs, 0 ≤ x ∧ x ≤ 255) (hn : xs.length ≤ 1099511627776) :
    Calls Try.prog 17 #[v] w fun e w' => ∃ (u : Value) (zs : List Int), e = .returned u ∧ Sl .u8 w' u zs ∧ zs.length ≤ 1000 ∧ (∀ y ∈ zs, 0 ≤ y ∧ y ≤ 255) ∧ Below w.heap.size w w' := by
  have HB : Hid (∀ x ∈ xs, 0 ≤ x ∧ x ≤ 255) := hb
  have CN := (show Hid _ from new_any h hb hn)
  clear hb h hn
  go_enter Try.func17, Try.ntmps17
  go_wp2_with fail
  go_at_call 49
  refine Calls.mono CN.out ?_
  rintro e w1 ⟨rfl, k1, b1⟩
  go_wp2_with fail
  go_at_call 59
  refine (drawRB_any k1 HB.out).mono ?_
  rintro e w2 ⟨u, zs, rfl, hs, hl, hz, k2, g2⟩
  go_wp2
  go_ret
  exact ⟨u, zs, rfl, hs, hl, hz, k2.2.2.1⟩
theorem drawIndexOf_any {v : Value} {xs : List Int} {w : World} (h : Sl .u8 w v xs) (hb : ∀ x ∈ xs, 0 ≤ x ∧ x ≤ 255) (hn : xs.length ≤ 1099511627776) :
    Calls Try.prog 21 #[v] w fun e w' => ∃ (u : Value) (qs : List PRec), e = .returned u ∧ OwnRs w.heap.size w' u qs ∧ qs.length ≤ 9 ∧ (∀ q ∈ qs, recD q) ∧ Below w.heap.size w w' := by
  have HB : Hid (∀ x ∈ xs, 0 ≤ x ∧ x ≤ 255) := hb
  have CN := (show Hid _ from new_any h hb hn)
  clear hb h hn
  go_enter Try.func21, Try.ntmps21
  go_wp2_with fail
  go_at_call 49
  refine Calls.mono CN.out ?_
  rintro e w1 ⟨rfl, k1, b1⟩
  go_wp2_with fail
  go_at_call 61
  refine (drawRecs_any k1 HB.out).mono ?_
  rintro e w2 ⟨u, qs, rfl, ho, hl, hq, k2, g2⟩
  go_wp2
  go_ret
  exact ⟨u, qs, rfl, World.ownsRow.baseD ho b1.size, hl, hq, k2.2.2.1⟩
theorem drawRecPack_any {v : Value} {xs : List Int} {w : World} (h : Sl .u8 w v xs) (hb : ∀ x ∈ xs, 0 ≤ x ∧ x ≤ 255) (hn : xs.length ≤ 1099511627776) :
    Calls Try.prog 13 #[v] w fun e w' => ∃ q : PRec, e = .returned (.agg #[.int .i64 q.kind, .string q.url, .string q.body]) ∧ recD q ∧ Below w.heap.size w w' := by
  have HB : Hid (∀ x ∈ xs, 0 ≤ x ∧ x ≤ 255) := hb
  obtain ⟨w0, hw0⟩ : ∃ y, y = w.alloc (.cells #[.int .i64 0, .string ⟨#[]⟩, .string ⟨#[]⟩] 25) := ⟨_, rfl⟩
  have b0 : Below w.heap.size w w0 := by rw [hw0]; exact (Below.refl _ _).alloc (Nat.le_refl _) _
  have x0 : w0.heap[w.heap.size]? = some (.cells #[.int .i64 0, .string ⟨#[]⟩, .string ⟨#[]⟩] 25 (0, 0)) := by rw [hw0]; exact World.alloc_heap_new _ _
  have CN := (show Hid _ from new_any (h.below b0) hb hn)
  have X0 := (show Hid _ from x0)
  clear hb h hn x0
  go_enter Try.func13, Try.ntmps13
  go_wp2_with fail
  go_at_call 49
  rw [← hw0]
  refine Calls.mono CN.out ?_
  rintro e w1 ⟨rfl, k1, b1⟩
  clear hw0
  go_wp2_with fail
  go_at_call 48
  refine (drawRec_any k1 HB.out).mono ?_
  rintro e w2 ⟨q, rfl, hq, k2, g2⟩
  have b2 := k2.2.2.1
  have x2 := (b2.block w.heap.size (lt_of_block X0.out)).trans X0.out
  obtain ⟨r1, r2, r3, r4, r5, r6⟩ := rk_three x2
  have X2 := (show Hid _ from rk_at (k := 2) (u := .string q.body) (rk_at (k := 1) (u := .string q.url) (rk_at (k := 0) (u := .int .i64 q.kind) x2)))
  have B2 := (show Hid (Below w.heap.size w w2) from b0.trans (b2.mono b0.size))
  clear x2 b2 k2 g2 k1 b1 b0 X0 CN
  go_wp2
  (try simp only [Exit.inBlock, Exit.then])
  refine bodyPost_ret (results_cell_row rfl _ _ w.heap.size 25 #[.int .i64 q.kind, .string q.url, .string q.body] (0, 0) _ rfl X2.out Try.underlying25 rfl rfl) rfl ?_
  exact ⟨q, rfl, hq, ((B2.out.setCell (Nat.le_refl _) _).setCell (Nat.le_refl _) _).setCell (Nat.le_refl _) _⟩
end Go.Proofs.Ytmpgbonolmmcpaa

/- The program's UrlOk and recordOk. No condition. -/
namespace Go.Proofs.Ytmpgbonolmmcpaa
open Go.RowKit
set_option maxRecDepth 100000
set_option linter.unusedVariables false

set_option maxHeartbeats 400000 in
set_option maxRecDepth 100000 in
theorem iurlOk_any (s : ByteArray) (w : World) (hs : s.size ≤ 1099511627776) : Calls Try.prog 20 #[.string s] w fun e w' => e = .returned (.bool (urlB s)) ∧ Below w.heap.size w w' := by
  have hl := bs_len s
  rw [urlB_eq]
  by_cases h1 : s.size < 1 ∨ 60 < s.size
  · rw [inB_no (by omega)]
    rcases h1 with h1 | h1
    · go_enter Try.func20, Try.ntmps20
      go_wp2
      go_ret
      exact ⟨rfl, Below.refl _ _⟩
    · go_enter Try.func20, Try.ntmps20
      go_wp2
      go_ret
      exact ⟨rfl, Below.refl _ _⟩
  · have h2 : 1 ≤ s.size := by omega
    have h3 : s.size ≤ 60 := by omega
    rw [inB_yes (by omega) (by omega)]
    clear h1
    obtain ⟨cap, w1, hc, hk, hcap, hm, hb⟩ := conv_str s w (by unfold maxLen; omega)
    have HK := (show Hid (Blk .u8 5 w1 w.heap.size (bs s)) from hk)
    have HB := (show Hid (Below w.heap.size w w1) from hb)
    clear hk hb
    go_enter Try.func20, Try.ntmps20
    go_wp2
    go_loopw [16] (fun i wr => ∃ k : Nat, k ≤ s.size ∧ i = .int .i64 k ∧ ((bs s).take k).any ubad = false ∧ Hid (w1 = wr)) (fun i _ => s.size - (intOf i).toNat)
    case atStart => exact ⟨0, Nat.zero_le _, rfl, by simp, rfl⟩
    case round =>
      obtain ⟨k, hks, rfl, hno, hw⟩ := hrel
      have ew := hw.out
      subst ew
      have HN : Hid (((bs s).take k).any ubad = false) := hno
      clear hno hw
      by_cases hlt : k < s.size
      · have hat := HK.out.cell k (by omega)
        have hbk := bs_bound s k
        have HA : Hid (((bs s).take (k + 1)).any ubad = (((bs s).take k).any ubad || ubad ((bs s).getD k 0))) := uany_succ (by omega)
        have HO : Hid (ubad ((bs s).getD k 0) = true → (bs s).any ubad = true) := uany_of (by omega)
        obtain ⟨x, hx⟩ : ∃ x, x = (bs s).getD k 0 := ⟨_, rfl⟩
        rw [← hx] at hat hbk HA HO
        clear hx
        have hlt' : (k : Int) < (s.size : Int) := by omega
        by_cases g1 : x < 33
        · go_wp2
          go_ret
          refine ⟨?_, HB.out⟩
          rw [HO.out (by simp [ubad, g1])]; rfl
        · by_cases g2 : 126 < x
          · go_wp2
            go_ret
            refine ⟨?_, HB.out⟩
            rw [HO.out (by simp [ubad, g2])]; rfl
          · go_wp2
            go_roundw
            case rel => exact ⟨k + 1, hlt, by go_num, by rw [HA.out, HN.out]; simp [ubad]; omega, trivial⟩
            case measure => simp [intOf]; omega
      · obtain rfl : k = s.size := by omega
        have HN2 : Hid ((bs s).any ubad = false) := (show (bs s).any ubad = false by have := HN.out; rwa [List.take_of_length_le (by omega)] at this)
        clear HN
        go_wp2
        go_ret
        exact ⟨by rw [HN2.out]; rfl, HB.out⟩

set_option maxHeartbeats 400000 in
set_option maxRecDepth 100000 in
theorem irecordOk_any (r : PRec) (w : World) (hu : r.url.size ≤ 1099511627776) : Calls Try.prog 50 #[recV r] w fun e w' => e = .returned (.bool (recB r)) ∧ Below w.heap.size w w' := by
  have CU := (show Hid (∀ W, Calls Try.prog 20 #[.string r.url] W fun e w' => e = .returned (.bool (urlB r.url)) ∧ Below W.heap.size W w') from fun W => iurlOk_any r.url W hu)
  have HP := (show Hid (recB r = ((decide (r.kind = 1) || decide (r.kind = 2)) && urlB r.url && !(decide (r.kind = 2) && decide (r.body ≠ emptyS)))) from rfl)
  obtain ⟨kd, ur, bo⟩ := r
  unfold recV
  simp only at CU hu HP ⊢
  obtain ⟨w1, hw1⟩ : ∃ y, y = w.alloc (.cells #[.int .i64 kd, .string ur, .string bo] 25) := ⟨_, rfl⟩
  have h1 := (Hl.refl w).new #[.int .i64 kd, .string ur, .string bo] 25
  rw [← hw1] at h1
  have H1 := (show Hid _ from h1)
  clear h1
  obtain ⟨q, hq⟩ : ∃ q, q = urlB ur := ⟨_, rfl⟩
  rw [← hq] at CU HP
  clear hq
  rw [HP.out]
  clear HP
  by_cases h1 : kd = 1
  · subst h1
    go_enter Try.func50, Try.ntmps50
    go_wp2_with fail
    go_at_call 20
    rw [← hw1]
    refine Calls.mono (CU.out _) ?_
    rintro e w2 ⟨rfl, b2⟩
    have H2 := (show Hid _ from H1.out.below b2)
    clear hw1 b2
    go_wp2
    go_ret
    exact ⟨ret_bool (by cases q <;> simp), H2.out.1⟩
  · have hn1 : (kd == 1) = false := by simp [h1]
    by_cases h2 : kd = 2
    · subst h2
      go_enter Try.func50, Try.ntmps50
      go_wp2_with fail
      go_at_call 20
      rw [← hw1]
      refine Calls.mono (CU.out _) ?_
      rintro e w2 ⟨rfl, b2⟩
      have H2 := (show Hid _ from H1.out.below b2)
      obtain ⟨m1, m2, m3, _⟩ := rk_three H2.out.at0
      clear hw1 b2
      cases q
      · go_wp2
        go_ret
        exact ⟨ret_bool rfl, H2.out.1⟩
      · by_cases hbo : bo = emptyS
        · have hbe : bo.toList.isEmpty = true := by rw [hbo]; exact emptyS_yes
          go_wp2
          go_ret
          exact ⟨ret_bool (by first | (rw [hbe]; simp [hbo]; done) | (simp [hbo]; done) | (rw [hbo, emptyS_yes]; simp)), H2.out.1⟩
        · have hbe : bo.toList.isEmpty = false := emptyS_ne hbo
          go_wp2
          go_ret
          exact ⟨ret_bool (by first | (rw [hbe]; simp [hbo]; done) | (simp [hbo]; done)), H2.out.1⟩
    · have hn2 : (kd == 2) = false := by simp [h2]
      have HF : Hid (((decide (kd = 1) || decide (kd = 2)) && q && !(decide (kd = 2) && decide (bo ≠ emptyS))) = false) := (show ((decide (kd = 1) || decide (kd = 2)) && q && !(decide (kd = 2) && decide (bo ≠ emptyS))) = false by simp [h1, h2])
      rw [HF.out]
      go_enter Try.func50, Try.ntmps50
      go_wp2
      go_ret
      exact ⟨ret_bool rfl, by rw [← hw1]; exact H1.out.1⟩
end Go.Proofs.Ytmpgbonolmmcpaa

/- The program's small questions on heads and areas. No condition. -/
namespace Go.Proofs.Ytmpgbonolmmcpaa
open Go.RowKit
set_option maxRecDepth 100000
set_option linter.unusedVariables false

/-- What spanOk answers. -/
def spanB (a at' n : Int) : Bool := inB a 0 1 && inB at' 0 4096 && inB n 0 (4096 - at')
end Go.Proofs.Ytmpgbonolmmcpaa

/- slices.Grow and slices.Concat of three. No condition. -/
namespace Go.Proofs.Ytmpgbonolmmcpaa
open Go.RowKit
set_option maxRecDepth 100000
set_option linter.unusedVariables false

set_option maxRecDepth 100000 in
theorem igrow_any (n : Nat) (w : World) (h0 : 0 < n) (h1 : n ≤ 1000) :
    Calls Try.prog 78 #[.slice none 0 0, .int .i64 (n : Int)] w fun e w' => ∃ v', e = .returned v' ∧ Own w.heap.size 5 .u8 w' v' [] ∧ Below w.heap.size w w' := by
  obtain ⟨i0, hi, hz0, hz1, hz2⟩ := info_parts Try.infoB
  have hb5 : Try.t5.bytes = 1 := rfl
  have hp : ¬ ((n : Int) < 0) := by omega
  have hq : (0 : Int) < (n : Int) := by omega
  go_enter Try.func78, Try.ntmps78
  go_wp2_with fail
  · exfalso; have hn := nextslicecap_zero h0; rename_i h _ _ _; simp only [hb5, hn] at *; omega
  · go_ret
    have hge := grownCap_ge w n 0 5
    have hm := grownCap_le_maxLen w n 0 5 (by unfold maxLen; omega)
    have o1 := World.ownsRow_made (e := 5) (size := 1) w (Builtin.zeroCells #[Value.int IntKind.u8 0] n ++ Builtin.zeroCells #[Value.int IntKind.u8 0] (grownCap w n 0 5 - n)) (grownCap w n 0 5) (Nat.le_refl _) hm (by rw [Array.size_append, size_zeroCells, size_zeroCells]; simp; omega)
    exact ⟨_, rfl, Own.below (show Own w.heap.size 5 .u8 _ _ [] from o1) (below_drewN 1), ((Below.refl _ _).alloc (Nat.le_refl _) _).trans (below_drewN 1)⟩

def catP (ps : List (Value × List Int)) : List Int := ps.flatMap (·.2)
theorem catP_take {ps : List (Value × List Int)} {k : Nat} (hk : k < ps.length) : catP (ps.take (k + 1)) = catP (ps.take k) ++ ps[k].2 := by
  unfold catP; rw [List.take_succ_eq_append_getElem hk, List.flatMap_append]; simp
theorem catP_len {ps : List (Value × List Int)} (h : ∀ p ∈ ps, p.2.length ≤ 300) : (catP ps).length ≤ ps.length * 300 := by
  induction ps with
  | nil => simp [catP]
  | cons p ps ih =>
    have e : catP (p :: ps) = p.2 ++ catP ps := rfl
    have h1 := h p (by simp)
    have h2 := ih (fun q hq => h q (by simp [hq]))
    rw [e, List.length_append, List.length_cons]; omega

set_option maxRecDepth 100000 in
theorem iconcat_any {w : World} {b : Nat} {ps : List (Value × List Int)} (hb : b < w.heap.size) (hc : ∀ k (hk : k < ps.length), w.cell? ⟨b, k, none⟩ = some ps[k].1 ∧ Sl .u8 w ps[k].1 ps[k].2) (hl : ps.length ≤ 3) (hs : ∀ p ∈ ps, p.2.length ≤ 300) (hpos : 0 < (catP ps).length) :
    Calls Try.prog 51 #[.slice (some ⟨b, 0, none⟩) ps.length ps.length] w fun e w' => ∃ v', e = .returned v' ∧ Own w.heap.size 5 .u8 w' v' (catP ps) ∧ Below w.heap.size w w' := by
  have HC := (show Hid (∀ k (hk : k < ps.length), w.cell? ⟨b, k, none⟩ = some ps[k].1 ∧ Sl .u8 w ps[k].1 ps[k].2) from hc)
  have HS := (show Hid _ from hs)
  clear hc hs
  go_enter Try.func51, Try.ntmps51
  go_wp2
  go_loopw [3, 11] (fun z i wr => ∃ k : Nat, k ≤ ps.length ∧ i = .int .i64 (k : Int) ∧ z = .int .i64 ((catP (ps.take k)).length : Int) ∧ Hid (w = wr)) (fun _ i _ => ps.length - (intOf i).toNat)
  case atStart => exact ⟨0, Nat.zero_le _, rfl, rfl, rfl⟩
  case round =>
    obtain ⟨k, hk, rfl, rfl, hw⟩ := hrel
    have ew := hw.out
    subst ew
    by_cases hlt : k < ps.length
    · obtain ⟨c1, s1⟩ := HC.out k hlt
      have hl1 := HS.out _ (List.getElem_mem hlt)
      have hl2 := catP_len (ps := ps.take k) (fun p hp => HS.out p (List.mem_of_mem_take hp))
      have e3 : (catP (ps.take (k + 1))).length = (catP (ps.take k)).length + ps[k].2.length := by rw [catP_take hlt, List.length_append]
      have E3 := (show Hid _ from e3)
      rw [List.length_take] at hl2
      obtain ⟨a, ca, e1, _, _, _, _⟩ := s1
      rw [e1] at c1
      have hlt' : (k : Int) < (ps.length : Int) := by omega
      obtain ⟨m, hm⟩ : ∃ m, m = ps[k].2.length := ⟨_, rfl⟩
      obtain ⟨t, ht⟩ : ∃ t, t = (catP (ps.take k)).length := ⟨_, rfl⟩
      rw [← hm] at c1 hl1 E3
      rw [← ht] at hl2 E3
      rw [← ht]
      have ht2 : t ≤ 900 := by omega
      clear e1 e3 hm ht hl2
      go_wp2
      go_roundw
      case rel => exact ⟨k + 1, hlt, by go_num, by rw [E3.out]; go_num, trivial⟩
      case measure => simp [intOf]; omega
    · have hke : k = ps.length := by omega
      subst hke
      rw [List.take_length]
      have hc2 := catP_len (ps := ps) (fun p hp => HS.out p hp)
      go_wp2_with fail
      go_at_call 78
      refine (igrow_any _ _ hpos (by omega)).mono ?_
      rintro e w2 ⟨v2, rfl, o2, b2⟩
      have hb2 := b2.size
      obtain ⟨i0, hi, hz0, hz1, hz2⟩ := info_parts Try.infoB
      have O2 := (show Hid (Own w.heap.size 5 .u8 w2 v2 [] ∧ Below w.heap.size w w2) from ⟨o2, b2⟩)
      clear o2 b2 hw hlt hk
      go_wp2
      go_loopw [6, 27] (fun z i wq => ∃ k : Nat, k ≤ ps.length ∧ i = .int .i64 (k : Int) ∧ Own w.heap.size 5 .u8 wq z (catP (ps.take k)) ∧ Below w.heap.size w wq) (fun _ i _ => ps.length - (intOf i).toNat)
      case atStart => exact ⟨0, Nat.zero_le _, rfl, O2.out.1, O2.out.2⟩
      case round =>
        obtain ⟨k, hk, rfl, o3, b3⟩ := hrel
        by_cases hlt : k < ps.length
        · obtain ⟨c1, s1⟩ := HC.out k hlt
          have hl1 := HS.out _ (List.getElem_mem hlt)
          have hl2 := catP_len (ps := ps.take k) (fun p hp => HS.out p (List.mem_of_mem_take hp))
          rw [List.length_take] at hl2
          have hlt' : (k : Int) < (ps.length : Int) := by omega
          have c2 := (b3.cell (p := ⟨b, k, none⟩) hb).trans c1
          have S2 := (show Hid _ from s1.below b3)
          have CT := (show Hid _ from catP_take hlt)
          have O3 := (show Hid (Own _ 5 .u8 _ _ _) from o3)
          have B3 := (show Hid (Below _ _ _) from b3)
          have hb3 := b3.size
          obtain ⟨p, hp⟩ : ∃ p, p = ps[k] := ⟨_, rfl⟩
          rw [← hp] at c2 S2 hl1 CT
          obtain ⟨pv, pl⟩ := p
          simp only at c2 S2 hl1 CT
          obtain ⟨tl, ht⟩ : ∃ t, t = catP (ps.take k) := ⟨_, rfl⟩
          rw [← ht] at O3 CT hl2
          have ht2 : tl.length ≤ 900 := by omega
          clear o3 b3 c1 s1 hp ht hl2
          go_wp2_with (at_builtin
                       refine wpList_app _ rfl _ _ 22 rfl w.heap.size 5 i0 (.int .u8 0) 1 Try.underlying22 hi hz0 hz1 hz2 rfl .u8 _ _ tl pl rfl rfl O3.out S2.out (by omega) (by unfold maxLen; omega) hb3 ?_
                       intro v' w4 o4 g4)
          go_roundw
          case rel => exact ⟨k + 1, hlt, by go_num, by rw [CT.out]; exact o4, B3.out.grown g4 hb3 O3.out.grownAt⟩
          case measure => simp [intOf]; omega
        · have hke : k = ps.length := by omega
          subst hke
          rw [List.take_length] at o3
          have O3 := (show Hid (Own _ 5 .u8 _ _ _) from o3)
          have B3 := (show Hid (Below _ _ _) from b3)
          clear o3 b3
          go_wp2
          go_ret
          exact ⟨_, rfl, O3.out, B3.out⟩
end Go.Proofs.Ytmpgbonolmmcpaa
