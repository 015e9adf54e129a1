/- The law FnPoint, walked: at every slice of bytes it returns true and writes nothing that was there. -/
import Derived.Test.YtphaogkgnpalgaaDraw1
import Derived.Test.YtphaogkgnpalgaaRound
namespace Go.Proofs.Ytphaogkgnpalgaa
open Go.RowKit
set_option linter.unusedVariables false

/-- 'append(v, u...)' behind a guard that holds, u with an address. -/
theorem wpList_appG {P : Program} (w : World) {ops : Array Oper} {rest : List Oper} {o : Oper} {a : Act} {Q : Exit → Act → World → Prop} (hw : Region.wanted o (yielded ops a.tmps) = true)
    (s x : Operand) (t : TypeId) (ho : o.op = Op.call { callee := Callee.builtin Builtin.append, args := #[s, x], argTypes := #[t, t] }) (B : Nat) (e : TypeId) (i : TypeInfo)
    (z : Value) (bytes : Nat) (ht : P.underlying t = some (TypeDesc.slice e)) (hi : P.info? e = some i) (hz : i.zero = some z) (hsize : i.size = 1) (hby : i.bytes = bytes)
    (hzs : z.cells.size = 1) (K : IntKind) (v : Value) (ad : Addr) (cap : Nat) (xs ys : List Int) (hs : a.eval s = v) (hx : a.eval x = .slice (some ad) ys.length cap) (hown : Own B e K w v xs) (hu : Sl K w (.slice (some ad) ys.length cap) ys)
    (hb : (xs.length + ys.length) * bytes ≤ 140737488355328) (h63 : xs.length + ys.length ≤ maxLen) (hbase : B ≤ w.heap.size)
    (h : ∀ (v' : Value) (w' : World), Own B e K w' v' (xs ++ ys) → w.grownBy w' v.ownBlock → wpList P ops Q rest (a.put o.dst v') w') :
    wpList P ops Q (o :: rest) a w := by
  obtain ⟨ao, cap', ev, hlc, hcm, hnone, hc⟩ := hu
  cases ev
  refine wpList_step fun Kc hK => ?_
  rw [if_pos hw]
  refine wp_append_own w s x t ho B e i z 1 bytes ht hi hz hsize hby hzs (by decide) v xs.length _ hs hown ad ys.length cap (ys.map (Value.int K)) hx (by simp) (Sl.news hc) (ints_oneCell K ys) h63 hb hbase ?_
  intro v' w' ho' hg' _
  refine hK _ _ (h v' w' ?_ hg')
  unfold Own
  rw [List.length_append, List.map_append]; exact ho'

theorem byte65 (x : Int) : ∀ y ∈ [65] ++ put x, 0 ≤ y ∧ y ≤ 255 := by
  intro y hy
  rcases List.mem_append.mp hy with h | h
  · simp at h; omega
  · have := pt_ok x; exact enc_byte this.1 this.2.1 y h

set_option maxHeartbeats 2000000 in
theorem fnPoint_walk {v : Value} {xs : List Int} (w : World) (h : Sl .u8 w v xs) (hwf : ∀ n ∈ xs, (Lit.int .u8 n).wf = true) :
    Calls Try.prog 5 #[v] w fun e w' => e = .returned (.bool true) ∧ Below w.heap.size w w' := by
  by_cases hbig : 1048576 < xs.length
  · have hbg := big_any h
    rw [decide_eq_true hbig] at hbg
    have HG : Hid (Calls Try.prog 12 #[v] w fun e w' => e = .returned (.bool true) ∧ w' = w) := hbg
    clear hbg
    go_enter Try.func5, Try.ntmps5
    go_wp2_with fail
    go_at_call 12
    refine HG.out.mono ?_
    rintro e w1 ⟨rfl, rfl⟩
    go_wp2
    go_ret
    exact ⟨rfl, Below.refl _ _⟩
  have hbg := big_any h
  rw [decide_eq_false hbig] at hbg
  have HG : Hid (Calls Try.prog 12 #[v] w fun e w' => e = .returned (.bool false) ∧ w' = w) := hbg
  clear hbg
  have hn : xs.length ≤ 1048576 := by omega
  obtain ⟨i0, hi, hz0, hz1, hz2⟩ := info_parts Try.infoB
  have HB : Hid (∀ x ∈ xs, 0 ≤ x ∧ x ≤ 255) := byte_ok hwf
  clear hwf
  go_enter Try.func5, Try.ntmps5
  go_wp2_with fail
  go_at_call 12
  refine HG.out.mono ?_
  rintro e w1 ⟨rfl, rfl⟩
  go_wp2_with fail
  go_at_call 24
  refine (drawPut_any h HB.out (by omega)).mono ?_
  rintro e w2 ⟨x, rfl, b2⟩
  have hpl := put_len x
  go_wp2_with fail
  go_at_call 18
  refine (iput_any x _).mono ?_
  rintro e w3 ⟨v1, rfl, o1, b3⟩
  have B := b2.trans (b3.mono b2.size)
  have HR : Hid (utfRead ([65] ++ put x) = [65, pt x]) := read65 x
  have HO : Hid (utfOk ([65] ++ put x) = true) := ok65 x
  have H6 : Hid (∀ y ∈ [65] ++ put x, 0 ≤ y ∧ y ≤ 255) := byte65 x
  have k65 : ∀ w : World, Own w.heap.size 5 .u8 (w.alloc (.cells #[.int .u8 65] 5)) (.slice (some ⟨w.heap.size, 0, none⟩) 1 1) [65] := fun w => World.ownsRow_lit w #[.int .u8 65] 1 (Nat.le_refl _) (by unfold maxLen; omega) rfl
  have H65 : Hid (∀ w : World, Own w.heap.size 5 .u8 (w.alloc (.cells #[.int .u8 65] 5)) (.slice (some ⟨w.heap.size, 0, none⟩) 1 1) [65]) := k65
  clear k65 b2 b3 h
  go_wp2_with (at_builtin; refine wpList_app _ rfl (.tmp 13) (.tmp 14) 22 rfl w3.heap.size 5 i0 (.int .u8 0) 1 Try.underlying22 hi hz0 hz1 hz2 rfl .u8 _ _ [65] (put x) rfl rfl (H65.out _) (o1.below ((Below.refl _ _).alloc (Nat.le_refl _) _)).sl (by simp; omega) (by unfold maxLen; simp; omega) (by simp) ?_; intro v2 w4 o2 g4)
  have hbs := B.size
  replace B := (B.alloc hbs (.cells #[.int .u8 65] 5)).grown g4 (by simp; omega) (fun k hk => by cases hk; exact hbs)
  have g4' : w3.grownBy w4 (some w3.heap.size) := grown_trans (World.grownBy_alloc _ _ _) g4
  replace o1 := o1.kept1 g4' (fun k hk => by have := (o1.lt k hk).2; omega)
  clear g4 g4' hbs
  go_at_call 14
  refine (iread_any o2.sl H6.out (by simp; omega)).mono ?_
  rintro e w5 ⟨v3, rfl, o3, b5⟩
  rw [HR.out] at o3
  replace o1 := o1.below b5
  replace B := B.trans (b5.mono B.size)
  clear b5 o2
  rcases o3.shape with ⟨_, hnil⟩ | ⟨g3, c3, rfl, _, hg3, hl3, hm3⟩
  · cases hnil
  rcases o1.shape with ⟨_, hnil⟩ | ⟨g1, c1, rfl, hB1, hg1, hl1, hm1⟩
  · rw [hnil] at hpl; simp at hpl
  have d0 : w5.cell? ⟨g3, 0, none⟩ = some (.int .i64 65) := World.ownsRow.cellAt o3 0 (by simp)
  have d1 : w5.cell? ⟨g3, 1, none⟩ = some (.int .i64 (pt x)) := World.ownsRow.cellAt o3 1 (by simp)
  clear o3
  simp only [List.length_cons, List.length_nil, Nat.zero_add, Nat.reduceAdd] at hl3 ⊢
  cases hp : pointOk x
  · rw [pt_not x hp] at d1
    have hio := fun w => iok_any x w
    have hso := fun w => sok_any x w
    rw [hp] at hio hso
    have HIO : Hid (∀ w, Calls Try.prog 17 #[.int .i64 x] w fun e w' => e = .returned (.bool false) ∧ w' = w) := hio
    have HSO : Hid (∀ w, Calls Try.prog 25 #[.int .i64 x] w fun e w' => e = .returned (.bool false) ∧ w' = w) := hso
    clear hio hso hp
    go_wp2_with (first
      | (go_at_call 17; refine (HIO.out _).mono ?_; rintro e w' ⟨rfl, rfl⟩)
      | (go_at_call 25; refine (HSO.out _).mono ?_; rintro e w' ⟨rfl, rfl⟩)
      | (at_builtin; refine wpList_appG _ rfl (.tmp 55) (.tmp 56) 22 rfl _ 5 i0 (.int .u8 0) 1 Try.underlying22 hi hz0 hz1 hz2 rfl .u8 _ ⟨g1, 0, none⟩ c1 [65] (put x) rfl rfl (H65.out _) (o1.below ((Below.refl _ _).alloc (Nat.le_refl _) _)).sl (by simp; omega) (by unfold maxLen; simp; omega) (by simp) ?_; intro v6 w6 o6 g6)
      | (go_at_call 20; refine (iutfOk_any o6.sl H6.out (by simp; omega)).mono ?_; rintro e w7 ⟨rfl, b7⟩; rw [HO.out]))
    go_ret
    have hbs := B.size
    have B2 := (B.alloc hbs (.cells #[.int .u8 65] 5)).grown g6 (by simp; omega) (fun k hk => by cases hk; exact hbs)
    exact ⟨rfl, B2.trans (b7.mono B2.size)⟩
  · rw [pt_of x hp] at d1
    have hio := fun w => iok_any x w
    have hso := fun w => sok_any x w
    rw [hp] at hio hso
    have HIO : Hid (∀ w, Calls Try.prog 17 #[.int .i64 x] w fun e w' => e = .returned (.bool true) ∧ w' = w) := hio
    have HSO : Hid (∀ w, Calls Try.prog 25 #[.int .i64 x] w fun e w' => e = .returned (.bool true) ∧ w' = w) := hso
    clear hio hso hp
    go_wp2_with (first
      | (go_at_call 17; refine (HIO.out _).mono ?_; rintro e w' ⟨rfl, rfl⟩)
      | (go_at_call 25; refine (HSO.out _).mono ?_; rintro e w' ⟨rfl, rfl⟩)
      | (at_builtin; refine wpList_appG _ rfl (.tmp 55) (.tmp 56) 22 rfl _ 5 i0 (.int .u8 0) 1 Try.underlying22 hi hz0 hz1 hz2 rfl .u8 _ ⟨g1, 0, none⟩ c1 [65] (put x) rfl rfl (H65.out _) (o1.below ((Below.refl _ _).alloc (Nat.le_refl _) _)).sl (by simp; omega) (by unfold maxLen; simp; omega) (by simp) ?_; intro v6 w6 o6 g6)
      | (go_at_call 20; refine (iutfOk_any o6.sl H6.out (by simp; omega)).mono ?_; rintro e w7 ⟨rfl, b7⟩; rw [HO.out]))
    go_ret
    have hbs := B.size
    have B2 := (B.alloc hbs (.cells #[.int .u8 65] 5)).grown g6 (by simp; omega) (fun k hk => by cases hk; exact hbs)
    exact ⟨rfl, B2.trans (b7.mono B2.size)⟩
end Go.Proofs.Ytphaogkgnpalgaa
