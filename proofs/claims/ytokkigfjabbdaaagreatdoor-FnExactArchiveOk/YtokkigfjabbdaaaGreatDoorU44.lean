/- The shelf in memory; atomics; records and load. No condition. -/
import Derived.Test.YtokkigfjabbdaaaGreatDoorU35
import Derived.Test.YtokkigfjabbdaaaGreatDoorU37
import Derived.Test.YtokkigfjabbdaaaGreatDoorU32
import Derived.Test.YtokkigfjabbdaaaGreatDoorU38
import Derived.Test.YtokkigfjabbdaaaGreatDoorU43
import Derived.Test.YtokkigfjabbdaaaGreatDoorU26
import Derived.Test.YtokkigfjabbdaaaGreatDoorU29
import Derived.Laws.LoneSync
import Derived.Test.YtokkigfjabbdaaaGreatDoorU23
namespace Go.Proofs.YtokkigfjabbdaaaGreatDoor
open Go.RowKit
set_option maxRecDepth 100000
set_option linter.unusedVariables false

theorem istore_any {a : Addr} {x y : Int} {w : World} (hc : w.cell? a = some (.int .i64 x)) (hz : w.frozen? a = false) :
    Calls Tryz.prog 99 #[.pointer (some a), .int .i64 y] w fun e w' => e = .returned (.tuple #[]) ∧ w' = w.setCell a (.int .i64 y) := by
  have h1 : (callFunc 125 #[.pointer (some a), .int .i64 y]).run Tryz.prog w = .ok (.value (.tuple #[])) (w.setCell a (.int .i64 y)) :=
    run_call_store Tryz.func125 (by kernel_rfl) (by kernel_rfl) (by kernel_rfl) (by kernel_rfl) hc hz
  go_enter Tryz.func99, Tryz.ntmps99
  go_wp2
  go_end0
  exact ⟨rfl, rfl⟩
theorem iadd_any {a : Addr} {x y : Int} {w : World} (hc : w.cell? a = some (.int .i64 x)) (hz : w.frozen? a = false) (h0 : 0 ≤ x + y) (h1 : x + y ≤ 1099511627776) :
    Calls Tryz.prog 101 #[.pointer (some a), .int .i64 y] w fun e w' => e = .returned (.int .i64 (x + y)) ∧ w' = w.setCell a (.int .i64 (x + y)) := by
  have h1 : (callFunc 128 #[.pointer (some a), .int .i64 y]).run Tryz.prog w = .ok (.value (.int .i64 (x + y))) (w.setCell a (.int .i64 (x + y))) :=
    run_call_add Tryz.func128 (by kernel_rfl) (by kernel_rfl) (by kernel_rfl) .i64 (by kernel_rfl) hc hz (by
      have hw : IntKind.i64.wrap (x + y) = x + y := wrap_fit7 (by omega) (by omega)
      simp [Op.intArith, go_sem, hw])
  go_enter Tryz.func101, Tryz.ntmps101
  go_wp2
  go_ret
  exact ⟨rfl, rfl⟩
theorem iload_any {a : Addr} {x : Int} {w : World} (hc : w.cell? a = some (.int .i64 x)) :
    Calls Tryz.prog 103 #[.pointer (some a)] w fun e w' => e = .returned (.int .i64 x) ∧ w' = w := by
  have h1 : (callFunc 131 #[.pointer (some a)]).run Tryz.prog w = .ok (.value (.int .i64 x)) w :=
    run_call_load Tryz.func131 (by kernel_rfl) (by kernel_rfl) (by kernel_rfl) .i64 (by kernel_rfl) hc
  go_enter Tryz.func103, Tryz.ntmps103
  go_wp2
  go_ret
  exact ⟨rfl, rfl⟩
end Go.Proofs.YtokkigfjabbdaaaGreatDoor

/- The shelf in memory. No condition. -/
namespace Go.Proofs.YtokkigfjabbdaaaGreatDoor
open Go.RowKit
set_option maxRecDepth 100000
set_option linter.unusedVariables false

/-- In W the block N, a shelf's, holds cs; the listed blocks are new; all else of w is as it was. -/
structure Sf (w : World) (N : Nat) (cs : Array Value) (L : List (Nat × Array Value × TypeId)) (W : World) : Prop where
  gr : w.grownBy W (some N)
  sh : W.heap[N]? = some (.cells cs 114 (0, 0))
  blk : ∀ p ∈ L, W.heap[p.1]? = some (.cells p.2.1 p.2.2 (0, 0)) ∧ p.1 ≠ N
theorem Sf.refl {w : World} {N : Nat} {cs : Array Value} (h : w.heap[N]? = some (.cells cs 114 (0, 0))) : Sf w N cs [] w := ⟨World.grownBy.refl _ _, h, fun p hp => by cases hp⟩
theorem Sf.below {w W W' : World} {N : Nat} {cs : Array Value} {L : List (Nat × Array Value × TypeId)} (h : Sf w N cs L W) (b : Below W.heap.size W W') : Sf w N cs L W' :=
  ⟨grown_below h.gr b, (b.block _ (lt_of_block h.sh)).trans h.sh, fun p hp => ⟨(b.block _ (lt_of_block (h.blk p hp).1)).trans (h.blk p hp).1, (h.blk p hp).2⟩⟩
theorem Sf.new {w W : World} {N : Nat} {cs : Array Value} {L : List (Nat × Array Value × TypeId)} (h : Sf w N cs L W) (ds : Array Value) (t : TypeId) : Sf w N cs ((W.heap.size, ds, t) :: L) (W.alloc (.cells ds t)) := by
  have hb : Below W.heap.size W (W.alloc (.cells ds t)) := (Below.refl _ _).alloc (Nat.le_refl _) _
  refine ⟨(h.below hb).gr, (h.below hb).sh, fun p hp => ?_⟩
  rcases List.mem_cons.mp hp with rfl | hp
  · exact ⟨World.alloc_heap_new _ _, fun e => by have := lt_of_block h.sh; omega⟩
  · exact (h.below hb).blk p hp
theorem Sf.set {w W : World} {N : Nat} {cs : Array Value} {L : List (Nat × Array Value × TypeId)} (h : Sf w N cs L W) (k : Nat) (u : Value) : Sf w N (cs.setIfInBounds k u) L (W.setCell ⟨N, k, none⟩ u) :=
  ⟨grown_trans h.gr (grown_setCell _ _ _ _), rk_at h.sh, fun p hp => ⟨((grown_setCell W N k u).block p.1 (lt_of_block (h.blk p hp).1) (fun e => (h.blk p hp).2 (Option.some.inj e))).trans (h.blk p hp).1, (h.blk p hp).2⟩⟩
theorem Sf.sub {w W : World} {N : Nat} {cs : Array Value} {L L' : List (Nat × Array Value × TypeId)} (h : Sf w N cs L W) (hs : ∀ p ∈ L', p ∈ L) : Sf w N cs L' W := ⟨h.gr, h.sh, fun p hp => h.blk p (hs p hp)⟩
theorem Sf.at0 {w W : World} {N : Nat} {cs : Array Value} {L : List (Nat × Array Value × TypeId)} {b : Nat} {ds : Array Value} {t : TypeId} (h : Sf w N cs ((b, ds, t) :: L) W) : W.heap[b]? = some (.cells ds t (0, 0)) := (h.blk _ (List.mem_cons_self ..)).1
theorem Sf.ne0 {w W : World} {N : Nat} {cs : Array Value} {L : List (Nat × Array Value × TypeId)} {b : Nat} {ds : Array Value} {t : TypeId} (h : Sf w N cs ((b, ds, t) :: L) W) : b ≠ N := (h.blk _ (List.mem_cons_self ..)).2
theorem Sf.disk {w W : World} {N B : Nat} {cs cs0 : Array Value} {L : List (Nat × Array Value × TypeId)} {v : Value} {d : PDisk} (h : Sf w N cs L W) (h0 : w.heap[N]? = some (.cells cs0 114 (0, 0))) (o : OwnDy B w v d) : OwnDy B W v d :=
  o.turned h.gr (fun j e => by cases e; exact ⟨_, _, _, h0, by decide, by decide⟩)
theorem Sf.ents {w W : World} {N B : Nat} {cs cs0 : Array Value} {L : List (Nat × Array Value × TypeId)} {v : Value} {ps : List (ByteArray × ByteArray)} (h : Sf w N cs L W) (h0 : w.heap[N]? = some (.cells cs0 114 (0, 0))) (o : OwnEy B w v ps) : OwnEy B W v ps :=
  OwnEy.turned o h.gr (fun j e => by cases e; exact ⟨_, _, _, h0, by decide⟩)
theorem Sf.sent {w W : World} {N : Nat} {cs : Array Value} {x0 x1 x2 x3 x4 x5 x6 x7 x8 x9 x10 : Value} {L : List (Nat × Array Value × TypeId)} (h : Sf w N cs L W) (h0 : w.heap[N]? = some (.cells #[x0, x1, x2, x3, x4, x5, x6, x7, x8, x9, x10] 114 (0, 0))) (hx : ∀ t v, x0 ≠ .iface t v) (s : Sent w) : Sent W := by
  obtain ⟨a, s⟩ := s
  refine ⟨a, ?_⟩
  have hlt := lt_of_cell s
  have hne : 0 ≠ N := fun e => by
    subst e
    have : w.cell? ⟨0, 0, none⟩ = some x0 := by simp only [World.cell?, h0]; rfl
    rw [this] at s
    exact hx _ _ (Option.some.inj s)
  rw [← s]
  exact World.cell?_of_block (h.gr.block _ hlt (fun e => hne (Option.some.inj e)))
theorem rk_ten {w : World} {b : Nat} {x0 x1 x2 x3 x4 x5 x6 x7 x8 x9 x10 : Value} {t : TypeId} (h : w.heap[b]? = some (.cells #[x0, x1, x2, x3, x4, x5, x6, x7, x8, x9, x10] t (0, 0))) : w.cell? ⟨b, 0, none⟩ = some x0 ∧ w.cell? ⟨b, 1, none⟩ = some x1 ∧ w.cell? ⟨b, 2, none⟩ = some x2 ∧ w.cell? ⟨b, 3, none⟩ = some x3 ∧ w.cell? ⟨b, 4, none⟩ = some x4 ∧ w.cell? ⟨b, 5, none⟩ = some x5 ∧ w.cell? ⟨b, 6, none⟩ = some x6 ∧ w.cell? ⟨b, 7, none⟩ = some x7 ∧ w.cell? ⟨b, 8, none⟩ = some x8 ∧ w.cell? ⟨b, 9, none⟩ = some x9 :=
  ⟨by simp only [World.cell?, h]; rfl, by simp only [World.cell?, h]; rfl, by simp only [World.cell?, h]; rfl, by simp only [World.cell?, h]; rfl, by simp only [World.cell?, h]; rfl, by simp only [World.cell?, h]; rfl, by simp only [World.cell?, h]; rfl, by simp only [World.cell?, h]; rfl, by simp only [World.cell?, h]; rfl, by simp only [World.cell?, h]; rfl⟩
/-- The bytes of an area, from a head that is right or zero. -/
theorem get_bytes {d : PDisk} (hd : diskB d = true) {k : PHead} (h0 : 0 ≤ k.area) (h1 : k.area ≤ 1) (h2 : 0 ≤ k.en) (h3 : k.en ≤ 4096) : getDk d k.area 0 k.en = (bytesA d k, true) := by
  rw [get_right hd (by omega) (by omega) h2 (by omega)]
  rfl
theorem now_in (d : PDisk) : 0 ≤ (nowDk d).area ∧ (nowDk d).area ≤ 1 ∧ 0 ≤ (nowDk d).en ∧ (nowDk d).en ≤ 4096 := by
  have key : ∀ s, 0 ≤ (readDk s).1.area ∧ (readDk s).1.area ≤ 1 ∧ 0 ≤ (readDk s).1.en ∧ (readDk s).1.en ≤ 4096 := fun s => by
    cases e : (readDk s).2 with
    | false => rw [read_none e]; decide
    | true => have := headB_in (read_some e).1; omega
  unfold nowDk
  split
  · decide
  · split
    · exact key _
    · exact key _

theorem wf_i64 {x : Int} (h0 : -9223372036854775808 ≤ x) (h1 : x ≤ 9223372036854775807) : (Lit.int .i64 x).wf = true := by
  have e1 : IntKind.i64.min = -9223372036854775808 := by decide
  have e2 : IntKind.i64.max = 9223372036854775807 := by decide
  simp only [Lit.wf, e1, e2, Bool.and_eq_true, decide_eq_true_eq]
  exact ⟨h0, h1⟩

set_option maxHeartbeats 2000000 in
set_option maxRecDepth 100000 in
theorem irecs_any {w : World} {N B : Nat} {sa : Option Addr} {sn sc : Nat} {la : Option Addr} {ln lc : Nat} {m q r : Int} {up : Bool} {no ar en : Int} {ea : Option Addr} {en' ec : Nat} {st : Value} {d : PDisk} (hS : w.heap[N]? = some (.cells #[.slice sa sn sc, .slice la ln lc, .int .i32 m, .int .u32 q, .int .i64 r, .bool up, .int .i64 no, .int .i64 ar, .int .i64 en, .slice ea en' ec, st] 114 (0, 0))) (hd : OwnDy B w (.agg #[.slice sa sn sc, .slice la ln lc]) d) (hr : diskB d = true) (k : PHead) (hk : 0 ≤ k.area ∧ k.area ≤ 1 ∧ 0 ≤ k.en ∧ k.en ≤ 4096) :
    Calls Tryz.prog 86 #[.pointer (some ⟨N, 0, none⟩), headV k] w fun e w' => ∃ v', e = .returned (.tuple #[v', .bool (recsA d k).2]) ∧ OwnRs w.heap.size w' v' (recsA d k).1 ∧ Sf w N #[.slice sa sn sc, .slice la ln lc, .int .i32 m, .int .u32 q, .int .i64 k.en, .bool up, .int .i64 no, .int .i64 ar, .int .i64 en, .slice ea en' ec, st] [] w' := by
  obtain ⟨kn, ka, ke⟩ := k
  simp only at hk ⊢
  obtain ⟨ka0, ka1, ke0, ke1⟩ := hk
  have HS := (show Hid (w.heap[N]? = some (.cells #[.slice sa sn sc, .slice la ln lc, .int .i32 m, .int .u32 q, .int .i64 r, .bool up, .int .i64 no, .int .i64 ar, .int .i64 en, .slice ea en' ec, st] 114 (0, 0))) from hS)
  have HD := (show Hid (OwnDy B w (.agg #[.slice sa sn sc, .slice la ln lc]) d) from hd)
  have HR := (show Hid (diskB d = true) from hr)
  have hNlt := lt_of_block hS
  have GB := (show Hid (getDk d ka 0 ke = (bytesA d ⟨kn, ka, ke⟩, true)) from get_bytes (k := ⟨kn, ka, ke⟩) hr ka0 ka1 ke0 ke1)
  have BL := (show Hid ((bytesA d ⟨kn, ka, ke⟩).length = ke.toNat) from bytesA_len _ _)
  have BB := (show Hid (∀ x ∈ bytesA d ⟨kn, ka, ke⟩, 0 ≤ x ∧ x ≤ 255) from bytesA_byte _ _)
  obtain ⟨bs', hbs⟩ : ∃ b, b = bytesA d ⟨kn, ka, ke⟩ := ⟨_, rfl⟩
  have RA : recsA d ⟨kn, ka, ke⟩ = recsR bs' := by rw [hbs]; rfl
  rw [RA]
  rw [← hbs] at GB BL BB
  clear RA hbs
  obtain ⟨⟨rs, rb⟩, hrs⟩ : ∃ x, x = recsR bs' := ⟨_, rfl⟩
  rw [← hrs]
  have HRS := (show Hid ((rs, rb) = recsR bs') from hrs)
  clear hrs
  simp only
  show Calls Tryz.prog 86 #[.pointer (some ⟨N, 0, none⟩), .agg #[.int .i64 kn, .int .i64 ka, .int .i64 ke]] w _
  obtain ⟨w1, hw1⟩ : ∃ x, x = w.alloc (.cells #[.int .i64 kn, .int .i64 ka, .int .i64 ke] 36) := ⟨_, rfl⟩
  have s1 := (Sf.refl hS).new #[.int .i64 kn, .int .i64 ka, .int .i64 ke] 36
  rw [← hw1] at s1
  obtain ⟨c0, c1, c2, c3, c4, c5, c6, c7, c8, c9⟩ := rk_ten s1.sh
  have f4 := rk_thaw (k := 4) s1.sh
  have S1 := (show Hid (Sf w N #[.slice sa sn sc, .slice la ln lc, .int .i32 m, .int .u32 q, .int .i64 r, .bool up, .int .i64 no, .int .i64 ar, .int .i64 en, .slice ea en' ec, st] [(w.heap.size, #[.int .i64 kn, .int .i64 ka, .int .i64 ke], 36)] w1) from s1)
  clear s1 hS hd hr
  go_enter Tryz.func86, Tryz.ntmps86
  go_wp2_with fail
  go_at_call 99
  rw [← hw1]
  refine (istore_any (a := ⟨N, 4, none⟩) c4 f4).mono ?_
  rintro e w2 ⟨rfl, hw2⟩
  have S2 := (show Hid (Sf w N #[.slice sa sn sc, .slice la ln lc, .int .i32 m, .int .u32 q, .int .i64 0, .bool up, .int .i64 no, .int .i64 ar, .int .i64 en, .slice ea en' ec, st] [(w.heap.size, #[.int .i64 kn, .int .i64 ka, .int .i64 ke], 36)] w2) from by rw [hw2]; exact S1.out.set 4 (.int .i64 0))
  clear hw1 hw2 S1 f4
  clear c0 c1 c2 c3 c4 c5 c6 c7 c8 c9
  have CA := (show Hid (∀ W, Below w2.heap.size w2 W → Calls Tryz.prog 100 #[.agg #[.slice sa sn sc, .slice la ln lc], .int .i64 ka, .int .i64 0, .int .i64 ke] W fun e w' => ∃ u, e = .returned (.tuple #[u, .bool true]) ∧ Own W.heap.size 5 .u8 w' u bs' ∧ Below W.heap.size W w') from fun W b => by
    have := iareaGet_any W _ d ka 0 ke ((S2.out.below b).disk HS.out HD.out).at (fit_right HR.out) (wf_i64 (by omega) (by omega)) (by decide) (wf_i64 (by omega) (by omega))
    rw [GB.out] at this
    exact this)
  have KD := (show Hid (Below w2.heap.size w2 w2.drew) from below_drewN 1)
  have KS := (show Hid (∀ W, Below w2.heap.size w2 W → W.cell? ⟨N, 0, none⟩ = some (.slice sa sn sc) ∧ W.cell? ⟨N, 1, none⟩ = some (.slice la ln lc) ∧ W.cell? ⟨w.heap.size, 1, none⟩ = some (.int .i64 ka) ∧ W.cell? ⟨w.heap.size, 2, none⟩ = some (.int .i64 ke) ∧ Below w2.heap.size w2 W) from fun W h => ⟨(rk_ten (S2.out.below h).sh).1, (rk_ten (S2.out.below h).sh).2.1, (rk_three (S2.out.below h).at0).2.1, (rk_three (S2.out.below h).at0).2.2.1, h⟩)
  go_wp2_with fail
  go_region_held3 (fun w' => w'.cell? ⟨N, 0, none⟩ = some (.slice sa sn sc) ∧ w'.cell? ⟨N, 1, none⟩ = some (.slice la ln lc) ∧ w'.cell? ⟨w.heap.size, 1, none⟩ = some (.int .i64 ka) ∧ w'.cell? ⟨w.heap.size, 2, none⟩ = some (.int .i64 ke) ∧ Below w2.heap.size w2 w')
    (first | exact KS.out _ KD.out | exact KS.out _ T_w3.out)
    (first
      | (go_at_call 100
         refine Calls.mono (CA.out _ (‹_ ∧ _ ∧ _ ∧ _ ∧ Below _ _ _›).2.2.2.2) ?_
         rintro e w3 ⟨u, rfl, o3, b_w3⟩
         have T_w3 := (show Hid (Below w2.heap.size w2 w3) from (‹_ ∧ _ ∧ _ ∧ _ ∧ Below _ _ _›).2.2.2.2.trans (b_w3.mono (‹_ ∧ _ ∧ _ ∧ _ ∧ Below _ _ _›).2.2.2.2.size))
         have O3 := (show Hid (Own w.heap.size 5 .u8 w3 u bs') from o3.base (Nat.le_trans S2.out.gr.size ((‹_ ∧ _ ∧ _ ∧ _ ∧ Below _ _ _›).2.2.2.2).size))
         clear o3 b_w3))
  clear KD KS
  have S3 := (show Hid (Sf w N #[.slice sa sn sc, .slice la ln lc, .int .i32 m, .int .u32 q, .int .i64 0, .bool up, .int .i64 no, .int .i64 ar, .int .i64 en, .slice ea en' ec, st] [(w.heap.size, #[.int .i64 kn, .int .i64 ka, .int .i64 ke], 36)] w3) from S2.out.below T_w3.out)
  clear T_w3 S2 CA
  have O3' := (show Hid (Sl .u8 w3 u bs') from O3.out.sl)
  have su := O3.out.sl
  obtain ⟨ua, ucap, eu, _⟩ := su
  subst eu
  have hlen : (bs'.length : Int) = ke := by have := BL.out; omega
  obtain ⟨c0, c1, c2, c3, c4, c5, c6, c7, c8, c9⟩ := rk_ten S3.out.sh
  have f4 := rk_thaw (k := 4) S3.out.sh
  go_wp2_with fail
  go_at_call 101
  refine (iadd_any (a := ⟨N, 4, none⟩) (y := ke) c4 f4 (by omega) (by omega)).mono ?_
  rintro e w4 ⟨rfl, hw4⟩
  have S4 := (show Hid (Sf w N #[.slice sa sn sc, .slice la ln lc, .int .i32 m, .int .u32 q, .int .i64 ke, .bool up, .int .i64 no, .int .i64 ar, .int .i64 en, .slice ea en' ec, st] [(w.heap.size, #[.int .i64 kn, .int .i64 ka, .int .i64 ke], 36)] w4) from by rw [hw4, Int.zero_add]; exact S3.out.set 4 (.int .i64 ke))
  have O4 := (show Hid (Sl .u8 w4 (.slice ua bs'.length ucap) bs') from by rw [hw4]; exact Own.sl (B := w.heap.size) (e := 5) (rk_set O3.out S3.out.sh (by decide)))
  clear hw4 S3 O3 O3' f4
  clear c0 c1 c2 c3 c4 c5 c6 c7 c8 c9
  have CR := irecords_any O4.out BB.out (by omega)
  rw [← HRS.out] at CR
  simp only at CR
  have CR := (show Hid _ from CR)
  go_wp2_with fail
  go_at_call 102
  refine Calls.mono CR.out ?_
  rintro e w5 ⟨v5, rfl, o5, b5⟩
  have S5 := (show Hid (Sf w N #[.slice sa sn sc, .slice la ln lc, .int .i32 m, .int .u32 q, .int .i64 ke, .bool up, .int .i64 no, .int .i64 ar, .int .i64 en, .slice ea en' ec, st] [(w.heap.size, #[.int .i64 kn, .int .i64 ka, .int .i64 ke], 36)] w5) from S4.out.below b5)
  have O5 := (show Hid (OwnRs w.heap.size w5 v5 rs) from rk_base o5 S4.out.gr.size)
  clear CR b5 o5 S4 O4
  have gN := fun n : Wd w5.heap.size w5 => rk_ten (S5.out.below n.below).sh
  have gN4 := fun n : Wd w5.heap.size w5 => (gN n).2.2.2.2.1
  have gH := fun n : Wd w5.heap.size w5 => (rk_three (S5.out.below n.below).at0).2.2.1
  have CL5 := (show Hid (∀ n : Wd w5.heap.size w5, Calls Tryz.prog 103 #[.pointer (some ⟨N, 4, none⟩)] n.w fun e w' => e = .returned (.int .i64 ke) ∧ Below n.w.heap.size n.w w') from fun n => (iload_any (gN4 n)).mono (by
    rintro e w' ⟨rfl, rfl⟩
    exact ⟨rfl, Below.refl _ _⟩))
  have ne := Wd.any w5.heap.size w5
  have hee : (ke == ke) = true := by simp
  clear gN
  cases rb
  · go_wp2_with fail
    refine wp_region_below (by kernel_rfl) (by kernel_rfl) (Below.refl w5.heap.size w5) ?_
    repeat (go_big_quiet_step (fail))
    refine wpQuiet_nil ?_
    intro w6 hq
    replace hq := Wd.of hq
    have S6 := (show Hid _ from S5.out.below hq)
    have O6 := (show Hid _ from ownsRow_below O5.out hq)
    clear hq gN4 gH
    go_wp2
    refine bodyPost_ret (results_tmp2 rfl _ _ _) rfl ?_
    exact ⟨_, rfl, O6.out, S6.out.sub (by simp)⟩
  · go_wp2_with fail
    refine wp_region_below (by kernel_rfl) (by kernel_rfl) (Below.refl w5.heap.size w5) ?_
    repeat (go_big_quiet_step ((go_at_call 103; exact quiet_below (CL5.out _) (Nat.le_refl _))))
    refine wpQuiet_nil ?_
    intro w6 hq
    replace hq := Wd.of hq
    have S6 := (show Hid _ from S5.out.below hq)
    have O6 := (show Hid _ from ownsRow_below O5.out hq)
    clear hq gN4 gH
    go_wp2
    refine bodyPost_ret (results_tmp2 rfl _ _ _) rfl ?_
    exact ⟨_, rfl, O6.out, S6.out.sub (by simp)⟩
end Go.Proofs.YtokkigfjabbdaaaGreatDoor

/- The shelf's load (written by mk/iar3.py). No condition. -/
namespace Go.Proofs.YtokkigfjabbdaaaGreatDoor
open Go.RowKit
set_option maxRecDepth 100000
set_option linter.unusedVariables false

theorem Sf.trans {w W W' : World} {N : Nat} {cs cs' : Array Value} {L : List (Nat × Array Value × TypeId)} (h : Sf w N cs L W) (k : Sf W N cs' [] W') : Sf w N cs' L W' :=
  ⟨grown_trans h.gr k.gr, k.sh, fun p hp => ⟨(k.gr.block p.1 (lt_of_block (h.blk p hp).1) (fun e => (h.blk p hp).2 (Option.some.inj e))).trans (h.blk p hp).1, (h.blk p hp).2⟩⟩
theorem shelf_set {w W : World} {N : Nat} {x0 x1 x2 x3 x4 x5 x6 x7 x8 x9 x10 : Value} {L : List (Nat × Array Value × TypeId)} (h : Sf w N #[x0, x1, x2, x3, x4, x5, x6, x7, x8, x9, x10] L W) (a5 a6 a7 a8 a9 : Value) : Sf w N #[x0, x1, x2, x3, x4, a5, a6, a7, a8, a9, x10] L (((((W.setCell ⟨N, 5, none⟩ a5).setCell ⟨N, 6, none⟩ a6).setCell ⟨N, 7, none⟩ a7).setCell ⟨N, 8, none⟩ a8).setCell ⟨N, 9, none⟩ a9) := by
  have h1 : Sf w N #[x0, x1, x2, x3, x4, a5, x6, x7, x8, x9, x10] L (W.setCell ⟨N, 5, none⟩ a5) := h.set 5 a5
  have h2 : Sf w N #[x0, x1, x2, x3, x4, a5, a6, x7, x8, x9, x10] L ((W.setCell ⟨N, 5, none⟩ a5).setCell ⟨N, 6, none⟩ a6) := h1.set 6 a6
  have h3 : Sf w N #[x0, x1, x2, x3, x4, a5, a6, a7, x8, x9, x10] L (((W.setCell ⟨N, 5, none⟩ a5).setCell ⟨N, 6, none⟩ a6).setCell ⟨N, 7, none⟩ a7) := h2.set 7 a7
  have h4 : Sf w N #[x0, x1, x2, x3, x4, a5, a6, a7, a8, x9, x10] L ((((W.setCell ⟨N, 5, none⟩ a5).setCell ⟨N, 6, none⟩ a6).setCell ⟨N, 7, none⟩ a7).setCell ⟨N, 8, none⟩ a8) := h3.set 8 a8
  exact h4.set 9 a9
theorem shelf_own {w W : World} {N : Nat} {x0 x1 x2 x3 x4 x5 x6 x7 x8 x9 x10 : Value} {L : List (Nat × Array Value × TypeId)} (h : Sf w N #[x0, x1, x2, x3, x4, x5, x6, x7, x8, x9, x10] L W) (a5 a6 a7 a8 a9 : Value) {B e size n : Nat} {v : Value} {xs : List Value} (o : W.ownsRow B e size v n xs) (he : 114 ≠ e) : World.ownsRow (((((W.setCell ⟨N, 5, none⟩ a5).setCell ⟨N, 6, none⟩ a6).setCell ⟨N, 7, none⟩ a7).setCell ⟨N, 8, none⟩ a8).setCell ⟨N, 9, none⟩ a9) B e size v n xs := by
  have h1 := h.set 5 a5
  have h2 := h1.set 6 a6
  have h3 := h2.set 7 a7
  have h4 := h3.set 8 a8
  exact rk_set (rk_set (rk_set (rk_set (rk_set o h.sh he) h1.sh he) h2.sh he) h3.sh he) h4.sh he
set_option maxHeartbeats 2000000 in
set_option maxRecDepth 100000 in
theorem ishLoad_any {w : World} {N B : Nat} {sa : Option Addr} {sn sc : Nat} {la : Option Addr} {ln lc : Nat} {m q r : Int} {up : Bool} {no ar en : Int} {ea : Option Addr} {en' ec : Nat} {st : Value} {d : PDisk} (hS : w.heap[N]? = some (.cells #[.slice sa sn sc, .slice la ln lc, .int .i32 m, .int .u32 q, .int .i64 r, .bool up, .int .i64 no, .int .i64 ar, .int .i64 en, .slice ea en' ec, st] 114 (0, 0))) (hd : OwnDy B w (.agg #[.slice sa sn sc, .slice la ln lc]) d) (hr : diskB d = true) (hs : Sent w) :
    Calls Tryz.prog 66 #[.pointer (some ⟨N, 0, none⟩)] w fun e w' => e = .returned (.bool (wellA d)) ∧ (wellA d = false → ∃ r' : Int, Sf w N #[.slice sa sn sc, .slice la ln lc, .int .i32 m, .int .u32 q, .int .i64 r', .bool up, .int .i64 no, .int .i64 ar, .int .i64 en, .slice ea en' ec, st] [] w') ∧ (wellA d = true → ∃ (r' : Int) (fa : Option Addr) (fn fc : Nat), Sf w N #[.slice sa sn sc, .slice la ln lc, .int .i32 m, .int .u32 q, .int .i64 r', .bool true, .int .i64 (nowDk d).no, .int .i64 (nowDk d).area, .int .i64 (nowDk d).en, .slice fa fn fc, st] [] w' ∧ OwnEy w.heap.size w' (.slice fa fn fc) (indexA d (nowDk d))) := by
  have HS := (show Hid (w.heap[N]? = some (.cells #[.slice sa sn sc, .slice la ln lc, .int .i32 m, .int .u32 q, .int .i64 r, .bool up, .int .i64 no, .int .i64 ar, .int .i64 en, .slice ea en' ec, st] 114 (0, 0))) from hS)
  have HD := (show Hid (OwnDy B w (.agg #[.slice sa sn sc, .slice la ln lc]) d) from hd)
  have HR := (show Hid (diskB d = true) from hr)
  have HT := (show Hid (Sent w) from hs)
  have NI := (show Hid _ from now_in d)
  have CN := iheadNow_any w _ d hd.at (fit_right hr) hs
  obtain ⟨⟨kn, ka, ke⟩, hk⟩ : ∃ k, k = nowDk d := ⟨_, rfl⟩
  rw [← hk] at CN NI
  have CN := (show Hid (Calls Tryz.prog 85 #[.agg #[.slice sa sn sc, .slice la ln lc]] w fun e w' => e = .returned (.agg #[.int .i64 kn, .int .i64 ka, .int .i64 ke]) ∧ Below w.heap.size w w') from CN)
  have hw : wellA d = (headB ⟨kn, ka, ke⟩ && (recsA d ⟨kn, ka, ke⟩).2) := by rw [wellA, ← hk]
  have hix : indexA d (nowDk d) = idxOf (recsA d ⟨kn, ka, ke⟩).1 := by rw [← hk]; rfl
  have hrl : (recsA d ⟨kn, ka, ke⟩).1.length ≤ 1048576 := by
    have h1 := recsA_len d ⟨kn, ka, ke⟩
    have h2 := NI.out
    simp only at h1 h2
    omega
  have CR := fun (W : World) (h : Sf w N #[.slice sa sn sc, .slice la ln lc, .int .i32 m, .int .u32 q, .int .i64 r, .bool up, .int .i64 no, .int .i64 ar, .int .i64 en, .slice ea en' ec, st] [(W.heap.size - 1, #[.int .i64 kn, .int .i64 ka, .int .i64 ke], 36)] W) => irecs_any h.sh (h.disk hS hd) hr ⟨kn, ka, ke⟩ NI.out
  obtain ⟨⟨rs, rb⟩, hrs⟩ : ∃ x, x = recsA d ⟨kn, ka, ke⟩ := ⟨_, rfl⟩
  rw [← hrs] at hw hix hrl CR
  simp only at hw hix hrl CR
  obtain ⟨rh, hrh⟩ : ∃ b, b = headB ⟨kn, ka, ke⟩ := ⟨_, rfl⟩
  rw [← hrh] at hw
  have CI := (show Hid (∀ W, Calls Tryz.prog 87 #[.agg #[.int .i64 kn, .int .i64 ka, .int .i64 ke]] W fun e w' => e = .returned (.bool rh) ∧ Below W.heap.size W w') from fun W => by rw [hrh]; exact iisRight_any ⟨kn, ka, ke⟩ W)
  have hsr : ShortR rs := ⟨hrl, fun p hp => by
    have h1 := recsA_size d ⟨kn, ka, ke⟩
    rw [← hrs] at h1
    have h2 := h1 p hp
    have h3 := NI.out
    simp only at h2 h3
    omega⟩
  have HSR := (show Hid (ShortR rs) from hsr)
  clear hsr hrh
  rw [hw, hix, ← hk]
  simp only
  have CR := (show Hid _ from CR)
  have HRL := (show Hid (rs.length ≤ 1048576) from hrl)
  clear hw hix hrl hrs hk hS hd hr hs
  obtain ⟨c0, c1, c2, c3, c4, c5, c6, c7, c8, c9⟩ := rk_ten (Sf.refl HS.out).sh
  go_enter Tryz.func66, Tryz.ntmps66
  go_wp2_with fail
  go_at_call 85
  refine Calls.mono CN.out ?_
  rintro e w1 ⟨rfl, b1⟩
  have s2 := ((Sf.refl HS.out).below b1).new #[.int .i64 kn, .int .i64 ka, .int .i64 ke] 36
  obtain ⟨w2, hw2⟩ : ∃ x, x = w1.alloc (.cells #[.int .i64 kn, .int .i64 ka, .int .i64 ke] 36) := ⟨_, rfl⟩
  have hz : w2.heap.size - 1 = w1.heap.size := by rw [hw2, World.size_alloc]; omega
  rw [← hw2] at s2
  have S2 := (show Hid (Sf w N #[.slice sa sn sc, .slice la ln lc, .int .i32 m, .int .u32 q, .int .i64 r, .bool up, .int .i64 no, .int .i64 ar, .int .i64 en, .slice ea en' ec, st] [(w1.heap.size, #[.int .i64 kn, .int .i64 ka, .int .i64 ke], 36)] w2) from s2)
  have CR2 := (show Hid _ from CR.out w2 (by rw [hz]; exact s2))
  clear s2 CN CR b1 hz
  clear c0 c1 c2 c3 c4 c5 c6 c7 c8 c9
  obtain ⟨d0, d1, d2, _⟩ := rk_three S2.out.at0
  go_wp2_with fail
  go_at_call 86
  rw [← hw2]
  refine Calls.mono CR2.out ?_
  rintro e w3 ⟨v3, rfl, o3, f3⟩
  have S3 := (show Hid (Sf w N #[.slice sa sn sc, .slice la ln lc, .int .i32 m, .int .u32 q, .int .i64 ke, .bool up, .int .i64 no, .int .i64 ar, .int .i64 en, .slice ea en' ec, st] [(w1.heap.size, #[.int .i64 kn, .int .i64 ka, .int .i64 ke], 36)] w3) from S2.out.trans f3)
  have O3 := (show Hid (OwnRs w2.heap.size w3 v3 rs) from o3)
  clear hw2 d0 d1 d2 f3 o3 CR2 S2
  obtain ⟨d0, d1, d2, _⟩ := rk_three S3.out.at0
  go_wp2_with fail
  go_at_call 87
  refine Calls.mono (CI.out _) ?_
  rintro e w4 ⟨rfl, b4⟩
  have S4 := (show Hid (Sf w N #[.slice sa sn sc, .slice la ln lc, .int .i32 m, .int .u32 q, .int .i64 ke, .bool up, .int .i64 no, .int .i64 ar, .int .i64 en, .slice ea en' ec, st] [(w1.heap.size, #[.int .i64 kn, .int .i64 ka, .int .i64 ke], 36)] w4) from S3.out.below b4)
  have O4 := (show Hid (Sv 3 w4 v3 (recCells rs)) from (sv_of_own O3.out).below b4)
  clear d0 d1 d2 b4 S3 O3
  cases rh
  · go_wp2
    go_ret
    exact ⟨rfl, fun _ => ⟨_, S4.out.sub (by simp)⟩, fun h => by simp at h⟩
  · cases rb
    · go_wp2
      go_ret
      exact ⟨rfl, fun _ => ⟨_, S4.out.sub (by simp)⟩, fun h => by simp at h⟩
    · have SD := (show Hid (Sf w N #[.slice sa sn sc, .slice la ln lc, .int .i32 m, .int .u32 q, .int .i64 ke, .bool up, .int .i64 no, .int .i64 ar, .int .i64 en, .slice ea en' ec, st] [(w1.heap.size, #[.int .i64 kn, .int .i64 ka, .int .i64 ke], 36)] w4.drew) from S4.out.below (below_drewN 1))
      have CX := (show Hid (Calls Tryz.prog 88 #[v3] w4.drew fun e w' => ∃ fa fn fc, e = .returned (.slice fa fn fc) ∧ OwnPs w.heap.size w' (.slice fa fn fc) (idxOf rs) ∧ Sf w N #[.slice sa sn sc, .slice la ln lc, .int .i32 m, .int .u32 q, .int .i64 ke, .bool up, .int .i64 no, .int .i64 ar, .int .i64 en, .slice ea en' ec, st] [(w1.heap.size, #[.int .i64 kn, .int .i64 ka, .int .i64 ke], 36)] w') from (iindexOf_any _ _ _ (O4.out.below (below_drewN 1)) HSR.out).mono (by
        rintro e w' ⟨v', rfl, o, b⟩
        obtain ⟨fa, fn, fc, rfl⟩ := rk_slice o
        exact ⟨fa, fn, fc, rfl, rk_base o SD.out.gr.size, SD.out.below b⟩))
      obtain ⟨d0, d1, d2, _⟩ := rk_three S4.out.at0
      go_upto_region 5 with fail
      clear d0 d1 d2
      obtain ⟨d0, d1, d2, _⟩ := rk_three SD.out.at0
      go_region_with (first
        | (go_at_call 88
           refine Calls.mono CX.out ?_
           rintro e w5 ⟨fa, fn, fc, rfl, o5, s5⟩
           obtain ⟨c0, c1, c2, c3, c4, c5, c6, c7, c8, c9⟩ := rk_ten s5.sh
           have f5 := rk_thaw (k := 5) s5.sh
           have f6 := rk_thaw (k := 6) s5.sh
           have f7 := rk_thaw (k := 7) s5.sh
           have f8 := rk_thaw (k := 8) s5.sh
           have f9 := rk_thaw (k := 9) s5.sh
           obtain ⟨z0, z1, z2, _⟩ := rk_three s5.at0
           have hne := s5.ne0
           have S9 := (show Hid _ from shelf_set s5 (.bool true) (.int .i64 kn) (.int .i64 ka) (.int .i64 ke) (.slice fa fn fc))
           have O9 := (show Hid _ from shelf_own s5 (.bool true) (.int .i64 kn) (.int .i64 ka) (.int .i64 ke) (.slice fa fn fc) o5 (by decide))
           clear o5 s5))
      all_goals go_wp2
      all_goals go_ret
      all_goals exact ⟨rfl, fun h => by simp at h, fun _ => ⟨_, _, _, _, S9.out.sub (by simp), OwnY.of (.inl O9.out)⟩⟩
end Go.Proofs.YtokkigfjabbdaaaGreatDoor

/- shelfOf, and the program's ArchiveOk (written by mk/iar4.py). No condition. -/
namespace Go.Proofs.YtokkigfjabbdaaaGreatDoor
open Go.RowKit
set_option maxRecDepth 100000
set_option linter.unusedVariables false

/-- In W block N is a shelf of the archive a; its rows lie in blocks from B on; its lock is m. -/
def Shelf (B : Nat) (W : World) (N : Nat) (a : PArch) (m : Int) : Prop := ∃ sa sn sc la ln lc q r ea en ec st, B ≤ N ∧ W.heap[N]? = some (.cells #[.slice sa sn sc, .slice la ln lc, .int .i32 m, .int .u32 q, .int .i64 r, .bool a.up, .int .i64 a.head.no, .int .i64 a.head.area, .int .i64 a.head.en, .slice ea en ec, st] 114 (0, 0)) ∧ OwnDy B W (.agg #[.slice sa sn sc, .slice la ln lc]) a.disk ∧ OwnEy B W (.slice ea en ec) a.list
/-- What shelfOf answers. -/
def ShOut (B : Nat) (a : PArch) (q : Bool) (e : Ending) (W : World) : Prop := (q = false ∧ e = .returned (.pointer none)) ∨ (q = true ∧ ∃ N, e = .returned (.pointer (some ⟨N, 0, none⟩)) ∧ Shelf B W N a 0)
theorem ShOut.no {B : Nat} {a : PArch} {e : Ending} {W : World} (h : e = .returned (.pointer none)) : ShOut B a false e W := .inl ⟨rfl, h⟩
theorem ShOut.yes {B : Nat} {a : PArch} {e : Ending} {W : World} {N : Nat} (h : e = .returned (.pointer (some ⟨N, 0, none⟩))) (s : Shelf B W N a 0) : ShOut B a true e W := .inr ⟨rfl, N, h, s⟩
theorem own_putLen {B : Nat} {w : World} {a b : Value} {d : PDisk} (h : OwnDy B w (.agg #[a, b]) d) : ∃ sa sn sc la lc, a = .slice sa sn sc ∧ b = .slice la d.late.length lc := by
  obtain ⟨_, _, _, _, _, _, e, _, h2⟩ := h
  cases e
  obtain ⟨la, lc, e2, _⟩ := h2.sv.put
  cases e2
  exact ⟨_, _, _, _, _, rfl, rfl⟩

set_option maxHeartbeats 4000000 in
set_option maxRecDepth 100000 in
theorem ishelfOf_any {w : World} {v : Value} {a : PArch} (h : ArAt w v a) (hf : ArFit a) (hs : Sent w) :
    Calls Tryz.prog 35 #[v] w fun e w' => ShOut w.heap.size a (archB a) e w' ∧ Below w.heap.size w w' := by
  obtain ⟨up, d, ⟨no, ar, en⟩, ls⟩ := a
  obtain ⟨sa, sn, sc, la, ln, lc, ea, en', ec, rfl, h1, h2⟩ := h
  simp only at h1 h2
  have H1 := (show Hid (DiskAt w (.agg #[.slice sa sn sc, .slice la ln lc]) d) from h1)
  have H2 := (show Hid (Sv 2 w (.slice ea en' ec) (pairCells ls)) from h2)
  have HF := (show Hid (DiskFit d) from hf.d)
  have HT := (show Hid (Sent w) from hs)
  have hnl : ls.length ≤ 1099511627776 := by have := hf.el; simp only at this; omega
  have hn2 : d.late.length ≤ 1048576 := hf.d.ll
  clear h1 h2 hf hs
  have hnk := head_neK
  have hl := (Hl.refl w).new #[.bool up, .slice sa sn sc, .slice la ln lc, .int .i64 no, .int .i64 ar, .int .i64 en, .slice ea en' ec] 39
  obtain ⟨w1, hw1⟩ : ∃ x, x = w.alloc (.cells #[.bool up, .slice sa sn sc, .slice la ln lc, .int .i64 no, .int .i64 ar, .int .i64 en, .slice ea en' ec] 39) := ⟨_, rfl⟩
  rw [← hw1] at hl
  have HL := (show Hid (Hl w [(w.heap.size, #[.bool up, .slice sa sn sc, .slice la ln lc, .int .i64 no, .int .i64 ar, .int .i64 en, .slice ea en' ec], 39)] w1) from hl)
  clear hl
  obtain ⟨q, hq⟩ : ∃ q, q = archB ⟨up, d, ⟨no, ar, en⟩, ls⟩ := ⟨_, rfl⟩
  rw [← hq]
  have HQ := (show Hid (q = archB ⟨up, d, ⟨no, ar, en⟩, ls⟩) from hq)
  clear hq
  go_enter Tryz.func35, Tryz.ntmps35
  go_wp2_with fail
  go_at_call 64
  rw [← hw1]
  refine (idiskOk_any (H1.out.below HL.out.1) HF.out).mono ?_
  rintro e w2 ⟨rfl, b2⟩
  clear hw1
  have S_w2 := (show Hid (Hl w [(w.heap.size, #[.bool up, .slice sa sn sc, .slice la ln lc, .int .i64 no, .int .i64 ar, .int .i64 en, .slice ea en' ec], 39)] w2) from HL.out.below b2)
  clear b2 HL
  cases hb : diskB d
  · have hq : q = false := by rw [HQ.out, archB]; simp only; rw [hb]; rfl
    subst hq
    clear hb HQ
    go_wp2
    go_ret
    exact ⟨ShOut.no rfl, S_w2.out.1⟩
  · have HB := (show Hid (diskB d = true) from hb)
    clear hb
    obtain ⟨c0, c1, c2, c3, c4, c5, c6, _⟩ := rk_seven S_w2.out.at0
    go_wp2_with fail
    go_at_call 65
    refine (icopyOfDisk_any (H1.out.below S_w2.out.1) HF.out).mono ?_
    rintro e w3 ⟨v3, rfl, o3, b3⟩
    have o3' := (OwnDy.of o3).base S_w2.out.1.size
    obtain ⟨_, _, _, _, _, _, rfl, _⟩ := o3
    obtain ⟨ta, tn, tc, ma, mc, e1, e2⟩ := own_putLen o3'
    rw [e1, e2] at o3'
    rw [e1, e2]
    clear e1 e2
    have s3 := S_w2.out.below b3
    have N_ : ∃ N, N = w3.heap.size := ⟨_, rfl⟩
    obtain ⟨N, hN⟩ := N_
    have HNN := (show Hid (w.heap.size ≤ N) from by rw [hN]; exact s3.1.size)
    have s4 := s3.new #[.slice ta tn tc, .slice ma d.late.length mc, .int .i32 0, .int .u32 0, .int .i64 0, .bool false, .int .i64 0, .int .i64 0, .int .i64 0, .slice none 0 0, .slice none 0 0] 114
    have od4 := o3'.below ((Below.refl w3.heap.size w3).alloc (Nat.le_refl _) (.cells #[.slice ta tn tc, .slice ma d.late.length mc, .int .i32 0, .int .u32 0, .int .i64 0, .bool false, .int .i64 0, .int .i64 0, .int .i64 0, .slice none 0 0, .slice none 0 0] 114))
    obtain ⟨w4, hw4⟩ : ∃ x, x = w3.alloc (.cells #[.slice ta tn tc, .slice ma d.late.length mc, .int .i32 0, .int .u32 0, .int .i64 0, .bool false, .int .i64 0, .int .i64 0, .int .i64 0, .slice none 0 0, .slice none 0 0] 114) := ⟨_, rfl⟩
    have hz : w3.heap.size < w4.heap.size := by rw [hw4, World.size_alloc]; omega
    rw [← hw4, ← hN] at s4
    rw [← hw4] at od4
    have S_w4 := (show Hid (Hl w [(N, #[.slice ta tn tc, .slice ma d.late.length mc, .int .i32 0, .int .u32 0, .int .i64 0, .bool false, .int .i64 0, .int .i64 0, .int .i64 0, .slice none 0 0, .slice none 0 0], 114), (w.heap.size, #[.bool up, .slice sa sn sc, .slice la ln lc, .int .i64 no, .int .i64 ar, .int .i64 en, .slice ea en' ec], 39)] w4) from s4)
    have OD4 := (show Hid (OwnDy w.heap.size w4 (.agg #[.slice ta tn tc, .slice ma d.late.length mc]) d) from od4)
    have hNe : w.heap.size ≠ N := fun e => by
      have e1 := s4.at0
      have e2 := s4.at1
      rw [e, e1] at e2
      cases e2
    clear s3 s4 od4 o3' b3 hz c0 c1 c2 c3 c4 c5 c6 S_w2
    go_upto_region 4 with fail
    rw [← hw4, ← hN]
    clear hw4 hN
    obtain ⟨c0, c1, c2, c3, c4, c5, c6, _⟩ := rk_seven S_w4.out.at1
    obtain ⟨d0, d1, d2, d3, d4, d5, d6, d7, d8, d9⟩ := rk_ten S_w4.out.at0
    by_cases hlt : 0 < d.late.length
    · have hq : q = false := by
        rw [HQ.out, archB]; simp only
        rw [HB.out, show decide (d.late = []) = false from decide_eq_false (fun e => by rw [e] at hlt; exact absurd hlt (by decide))]; rfl
      subst hq
      clear HQ
      go_wp2
      go_ret
      exact ⟨ShOut.no rfl, S_w4.out.1⟩
    · have hnil : d.late = [] := List.length_eq_zero_iff.mp (by omega)
      have HN := (show Hid (d.late = []) from hnil)
      clear hnil
      cases up
      · have HQ := (show Hid (q = (headEq ⟨0, 0, 0⟩ ⟨no, ar, en⟩ && decide (([] : List (ByteArray × ByteArray)) = ls))) from (show _ = _ by
          rw [HQ.out, archB]; simp only
          rw [HB.out, decide_eq_true HN.out]
          have : decide (ls = []) = decide (([] : List (ByteArray × ByteArray)) = ls) := by
            by_cases e : ls = []
            · rw [decide_eq_true e, decide_eq_true e.symm]
            · rw [decide_eq_false e, decide_eq_false (fun h => e h.symm)]
          rw [this]; rfl))
        have hel : ([] : List (ByteArray × ByteArray)).length ≤ 1099511627776 := by decide
        have OE := (show Hid (OwnEy w.heap.size w4 (.slice none 0 0) []) from .inl ⟨rfl, rfl, none, rfl, fun _ => trivial⟩)
        have OD := OD4
        have CE := (show Hid (∀ n : Wd w4.heap.size w4, Calls Tryz.prog 67 #[.slice none 0 0, .slice ea en' ec] n.w fun e w' => e = .returned (.bool (decide (([] : List (ByteArray × ByteArray)) = ls))) ∧ Below n.w.heap.size n.w w') from fun n => iequal_any (OE.out.sv.below n.below) (H2.out.below (S_w4.out.below n.below).1) hel hnl)
        cases hh : headEq ⟨0, 0, 0⟩ ⟨no, ar, en⟩
        · have hq : q = false := by rw [HQ.out, hh]; rfl
          subst hq
          clear HQ
          go_wp2_with fail
          have gs := fun n : Wd w4.heap.size w4 => rk_ten (S_w4.out.below n.below).at0
          have ga := fun n : Wd w4.heap.size w4 => rk_seven (S_w4.out.below n.below).at1
          have gs6 := fun n : Wd w4.heap.size w4 => (gs n).2.2.2.2.2.2.1
          have gs7 := fun n : Wd w4.heap.size w4 => (gs n).2.2.2.2.2.2.2.1
          have gs8 := fun n : Wd w4.heap.size w4 => (gs n).2.2.2.2.2.2.2.2.1
          have gs9 := fun n : Wd w4.heap.size w4 => (gs n).2.2.2.2.2.2.2.2.2
          have ga3 := fun n : Wd w4.heap.size w4 => (ga n).2.2.2.1
          have ga4 := fun n : Wd w4.heap.size w4 => (ga n).2.2.2.2.1
          have ga5 := fun n : Wd w4.heap.size w4 => (ga n).2.2.2.2.2.1
          have ga6 := fun n : Wd w4.heap.size w4 => (ga n).2.2.2.2.2.2.1
          clear gs ga
          have ne := Wd.any w4.heap.size w4
          refine wp_region_below (by kernel_rfl) (by kernel_rfl) (Below.refl w4.heap.size w4) ?_
          repeat (go_big_quiet_step (fail))
          refine wpQuiet_nil ?_
          intro w9 hq9
          replace hq9 := Wd.of hq9
          clear gs6 gs7 gs8 gs9 ga3 ga4 ga5 ga6 ne
          go_wp2
          go_ret
          exact ⟨ShOut.no rfl, (S_w4.out.below hq9).1⟩
        · by_cases hes : ([] : List (ByteArray × ByteArray)) = ls
          · have hq : q = true := by rw [HQ.out, hh, decide_eq_true hes]; rfl
            subst hq
            rw [decide_eq_true hes] at CE
            have HES := (show Hid _ from And.intro (headEq_iff.mp hh) hes)
            clear HQ hes
            go_wp2_with fail
            have gs := fun n : Wd w4.heap.size w4 => rk_ten (S_w4.out.below n.below).at0
            have ga := fun n : Wd w4.heap.size w4 => rk_seven (S_w4.out.below n.below).at1
            have gs6 := fun n : Wd w4.heap.size w4 => (gs n).2.2.2.2.2.2.1
            have gs7 := fun n : Wd w4.heap.size w4 => (gs n).2.2.2.2.2.2.2.1
            have gs8 := fun n : Wd w4.heap.size w4 => (gs n).2.2.2.2.2.2.2.2.1
            have gs9 := fun n : Wd w4.heap.size w4 => (gs n).2.2.2.2.2.2.2.2.2
            have ga3 := fun n : Wd w4.heap.size w4 => (ga n).2.2.2.1
            have ga4 := fun n : Wd w4.heap.size w4 => (ga n).2.2.2.2.1
            have ga5 := fun n : Wd w4.heap.size w4 => (ga n).2.2.2.2.2.1
            have ga6 := fun n : Wd w4.heap.size w4 => (ga n).2.2.2.2.2.2.1
            clear gs ga
            have ne := Wd.any w4.heap.size w4
            refine wp_region_below (by kernel_rfl) (by kernel_rfl) (Below.refl w4.heap.size w4) ?_
            repeat (go_big_quiet_step ((go_at_call 67; exact quiet_below (CE.out _) (Nat.le_refl _))))
            refine wpQuiet_nil ?_
            intro w9 hq9
            replace hq9 := Wd.of hq9
            clear gs6 gs7 gs8 gs9 ga3 ga4 ga5 ga6 ne
            go_wp2
            go_ret
            refine ⟨ShOut.yes (N := N) rfl ⟨ta, tn, tc, ma, d.late.length, mc, 0, 0, none, 0, 0, .slice none 0 0, HNN.out, ?_, OD.out.below hq9, ?_⟩, (S_w4.out.below hq9).1⟩
            · have e1 := HES.out.1
              cases e1
              exact (S_w4.out.below hq9).at0
            · have e2 := HES.out.2
              subst e2
              exact OE.out.below hq9
          · have hq : q = false := by rw [HQ.out, hh, decide_eq_false hes]; rfl
            subst hq
            rw [decide_eq_false hes] at CE
            clear HQ hes
            go_wp2_with fail
            have gs := fun n : Wd w4.heap.size w4 => rk_ten (S_w4.out.below n.below).at0
            have ga := fun n : Wd w4.heap.size w4 => rk_seven (S_w4.out.below n.below).at1
            have gs6 := fun n : Wd w4.heap.size w4 => (gs n).2.2.2.2.2.2.1
            have gs7 := fun n : Wd w4.heap.size w4 => (gs n).2.2.2.2.2.2.2.1
            have gs8 := fun n : Wd w4.heap.size w4 => (gs n).2.2.2.2.2.2.2.2.1
            have gs9 := fun n : Wd w4.heap.size w4 => (gs n).2.2.2.2.2.2.2.2.2
            have ga3 := fun n : Wd w4.heap.size w4 => (ga n).2.2.2.1
            have ga4 := fun n : Wd w4.heap.size w4 => (ga n).2.2.2.2.1
            have ga5 := fun n : Wd w4.heap.size w4 => (ga n).2.2.2.2.2.1
            have ga6 := fun n : Wd w4.heap.size w4 => (ga n).2.2.2.2.2.2.1
            clear gs ga
            have ne := Wd.any w4.heap.size w4
            refine wp_region_below (by kernel_rfl) (by kernel_rfl) (Below.refl w4.heap.size w4) ?_
            repeat (go_big_quiet_step ((go_at_call 67; exact quiet_below (CE.out _) (Nat.le_refl _))))
            refine wpQuiet_nil ?_
            intro w9 hq9
            replace hq9 := Wd.of hq9
            clear gs6 gs7 gs8 gs9 ga3 ga4 ga5 ga6 ne
            go_wp2
            go_ret
            exact ⟨ShOut.no rfl, (S_w4.out.below hq9).1⟩
      · have HQ := (show Hid (q = (wellA d && (headEq (nowDk d) ⟨no, ar, en⟩ && decide (indexA d (nowDk d) = ls)))) from (show _ = _ by
          rw [HQ.out, archB, tellsA]; simp only
          rw [HB.out, decide_eq_true HN.out]; rfl))
        have CL := ishLoad_any S_w4.out.at0 OD4.out HB.out (HT.out.below S_w4.out.1)
        have NL := (show Hid ((nowDk d).en ≤ 4096) from (now_in d).2.2.2)
        have hel : (indexA d (nowDk d)).length ≤ 1099511627776 := by
          have h1 := indexA_len d (nowDk d)
          have h2 := NL.out
          omega
        obtain ⟨wl, hwl⟩ : ∃ b, b = wellA d := ⟨_, rfl⟩
        rw [← hwl] at CL HQ
        have CL := (show Hid _ from CL)
        clear hwl
        go_wp2_with fail
        go_at_call 66
        refine Calls.mono CL.out ?_
        rintro e w5 ⟨rfl, hno, hyes⟩
        clear c0 c1 c2 c3 c4 c5 c6 d0 d1 d2 d3 d4 d5 d6 d7 d8 d9 CL
        cases wl
        · have hq : q = false := by rw [HQ.out]; rfl
          subst hq
          obtain ⟨r5, f5⟩ := hno rfl
          have B5 := (show Hid (Below w.heap.size w w5) from (S_w4.out.1.grown f5.gr S_w4.out.1.size (fun r e => by cases e; exact HNN.out)))
          clear HQ hno hyes f5
          go_wp2
          go_ret
          exact ⟨ShOut.no rfl, B5.out⟩
        · have HQ := (show Hid (q = (headEq ⟨(nowDk d).no, (nowDk d).area, (nowDk d).en⟩ ⟨no, ar, en⟩ && decide (indexA d (nowDk d) = ls))) from HQ.out)
          obtain ⟨r5, fa, fn, fc, f5, o5⟩ := hyes rfl
          have hl5 : Hl w [(N, #[.slice ta tn tc, .slice ma d.late.length mc, .int .i32 0, .int .u32 0, .int .i64 r5, .bool true, .int .i64 (nowDk d).no, .int .i64 (nowDk d).area, .int .i64 (nowDk d).en, .slice fa fn fc, .slice none 0 0], 114), (w.heap.size, #[.bool true, .slice sa sn sc, .slice la ln lc, .int .i64 no, .int .i64 ar, .int .i64 en, .slice ea en' ec], 39)] w5 := by
            have t := S_w4.out.tail.past f5.gr (fun r e => by cases e; exact ⟨HNN.out, by simp; exact hNe⟩)
            exact ⟨t.1, fun p hp => by
              rcases List.mem_cons.mp hp with rfl | hp
              · exact f5.sh
              · exact t.2 p hp⟩
          have S_w5 := (show Hid (Hl w [(N, #[.slice ta tn tc, .slice ma d.late.length mc, .int .i32 0, .int .u32 0, .int .i64 r5, .bool true, .int .i64 (nowDk d).no, .int .i64 (nowDk d).area, .int .i64 (nowDk d).en, .slice fa fn fc, .slice none 0 0], 114), (w.heap.size, #[.bool true, .slice sa sn sc, .slice la ln lc, .int .i64 no, .int .i64 ar, .int .i64 en, .slice ea en' ec], 39)] w5) from hl5)
          have OE := (show Hid (OwnEy w.heap.size w5 (.slice fa fn fc) (indexA d (nowDk d))) from o5.base S_w4.out.1.size)
          have OD := (show Hid (OwnDy w.heap.size w5 (.agg #[.slice ta tn tc, .slice ma d.late.length mc]) d) from f5.disk S_w4.out.at0 OD4.out)
          obtain ⟨⟨kn, ka, ke⟩, hk⟩ : ∃ k, k = nowDk d := ⟨_, rfl⟩
          rw [← hk] at HQ S_w5 OE hel
          simp only at HQ S_w5
          clear hno hyes f5 o5 hl5 hk NL S_w4 OD4
          have CE := (show Hid (∀ n : Wd w5.heap.size w5, Calls Tryz.prog 67 #[.slice fa fn fc, .slice ea en' ec] n.w fun e w' => e = .returned (.bool (decide (indexA d ⟨kn, ka, ke⟩ = ls))) ∧ Below n.w.heap.size n.w w') from fun n => iequal_any (OE.out.sv.below n.below) (H2.out.below (S_w5.out.below n.below).1) hel hnl)
          cases hh : headEq ⟨kn, ka, ke⟩ ⟨no, ar, en⟩
          · have hq : q = false := by rw [HQ.out, hh]; rfl
            subst hq
            clear HQ
            go_wp2_with fail
            have gs := fun n : Wd w5.heap.size w5 => rk_ten (S_w5.out.below n.below).at0
            have ga := fun n : Wd w5.heap.size w5 => rk_seven (S_w5.out.below n.below).at1
            have gs6 := fun n : Wd w5.heap.size w5 => (gs n).2.2.2.2.2.2.1
            have gs7 := fun n : Wd w5.heap.size w5 => (gs n).2.2.2.2.2.2.2.1
            have gs8 := fun n : Wd w5.heap.size w5 => (gs n).2.2.2.2.2.2.2.2.1
            have gs9 := fun n : Wd w5.heap.size w5 => (gs n).2.2.2.2.2.2.2.2.2
            have ga3 := fun n : Wd w5.heap.size w5 => (ga n).2.2.2.1
            have ga4 := fun n : Wd w5.heap.size w5 => (ga n).2.2.2.2.1
            have ga5 := fun n : Wd w5.heap.size w5 => (ga n).2.2.2.2.2.1
            have ga6 := fun n : Wd w5.heap.size w5 => (ga n).2.2.2.2.2.2.1
            clear gs ga
            have ne := Wd.any w5.heap.size w5
            refine wp_region_below (by kernel_rfl) (by kernel_rfl) (Below.refl w5.heap.size w5) ?_
            repeat (go_big_quiet_step (fail))
            refine wpQuiet_nil ?_
            intro w9 hq9
            replace hq9 := Wd.of hq9
            clear gs6 gs7 gs8 gs9 ga3 ga4 ga5 ga6 ne
            go_wp2
            go_ret
            exact ⟨ShOut.no rfl, (S_w5.out.below hq9).1⟩
          · by_cases hes : indexA d ⟨kn, ka, ke⟩ = ls
            · have hq : q = true := by rw [HQ.out, hh, decide_eq_true hes]; rfl
              subst hq
              rw [decide_eq_true hes] at CE
              have HES := (show Hid _ from And.intro (headEq_iff.mp hh) hes)
              clear HQ hes
              go_wp2_with fail
              have gs := fun n : Wd w5.heap.size w5 => rk_ten (S_w5.out.below n.below).at0
              have ga := fun n : Wd w5.heap.size w5 => rk_seven (S_w5.out.below n.below).at1
              have gs6 := fun n : Wd w5.heap.size w5 => (gs n).2.2.2.2.2.2.1
              have gs7 := fun n : Wd w5.heap.size w5 => (gs n).2.2.2.2.2.2.2.1
              have gs8 := fun n : Wd w5.heap.size w5 => (gs n).2.2.2.2.2.2.2.2.1
              have gs9 := fun n : Wd w5.heap.size w5 => (gs n).2.2.2.2.2.2.2.2.2
              have ga3 := fun n : Wd w5.heap.size w5 => (ga n).2.2.2.1
              have ga4 := fun n : Wd w5.heap.size w5 => (ga n).2.2.2.2.1
              have ga5 := fun n : Wd w5.heap.size w5 => (ga n).2.2.2.2.2.1
              have ga6 := fun n : Wd w5.heap.size w5 => (ga n).2.2.2.2.2.2.1
              clear gs ga
              have ne := Wd.any w5.heap.size w5
              refine wp_region_below (by kernel_rfl) (by kernel_rfl) (Below.refl w5.heap.size w5) ?_
              repeat (go_big_quiet_step ((go_at_call 67; exact quiet_below (CE.out _) (Nat.le_refl _))))
              refine wpQuiet_nil ?_
              intro w9 hq9
              replace hq9 := Wd.of hq9
              clear gs6 gs7 gs8 gs9 ga3 ga4 ga5 ga6 ne
              go_wp2
              go_ret
              refine ⟨ShOut.yes (N := N) rfl ⟨ta, tn, tc, ma, d.late.length, mc, 0, r5, fa, fn, fc, .slice none 0 0, HNN.out, ?_, OD.out.below hq9, ?_⟩, (S_w5.out.below hq9).1⟩
              · have e1 := HES.out.1
                cases e1
                exact (S_w5.out.below hq9).at0
              · have e2 := HES.out.2
                subst e2
                exact OE.out.below hq9
            · have hq : q = false := by rw [HQ.out, hh, decide_eq_false hes]; rfl
              subst hq
              rw [decide_eq_false hes] at CE
              clear HQ hes
              go_wp2_with fail
              have gs := fun n : Wd w5.heap.size w5 => rk_ten (S_w5.out.below n.below).at0
              have ga := fun n : Wd w5.heap.size w5 => rk_seven (S_w5.out.below n.below).at1
              have gs6 := fun n : Wd w5.heap.size w5 => (gs n).2.2.2.2.2.2.1
              have gs7 := fun n : Wd w5.heap.size w5 => (gs n).2.2.2.2.2.2.2.1
              have gs8 := fun n : Wd w5.heap.size w5 => (gs n).2.2.2.2.2.2.2.2.1
              have gs9 := fun n : Wd w5.heap.size w5 => (gs n).2.2.2.2.2.2.2.2.2
              have ga3 := fun n : Wd w5.heap.size w5 => (ga n).2.2.2.1
              have ga4 := fun n : Wd w5.heap.size w5 => (ga n).2.2.2.2.1
              have ga5 := fun n : Wd w5.heap.size w5 => (ga n).2.2.2.2.2.1
              have ga6 := fun n : Wd w5.heap.size w5 => (ga n).2.2.2.2.2.2.1
              clear gs ga
              have ne := Wd.any w5.heap.size w5
              refine wp_region_below (by kernel_rfl) (by kernel_rfl) (Below.refl w5.heap.size w5) ?_
              repeat (go_big_quiet_step ((go_at_call 67; exact quiet_below (CE.out _) (Nat.le_refl _))))
              refine wpQuiet_nil ?_
              intro w9 hq9
              replace hq9 := Wd.of hq9
              clear gs6 gs7 gs8 gs9 ga3 ga4 ga5 ga6 ne
              go_wp2
              go_ret
              exact ⟨ShOut.no rfl, (S_w5.out.below hq9).1⟩

end Go.Proofs.YtokkigfjabbdaaaGreatDoor

/- The program's ArchiveOk. No condition. -/
namespace Go.Proofs.YtokkigfjabbdaaaGreatDoor
open Go.RowKit
set_option maxRecDepth 100000
set_option linter.unusedVariables false

set_option maxHeartbeats 1000000 in
set_option maxRecDepth 100000 in
theorem iarOk_any {w : World} {v : Value} {a : PArch} (h : ArAt w v a) (hf : ArFit a) (hs : Sent w) :
    Calls Tryz.prog 10 #[v] w fun e w' => e = .returned (.bool (archB a)) ∧ Below w.heap.size w w' := by
  have HA := (show Hid (ArAt w v a) from h)
  have HF := (show Hid (ArFit a) from hf)
  have HT := (show Hid (Sent w) from hs)
  obtain ⟨q, hq⟩ : ∃ q, q = archB a := ⟨_, rfl⟩
  obtain ⟨sa, sn, sc, la, ln, lc, ea, en', ec, rfl, h1, h2⟩ := h
  have hl := (Hl.refl w).new #[.bool a.up, .slice sa sn sc, .slice la ln lc, .int .i64 a.head.no, .int .i64 a.head.area, .int .i64 a.head.en, .slice ea en' ec] 39
  obtain ⟨w1, hw1⟩ : ∃ x, x = w.alloc (.cells #[.bool a.up, .slice sa sn sc, .slice la ln lc, .int .i64 a.head.no, .int .i64 a.head.area, .int .i64 a.head.en, .slice ea en' ec] 39) := ⟨_, rfl⟩
  rw [← hw1] at hl
  have HL := (show Hid _ from hl)
  have CS := ishelfOf_any (HA.out.below hl.1) hf (hs.below hl.1)
  rw [← hq] at CS
  rw [← hq]
  have CS := (show Hid _ from CS)
  clear hl h1 h2 hf hs hq
  go_enter Tryz.func10, Tryz.ntmps10
  go_wp2_with fail
  go_at_call 35
  rw [← hw1]
  refine Calls.mono CS.out ?_
  rintro e w2 ⟨ho, b2⟩
  have B2 := (show Hid _ from (HL.out.below b2).1)
  clear hw1 CS b2
  rcases ho with ⟨rfl, rfl⟩ | ⟨rfl, N, rfl, _⟩
  · go_wp2
    go_ret
    exact ⟨rfl, B2.out⟩
  · go_wp2
    go_ret
    exact ⟨rfl, B2.out⟩
end Go.Proofs.YtokkigfjabbdaaaGreatDoor
