/- The shelf in memory; atomics; records and load. No condition. -/
import Derived.Test.YtjokajblihaphaaGreatDoorU43
import Derived.Test.YtjokajblihaphaaGreatDoorU39
import Derived.Test.YtjokajblihaphaaGreatDoorU35
import Derived.Test.YtjokajblihaphaaGreatDoorU44
import Derived.Test.YtjokajblihaphaaGreatDoorU49
import Derived.Test.YtjokajblihaphaaGreatDoorU30
import Derived.Test.YtjokajblihaphaaGreatDoorU32
import Derived.Laws.LoneSync
import Derived.Test.YtjokajblihaphaaGreatDoorU42
import Derived.Test.YtjokajblihaphaaGreatDoorU29
namespace Go.Proofs.YtjokajblihaphaaGreatDoor
open Go.RowKit
set_option maxRecDepth 100000
set_option linter.unusedVariables false

theorem istore_any {a : Addr} {x y : Int} {w : World} (hc : w.cell? a = some (.int .i64 x)) (hz : w.frozen? a = false) :
    Calls Tryz.prog 148 #[.pointer (some a), .int .i64 y] w fun e w' => e = .returned (.tuple #[]) ∧ w' = w.setCell a (.int .i64 y) := by
  have h1 : (callFunc 196 #[.pointer (some a), .int .i64 y]).run Tryz.prog w = .ok (.value (.tuple #[])) (w.setCell a (.int .i64 y)) :=
    run_call_store Tryz.func196 (by kernel_rfl) (by kernel_rfl) (by kernel_rfl) (by kernel_rfl) hc hz
  go_enter Tryz.func148, Tryz.ntmps148
  go_wp2
  go_end0
  exact ⟨rfl, rfl⟩
theorem iadd_any {a : Addr} {x y : Int} {w : World} (hc : w.cell? a = some (.int .i64 x)) (hz : w.frozen? a = false) (h0 : 0 ≤ x + y) (h1 : x + y ≤ 1099511627776) :
    Calls Tryz.prog 150 #[.pointer (some a), .int .i64 y] w fun e w' => e = .returned (.int .i64 (x + y)) ∧ w' = w.setCell a (.int .i64 (x + y)) := by
  have h1 : (callFunc 197 #[.pointer (some a), .int .i64 y]).run Tryz.prog w = .ok (.value (.int .i64 (x + y))) (w.setCell a (.int .i64 (x + y))) :=
    run_call_add Tryz.func197 (by kernel_rfl) (by kernel_rfl) (by kernel_rfl) .i64 (by kernel_rfl) hc hz (by
      have hw : IntKind.i64.wrap (x + y) = x + y := wrap_fit7 (by omega) (by omega)
      simp [Op.intArith, go_sem, hw])
  go_enter Tryz.func150, Tryz.ntmps150
  go_wp2
  go_ret
  exact ⟨rfl, rfl⟩
theorem iload_any {a : Addr} {x : Int} {w : World} (hc : w.cell? a = some (.int .i64 x)) :
    Calls Tryz.prog 152 #[.pointer (some a)] w fun e w' => e = .returned (.int .i64 x) ∧ w' = w := by
  have h1 : (callFunc 200 #[.pointer (some a)]).run Tryz.prog w = .ok (.value (.int .i64 x)) w :=
    run_call_load Tryz.func200 (by kernel_rfl) (by kernel_rfl) (by kernel_rfl) .i64 (by kernel_rfl) hc
  go_enter Tryz.func152, Tryz.ntmps152
  go_wp2
  go_ret
  exact ⟨rfl, rfl⟩
end Go.Proofs.YtjokajblihaphaaGreatDoor

/- The shelf in memory. No condition. -/
namespace Go.Proofs.YtjokajblihaphaaGreatDoor
open Go.RowKit
set_option maxRecDepth 100000
set_option linter.unusedVariables false

/-- In W the block N, a shelf's, holds cs; the listed blocks are new; all else of w is as it was. -/
structure Sf (w : World) (N : Nat) (cs : Array Value) (L : List (Nat × Array Value × TypeId)) (W : World) : Prop where
  gr : w.grownBy W (some N)
  sh : W.heap[N]? = some (.cells cs 93 (0, 0))
  blk : ∀ p ∈ L, W.heap[p.1]? = some (.cells p.2.1 p.2.2 (0, 0)) ∧ p.1 ≠ N
theorem Sf.refl {w : World} {N : Nat} {cs : Array Value} (h : w.heap[N]? = some (.cells cs 93 (0, 0))) : Sf w N cs [] w := ⟨World.grownBy.refl _ _, h, fun p hp => by cases hp⟩
theorem Sf.below {w W W' : World} {N : Nat} {cs : Array Value} {L : List (Nat × Array Value × TypeId)} (h : Sf w N cs L W) (b : Below W.heap.size W W') : Sf w N cs L W' :=
  ⟨grown_below h.gr b, (b.block _ (lt_of_block h.sh)).trans h.sh, fun p hp => ⟨(b.block _ (lt_of_block (h.blk p hp).1)).trans (h.blk p hp).1, (h.blk p hp).2⟩⟩
theorem Sf.new {w W : World} {N : Nat} {cs : Array Value} {L : List (Nat × Array Value × TypeId)} (h : Sf w N cs L W) (ds : Array Value) (t : TypeId) : Sf w N cs ((W.heap.size, ds, t) :: L) (W.alloc (.cells ds t)) := by
  have hb : Below W.heap.size W (W.alloc (.cells ds t)) := (Below.refl _ _).alloc (Nat.le_refl _) _
  refine ⟨(h.below hb).gr, (h.below hb).sh, fun p hp => ?_⟩
  rcases List.mem_cons.mp hp with rfl | hp
  · exact ⟨World.alloc_heap_new _ _, fun e => by have := lt_of_block h.sh; omega⟩
  · exact (h.below hb).blk p hp
theorem Sf.set {w W : World} {N : Nat} {cs : Array Value} {L : List (Nat × Array Value × TypeId)} (h : Sf w N cs L W) (k : Nat) (u : Value) : Sf w N (cs.setIfInBounds k u) L (W.setCell ⟨N, k, none⟩ u) :=
  ⟨grown_trans h.gr (grown_setCell _ _ _ _), rk_at h.sh, fun p hp => ⟨((grown_setCell W N k u).block p.1 (lt_of_block (h.blk p hp).1) (fun e => (h.blk p hp).2 (Option.some.inj e))).trans (h.blk p hp).1, (h.blk p hp).2⟩⟩
theorem Sf.sub {w W : World} {N : Nat} {cs : Array Value} {L L' : List (Nat × Array Value × TypeId)} (h : Sf w N cs L W) (hs : ∀ p ∈ L', p ∈ L) : Sf w N cs L' W := ⟨h.gr, h.sh, fun p hp => h.blk p (hs p hp)⟩
theorem Sf.at0 {w W : World} {N : Nat} {cs : Array Value} {L : List (Nat × Array Value × TypeId)} {b : Nat} {ds : Array Value} {t : TypeId} (h : Sf w N cs ((b, ds, t) :: L) W) : W.heap[b]? = some (.cells ds t (0, 0)) := (h.blk _ (List.mem_cons_self ..)).1
theorem Sf.ne0 {w W : World} {N : Nat} {cs : Array Value} {L : List (Nat × Array Value × TypeId)} {b : Nat} {ds : Array Value} {t : TypeId} (h : Sf w N cs ((b, ds, t) :: L) W) : b ≠ N := (h.blk _ (List.mem_cons_self ..)).2
theorem Sf.disk {w W : World} {N B : Nat} {cs cs0 : Array Value} {L : List (Nat × Array Value × TypeId)} {v : Value} {d : PDisk} (h : Sf w N cs L W) (h0 : w.heap[N]? = some (.cells cs0 93 (0, 0))) (o : OwnDy B w v d) : OwnDy B W v d :=
  o.turned h.gr (fun j e => by cases e; exact ⟨_, _, _, h0, by decide, by decide⟩)
theorem Sf.ents {w W : World} {N B : Nat} {cs cs0 : Array Value} {L : List (Nat × Array Value × TypeId)} {v : Value} {ps : List (ByteArray × ByteArray)} (h : Sf w N cs L W) (h0 : w.heap[N]? = some (.cells cs0 93 (0, 0))) (o : OwnEy B w v ps) : OwnEy B W v ps :=
  OwnEy.turned o h.gr (fun j e => by cases e; exact ⟨_, _, _, h0, by decide⟩)
theorem Sf.sent {w W : World} {N : Nat} {cs : Array Value} {x0 x1 x2 x3 x4 x5 x6 x7 x8 x9 x10 : Value} {L : List (Nat × Array Value × TypeId)} (h : Sf w N cs L W) (h0 : w.heap[N]? = some (.cells #[x0, x1, x2, x3, x4, x5, x6, x7, x8, x9, x10] 93 (0, 0))) (hx : ∀ t v, x0 ≠ .iface t v) (s : Sent w) : Sent W := by
  obtain ⟨a, s⟩ := s
  refine ⟨a, ?_⟩
  have hlt := lt_of_cell s
  have hne : 0 ≠ N := fun e => by
    subst e
    have : w.cell? ⟨0, 0, none⟩ = some x0 := by simp only [World.cell?, h0]; rfl
    rw [this] at s
    exact hx _ _ (Option.some.inj s)
  rw [← s]
  exact World.cell?_of_block (h.gr.block _ hlt (fun e => hne (Option.some.inj e)))
theorem rk_ten {w : World} {b : Nat} {x0 x1 x2 x3 x4 x5 x6 x7 x8 x9 x10 : Value} {t : TypeId} (h : w.heap[b]? = some (.cells #[x0, x1, x2, x3, x4, x5, x6, x7, x8, x9, x10] t (0, 0))) : w.cell? ⟨b, 0, none⟩ = some x0 ∧ w.cell? ⟨b, 1, none⟩ = some x1 ∧ w.cell? ⟨b, 2, none⟩ = some x2 ∧ w.cell? ⟨b, 3, none⟩ = some x3 ∧ w.cell? ⟨b, 4, none⟩ = some x4 ∧ w.cell? ⟨b, 5, none⟩ = some x5 ∧ w.cell? ⟨b, 6, none⟩ = some x6 ∧ w.cell? ⟨b, 7, none⟩ = some x7 ∧ w.cell? ⟨b, 8, none⟩ = some x8 ∧ w.cell? ⟨b, 9, none⟩ = some x9 :=
  ⟨by simp only [World.cell?, h]; rfl, by simp only [World.cell?, h]; rfl, by simp only [World.cell?, h]; rfl, by simp only [World.cell?, h]; rfl, by simp only [World.cell?, h]; rfl, by simp only [World.cell?, h]; rfl, by simp only [World.cell?, h]; rfl, by simp only [World.cell?, h]; rfl, by simp only [World.cell?, h]; rfl, by simp only [World.cell?, h]; rfl⟩
/-- The bytes of an area, from a head that is right or zero. -/
theorem get_bytes {d : PDisk} (hd : diskB d = true) {k : PHead} (h0 : 0 ≤ k.area) (h1 : k.area ≤ 1) (h2 : 0 ≤ k.en) (h3 : k.en ≤ 4096) : getDk d k.area 0 k.en = (bytesA d k, true) := by
  rw [get_right hd (by omega) (by omega) h2 (by omega)]
  rfl
theorem now_in (d : PDisk) : 0 ≤ (nowDk d).area ∧ (nowDk d).area ≤ 1 ∧ 0 ≤ (nowDk d).en ∧ (nowDk d).en ≤ 4096 := by
  have key : ∀ s, 0 ≤ (readDk s).1.area ∧ (readDk s).1.area ≤ 1 ∧ 0 ≤ (readDk s).1.en ∧ (readDk s).1.en ≤ 4096 := fun s => by
    cases e : (readDk s).2 with
    | false => rw [read_none e]; decide
    | true => have := headB_in (read_some e).1; omega
  unfold nowDk
  split
  · decide
  · split
    · exact key _
    · exact key _

theorem wf_i64 {x : Int} (h0 : -9223372036854775808 ≤ x) (h1 : x ≤ 9223372036854775807) : (Lit.int .i64 x).wf = true := by
  have e1 : IntKind.i64.min = -9223372036854775808 := by decide
  have e2 : IntKind.i64.max = 9223372036854775807 := by decide
  simp only [Lit.wf, e1, e2, Bool.and_eq_true, decide_eq_true_eq]
  exact ⟨h0, h1⟩

set_option maxHeartbeats 2000000 in
set_option maxRecDepth 100000 in
theorem irecs_any {w : World} {N B : Nat} {sa : Option Addr} {sn sc : Nat} {la : Option Addr} {ln lc : Nat} {m q r : Int} {up : Bool} {no ar en : Int} {ea : Option Addr} {en' ec : Nat} {st : Value} {d : PDisk} (hS : w.heap[N]? = some (.cells #[.slice sa sn sc, .slice la ln lc, .int .i32 m, .int .u32 q, .int .i64 r, .bool up, .int .i64 no, .int .i64 ar, .int .i64 en, .slice ea en' ec, st] 93 (0, 0))) (hd : OwnDy B w (.agg #[.slice sa sn sc, .slice la ln lc]) d) (hr : diskB d = true) (k : PHead) (hk : 0 ≤ k.area ∧ k.area ≤ 1 ∧ 0 ≤ k.en ∧ k.en ≤ 4096) :
    Calls Tryz.prog 109 #[.pointer (some ⟨N, 0, none⟩), headV k] w fun e w' => ∃ v', e = .returned (.tuple #[v', .bool (recsA d k).2]) ∧ OwnRs w.heap.size w' v' (recsA d k).1 ∧ Sf w N #[.slice sa sn sc, .slice la ln lc, .int .i32 m, .int .u32 q, .int .i64 k.en, .bool up, .int .i64 no, .int .i64 ar, .int .i64 en, .slice ea en' ec, st] [] w' := by
  obtain ⟨kn, ka, ke⟩ := k
  simp only at hk ⊢
  obtain ⟨ka0, ka1, ke0, ke1⟩ := hk
  have HS := (show Hid (w.heap[N]? = some (.cells #[.slice sa sn sc, .slice la ln lc, .int .i32 m, .int .u32 q, .int .i64 r, .bool up, .int .i64 no, .int .i64 ar, .int .i64 en, .slice ea en' ec, st] 93 (0, 0))) from hS)
  have HD := (show Hid (OwnDy B w (.agg #[.slice sa sn sc, .slice la ln lc]) d) from hd)
  have HR := (show Hid (diskB d = true) from hr)
  have hNlt := lt_of_block hS
  have GB := (show Hid (getDk d ka 0 ke = (bytesA d ⟨kn, ka, ke⟩, true)) from get_bytes (k := ⟨kn, ka, ke⟩) hr ka0 ka1 ke0 ke1)
  have BL := (show Hid ((bytesA d ⟨kn, ka, ke⟩).length = ke.toNat) from bytesA_len _ _)
  have BB := (show Hid (∀ x ∈ bytesA d ⟨kn, ka, ke⟩, 0 ≤ x ∧ x ≤ 255) from bytesA_byte _ _)
  obtain ⟨bs', hbs⟩ : ∃ b, b = bytesA d ⟨kn, ka, ke⟩ := ⟨_, rfl⟩
  have RA : recsA d ⟨kn, ka, ke⟩ = recsR bs' := by rw [hbs]; rfl
  rw [RA]
  rw [← hbs] at GB BL BB
  clear RA hbs
  obtain ⟨⟨rs, rb⟩, hrs⟩ : ∃ x, x = recsR bs' := ⟨_, rfl⟩
  rw [← hrs]
  have HRS := (show Hid ((rs, rb) = recsR bs') from hrs)
  clear hrs
  simp only
  show Calls Tryz.prog 109 #[.pointer (some ⟨N, 0, none⟩), .agg #[.int .i64 kn, .int .i64 ka, .int .i64 ke]] w _
  obtain ⟨w1, hw1⟩ : ∃ x, x = w.alloc (.cells #[.int .i64 kn, .int .i64 ka, .int .i64 ke] 35) := ⟨_, rfl⟩
  have s1 := (Sf.refl hS).new #[.int .i64 kn, .int .i64 ka, .int .i64 ke] 35
  rw [← hw1] at s1
  obtain ⟨c0, c1, c2, c3, c4, c5, c6, c7, c8, c9⟩ := rk_ten s1.sh
  have f4 := rk_thaw (k := 4) s1.sh
  have S1 := (show Hid (Sf w N #[.slice sa sn sc, .slice la ln lc, .int .i32 m, .int .u32 q, .int .i64 r, .bool up, .int .i64 no, .int .i64 ar, .int .i64 en, .slice ea en' ec, st] [(w.heap.size, #[.int .i64 kn, .int .i64 ka, .int .i64 ke], 35)] w1) from s1)
  clear s1 hS hd hr
  go_enter Tryz.func109, Tryz.ntmps109
  go_wp2_with fail
  go_at_call 148
  rw [← hw1]
  refine (istore_any (a := ⟨N, 4, none⟩) c4 f4).mono ?_
  rintro e w2 ⟨rfl, hw2⟩
  have S2 := (show Hid (Sf w N #[.slice sa sn sc, .slice la ln lc, .int .i32 m, .int .u32 q, .int .i64 0, .bool up, .int .i64 no, .int .i64 ar, .int .i64 en, .slice ea en' ec, st] [(w.heap.size, #[.int .i64 kn, .int .i64 ka, .int .i64 ke], 35)] w2) from by rw [hw2]; exact S1.out.set 4 (.int .i64 0))
  clear hw1 hw2 S1 f4
  clear c0 c1 c2 c3 c4 c5 c6 c7 c8 c9
  have CA := (show Hid (∀ W, Below w2.heap.size w2 W → Calls Tryz.prog 149 #[.agg #[.slice sa sn sc, .slice la ln lc], .int .i64 ka, .int .i64 0, .int .i64 ke] W fun e w' => ∃ u, e = .returned (.tuple #[u, .bool true]) ∧ Own W.heap.size 5 .u8 w' u bs' ∧ Below W.heap.size W w') from fun W b => by
    have := iareaGet_any W _ d ka 0 ke ((S2.out.below b).disk HS.out HD.out).at (fit_right HR.out) (wf_i64 (by omega) (by omega)) (by decide) (wf_i64 (by omega) (by omega))
    rw [GB.out] at this
    exact this)
  have KD := (show Hid (Below w2.heap.size w2 w2.drew) from below_drewN 1)
  have KS := (show Hid (∀ W, Below w2.heap.size w2 W → W.cell? ⟨N, 0, none⟩ = some (.slice sa sn sc) ∧ W.cell? ⟨N, 1, none⟩ = some (.slice la ln lc) ∧ W.cell? ⟨w.heap.size, 1, none⟩ = some (.int .i64 ka) ∧ W.cell? ⟨w.heap.size, 2, none⟩ = some (.int .i64 ke) ∧ Below w2.heap.size w2 W) from fun W h => ⟨(rk_ten (S2.out.below h).sh).1, (rk_ten (S2.out.below h).sh).2.1, (rk_three (S2.out.below h).at0).2.1, (rk_three (S2.out.below h).at0).2.2.1, h⟩)
  go_wp2_with fail
  go_region_held3 (fun w' => w'.cell? ⟨N, 0, none⟩ = some (.slice sa sn sc) ∧ w'.cell? ⟨N, 1, none⟩ = some (.slice la ln lc) ∧ w'.cell? ⟨w.heap.size, 1, none⟩ = some (.int .i64 ka) ∧ w'.cell? ⟨w.heap.size, 2, none⟩ = some (.int .i64 ke) ∧ Below w2.heap.size w2 w')
    (first | exact KS.out _ KD.out | exact KS.out _ T_w3.out)
    (first
      | (go_at_call 149
         refine Calls.mono (CA.out _ (‹_ ∧ _ ∧ _ ∧ _ ∧ Below _ _ _›).2.2.2.2) ?_
         rintro e w3 ⟨u, rfl, o3, b_w3⟩
         have T_w3 := (show Hid (Below w2.heap.size w2 w3) from (‹_ ∧ _ ∧ _ ∧ _ ∧ Below _ _ _›).2.2.2.2.trans (b_w3.mono (‹_ ∧ _ ∧ _ ∧ _ ∧ Below _ _ _›).2.2.2.2.size))
         have O3 := (show Hid (Own w.heap.size 5 .u8 w3 u bs') from o3.base (Nat.le_trans S2.out.gr.size ((‹_ ∧ _ ∧ _ ∧ _ ∧ Below _ _ _›).2.2.2.2).size))
         clear o3 b_w3))
  clear KD KS
  have S3 := (show Hid (Sf w N #[.slice sa sn sc, .slice la ln lc, .int .i32 m, .int .u32 q, .int .i64 0, .bool up, .int .i64 no, .int .i64 ar, .int .i64 en, .slice ea en' ec, st] [(w.heap.size, #[.int .i64 kn, .int .i64 ka, .int .i64 ke], 35)] w3) from S2.out.below T_w3.out)
  clear T_w3 S2 CA
  have O3' := (show Hid (Sl .u8 w3 u bs') from O3.out.sl)
  have su := O3.out.sl
  obtain ⟨ua, ucap, eu, _⟩ := su
  subst eu
  have hlen : (bs'.length : Int) = ke := by have := BL.out; omega
  obtain ⟨c0, c1, c2, c3, c4, c5, c6, c7, c8, c9⟩ := rk_ten S3.out.sh
  have f4 := rk_thaw (k := 4) S3.out.sh
  go_wp2_with fail
  go_at_call 150
  refine (iadd_any (a := ⟨N, 4, none⟩) (y := ke) c4 f4 (by omega) (by omega)).mono ?_
  rintro e w4 ⟨rfl, hw4⟩
  have S4 := (show Hid (Sf w N #[.slice sa sn sc, .slice la ln lc, .int .i32 m, .int .u32 q, .int .i64 ke, .bool up, .int .i64 no, .int .i64 ar, .int .i64 en, .slice ea en' ec, st] [(w.heap.size, #[.int .i64 kn, .int .i64 ka, .int .i64 ke], 35)] w4) from by rw [hw4, Int.zero_add]; exact S3.out.set 4 (.int .i64 ke))
  have O4 := (show Hid (Sl .u8 w4 (.slice ua bs'.length ucap) bs') from by rw [hw4]; exact Own.sl (B := w.heap.size) (e := 5) (rk_set O3.out S3.out.sh (by decide)))
  clear hw4 S3 O3 O3' f4
  clear c0 c1 c2 c3 c4 c5 c6 c7 c8 c9
  have CR := irecords_any O4.out BB.out (by omega)
  rw [← HRS.out] at CR
  simp only at CR
  have CR := (show Hid _ from CR)
  go_wp2_with fail
  go_at_call 151
  refine Calls.mono CR.out ?_
  rintro e w5 ⟨v5, rfl, o5, b5⟩
  have S5 := (show Hid (Sf w N #[.slice sa sn sc, .slice la ln lc, .int .i32 m, .int .u32 q, .int .i64 ke, .bool up, .int .i64 no, .int .i64 ar, .int .i64 en, .slice ea en' ec, st] [(w.heap.size, #[.int .i64 kn, .int .i64 ka, .int .i64 ke], 35)] w5) from S4.out.below b5)
  have O5 := (show Hid (OwnRs w.heap.size w5 v5 rs) from rk_base o5 S4.out.gr.size)
  clear CR b5 o5 S4 O4
  have gN := fun n : Wd w5.heap.size w5 => rk_ten (S5.out.below n.below).sh
  have gN4 := fun n : Wd w5.heap.size w5 => (gN n).2.2.2.2.1
  have gH := fun n : Wd w5.heap.size w5 => (rk_three (S5.out.below n.below).at0).2.2.1
  have CL5 := (show Hid (∀ n : Wd w5.heap.size w5, Calls Tryz.prog 152 #[.pointer (some ⟨N, 4, none⟩)] n.w fun e w' => e = .returned (.int .i64 ke) ∧ Below n.w.heap.size n.w w') from fun n => (iload_any (gN4 n)).mono (by
    rintro e w' ⟨rfl, rfl⟩
    exact ⟨rfl, Below.refl _ _⟩))
  have ne := Wd.any w5.heap.size w5
  have hee : (ke == ke) = true := by simp
  clear gN
  cases rb
  · go_wp2_with fail
    refine wp_region_below (by kernel_rfl) (by kernel_rfl) (Below.refl w5.heap.size w5) ?_
    repeat (go_big_quiet_step (fail))
    refine wpQuiet_nil ?_
    intro w6 hq
    replace hq := Wd.of hq
    have S6 := (show Hid _ from S5.out.below hq)
    have O6 := (show Hid _ from ownsRow_below O5.out hq)
    clear hq gN4 gH
    go_wp2
    refine bodyPost_ret (results_tmp2 rfl _ _ _) rfl ?_
    exact ⟨_, rfl, O6.out, S6.out.sub (by simp)⟩
  · go_wp2_with fail
    refine wp_region_below (by kernel_rfl) (by kernel_rfl) (Below.refl w5.heap.size w5) ?_
    repeat (go_big_quiet_step ((go_at_call 152; exact quiet_below (CL5.out _) (Nat.le_refl _))))
    refine wpQuiet_nil ?_
    intro w6 hq
    replace hq := Wd.of hq
    have S6 := (show Hid _ from S5.out.below hq)
    have O6 := (show Hid _ from ownsRow_below O5.out hq)
    clear hq gN4 gH
    go_wp2
    refine bodyPost_ret (results_tmp2 rfl _ _ _) rfl ?_
    exact ⟨_, rfl, O6.out, S6.out.sub (by simp)⟩
end Go.Proofs.YtjokajblihaphaaGreatDoor

/- The shelf's load (written by mk/iar3.py). No condition. -/
namespace Go.Proofs.YtjokajblihaphaaGreatDoor
open Go.RowKit
set_option maxRecDepth 100000
set_option linter.unusedVariables false

theorem Sf.trans {w W W' : World} {N : Nat} {cs cs' : Array Value} {L : List (Nat × Array Value × TypeId)} (h : Sf w N cs L W) (k : Sf W N cs' [] W') : Sf w N cs' L W' :=
  ⟨grown_trans h.gr k.gr, k.sh, fun p hp => ⟨(k.gr.block p.1 (lt_of_block (h.blk p hp).1) (fun e => (h.blk p hp).2 (Option.some.inj e))).trans (h.blk p hp).1, (h.blk p hp).2⟩⟩
theorem shelf_set {w W : World} {N : Nat} {x0 x1 x2 x3 x4 x5 x6 x7 x8 x9 x10 : Value} {L : List (Nat × Array Value × TypeId)} (h : Sf w N #[x0, x1, x2, x3, x4, x5, x6, x7, x8, x9, x10] L W) (a5 a6 a7 a8 a9 : Value) : Sf w N #[x0, x1, x2, x3, x4, a5, a6, a7, a8, a9, x10] L (((((W.setCell ⟨N, 5, none⟩ a5).setCell ⟨N, 6, none⟩ a6).setCell ⟨N, 7, none⟩ a7).setCell ⟨N, 8, none⟩ a8).setCell ⟨N, 9, none⟩ a9) := by
  have h1 : Sf w N #[x0, x1, x2, x3, x4, a5, x6, x7, x8, x9, x10] L (W.setCell ⟨N, 5, none⟩ a5) := h.set 5 a5
  have h2 : Sf w N #[x0, x1, x2, x3, x4, a5, a6, x7, x8, x9, x10] L ((W.setCell ⟨N, 5, none⟩ a5).setCell ⟨N, 6, none⟩ a6) := h1.set 6 a6
  have h3 : Sf w N #[x0, x1, x2, x3, x4, a5, a6, a7, x8, x9, x10] L (((W.setCell ⟨N, 5, none⟩ a5).setCell ⟨N, 6, none⟩ a6).setCell ⟨N, 7, none⟩ a7) := h2.set 7 a7
  have h4 : Sf w N #[x0, x1, x2, x3, x4, a5, a6, a7, a8, x9, x10] L ((((W.setCell ⟨N, 5, none⟩ a5).setCell ⟨N, 6, none⟩ a6).setCell ⟨N, 7, none⟩ a7).setCell ⟨N, 8, none⟩ a8) := h3.set 8 a8
  exact h4.set 9 a9
theorem shelf_own {w W : World} {N : Nat} {x0 x1 x2 x3 x4 x5 x6 x7 x8 x9 x10 : Value} {L : List (Nat × Array Value × TypeId)} (h : Sf w N #[x0, x1, x2, x3, x4, x5, x6, x7, x8, x9, x10] L W) (a5 a6 a7 a8 a9 : Value) {B e size n : Nat} {v : Value} {xs : List Value} (o : W.ownsRow B e size v n xs) (he : 93 ≠ e) : World.ownsRow (((((W.setCell ⟨N, 5, none⟩ a5).setCell ⟨N, 6, none⟩ a6).setCell ⟨N, 7, none⟩ a7).setCell ⟨N, 8, none⟩ a8).setCell ⟨N, 9, none⟩ a9) B e size v n xs := by
  have h1 := h.set 5 a5
  have h2 := h1.set 6 a6
  have h3 := h2.set 7 a7
  have h4 := h3.set 8 a8
  exact rk_set (rk_set (rk_set (rk_set (rk_set o h.sh he) h1.sh he) h2.sh he) h3.sh he) h4.sh he
set_option maxHeartbeats 2000000 in
set_option maxRecDepth 100000 in
theorem ishLoad_any {w : World} {N B : Nat} {sa : Option Addr} {sn sc : Nat} {la : Option Addr} {ln lc : Nat} {m q r : Int} {up : Bool} {no ar en : Int} {ea : Option Addr} {en' ec : Nat} {st : Value} {d : PDisk} (hS : w.heap[N]? = some (.cells #[.slice sa sn sc, .slice la ln lc, .int .i32 m, .int .u32 q, .int .i64 r, .bool up, .int .i64 no, .int .i64 ar, .int .i64 en, .slice ea en' ec, st] 93 (0, 0))) (hd : OwnDy B w (.agg #[.slice sa sn sc, .slice la ln lc]) d) (hr : diskB d = true) (hs : Sent w) :
    Calls Tryz.prog 77 #[.pointer (some ⟨N, 0, none⟩)] w fun e w' => e = .returned (.bool (wellA d)) ∧ (wellA d = false → ∃ r' : Int, Sf w N #[.slice sa sn sc, .slice la ln lc, .int .i32 m, .int .u32 q, .int .i64 r', .bool up, .int .i64 no, .int .i64 ar, .int .i64 en, .slice ea en' ec, st] [] w') ∧ (wellA d = true → ∃ (r' : Int) (fa : Option Addr) (fn fc : Nat), Sf w N #[.slice sa sn sc, .slice la ln lc, .int .i32 m, .int .u32 q, .int .i64 r', .bool true, .int .i64 (nowDk d).no, .int .i64 (nowDk d).area, .int .i64 (nowDk d).en, .slice fa fn fc, st] [] w' ∧ OwnEy w.heap.size w' (.slice fa fn fc) (indexA d (nowDk d))) := by
  have HS := (show Hid (w.heap[N]? = some (.cells #[.slice sa sn sc, .slice la ln lc, .int .i32 m, .int .u32 q, .int .i64 r, .bool up, .int .i64 no, .int .i64 ar, .int .i64 en, .slice ea en' ec, st] 93 (0, 0))) from hS)
  have HD := (show Hid (OwnDy B w (.agg #[.slice sa sn sc, .slice la ln lc]) d) from hd)
  have HR := (show Hid (diskB d = true) from hr)
  have HT := (show Hid (Sent w) from hs)
  have NI := (show Hid _ from now_in d)
  have CN := iheadNow_any w _ d hd.at (fit_right hr) hs
  obtain ⟨⟨kn, ka, ke⟩, hk⟩ : ∃ k, k = nowDk d := ⟨_, rfl⟩
  rw [← hk] at CN NI
  have CN := (show Hid (Calls Tryz.prog 108 #[.agg #[.slice sa sn sc, .slice la ln lc]] w fun e w' => e = .returned (.agg #[.int .i64 kn, .int .i64 ka, .int .i64 ke]) ∧ Below w.heap.size w w') from CN)
  have hw : wellA d = (headB ⟨kn, ka, ke⟩ && (recsA d ⟨kn, ka, ke⟩).2) := by rw [wellA, ← hk]
  have hix : indexA d (nowDk d) = idxOf (recsA d ⟨kn, ka, ke⟩).1 := by rw [← hk]; rfl
  have hrl : (recsA d ⟨kn, ka, ke⟩).1.length ≤ 1048576 := by
    have h1 := recsA_len d ⟨kn, ka, ke⟩
    have h2 := NI.out
    simp only at h1 h2
    omega
  have CR := fun (W : World) (h : Sf w N #[.slice sa sn sc, .slice la ln lc, .int .i32 m, .int .u32 q, .int .i64 r, .bool up, .int .i64 no, .int .i64 ar, .int .i64 en, .slice ea en' ec, st] [(W.heap.size - 1, #[.int .i64 kn, .int .i64 ka, .int .i64 ke], 35)] W) => irecs_any h.sh (h.disk hS hd) hr ⟨kn, ka, ke⟩ NI.out
  obtain ⟨⟨rs, rb⟩, hrs⟩ : ∃ x, x = recsA d ⟨kn, ka, ke⟩ := ⟨_, rfl⟩
  rw [← hrs] at hw hix hrl CR
  simp only at hw hix hrl CR
  obtain ⟨rh, hrh⟩ : ∃ b, b = headB ⟨kn, ka, ke⟩ := ⟨_, rfl⟩
  rw [← hrh] at hw
  have CI := (show Hid (∀ W, Calls Tryz.prog 110 #[.agg #[.int .i64 kn, .int .i64 ka, .int .i64 ke]] W fun e w' => e = .returned (.bool rh) ∧ Below W.heap.size W w') from fun W => by rw [hrh]; exact iisRight_any ⟨kn, ka, ke⟩ W)
  have hsr : ShortR rs := ⟨hrl, fun p hp => by
    have h1 := recsA_size d ⟨kn, ka, ke⟩
    rw [← hrs] at h1
    have h2 := h1 p hp
    have h3 := NI.out
    simp only at h2 h3
    omega⟩
  have HSR := (show Hid (ShortR rs) from hsr)
  clear hsr hrh
  rw [hw, hix, ← hk]
  simp only
  have CR := (show Hid _ from CR)
  have HRL := (show Hid (rs.length ≤ 1048576) from hrl)
  clear hw hix hrl hrs hk hS hd hr hs
  obtain ⟨c0, c1, c2, c3, c4, c5, c6, c7, c8, c9⟩ := rk_ten (Sf.refl HS.out).sh
  go_enter Tryz.func77, Tryz.ntmps77
  go_wp2_with fail
  go_at_call 108
  refine Calls.mono CN.out ?_
  rintro e w1 ⟨rfl, b1⟩
  have s2 := ((Sf.refl HS.out).below b1).new #[.int .i64 kn, .int .i64 ka, .int .i64 ke] 35
  obtain ⟨w2, hw2⟩ : ∃ x, x = w1.alloc (.cells #[.int .i64 kn, .int .i64 ka, .int .i64 ke] 35) := ⟨_, rfl⟩
  have hz : w2.heap.size - 1 = w1.heap.size := by rw [hw2, World.size_alloc]; omega
  rw [← hw2] at s2
  have S2 := (show Hid (Sf w N #[.slice sa sn sc, .slice la ln lc, .int .i32 m, .int .u32 q, .int .i64 r, .bool up, .int .i64 no, .int .i64 ar, .int .i64 en, .slice ea en' ec, st] [(w1.heap.size, #[.int .i64 kn, .int .i64 ka, .int .i64 ke], 35)] w2) from s2)
  have CR2 := (show Hid _ from CR.out w2 (by rw [hz]; exact s2))
  clear s2 CN CR b1 hz
  clear c0 c1 c2 c3 c4 c5 c6 c7 c8 c9
  obtain ⟨d0, d1, d2, _⟩ := rk_three S2.out.at0
  go_wp2_with fail
  go_at_call 109
  rw [← hw2]
  refine Calls.mono CR2.out ?_
  rintro e w3 ⟨v3, rfl, o3, f3⟩
  have S3 := (show Hid (Sf w N #[.slice sa sn sc, .slice la ln lc, .int .i32 m, .int .u32 q, .int .i64 ke, .bool up, .int .i64 no, .int .i64 ar, .int .i64 en, .slice ea en' ec, st] [(w1.heap.size, #[.int .i64 kn, .int .i64 ka, .int .i64 ke], 35)] w3) from S2.out.trans f3)
  have O3 := (show Hid (OwnRs w2.heap.size w3 v3 rs) from o3)
  clear hw2 d0 d1 d2 f3 o3 CR2 S2
  obtain ⟨d0, d1, d2, _⟩ := rk_three S3.out.at0
  go_wp2_with fail
  go_at_call 110
  refine Calls.mono (CI.out _) ?_
  rintro e w4 ⟨rfl, b4⟩
  have S4 := (show Hid (Sf w N #[.slice sa sn sc, .slice la ln lc, .int .i32 m, .int .u32 q, .int .i64 ke, .bool up, .int .i64 no, .int .i64 ar, .int .i64 en, .slice ea en' ec, st] [(w1.heap.size, #[.int .i64 kn, .int .i64 ka, .int .i64 ke], 35)] w4) from S3.out.below b4)
  have O4 := (show Hid (Sv 3 w4 v3 (recCells rs)) from (sv_of_own O3.out).below b4)
  clear d0 d1 d2 b4 S3 O3
  cases rh
  · go_wp2
    go_ret
    exact ⟨rfl, fun _ => ⟨_, S4.out.sub (by simp)⟩, fun h => by simp at h⟩
  · cases rb
    · go_wp2
      go_ret
      exact ⟨rfl, fun _ => ⟨_, S4.out.sub (by simp)⟩, fun h => by simp at h⟩
    · have SD := (show Hid (Sf w N #[.slice sa sn sc, .slice la ln lc, .int .i32 m, .int .u32 q, .int .i64 ke, .bool up, .int .i64 no, .int .i64 ar, .int .i64 en, .slice ea en' ec, st] [(w1.heap.size, #[.int .i64 kn, .int .i64 ka, .int .i64 ke], 35)] w4.drew) from S4.out.below (below_drewN 1))
      have CX := (show Hid (Calls Tryz.prog 111 #[v3] w4.drew fun e w' => ∃ fa fn fc, e = .returned (.slice fa fn fc) ∧ OwnPs w.heap.size w' (.slice fa fn fc) (idxOf rs) ∧ Sf w N #[.slice sa sn sc, .slice la ln lc, .int .i32 m, .int .u32 q, .int .i64 ke, .bool up, .int .i64 no, .int .i64 ar, .int .i64 en, .slice ea en' ec, st] [(w1.heap.size, #[.int .i64 kn, .int .i64 ka, .int .i64 ke], 35)] w') from (iindexOf_any _ _ _ (O4.out.below (below_drewN 1)) HSR.out).mono (by
        rintro e w' ⟨v', rfl, o, b⟩
        obtain ⟨fa, fn, fc, rfl⟩ := rk_slice o
        exact ⟨fa, fn, fc, rfl, rk_base o SD.out.gr.size, SD.out.below b⟩))
      obtain ⟨d0, d1, d2, _⟩ := rk_three S4.out.at0
      go_upto_region 5 with fail
      clear d0 d1 d2
      obtain ⟨d0, d1, d2, _⟩ := rk_three SD.out.at0
      go_region_with (first
        | (go_at_call 111
           refine Calls.mono CX.out ?_
           rintro e w5 ⟨fa, fn, fc, rfl, o5, s5⟩
           obtain ⟨c0, c1, c2, c3, c4, c5, c6, c7, c8, c9⟩ := rk_ten s5.sh
           have f5 := rk_thaw (k := 5) s5.sh
           have f6 := rk_thaw (k := 6) s5.sh
           have f7 := rk_thaw (k := 7) s5.sh
           have f8 := rk_thaw (k := 8) s5.sh
           have f9 := rk_thaw (k := 9) s5.sh
           obtain ⟨z0, z1, z2, _⟩ := rk_three s5.at0
           have hne := s5.ne0
           have S9 := (show Hid _ from shelf_set s5 (.bool true) (.int .i64 kn) (.int .i64 ka) (.int .i64 ke) (.slice fa fn fc))
           have O9 := (show Hid _ from shelf_own s5 (.bool true) (.int .i64 kn) (.int .i64 ka) (.int .i64 ke) (.slice fa fn fc) o5 (by decide))
           clear o5 s5))
      all_goals go_wp2
      all_goals go_ret
      all_goals exact ⟨rfl, fun h => by simp at h, fun _ => ⟨_, _, _, _, S9.out.sub (by simp), OwnY.of (.inl O9.out)⟩⟩
end Go.Proofs.YtjokajblihaphaaGreatDoor

/- stepsTo: the four steps of a write, in a row of function values (written by mk/istep2.py). No condition. -/
namespace Go.Proofs.YtjokajblihaphaaGreatDoor
open Go.RowKit
set_option maxRecDepth 100000
set_option linter.unusedVariables false

/-- The row of the steps: its block sb, and the boxes that its closures hold. -/
def StepsAt (w : World) (sb ba bt bb bn : Nat) (no x y : Int) (ua : Option Addr) (un uc : Nat) (W : World) : Prop := w.heap.size ≤ ba ∧ w.heap.size ≤ bt ∧ w.heap.size ≤ bb ∧ w.heap.size ≤ bn ∧ w.heap.size ≤ sb ∧ Hl w [(sb, #[.func (.func 124) #[] #[.pointer (some ⟨ba, 0, none⟩), .pointer (some ⟨bt, 0, none⟩), .pointer (some ⟨bb, 0, none⟩)], .func (.func 126) #[] #[], .func (.func 127) #[] #[.pointer (some ⟨bn, 0, none⟩)], .func (.func 126) #[] #[]], 180), (bn, #[.int .i64 (no + 1), .int .i64 x, .int .i64 (y + un)], 35), (bb, #[.slice ua un uc], 68), (bt, #[.int .i64 y], 3), (ba, #[.int .i64 x], 3)] W

set_option maxHeartbeats 2000000 in
set_option maxRecDepth 100000 in
theorem istepsTo_any {w : World} {N B : Nat} {sa : Option Addr} {sn sc : Nat} {la : Option Addr} {ln lc : Nat} {m q r : Int} {up : Bool} {no ar en : Int} {ea : Option Addr} {en' ec : Nat} {st : Value} {x y : Int} {ua : Option Addr} {un uc : Nat} (hS : w.heap[N]? = some (.cells #[.slice sa sn sc, .slice la ln lc, .int .i32 m, .int .u32 q, .int .i64 r, .bool up, .int .i64 no, .int .i64 ar, .int .i64 en, .slice ea en' ec, st] 93 (0, 0))) (hn : 0 ≤ no ∧ no ≤ 1099511627776) (hy : 0 ≤ y ∧ y ≤ 1099511627776) (hu : un ≤ 1099511627776) :
    Calls Tryz.prog 85 #[.pointer (some ⟨N, 0, none⟩), .int .i64 x, .int .i64 y, .slice ua un uc] w fun e w' => ∃ sb ba bt bb bn, e = .returned (.slice (some ⟨sb, 0, none⟩) 4 4) ∧ StepsAt w sb ba bt bb bn no x y ua un uc w' := by
  have HS := (show Hid (w.heap[N]? = some (.cells #[.slice sa sn sc, .slice la ln lc, .int .i32 m, .int .u32 q, .int .i64 r, .bool up, .int .i64 no, .int .i64 ar, .int .i64 en, .slice ea en' ec, st] 93 (0, 0))) from hS)
  have hl := (((Hl.refl w).new #[.int .i64 x] 3).new #[.int .i64 y] 3).new #[.slice ua un uc] 68
  obtain ⟨w1, hw1⟩ : ∃ z, z = ((w.alloc (.cells #[.int .i64 x] 3)).alloc (.cells #[.int .i64 y] 3)).alloc (.cells #[.slice ua un uc] 68) := ⟨_, rfl⟩
  rw [← hw1] at hl
  simp only [World.size_alloc] at hl
  have hsz : w1.heap.size = w.heap.size + 1 + 1 + 1 := by rw [hw1]; simp
  have HL := (show Hid (Hl w [(w.heap.size + 1 + 1, #[.slice ua un uc], 68), (w.heap.size + 1, #[.int .i64 y], 3), (w.heap.size, #[.int .i64 x], 3)] w1) from hl)
  have HZ := (show Hid (w1.heap.size = w.heap.size + 1 + 1 + 1) from hsz)
  have KD := (show Hid (Below w1.heap.size w1 w1.drew) from below_drewN 1)
  have KA := (show Hid (∀ X, Below w1.heap.size w1 (w1.drew.alloc X)) from fun X => (below_drewN (w := w1) 1).alloc (Nat.le_refl _) _)
  have KS := (show Hid (∀ W, Below w1.heap.size w1 W → W.cell? ⟨N, 6, none⟩ = some (.int .i64 no) ∧ W.cell? ⟨w.heap.size, 0, none⟩ = some (.int .i64 x) ∧ W.cell? ⟨w.heap.size + 1, 0, none⟩ = some (.int .i64 y) ∧ W.cell? ⟨w.heap.size + 1 + 1, 0, none⟩ = some (.slice ua un uc)) from fun W h => ⟨(rk_ten ((h.block _ (Nat.lt_of_lt_of_le (lt_of_block HS.out) HL.out.1.size)).trans ((HL.out.1.block _ (lt_of_block HS.out)).trans HS.out))).2.2.2.2.2.2.1, rk_oneS (HL.out.below h).at2, rk_oneS (HL.out.below h).at1, rk_oneS (HL.out.below h).at0⟩)
  clear hS hl hsz
  go_enter Tryz.func85, Tryz.ntmps85
  go_upto_region 1 with fail
  rw [← hw1]
  clear hw1
  go_region_held3 (fun w' => w'.cell? ⟨N, 6, none⟩ = some (.int .i64 no) ∧ w'.cell? ⟨w.heap.size, 0, none⟩ = some (.int .i64 x) ∧ w'.cell? ⟨w.heap.size + 1, 0, none⟩ = some (.int .i64 y) ∧ w'.cell? ⟨w.heap.size + 1 + 1, 0, none⟩ = some (.slice ua un uc))
    (first | exact KS.out _ KD.out | exact KS.out _ (KA.out _))
    (fail)
  have h9 := ((HL.out.new #[.int .i64 (no + 1), .int .i64 x, .int .i64 (y + un)] 35).new #[.func (.func 124) #[] #[.pointer (some ⟨w.heap.size, 0, none⟩), .pointer (some ⟨(w.heap.size + 1), 0, none⟩), .pointer (some ⟨(w.heap.size + 1 + 1), 0, none⟩)], .func (.func 126) #[] #[], .func (.func 127) #[] #[.pointer (some ⟨w1.heap.size, 0, none⟩)], .func (.func 126) #[] #[]] 180).below (below_drewN 1)
  rw [World.size_alloc] at h9
  have H9 := (show Hid _ from h9)
  clear h9
  go_wp2
  go_ret
  exact ⟨_, _, _, _, _, rfl, Nat.le_refl _, by omega, by omega, HL.out.1.size, Nat.le_succ_of_le HL.out.1.size, H9.out⟩
end Go.Proofs.YtjokajblihaphaaGreatDoor

/- stepped: the four steps of a write, one behind the other (written by mk/istep3.py). No condition. -/
namespace Go.Proofs.YtjokajblihaphaaGreatDoor
open Go.RowKit
set_option maxRecDepth 100000
set_option linter.unusedVariables false

/-- What the four steps make of a disk. -/
def steppedA (d : PDisk) (x y : Int) (b : List Int) (h : PHead) : PDisk × Bool := if stepsOk d x y b h = true then (step4 d x y b h, true) else (zeroDk, false)
theorem area_right {d : PDisk} {x y : Int} {b : List Int} (h1 : (areaDk d x y b).2 = true) : diskB (step1 d x y b) = true := by
  obtain ⟨hd, ha, h0, _, _, hN⟩ := area_yes h1
  exact areaN_right hd ha (Nat.le_refl _) hN
theorem sync_yes {d : PDisk} (h : diskB d = true) : (syncDk d).2 = true := by rw [syncDk, if_neg (by rw [h]; decide)]
theorem own_zero (B : Nat) (w : World) : OwnDy B w (.agg #[.slice none 0 0, .slice none 0 0]) zeroDk := ⟨none, 0, 0, none, 0, 0, rfl, .inl ⟨rfl, rfl, none, rfl, fun _ => trivial⟩, .inl ⟨rfl, rfl, none, rfl, fun _ => trivial⟩⟩

set_option maxHeartbeats 4000000 in
set_option maxRecDepth 100000 in
theorem istepped_any {w : World} {v : Value} {d : PDisk} {x y no en : Int} {ua : Option Addr} {un uc : Nat} {b : List Int} {sb ba bt bb bn : Nat} (hd : DiskAt w v d) (hf : DiskFit d) (hB : Hl w [(sb, #[.func (.func 124) #[] #[.pointer (some ⟨ba, 0, none⟩), .pointer (some ⟨bt, 0, none⟩), .pointer (some ⟨bb, 0, none⟩)], .func (.func 126) #[] #[], .func (.func 127) #[] #[.pointer (some ⟨bn, 0, none⟩)], .func (.func 126) #[] #[]], 180), (bn, #[.int .i64 no, .int .i64 x, .int .i64 en], 35), (bb, #[.slice ua un uc], 68), (bt, #[.int .i64 y], 3), (ba, #[.int .i64 x], 3)] w) (x1 : (Lit.int .i64 x).wf = true) (x2 : (Lit.int .i64 y).wf = true) (x3 : (Lit.int .i64 no).wf = true) (x4 : (Lit.int .i64 en).wf = true) (hu : Sl .u8 w (.slice ua un uc) b) (hb : ∀ z ∈ b, 0 ≤ z ∧ z ≤ 255) (hbl : b.length ≤ 1099511627776) :
    Calls Tryz.prog 86 #[v, .slice (some ⟨sb, 0, none⟩) 4 4] w fun e w' => StepOut w (steppedA d x y b ⟨no, x, en⟩) e w' := by
  have HD := (show Hid (DiskAt w v d) from hd)
  have HF := (show Hid (DiskFit d) from hf)
  have HU := (show Hid (Sl .u8 w (.slice ua un uc) b) from hu)
  have X1 := (show Hid _ from x1)
  have X2 := (show Hid _ from x2)
  have X3 := (show Hid _ from x3)
  have X4 := (show Hid _ from x4)
  have HBB := (show Hid (∀ z ∈ b, 0 ≤ z ∧ z ≤ 255) from hb)
  obtain ⟨sa0, sn0, sc0, la0, ln0, lc0, rfl, _, _⟩ := hd
  have HLT := (show Hid (sb < w.heap.size ∧ bn < w.heap.size ∧ bb < w.heap.size ∧ bt < w.heap.size ∧ ba < w.heap.size) from ⟨lt_of_block hB.at0, lt_of_block hB.at1, lt_of_block hB.at2, lt_of_block hB.at3, lt_of_block (hB.at (b := ba) (cs := #[.int .i64 x]) (t := 3) (by simp))⟩)
  have hl := ((hB.new #[.slice sa0 sn0 sc0, .slice la0 ln0 lc0] 34).new #[.slice none 0 0, .slice none 0 0] 34).swap
  rw [World.size_alloc] at hl
  obtain ⟨w0, hw0⟩ : ∃ z, z = (w.alloc (.cells #[.slice sa0 sn0 sc0, .slice la0 ln0 lc0] 34)).alloc (.cells #[.slice none 0 0, .slice none 0 0] 34) := ⟨_, rfl⟩
  rw [← hw0] at hl
  have H0 := (show Hid (Hl w [(w.heap.size, #[.slice sa0 sn0 sc0, .slice la0 ln0 lc0], 34), (w.heap.size + 1, #[.slice none 0 0, .slice none 0 0], 34), (sb, #[.func (.func 124) #[] #[.pointer (some ⟨ba, 0, none⟩), .pointer (some ⟨bt, 0, none⟩), .pointer (some ⟨bb, 0, none⟩)], .func (.func 126) #[] #[], .func (.func 127) #[] #[.pointer (some ⟨bn, 0, none⟩)], .func (.func 126) #[] #[]], 180), (bn, #[.int .i64 no, .int .i64 x, .int .i64 en], 35), (bb, #[.slice ua un uc], 68), (bt, #[.int .i64 y], 3), (ba, #[.int .i64 x], 3)] w0) from hl)
  have D0 := (show Hid (DiskAt w0 (.agg #[.slice sa0 sn0 sc0, .slice la0 ln0 lc0]) d) from HD.out.below hl.1)
  have F0 := HF
  have hNe := (show Hid (∀ p ∈ ([(w.heap.size + 1, #[.slice none 0 0, .slice none 0 0], 34), (sb, #[.func (.func 124) #[] #[.pointer (some ⟨ba, 0, none⟩), .pointer (some ⟨bt, 0, none⟩), .pointer (some ⟨bb, 0, none⟩)], .func (.func 126) #[] #[], .func (.func 127) #[] #[.pointer (some ⟨bn, 0, none⟩)], .func (.func 126) #[] #[]], 180), (bn, #[.int .i64 no, .int .i64 x, .int .i64 en], 35), (bb, #[.slice ua un uc], 68), (bt, #[.int .i64 y], 3), (ba, #[.int .i64 x], 3)] : List (Nat × Array Value × TypeId)), p.1 ≠ w.heap.size) from fun p hp => by
    have := HLT.out
    simp only [List.mem_cons, List.not_mem_nil, or_false] at hp
    rcases hp with rfl | rfl | rfl | rfl | rfl | rfl <;> simp <;> omega)
  have hNf := (show Hid (∀ p ∈ ([(sb, #[.func (.func 124) #[] #[.pointer (some ⟨ba, 0, none⟩), .pointer (some ⟨bt, 0, none⟩), .pointer (some ⟨bb, 0, none⟩)], .func (.func 126) #[] #[], .func (.func 127) #[] #[.pointer (some ⟨bn, 0, none⟩)], .func (.func 126) #[] #[]], 180), (bn, #[.int .i64 no, .int .i64 x, .int .i64 en], 35), (bb, #[.slice ua un uc], 68), (bt, #[.int .i64 y], 3), (ba, #[.int .i64 x], 3)] : List (Nat × Array Value × TypeId)), p.1 ≠ w.heap.size + 1) from fun p hp => by
    have := HLT.out
    simp only [List.mem_cons, List.not_mem_nil, or_false] at hp
    rcases hp with rfl | rfl | rfl | rfl | rfl <;> simp <;> omega)
  clear hl hf hu hb x1 x2 x3 x4 hB
  go_enter Tryz.func86, Tryz.ntmps86
  go_wp2
  rw [← hw0]
  clear hw0
  refine wp_loop_rounds 5 ?_
  rw [rounds_succ]
  have CC1 := (show Hid (Calls Tryz.prog 124 _ w0 fun e w' => StepOut w0 (areaDk d x y b) e w') from istep1_any D0.out F0.out (H0.out.at (b := ba) (cs := #[.int .i64 x]) (t := 3) (by simp)) (H0.out.at (b := bt) (cs := #[.int .i64 y]) (t := 3) (by simp)) (H0.out.at (b := bb) (cs := #[.slice ua un uc]) (t := 68) (by simp)) X1.out X2.out (HU.out.below H0.out.1) HBB.out hbl)
  obtain ⟨c1, c2, c3, c4⟩ := rk_two H0.out.at0
  obtain ⟨f1, f2, f3, f4⟩ := rk_fourS (H0.out.at2)
  go_wp2_with fail
  go_at_call 124
  refine Calls.mono CC1.out ?_
  rintro e v1 ⟨r1, rfl, o1, b1⟩
  have V1 := (show Hid (Hl w [(w.heap.size, #[.slice sa0 sn0 sc0, .slice la0 ln0 lc0], 34), (w.heap.size + 1, #[.slice none 0 0, .slice none 0 0], 34), (sb, #[.func (.func 124) #[] #[.pointer (some ⟨ba, 0, none⟩), .pointer (some ⟨bt, 0, none⟩), .pointer (some ⟨bb, 0, none⟩)], .func (.func 126) #[] #[], .func (.func 127) #[] #[.pointer (some ⟨bn, 0, none⟩)], .func (.func 126) #[] #[]], 180), (bn, #[.int .i64 no, .int .i64 x, .int .i64 en], 35), (bb, #[.slice ua un uc], 68), (bt, #[.int .i64 y], 3), (ba, #[.int .i64 x], 3)] v1) from H0.out.below b1)
  have O1 := (show Hid (OwnDy w.heap.size v1 r1 (areaDk d x y b).1) from OwnDy.base o1 H0.out.1.size)
  clear b1 c1 c2 c3 c4 f1 f2 f3 f4 CC1
  obtain ⟨sa1, sn1, sc1, la1, ln1, lc1, rfl, _, _⟩ := o1
  have H1a := (show Hid _ from V1.out.new #[.slice sa1 sn1 sc1, .slice la1 ln1 lc1] 34)
  cases hk1 : (areaDk d x y b).2
  · have hno : stepsOk d x y b ⟨no, x, en⟩ = false := by unfold stepsOk; rw [hk1]; rfl
    have HQ := (show Hid (steppedA d x y b ⟨no, x, en⟩ = (zeroDk, false)) from (show _ = _ by rw [steppedA, hno]; rfl))
    clear hno
    obtain ⟨z1, z2, z3, z4⟩ := rk_two H1a.out.at2
    have Hz := (show Hid _ from ((H1a.out.tail.swap.sub (L' := [(w.heap.size + 1, #[.slice none 0 0, .slice none 0 0], 34)]) (by simp)).set2 (by omega) (by simp) (.slice none 0 0) (.slice none 0 0)))
    go_wp2
    refine bodyPost_ret (disk_res rfl rfl rfl Hz.out.at0) rfl ?_
    rw [HQ.out]
    exact ⟨_, rfl, own_zero _ _, Hz.out.1⟩
  · have HK1 := (show Hid ((areaDk d x y b).2 = true) from hk1)
    clear hk1
    obtain ⟨m1, m2, m3, m4⟩ := rk_two H1a.out.at0
    obtain ⟨k1, k2, k3, k4⟩ := rk_two H1a.out.at1
    have Hs := (show Hid _ from (H1a.out.tail.set2 (Nat.le_refl _) hNe.out (.slice sa1 sn1 sc1) (.slice la1 ln1 lc1)))
    have Os := (show Hid _ from OwnDy.set2 (a := .slice sa1 sn1 sc1) (b := .slice la1 ln1 lc1) (O1.out.below ((Below.refl _ _).alloc (Nat.le_refl _) (.cells #[.slice sa1 sn1 sc1, .slice la1 ln1 lc1] 34))) H1a.out.at1)
    go_wp2
    obtain ⟨w1, hw1⟩ : ∃ z, z = ((v1.alloc (.cells #[.slice sa1 sn1 sc1, .slice la1 ln1 lc1] 34)).setCell ⟨w.heap.size, 0, none⟩ (.slice sa1 sn1 sc1)).setCell ⟨w.heap.size, 1, none⟩ (.slice la1 ln1 lc1) := ⟨_, rfl⟩
    rw [← hw1] at Hs Os ⊢
    have H1 := (show Hid (Hl w [(w.heap.size, #[.slice sa1 sn1 sc1, .slice la1 ln1 lc1], 34), (w.heap.size + 1, #[.slice none 0 0, .slice none 0 0], 34), (sb, #[.func (.func 124) #[] #[.pointer (some ⟨ba, 0, none⟩), .pointer (some ⟨bt, 0, none⟩), .pointer (some ⟨bb, 0, none⟩)], .func (.func 126) #[] #[], .func (.func 127) #[] #[.pointer (some ⟨bn, 0, none⟩)], .func (.func 126) #[] #[]], 180), (bn, #[.int .i64 no, .int .i64 x, .int .i64 en], 35), (bb, #[.slice ua un uc], 68), (bt, #[.int .i64 y], 3), (ba, #[.int .i64 x], 3)] w1) from Hs.out)
    have P1 := (show Hid (OwnDy w.heap.size w1 (.agg #[.slice sa1 sn1 sc1, .slice la1 ln1 lc1]) (step1 d x y b)) from Os.out)
    have D1 := (show Hid (DiskAt w1 (.agg #[.slice sa1 sn1 sc1, .slice la1 ln1 lc1]) (step1 d x y b)) from P1.out.at)
    have F1 := (show Hid (DiskFit (step1 d x y b)) from fit_area HF.out _ _ _)
    clear hw1 Hs Os m1 m2 m3 m4 k1 k2 k3 k4 H1a V1 O1 H0 D0
    rw [rounds_succ]
    have CC2 := (show Hid (Calls Tryz.prog 126 _ w1 fun e w' => StepOut w1 (syncDk (step1 d x y b)) e w') from isync_step D1.out F1.out)
    obtain ⟨c1, c2, c3, c4⟩ := rk_two H1.out.at0
    obtain ⟨f1, f2, f3, f4⟩ := rk_fourS (H1.out.at2)
    go_wp2_with fail
    go_at_call 126
    refine Calls.mono CC2.out ?_
    rintro e v2 ⟨r2, rfl, o2, b2⟩
    have V2 := (show Hid (Hl w [(w.heap.size, #[.slice sa1 sn1 sc1, .slice la1 ln1 lc1], 34), (w.heap.size + 1, #[.slice none 0 0, .slice none 0 0], 34), (sb, #[.func (.func 124) #[] #[.pointer (some ⟨ba, 0, none⟩), .pointer (some ⟨bt, 0, none⟩), .pointer (some ⟨bb, 0, none⟩)], .func (.func 126) #[] #[], .func (.func 127) #[] #[.pointer (some ⟨bn, 0, none⟩)], .func (.func 126) #[] #[]], 180), (bn, #[.int .i64 no, .int .i64 x, .int .i64 en], 35), (bb, #[.slice ua un uc], 68), (bt, #[.int .i64 y], 3), (ba, #[.int .i64 x], 3)] v2) from H1.out.below b2)
    have O2 := (show Hid (OwnDy w.heap.size v2 r2 (syncDk (step1 d x y b)).1) from OwnDy.base o2 H1.out.1.size)
    clear b2 c1 c2 c3 c4 f1 f2 f3 f4 CC2
    obtain ⟨sa2, sn2, sc2, la2, ln2, lc2, rfl, _, _⟩ := o2
    have H2a := (show Hid _ from V2.out.new #[.slice sa2 sn2 sc2, .slice la2 ln2 lc2] 34)
    rw [show (syncDk (step1 d x y b)).2 = true from sync_yes (area_right HK1.out)]
    obtain ⟨m1, m2, m3, m4⟩ := rk_two H2a.out.at0
    obtain ⟨k1, k2, k3, k4⟩ := rk_two H2a.out.at1
    have Hs := (show Hid _ from (H2a.out.tail.set2 (Nat.le_refl _) hNe.out (.slice sa2 sn2 sc2) (.slice la2 ln2 lc2)))
    have Os := (show Hid _ from OwnDy.set2 (a := .slice sa2 sn2 sc2) (b := .slice la2 ln2 lc2) (O2.out.below ((Below.refl _ _).alloc (Nat.le_refl _) (.cells #[.slice sa2 sn2 sc2, .slice la2 ln2 lc2] 34))) H2a.out.at1)
    go_wp2
    obtain ⟨w2, hw2⟩ : ∃ z, z = ((v2.alloc (.cells #[.slice sa2 sn2 sc2, .slice la2 ln2 lc2] 34)).setCell ⟨w.heap.size, 0, none⟩ (.slice sa2 sn2 sc2)).setCell ⟨w.heap.size, 1, none⟩ (.slice la2 ln2 lc2) := ⟨_, rfl⟩
    rw [← hw2] at Hs Os ⊢
    have H2 := (show Hid (Hl w [(w.heap.size, #[.slice sa2 sn2 sc2, .slice la2 ln2 lc2], 34), (w.heap.size + 1, #[.slice none 0 0, .slice none 0 0], 34), (sb, #[.func (.func 124) #[] #[.pointer (some ⟨ba, 0, none⟩), .pointer (some ⟨bt, 0, none⟩), .pointer (some ⟨bb, 0, none⟩)], .func (.func 126) #[] #[], .func (.func 127) #[] #[.pointer (some ⟨bn, 0, none⟩)], .func (.func 126) #[] #[]], 180), (bn, #[.int .i64 no, .int .i64 x, .int .i64 en], 35), (bb, #[.slice ua un uc], 68), (bt, #[.int .i64 y], 3), (ba, #[.int .i64 x], 3)] w2) from Hs.out)
    have P2 := (show Hid (OwnDy w.heap.size w2 (.agg #[.slice sa2 sn2 sc2, .slice la2 ln2 lc2]) (step2 d x y b)) from Os.out)
    have D2 := (show Hid (DiskAt w2 (.agg #[.slice sa2 sn2 sc2, .slice la2 ln2 lc2]) (step2 d x y b)) from P2.out.at)
    have F2 := (show Hid (DiskFit (step2 d x y b)) from fit_sync F1.out)
    clear hw2 Hs Os m1 m2 m3 m4 k1 k2 k3 k4 H2a V2 O2 H1 D1
    rw [rounds_succ]
    have CC3 := (show Hid (Calls Tryz.prog 127 _ w2 fun e w' => StepOut w2 (headPutDk (step2 d x y b) ⟨no, x, en⟩) e w') from istep3_any D2.out F2.out (H2.out.at (b := bn) (cs := #[.int .i64 no, .int .i64 x, .int .i64 en]) (t := 35) (by simp)) X3.out X1.out X4.out)
    obtain ⟨c1, c2, c3, c4⟩ := rk_two H2.out.at0
    obtain ⟨f1, f2, f3, f4⟩ := rk_fourS (H2.out.at2)
    go_wp2_with fail
    go_at_call 127
    refine Calls.mono CC3.out ?_
    rintro e v3 ⟨r3, rfl, o3, b3⟩
    have V3 := (show Hid (Hl w [(w.heap.size, #[.slice sa2 sn2 sc2, .slice la2 ln2 lc2], 34), (w.heap.size + 1, #[.slice none 0 0, .slice none 0 0], 34), (sb, #[.func (.func 124) #[] #[.pointer (some ⟨ba, 0, none⟩), .pointer (some ⟨bt, 0, none⟩), .pointer (some ⟨bb, 0, none⟩)], .func (.func 126) #[] #[], .func (.func 127) #[] #[.pointer (some ⟨bn, 0, none⟩)], .func (.func 126) #[] #[]], 180), (bn, #[.int .i64 no, .int .i64 x, .int .i64 en], 35), (bb, #[.slice ua un uc], 68), (bt, #[.int .i64 y], 3), (ba, #[.int .i64 x], 3)] v3) from H2.out.below b3)
    have O3 := (show Hid (OwnDy w.heap.size v3 r3 (headPutDk (step2 d x y b) ⟨no, x, en⟩).1) from OwnDy.base o3 H2.out.1.size)
    clear b3 c1 c2 c3 c4 f1 f2 f3 f4 CC3
    obtain ⟨sa3, sn3, sc3, la3, ln3, lc3, rfl, _, _⟩ := o3
    have H3a := (show Hid _ from V3.out.new #[.slice sa3 sn3 sc3, .slice la3 ln3 lc3] 34)
    cases hk3 : (headPutDk (step2 d x y b) ⟨no, x, en⟩).2
    · have hno : stepsOk d x y b ⟨no, x, en⟩ = false := by unfold stepsOk; rw [HK1.out, hk3]; rfl
      have HQ := (show Hid (steppedA d x y b ⟨no, x, en⟩ = (zeroDk, false)) from (show _ = _ by rw [steppedA, hno]; rfl))
      clear hno
      obtain ⟨z1, z2, z3, z4⟩ := rk_two H3a.out.at2
      have Hz := (show Hid _ from ((H3a.out.tail.swap.sub (L' := [(w.heap.size + 1, #[.slice none 0 0, .slice none 0 0], 34)]) (by simp)).set2 (by omega) (by simp) (.slice none 0 0) (.slice none 0 0)))
      go_wp2
      refine bodyPost_ret (disk_res rfl rfl rfl Hz.out.at0) rfl ?_
      rw [HQ.out]
      exact ⟨_, rfl, own_zero _ _, Hz.out.1⟩
    · have HK3 := (show Hid ((headPutDk (step2 d x y b) ⟨no, x, en⟩).2 = true) from hk3)
      clear hk3
      obtain ⟨m1, m2, m3, m4⟩ := rk_two H3a.out.at0
      obtain ⟨k1, k2, k3, k4⟩ := rk_two H3a.out.at1
      have Hs := (show Hid _ from (H3a.out.tail.set2 (Nat.le_refl _) hNe.out (.slice sa3 sn3 sc3) (.slice la3 ln3 lc3)))
      have Os := (show Hid _ from OwnDy.set2 (a := .slice sa3 sn3 sc3) (b := .slice la3 ln3 lc3) (O3.out.below ((Below.refl _ _).alloc (Nat.le_refl _) (.cells #[.slice sa3 sn3 sc3, .slice la3 ln3 lc3] 34))) H3a.out.at1)
      go_wp2
      obtain ⟨w3, hw3⟩ : ∃ z, z = ((v3.alloc (.cells #[.slice sa3 sn3 sc3, .slice la3 ln3 lc3] 34)).setCell ⟨w.heap.size, 0, none⟩ (.slice sa3 sn3 sc3)).setCell ⟨w.heap.size, 1, none⟩ (.slice la3 ln3 lc3) := ⟨_, rfl⟩
      rw [← hw3] at Hs Os ⊢
      have H3 := (show Hid (Hl w [(w.heap.size, #[.slice sa3 sn3 sc3, .slice la3 ln3 lc3], 34), (w.heap.size + 1, #[.slice none 0 0, .slice none 0 0], 34), (sb, #[.func (.func 124) #[] #[.pointer (some ⟨ba, 0, none⟩), .pointer (some ⟨bt, 0, none⟩), .pointer (some ⟨bb, 0, none⟩)], .func (.func 126) #[] #[], .func (.func 127) #[] #[.pointer (some ⟨bn, 0, none⟩)], .func (.func 126) #[] #[]], 180), (bn, #[.int .i64 no, .int .i64 x, .int .i64 en], 35), (bb, #[.slice ua un uc], 68), (bt, #[.int .i64 y], 3), (ba, #[.int .i64 x], 3)] w3) from Hs.out)
      have P3 := (show Hid (OwnDy w.heap.size w3 (.agg #[.slice sa3 sn3 sc3, .slice la3 ln3 lc3]) (step3 d x y b ⟨no, x, en⟩)) from Os.out)
      have D3 := (show Hid (DiskAt w3 (.agg #[.slice sa3 sn3 sc3, .slice la3 ln3 lc3]) (step3 d x y b ⟨no, x, en⟩)) from P3.out.at)
      have F3 := (show Hid (DiskFit (step3 d x y b ⟨no, x, en⟩)) from fit_headPut F2.out _)
      clear hw3 Hs Os m1 m2 m3 m4 k1 k2 k3 k4 H3a V3 O3 H2 D2
      rw [rounds_succ]
      have CC4 := (show Hid (Calls Tryz.prog 126 _ w3 fun e w' => StepOut w3 (syncDk (step3 d x y b ⟨no, x, en⟩)) e w') from isync_step D3.out F3.out)
      obtain ⟨c1, c2, c3, c4⟩ := rk_two H3.out.at0
      obtain ⟨f1, f2, f3, f4⟩ := rk_fourS (H3.out.at2)
      go_wp2_with fail
      go_at_call 126
      refine Calls.mono CC4.out ?_
      rintro e v4 ⟨r4, rfl, o4, b4⟩
      have V4 := (show Hid (Hl w [(w.heap.size, #[.slice sa3 sn3 sc3, .slice la3 ln3 lc3], 34), (w.heap.size + 1, #[.slice none 0 0, .slice none 0 0], 34), (sb, #[.func (.func 124) #[] #[.pointer (some ⟨ba, 0, none⟩), .pointer (some ⟨bt, 0, none⟩), .pointer (some ⟨bb, 0, none⟩)], .func (.func 126) #[] #[], .func (.func 127) #[] #[.pointer (some ⟨bn, 0, none⟩)], .func (.func 126) #[] #[]], 180), (bn, #[.int .i64 no, .int .i64 x, .int .i64 en], 35), (bb, #[.slice ua un uc], 68), (bt, #[.int .i64 y], 3), (ba, #[.int .i64 x], 3)] v4) from H3.out.below b4)
      have O4 := (show Hid (OwnDy w.heap.size v4 r4 (syncDk (step3 d x y b ⟨no, x, en⟩)).1) from OwnDy.base o4 H3.out.1.size)
      clear b4 c1 c2 c3 c4 f1 f2 f3 f4 CC4
      obtain ⟨sa4, sn4, sc4, la4, ln4, lc4, rfl, _, _⟩ := o4
      have H4a := (show Hid _ from V4.out.new #[.slice sa4 sn4 sc4, .slice la4 ln4 lc4] 34)
      rw [show (syncDk (step3 d x y b ⟨no, x, en⟩)).2 = true from sync_yes (headPut_yes HK3.out).2.2.1]
      obtain ⟨m1, m2, m3, m4⟩ := rk_two H4a.out.at0
      obtain ⟨k1, k2, k3, k4⟩ := rk_two H4a.out.at1
      have Hs := (show Hid _ from (H4a.out.tail.set2 (Nat.le_refl _) hNe.out (.slice sa4 sn4 sc4) (.slice la4 ln4 lc4)))
      have Os := (show Hid _ from OwnDy.set2 (a := .slice sa4 sn4 sc4) (b := .slice la4 ln4 lc4) (O4.out.below ((Below.refl _ _).alloc (Nat.le_refl _) (.cells #[.slice sa4 sn4 sc4, .slice la4 ln4 lc4] 34))) H4a.out.at1)
      go_wp2
      obtain ⟨w4, hw4⟩ : ∃ z, z = ((v4.alloc (.cells #[.slice sa4 sn4 sc4, .slice la4 ln4 lc4] 34)).setCell ⟨w.heap.size, 0, none⟩ (.slice sa4 sn4 sc4)).setCell ⟨w.heap.size, 1, none⟩ (.slice la4 ln4 lc4) := ⟨_, rfl⟩
      rw [← hw4] at Hs Os ⊢
      have H4 := (show Hid (Hl w [(w.heap.size, #[.slice sa4 sn4 sc4, .slice la4 ln4 lc4], 34), (w.heap.size + 1, #[.slice none 0 0, .slice none 0 0], 34), (sb, #[.func (.func 124) #[] #[.pointer (some ⟨ba, 0, none⟩), .pointer (some ⟨bt, 0, none⟩), .pointer (some ⟨bb, 0, none⟩)], .func (.func 126) #[] #[], .func (.func 127) #[] #[.pointer (some ⟨bn, 0, none⟩)], .func (.func 126) #[] #[]], 180), (bn, #[.int .i64 no, .int .i64 x, .int .i64 en], 35), (bb, #[.slice ua un uc], 68), (bt, #[.int .i64 y], 3), (ba, #[.int .i64 x], 3)] w4) from Hs.out)
      have P4 := (show Hid (OwnDy w.heap.size w4 (.agg #[.slice sa4 sn4 sc4, .slice la4 ln4 lc4]) (step4 d x y b ⟨no, x, en⟩)) from Os.out)
      have D4 := (show Hid (DiskAt w4 (.agg #[.slice sa4 sn4 sc4, .slice la4 ln4 lc4]) (step4 d x y b ⟨no, x, en⟩)) from P4.out.at)
      have F4 := (show Hid (DiskFit (step4 d x y b ⟨no, x, en⟩)) from fit_sync F3.out)
      clear hw4 Hs Os m1 m2 m3 m4 k1 k2 k3 k4 H4a V4 O4 H3 D3
      rw [rounds_succ]
      have HQ := (show Hid (steppedA d x y b ⟨no, x, en⟩ = ((step4 d x y b ⟨no, x, en⟩), true)) from (show _ = _ by
        have : stepsOk d x y b ⟨no, x, en⟩ = true := by unfold stepsOk; rw [HK1.out, HK3.out]; rfl
        rw [steppedA, this]; rfl))
      obtain ⟨c1, c2, c3, c4⟩ := rk_two H4.out.at0
      obtain ⟨k1, k2, k3, k4⟩ := rk_two H4.out.at1
      have Hz := (show Hid _ from (H4.out.swap.sub (L' := [(w.heap.size + 1, #[.slice none 0 0, .slice none 0 0], 34)]) (by simp)).set2 (by omega) (by simp) (.slice sa4 sn4 sc4) (.slice la4 ln4 lc4))
      have Oz := (show Hid _ from OwnDy.set2 (a := .slice sa4 sn4 sc4) (b := .slice la4 ln4 lc4) P4.out H4.out.at1)
      go_wp2
      refine bodyPost_ret (disk_res rfl rfl rfl Hz.out.at0) rfl ?_
      rw [HQ.out]
      exact ⟨_, rfl, Oz.out, Hz.out.1⟩
end Go.Proofs.YtjokajblihaphaaGreatDoor
