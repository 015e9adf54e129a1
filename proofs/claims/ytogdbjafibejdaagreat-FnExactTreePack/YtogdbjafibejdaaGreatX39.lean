/- What tidying makes, node by node. No condition. -/
import Derived.Test.YtogdbjafibejdaaGreatX38
import Derived.Test.YtogdbjafibejdaaGreatX37
namespace Go.Proofs.YtogdbjafibejdaaGreat
open Go.RowKit
set_option maxRecDepth 100000
set_option linter.unusedVariables false

def plI (ns : List PNode) (x : Int) : Int := (posI (allD ns) x : Int)
def linkN (n : PNode) (par : Int) (ks : List Int) : PNode := ⟨n.kind, n.name, n.attrs, n.text, par, ks⟩
theorem linkN_alone (ns : List PNode) (k : Nat) : linkN (aloneAt ns k) (-1) [] = aloneAt ns k := by
  unfold aloneAt
  cases ns[k]? with
  | none => rfl
  | some a => rfl
def relN (ns : List PNode) (l : List Int) (x : Int) : PNode :=
  linkN (aloneAt ns x.toNat) (if x = 0 then -1 else plI ns (parOf ns x.toNat)) (((kidsOf ns x.toNat).filter fun y => decide (y ∈ l)).map (plI ns))

theorem filter_more {K l r : List Int} {x : Int} (hs : K.Sublist (l ++ x :: r)) (hn : (l ++ x :: r).Nodup) (hx : x ∈ K) :
    (K.filter fun y => decide (y ∈ l ++ [x])) = (K.filter fun y => decide (y ∈ l)) ++ [x] := by
  obtain ⟨K1, K2, rfl, h1, h2⟩ := List.sublist_append_iff.mp hs
  have hn' := List.nodup_append.mp hn
  have hxl : x ∉ l := fun hm => hn'.2.2 x hm x (by simp) rfl
  have hxr : x ∉ r := (List.nodup_cons.mp hn'.2.1).1
  have hx2 : x ∈ K2 := by
    rcases List.mem_append.mp hx with hx | hx
    · exact absurd (h1.subset hx) hxl
    · exact hx
  rcases List.sublist_cons_iff.mp h2 with h2 | ⟨K3, rfl, h3⟩
  · exact absurd (h2.subset hx2) hxr
  · have hr : ∀ y ∈ K3, y ∉ l ∧ y ≠ x := fun y hy => ⟨fun hm => hn'.2.2 y hm y (by simp [h3.subset hy]) rfl, fun e => hxr (e ▸ h3.subset hy)⟩
    have e1 : (K1.filter fun y => decide (y ∈ l)) = K1 := List.filter_eq_self.mpr (fun y hy => by simpa using h1.subset hy)
    have e2 : (K1.filter fun y => decide (y ∈ l ++ [x])) = K1 := List.filter_eq_self.mpr (fun y hy => by simp [h1.subset hy])
    have e3 : (K3.filter fun y => decide (y ∈ l)) = [] := List.filter_eq_nil_iff.mpr (fun y hy => by simpa using (hr y hy).1)
    have e4 : (K3.filter fun y => decide (y ∈ l ++ [x])) = [] := List.filter_eq_nil_iff.mpr (fun y hy => by simp [hr y hy])
    rw [List.filter_append, List.filter_append, e1, e2, List.filter_cons, List.filter_cons, e3, e4]
    simp [hxl]
theorem filter_same {K l : List Int} {x : Int} (hx : x ∉ K) : (K.filter fun y => decide (y ∈ l ++ [x])) = (K.filter fun y => decide (y ∈ l)) := by
  refine List.filter_congr (fun y hy => ?_)
  have : y ≠ x := fun e => hx (e ▸ hy)
  simp [this]

theorem hang_last {A : List PNode} {n : PNode} {p : Nat} (hp : p < A.length) (i : Nat) :
    (hangN (A ++ [alone n]) A.length p)[i]? = if i = A.length then some (linkN n (p : Int) []) else if i = p then (A[i]?).map (fun a => setKids a (a.kids ++ [(A.length : Int)])) else A[i]? := by
  have hpar : parOf (A ++ [alone n]) A.length = -1 := by simp [parOf, alone]
  unfold hangN takeN cutN
  rw [if_pos hpar]
  simp only [List.getElem?_modify]
  by_cases h1 : i = A.length
  · subst h1
    have hne : ¬ p = A.length := by omega
    simp [hne, alone, setPar, linkN]
  · by_cases h2 : i < A.length
    · rw [List.getElem?_append_left h2]
      have hne : ¬ A.length = i := by omega
      by_cases h3 : p = i
      · subst h3; simp [h1, hne]
      · have h3' : ¬ i = p := fun e => h3 e.symm
        simp [h1, hne, h3, h3']
    · have : (A ++ [alone n])[i]? = none := List.getElem?_eq_none (by simp; omega)
      rw [this, List.getElem?_eq_none (by omega)]
      simp [h1]

theorem tidyL_are {ns : List PNode} (h : STreeOkP ns) (l : List Int) : l <+: allD ns → (tidyL ns l).1 = l.map (relN ns l) ∧ ∀ x ∈ l, (tidyL ns l).2.getD x.toNat 0 = plI ns x := by
  have hnd := allD_nodup h
  have h500 := h.1.most
  refine snoc_ind (P := fun l => l <+: allD ns → (tidyL ns l).1 = l.map (relN ns l) ∧ ∀ x ∈ l, (tidyL ns l).2.getD x.toNat 0 = plI ns x) (fun _ => ⟨rfl, fun x hx => by cases hx⟩) ?_ l
  intro l x ih hpre
  obtain ⟨r, hr⟩ := hpre
  have hr' : l ++ x :: r = allD ns := by rw [← hr, List.append_assoc]; rfl
  have hxm : x ∈ allD ns := by rw [← hr']; simp
  obtain ⟨hx0, hx1⟩ := allD_mem h hxm
  have hndl : (l ++ x :: r).Nodup := by rw [hr']; exact hnd
  have hnd' := List.nodup_append.mp hndl
  have hxl : x ∉ l := fun hm => hnd'.2.2 x hm x (by simp) rfl
  have hlm : ∀ y ∈ l, y ∈ allD ns := fun y hy => by rw [← hr']; simp [hy]
  obtain ⟨ih1, ih2⟩ := ih ⟨x :: r, hr'⟩
  have hpx : posI (allD ns) x = l.length := by rw [← hr']; exact pos_app r hxl
  have hlen := tidyL_len ns l
  have hplace : ∀ y ∈ l ++ [x], ((tidyL ns l).2.set x.toNat ((tidyL ns l).1.length : Int)).getD y.toNat 0 = plI ns y := fun y hy => by
    rcases List.mem_append.mp hy with hy | hy
    · have hy0 := allD_mem h (hlm y hy)
      have hne : ¬ x.toNat = y.toNat := fun e => hxl (by rw [show x = y by omega]; exact hy)
      rw [List.getD_eq_getElem?_getD, List.getElem?_set_ne hne, ← List.getD_eq_getElem?_getD]
      exact ih2 y hy
    · rw [List.mem_singleton] at hy
      subst hy
      rw [List.getD_eq_getElem?_getD, List.getElem?_set_self (by rw [hlen.2]; omega), hlen.1, plI, hpx]
      rfl
  -- of x's own kids none has come
  have hkx : ((kidsOf ns x.toNat).filter fun y => decide (y ∈ l ++ [x])) = [] := by
    refine List.filter_eq_nil_iff.mpr (fun z hz => ?_)
    have hz1 := tree_kid h hz
    have hzp := (fit_kid h.1.fit hz).2.2.2
    rw [Int.toNat_of_nonneg hx0] at hzp
    have hsplit : ∀ l1 l2, l1 ++ z :: l2 = l ++ [x] → False := fun l1 l2 e => by
      have e' : l1 ++ z :: (l2 ++ r) = allD ns := by rw [← hr, ← e]; simp
      have hq := (allD_par h e' (by omega)).1
      rw [hzp] at hq
      have : l1.length < (l ++ [x]).length := by rw [← e]; simp
      have hpf : l1 <+: l ++ [x] := ⟨z :: l2, e⟩
      rcases List.prefix_concat_iff.mp (by simpa using hpf) with he | he
      · rw [he] at this; omega
      · exact hxl (he.subset hq)
    intro hc
    have hm : z ∈ l ++ [x] := by simpa using hc
    obtain ⟨l1, l2, e⟩ := List.append_of_mem hm
    exact hsplit l1 l2 e.symm
  have hsnd : (tidyL ns (l ++ [x])).2 = (tidyL ns l).2.set x.toNat ((tidyL ns l).1.length : Int) := by
    rw [tidyL_snoc]; unfold tidyStep; split <;> rfl
  refine ⟨?_, fun y hy => by rw [hsnd]; exact hplace y hy⟩
  rw [tidyL_snoc]
  by_cases h0 : x = 0
  · subst h0
    have hl0 : l = [] := by
      obtain ⟨t, ht⟩ := allD_head h
      cases l with
      | nil => rfl
      | cons a l =>
        exfalso
        rw [ht, List.cons_append] at hr'
        exact hxl (by rw [(List.cons.inj hr').1]; simp)
    subst hl0
    have hk : relN ns [0] 0 = aloneAt ns 0 := by
      unfold relN
      rw [if_pos rfl, show ((kidsOf ns (0 : Int).toNat).filter fun y => decide (y ∈ [(0 : Int)])) = [] from hkx]
      exact linkN_alone ns 0
    simp only [List.nil_append, List.map_cons, List.map_nil, hk]
    rfl
  · obtain ⟨j, rfl⟩ : ∃ j : Nat, x = j := ⟨x.toNat, by omega⟩
    have hj0 : j ≠ 0 := by omega
    obtain ⟨hq, hxq⟩ := allD_par h hr' h0
    rw [Int.toNat_natCast] at *
    rw [tidyStep_pos ns _ hj0]
    have hpl := hplace (parOf ns j) (by simp [hq])
    rw [hpl]
    have hqD := hlm _ hq
    have hqz := allD_mem h hqD
    obtain ⟨q, hqe⟩ : ∃ q, q = parOf ns j := ⟨_, rfl⟩
    rw [← hqe] at hq hqD hqz hxq ⊢
    have hpq : posI (allD ns) q < l.length := by
      have : posI (allD ns) q = posI l q := by
        obtain ⟨l1, l2, e⟩ := List.append_of_mem hq
        have hn1 : q ∉ l1 := fun hm => by
          have := hnd'.1
          rw [e] at this
          exact (List.nodup_append.mp this).2.2 q hm q (by simp) rfl
        rw [← hr', e, List.append_assoc, List.cons_append, pos_app _ hn1, pos_app _ hn1]
      rw [this]
      exact pos_lt hq
    have hjl : j < ns.length := by omega
    rw [aloneAt_at hjl, ih1, show ((plI ns q)).toNat = posI (allD ns) q by simp [plI]]
    have hAl : (l.map (relN ns l)).length = l.length := by simp
    refine List.ext_getElem? (fun i => ?_)
    rw [hAl]
    have hh := hang_last (A := l.map (relN ns l)) (n := ns[j]) (p := posI (allD ns) q) (by rw [hAl]; exact hpq) i
    rw [hAl] at hh
    rw [hh]
    by_cases hi : i = l.length
    · subst hi
      rw [if_pos rfl, List.getElem?_map, List.getElem?_append_right (by omega)]
      simp only [Nat.sub_self, List.getElem?_cons_zero, Option.map_some]
      congr 1
      unfold relN
      rw [if_neg (by omega), Int.toNat_natCast, hkx, aloneAt_at hjl, ← hqe]
      rfl
    · rw [if_neg hi, List.getElem?_map, List.getElem?_map]
      by_cases hil : i < l.length
      · rw [List.getElem?_append_left hil, List.getElem?_eq_getElem hil]
        simp only [Option.map_some]
        have hyl : l[i] ∈ l := List.getElem_mem hil
        obtain ⟨y, hy⟩ : ∃ y, y = l[i] := ⟨_, rfl⟩
        have hyD := hlm _ hyl
        have hyz := allD_mem h hyD
        have hip : posI (allD ns) l[i] = i := pos_get hnd (by rw [← hr', List.getElem?_append_left hil, List.getElem?_eq_getElem hil])
        rw [← hy] at hyl hyD hyz hip ⊢
        by_cases hyq : y = q
        · subst hyq
          rw [if_pos hip.symm]
          congr 1
          unfold relN
          rw [filter_more (by rw [hr']; exact allD_kids h hyD) hndl hxq, List.map_append]
          simp [setKids, linkN, plI, hpx]
        · rw [if_neg (fun e => hyq (pos_inj hyD hqD (by rw [hip, e])))]
          congr 1
          unfold relN
          rw [filter_same (fun hm => hyq (by
            have := (fit_kid h.1.fit hm).2.2.2
            rw [Int.toNat_natCast] at this
            rw [hqe, this, Int.toNat_of_nonneg hyz.1]))]
      · have e1 : (l[i]? : Option Int) = none := List.getElem?_eq_none (by omega)
        have e2 : ((l ++ [(j : Int)])[i]? : Option Int) = none := List.getElem?_eq_none (by simp; omega)
        rw [e1, e2]
        simp
def tidN (ns : List PNode) (x : Int) : PNode := linkN (aloneAt ns x.toNat) (if x = 0 then -1 else plI ns (parOf ns x.toNat)) ((kidsOf ns x.toNat).map (plI ns))
theorem tidyN_are {ns : List PNode} (h : STreeOkP ns) : tidyN ns = (allD ns).map (tidN ns) := by
  rw [tidyN, show down ns ns.length 0 = allD ns from rfl, (tidyL_are h _ (List.prefix_refl _)).1]
  refine List.map_congr_left (fun x hx => ?_)
  unfold relN tidN
  rw [List.filter_eq_self.mpr (fun y hy => by simpa using (allD_kids h hx).subset hy)]
end Go.Proofs.YtogdbjafibejdaaGreat

/- The laws' helper that marks a tree: its nodes, walked. No condition. -/
namespace Go.Proofs.YtogdbjafibejdaaGreat
open Go.RowKit
set_option maxRecDepth 100000
set_option linter.unusedVariables false

theorem MkSt.cellAt {B g cap : Nat} {w W : World} {qs ps : List (PNode × (Value × Value))} (h : MkSt B w g cap qs ps W) {k : Nat} (hk : k < qs.length) :
    (∃ z, W.cell? ⟨g, k * 6, none⟩ = some (.int .i64 z)) ∧ (∃ z, W.cell? ⟨g, k * 6 + 1, none⟩ = some (.string z)) ∧ W.cell? ⟨g, k * 6 + 2, none⟩ = some qs[k].2.1 ∧ (∃ z, W.cell? ⟨g, k * 6 + 3, none⟩ = some (.string z)) ∧ (∃ z, W.cell? ⟨g, k * 6 + 4, none⟩ = some (.int .i64 z)) ∧ W.cell? ⟨g, k * 6 + 5, none⟩ = some qs[k].2.2 ∧ ∀ j, W.frozen? ⟨g, j, none⟩ = false := by
  have hkp : k < ps.length := by rw [h.like.len]; exact hk
  obtain ⟨_, _, l3⟩ := h.like.at hkp hk
  have c := fun j (hj : j < 6) => h.own.cellAt hkp hj
  refine ⟨⟨ps[k].1.kind, c 0 (by decide)⟩, ⟨ps[k].1.name, c 1 (by decide)⟩, ?_, ⟨ps[k].1.text, c 3 (by decide)⟩, ⟨ps[k].1.parent, c 4 (by decide)⟩, ?_, fun j => h.own.frozenAt j⟩
  · rw [← l3]; exact c 2 (by decide)
  · rw [← l3]; exact c 5 (by decide)

theorem MkSt.listsAt {B g cap : Nat} {w W : World} {qs ps : List (PNode × (Value × Value))} (h : MkSt B w g cap qs ps W) {k : Nat} (hk : k < qs.length) :
    (∃ rs, List.length (α := ByteArray × ByteArray) rs = qs[k].1.attrs.length ∧ W.ownsRow B 115 2 qs[k].2.1 rs.length (pairCells rs)) ∧ (∃ ks, List.length (α := Int) ks = qs[k].1.kids.length ∧ Own B 3 .i64 W qs[k].2.2 ks) := by
  have hkp : k < ps.length := by rw [h.like.len]; exact hk
  obtain ⟨l1, l2, l3⟩ := h.like.at hkp hk
  have o := h.own.2 _ (List.getElem_mem hkp)
  rw [l3] at o
  exact ⟨⟨_, l1, o.1⟩, ⟨_, l2, o.2⟩⟩

set_option maxHeartbeats 4000000 in
set_option maxRecDepth 100000 in
theorem markNodeS_row {B : Nat} {g cap : Nat} {qs : List (PNode × (Value × Value))} {w : World} (h : OwnQ B w (.slice (some ⟨g, 0, none⟩) qs.length cap) qs) (ap : Apart qs) (apa : ApartA qs) (k0 : Int) (h0 : 0 ≤ k0) (h1 : k0 ≤ 1000) (hsum : qs.length + wtS (qs.map fun q => q.1) ≤ 1048576) :
    Calls Tryz.prog 101 #[.slice (some ⟨g, 0, none⟩) qs.length cap, .int .i64 k0] w fun e w' => ∃ (k : Int) (ps : List (PNode × (Value × Value))), e = .returned (.int .i64 k) ∧ k0 ≤ k ∧ MkSt B w g cap qs ps w' := by
  have HSUM := (show Hid (qs.length + wtS (qs.map fun q => q.1) ≤ 1048576) from hsum)
  have H := (show Hid (MkSt B w g cap qs qs w) from ⟨rfl, h, .refl _ _, ap, apa⟩)
  have hqs : qs.length ≤ 1048576 := by omega
  clear h ap apa hsum
  go_enter Tryz.func101, Tryz.ntmps101
  go_wp2
  go_loopw [1, 5] (fun q i wr => ∃ (k : Nat) (r : Int), k ≤ qs.length ∧ i = .int .i64 k ∧ q = .int .i64 r ∧ k0 ≤ r ∧ Hid (r ≤ k0 + 4 * k + 2 * wtS ((qs.map fun q => q.1).take k)) ∧ Hid (∃ ps, MkSt B w g cap qs ps wr)) (fun _ i _ => qs.length - (intOf i).toNat)
  case atStart => exact ⟨0, k0, Nat.zero_le _, rfl, rfl, Int.le_refl _, (show k0 ≤ k0 + 4 * ((0 : Nat) : Int) + 2 * wtS ((qs.map fun q => q.1).take 0) by simp [wtS]), ⟨_, H.out⟩⟩
  case round =>
    obtain ⟨k, r, hk, rfl, rfl, hr0, hr1, hS⟩ := hrel
    by_cases hlt : k < qs.length
    · obtain ⟨ps, st⟩ := hS.out
      have hwk : (wtS ((qs.map fun q => q.1).take k) : Int) + qs[k].1.attrs.length + qs[k].1.kids.length ≤ 1048576 ∧ wtS ((qs.map fun q => q.1).take (k + 1)) = wtS ((qs.map fun q => q.1).take k) + (qs[k].1.attrs.length + qs[k].1.kids.length) := by
        have e1 := wtS_take (ns := qs.map fun q => q.1) (k := k) (by simpa using hlt)
        have e2 : wtS ((qs.map fun q => q.1).take (k + 1)) ≤ wtS (qs.map fun q => q.1) := by
          unfold wtS
          rw [← List.take_append_drop (k + 1) (qs.map fun q => q.1), List.map_append, List.sum_append]
          simp
        have e3 : wtN ((qs.map fun q => q.1)[k]'(by simpa using hlt)) = qs[k].1.attrs.length + qs[k].1.kids.length := by rw [List.getElem_map]; rfl
        have := HSUM.out
        rw [e3] at e1
        exact ⟨by omega, e1⟩
      have hrB : r ≤ 10000000 := by have := hr1.out; have := hwk.1; have := HSUM.out; omega
      have HWK := (show Hid _ from hwk)
      have hal : qs[k].1.attrs.length ≤ 1048576 := by have := hwk.1; omega
      have hkl : qs[k].1.kids.length ≤ 1048576 := by have := hwk.1; omega
      clear hwk
      obtain ⟨va1, va2, va3, hva⟩ : ∃ a n c, qs[k].2.1 = .slice a n c := by
        obtain ⟨⟨rs, _, hao⟩, _⟩ := st.listsAt hlt
        obtain ⟨_, h | ⟨_, _, _, h, _⟩⟩ := hao
        · exact ⟨_, _, _, h.1⟩
        · exact ⟨_, _, _, h⟩
      obtain ⟨vk1, vk2, vk3, hvk⟩ : ∃ a n c, qs[k].2.2 = .slice a n c := by
        obtain ⟨_, ⟨ks, _, hko⟩⟩ := st.listsAt hlt
        exact own_slice hko
      have HVA := (show Hid (qs[k].2.1 = .slice va1 va2 va3) from hva)
      have HVK := (show Hid (qs[k].2.2 = .slice vk1 vk2 vk3) from hvk)
      clear hva hvk
      obtain ⟨⟨z0, c0⟩, _, _, _, _, _, fz⟩ := st.cellAt hlt
      have f0 := fz (k * 6)
      obtain ⟨ps1, st1⟩ := st.cell hlt (j := 0) (by decide) (.int .i64 r) (fun q => ⟨(⟨r, q.1.name, q.1.attrs, q.1.text, q.1.parent, q.1.kids⟩, q.2), rfl, rfl, rfl, rfl⟩)
      obtain ⟨wA, hwA⟩ : ∃ z, z = wr.setCell ⟨g, k * 6, none⟩ (.int .i64 r) := ⟨_, rfl⟩
      rw [Nat.add_zero, ← hwA] at st1
      have ST1 := (show Hid _ from st1)
      have CM := (show Hid (∀ (x : Int) W, x ≤ 1099511627776 → Calls Tryz.prog 146 #[.int .i64 x] W fun e w' => e = .returned (.string (mt x)) ∧ Below W.heap.size W w') from fun x W hx => markText_any x W hx)
      clear fz st st1 hS
      go_wp2_with fail
      go_at_call 146
      rw [← hwA]
      clear hwA c0 f0
      refine Calls.mono (CM.out _ _ (by omega)) ?_
      rintro e w2 ⟨rfl, b2⟩
      have st2 := ST1.out.below b2
      obtain ⟨_, ⟨z1, c1⟩, x2, _, _, _, fz⟩ := st2.cellAt hlt
      have f1 := fz (k * 6 + 1)
      obtain ⟨ps3, st3⟩ := st2.cell hlt (j := 1) (by decide) (.string (mt (r + 1))) (fun q => ⟨(⟨q.1.kind, mt (r + 1), q.1.attrs, q.1.text, q.1.parent, q.1.kids⟩, q.2), rfl, rfl, rfl, rfl⟩)
      obtain ⟨wB, hwB⟩ : ∃ z, z = w2.setCell ⟨g, k * 6 + 1, none⟩ (.string (mt (r + 1))) := ⟨_, rfl⟩
      rw [← hwB] at st3
      have ST3 := (show Hid _ from st3)
      obtain ⟨_, _, c2, _, _, _, _⟩ := st3.cellAt hlt
      obtain ⟨⟨rs, hrl, hao⟩, _⟩ := st3.listsAt hlt
      have CA := (show Hid _ from markAttrS_any hao (r + 1 + 1) (by omega) (by omega) (by omega))
      have HRL := (show Hid (rs.length = qs[k].1.attrs.length) from hrl)
      rw [HVA.out] at c2 CA x2
      clear fz st2 st3 ST1 b2 hao hrl
      go_wp2_with fail
      go_at_call 147
      rw [← hwB]
      clear hwB c1 f1 x2 c2
      refine Calls.mono CA.out ?_
      rintro e w4 ⟨rfl, o4, g4⟩
      rw [← HVA.out] at o4 g4
      obtain ⟨ps4, st4⟩ := ST3.out.attrs (rs := markPairs (r + 1 + 1) rs.length) hlt (by rw [markPairs_len]; exact HRL.out) g4 (by rw [markPairs_len]; exact o4)
      have hw1 := HWK.out.1
      have hrl := HRL.out
      obtain ⟨r4, hr4⟩ : ∃ x : Int, x = r + 1 + 1 + 2 * rs.length := ⟨_, rfl⟩
      rw [← hr4]
      have HR4 := (show Hid (r4 = r + 1 + 1 + 2 * rs.length) from hr4)
      have hr4a : r ≤ r4 ∧ r4 ≤ 20000000 := by omega
      obtain ⟨_, _, _, ⟨z3, c3⟩, _, _, fz⟩ := st4.cellAt hlt
      have f3 := fz (k * 6 + 3)
      obtain ⟨hr4b, hr4c⟩ := hr4a
      have ST4 := (show Hid _ from st4)
      clear hr4 fz st4 o4 g4 CA ST3 hw1 hrl
      go_wp2_with fail
      go_at_call 146
      refine Calls.mono (CM.out _ _ (by omega)) ?_
      rintro e w5 ⟨rfl, b5⟩
      have st5 := ST4.out.below b5
      obtain ⟨_, _, _, ⟨z5, c5⟩, ⟨z6, c6⟩, x5, fz⟩ := st5.cellAt hlt
      have f5 := fz (k * 6 + 3)
      have f6 := fz (k * 6 + 4)
      obtain ⟨ps6, st6⟩ := st5.cell hlt (j := 3) (by decide) (.string (mt r4)) (fun q => ⟨(⟨q.1.kind, q.1.name, q.1.attrs, mt r4, q.1.parent, q.1.kids⟩, q.2), rfl, rfl, rfl, rfl⟩)
      obtain ⟨ps7, st7⟩ := st6.cell hlt (j := 4) (by decide) (.int .i64 (r4 + 1)) (fun q => ⟨(⟨q.1.kind, q.1.name, q.1.attrs, q.1.text, r4 + 1, q.1.kids⟩, q.2), rfl, rfl, rfl, rfl⟩)
      obtain ⟨wC, hwC⟩ : ∃ z, z = (w5.setCell ⟨g, k * 6 + 3, none⟩ (.string (mt r4))).setCell ⟨g, k * 6 + 4, none⟩ (.int .i64 (r4 + 1)) := ⟨_, rfl⟩
      rw [← hwC] at st7
      have ST7 := (show Hid _ from st7)
      obtain ⟨_, ⟨ks, hkl2, hko⟩⟩ := st7.listsAt hlt
      have CK := (show Hid _ from markI_any hko (k0 := r4 + 1 + 1) (by omega) (by omega) (by omega))
      have HKL := (show Hid (ks.length = qs[k].1.kids.length) from hkl2)
      rw [HVK.out] at x5 CK
      clear fz st5 st6 st7 ST4 b5 hko hkl2 c3 f3
      go_wp2_with fail
      go_at_call 148
      rw [← hwC]
      clear hwC c5 c6 f5 f6 x5
      refine Calls.mono CK.out ?_
      rintro e w8 ⟨rfl, o8, g8⟩
      rw [← HVK.out] at o8 g8
      obtain ⟨ps8, st8⟩ := ST7.out.kids (ks := marks (fun x => x) (r4 + 1 + 1) ks.length) hlt (by rw [marks_length]; exact HKL.out) g8 o8
      have ST8 := (show Hid _ from st8)
      clear st8 o8 g8 CK ST7
      go_wp2
      go_roundw
      case rel =>
        have a1 := HKL.out
        have a2 := HRL.out
        have a3 := HR4.out
        have a4 := HWK.out.2
        have a5 := hr1.out
        exact ⟨k + 1, _, by omega, by go_num, rfl, by omega, (show _ ≤ _ by rw [a4]; omega), ⟨_, ST8.out⟩⟩
      case measure => simp [intOf]; omega
    · go_wp2
      go_ret
      obtain ⟨ps, st⟩ := hS.out
      exact ⟨r, ps, rfl, hr0, st⟩
end Go.Proofs.YtogdbjafibejdaaGreat

/- A tidied tree: right, in order, the same tidied again, with the same text and page. No condition. -/
namespace Go.Proofs.YtogdbjafibejdaaGreat
open Go.RowKit
set_option maxRecDepth 100000
set_option linter.unusedVariables false
section
variable {ns : List PNode}
end
end Go.Proofs.YtogdbjafibejdaaGreat

/- The laws' helper that marks a tree. No condition. -/
namespace Go.Proofs.YtogdbjafibejdaaGreat
open Go.RowKit
set_option maxRecDepth 100000
set_option linter.unusedVariables false

set_option maxHeartbeats 1000000 in
theorem markNodeS_none (k0 : Int) (w : World) : Calls Tryz.prog 101 #[.slice none 0 0, .int .i64 k0] w fun e w' => e = .returned (.int .i64 k0) ∧ w' = w := by
  go_enter Tryz.func101, Tryz.ntmps101
  go_wp2
  go_loop [1, 5] (fun q i => i = .int .i64 0 ∧ q = .int .i64 k0) (fun _ _ => 0)
  case atStart => exact ⟨rfl, rfl⟩
  case round =>
    obtain ⟨rfl, rfl⟩ := hrel
    go_wp2
    go_ret
    exact ⟨rfl, rfl⟩
theorem markNodeS_any {B : Nat} {v : Value} {qs : List (PNode × (Value × Value))} {w : World} (h : OwnQ B w v qs) (ap : Apart qs) (apa : ApartA qs) (k0 : Int) (h0 : 0 ≤ k0) (h1 : k0 ≤ 1000) (hsum : qs.length + wtS (qs.map fun q => q.1) ≤ 1048576) :
    Calls Tryz.prog 101 #[v, .int .i64 k0] w fun e w' => ∃ (k : Int) (ps : List (PNode × (Value × Value))), e = .returned (.int .i64 k) ∧ k0 ≤ k ∧ LikeQ qs ps ∧ OwnQ B w' v ps ∧ MkFr B w w' := by
  have h' := h
  obtain ⟨⟨hl, ⟨rfl, hz⟩ | ⟨g, cap, cur, rfl, _⟩⟩, _⟩ := h'
  · refine (markNodeS_none k0 w).mono ?_
    rintro e w' ⟨rfl, rfl⟩
    exact ⟨k0, qs, rfl, Int.le_refl _, rfl, h, .refl _ _⟩
  · refine (markNodeS_row h ap apa k0 h0 h1 hsum).mono ?_
    rintro e w' ⟨k, ps, rfl, hk, st⟩
    exact ⟨k, ps, rfl, hk, st.like, st.own, st.fr⟩

set_option maxHeartbeats 1000000 in
theorem markTree_any {B : Nat} {v : Value} {qs : List (PNode × (Value × Value))} {w : World} (hB : B ≤ w.heap.size) (h : OwnQ B w v qs) (ap : Apart qs) (apa : ApartA qs) (k0 : Int) (h0 : 0 ≤ k0) (h1 : k0 ≤ 1000) (hsum : qs.length + wtS (qs.map fun q => q.1) ≤ 1048576) :
    Calls Tryz.prog 39 #[.agg #[v], .int .i64 k0] w fun e w' => ∃ (k : Int) (ps : List (PNode × (Value × Value))), e = .returned (.int .i64 k) ∧ k0 ≤ k ∧ LikeQ qs ps ∧ OwnQ B w' v ps ∧ MkFr B w w' := by
  obtain ⟨a, ca, rfl, _, _, _⟩ := h.n.nodes.slice
  rw [List.length_map] at h ⊢
  obtain ⟨w2, hw2⟩ : ∃ z, z = w.alloc (.cells #[.slice a qs.length ca] 26) := ⟨_, rfl⟩
  have b2 : Below w.heap.size w w2 := by rw [hw2]; exact (Below.refl _ _).alloc (Nat.le_refl _) _
  have o2 : OwnQ B w2 (.slice a qs.length ca) qs := ⟨ownsRow_below h.1 b2, fun q hq => ⟨ownsRow_below (h.2 q hq).1 b2, (h.2 q hq).2.below b2⟩⟩
  have CM := (show Hid (Calls Tryz.prog 101 #[.slice a qs.length ca, .int .i64 k0] w2 _) from markNodeS_any o2 ap apa k0 h0 h1 hsum)
  have HW := (show Hid (w2 = _) from hw2)
  have F2 := (show Hid (MkFr B w w2) from .of_below b2)
  clear hw2 b2 o2 h
  go_enter Tryz.func39, Tryz.ntmps39
  go_wp2_with fail
  go_at_call 101
  rw [← HW.out]
  refine Calls.mono CM.out ?_
  rintro e w3 ⟨k, ps, rfl, hk, lk, o3, f3⟩
  have HZ := (show Hid (LikeQ qs ps ∧ OwnQ B w3 (.slice a qs.length ca) ps ∧ MkFr B w w3) from ⟨lk, o3, F2.out.trans f3⟩)
  clear CM lk o3 f3
  go_wp2
  go_ret
  exact ⟨k, ps, rfl, hk, HZ.out⟩
end Go.Proofs.YtogdbjafibejdaaGreat

/- The specification's tidying, plainly: a node and what stands below it behind others; it is what the program's makes. No condition. -/
namespace Go.Proofs.YtogdbjafibejdaaGreat
open Go.RowKit
set_option maxRecDepth 100000
set_option linter.unusedVariables false

def tdL (ns : List PNode) : Nat → Nat → Int → Nat → List PNode
  | 0, _, _, _ => []
  | f + 1, k, par, base =>
    let st := (kidsOf ns k).foldl (fun (st : List Int × List PNode) x => (st.1 ++ [((base + 1 + st.2.length : Nat) : Int)], st.2 ++ tdL ns f x.toNat base (base + 1 + st.2.length))) ([], [])
    linkN (aloneAt ns k) par st.1 :: st.2
def tdK (ns : List PNode) (f base : Nat) (l : List Int) : List Int × List PNode :=
  l.foldl (fun (st : List Int × List PNode) x => (st.1 ++ [((base + 1 + st.2.length : Nat) : Int)], st.2 ++ tdL ns f x.toNat base (base + 1 + st.2.length))) ([], [])
theorem tdL_succ (ns : List PNode) (f k : Nat) (par : Int) (base : Nat) : tdL ns (f + 1) k par base = linkN (aloneAt ns k) par (tdK ns f base (kidsOf ns k)).1 :: (tdK ns f base (kidsOf ns k)).2 := rfl
theorem tdK_nil (ns : List PNode) (f base : Nat) : tdK ns f base [] = ([], []) := rfl
theorem tdK_snoc (ns : List PNode) (f base : Nat) (l : List Int) (x : Int) : tdK ns f base (l ++ [x]) = ((tdK ns f base l).1 ++ [((base + 1 + (tdK ns f base l).2.length : Nat) : Int)], (tdK ns f base l).2 ++ tdL ns f x.toNat base (base + 1 + (tdK ns f base l).2.length)) := by
  simp [tdK]
theorem tdL_len (ns : List PNode) : ∀ (f k : Nat) (par : Int) (base : Nat), (tdL ns f k par base).length = (down ns f k).length
  | 0, _, _, _ => rfl
  | f + 1, k, par, base => by
    rw [tdL_succ, down, List.length_cons, List.length_cons]
    congr 1
    have : ∀ l : List Int, (tdK ns f base l).2.length = (l.flatMap fun x => down ns f x.toNat).length := fun l => by
      refine snoc_ind (P := fun l => (tdK ns f base l).2.length = (l.flatMap fun x => down ns f x.toNat).length) rfl ?_ l
      intro l x ih
      rw [tdK_snoc, List.length_append, ih, List.flatMap_append, List.length_append, tdL_len ns f x.toNat, List.flatMap_singleton]
    exact this _
def tidA (ns : List PNode) (k par : Int) (x : Int) : PNode := linkN (aloneAt ns x.toNat) (if x = k then par else plI ns (parOf ns x.toNat)) ((kidsOf ns x.toNat).map (plI ns))

theorem tdL_are {ns : List PNode} (h : STreeOkP ns) : ∀ (f k : Nat) (par : Int) (base : Nat), deepOk ns f k → (∃ l r, allD ns = l ++ down ns f k ++ r ∧ l.length = base) → tdL ns f k par base = (down ns f k).map (tidA ns (k : Int) par)
  | 0, _, _, _, hd, _ => hd.elim
  | f + 1, k, par, base, hd, ⟨l, r, hD, hb⟩ => by
    have hnd := allD_nodup h
    rw [down] at hD
    have hkD : (k : Int) ∈ allD ns := by rw [hD]; simp
    have hnd1 := hnd
    rw [hD, List.append_assoc, List.cons_append] at hnd1
    have hkl : (k : Int) ∉ l := fun hm => (List.nodup_append.mp hnd1).2.2 _ hm _ (by simp) rfl
    have hplk : plI ns (k : Int) = (base : Int) := by
      unfold plI
      rw [hD, List.append_assoc, List.cons_append, pos_app _ hkl, hb]
    -- the kids, from the first on
    have key : ∀ K1 K2, kidsOf ns k = K1 ++ K2 → (tdK ns f base K1).1 = K1.map (plI ns) ∧ (tdK ns f base K1).2 = (K1.flatMap fun x => down ns f x.toNat).map (tidA ns (k : Int) par) := by
      intro K1
      refine snoc_ind (P := fun K1 => ∀ K2, kidsOf ns k = K1 ++ K2 → (tdK ns f base K1).1 = K1.map (plI ns) ∧ (tdK ns f base K1).2 = (K1.flatMap fun x => down ns f x.toNat).map (tidA ns (k : Int) par)) (fun _ _ => ⟨rfl, rfl⟩) ?_ K1
      intro K1 y ih K2 hK
      obtain ⟨i1, i2⟩ := ih (y :: K2) (by rw [hK, List.append_assoc]; rfl)
      have hyk : y ∈ kidsOf ns k := by rw [hK]; simp
      have hyd := (hd.2 y hyk)
      have hfy := fit_kid h.1.fit hyk
      have hlen : (tdK ns f base K1).2.length = (K1.flatMap fun x => down ns f x.toNat).length := by rw [i2, List.length_map]
      have hDy : allD ns = (l ++ (k : Int) :: K1.flatMap fun x => down ns f x.toNat) ++ down ns f y.toNat ++ ((K2.flatMap fun x => down ns f x.toNat) ++ r) := by
        rw [hD, hK, List.flatMap_append, List.flatMap_append, List.flatMap_singleton]
        simp [List.append_assoc]
      have hbl : (l ++ (k : Int) :: K1.flatMap fun x => down ns f x.toNat).length = base + 1 + (tdK ns f base K1).2.length := by
        rw [List.length_append, List.length_cons, hlen, hb]; omega
      have hrec := tdL_are h f y.toNat (base : Int) (base + 1 + (tdK ns f base K1).2.length) hyd.2 ⟨_, _, hDy, hbl⟩
      have hyn : ((y.toNat : Nat) : Int) = y := Int.toNat_of_nonneg hyd.1
      have hnd2 := hnd
      rw [hDy] at hnd2
      rw [tdK_snoc]
      constructor
      · rw [List.map_append, i1]
        congr 1
        simp only [List.map_cons, List.map_nil]
        congr 1
        obtain ⟨t, ht⟩ := down_head hyd.2
        rw [hyn] at ht
        have hyl : y ∉ (l ++ (k : Int) :: K1.flatMap fun x => down ns f x.toNat) := fun hm => (List.nodup_append.mp (List.nodup_append.mp hnd2).1).2.2 _ hm _ (by rw [ht]; simp) rfl
        have : posI (allD ns) y = base + 1 + (tdK ns f base K1).2.length := by
          rw [hDy, ht, List.append_assoc, List.cons_append, pos_app _ hyl, hbl]
        unfold plI
        rw [this]
      · show (tdK ns f base K1).2 ++ tdL ns f y.toNat base (base + 1 + (tdK ns f base K1).2.length) = _
        rw [hrec, List.flatMap_append, List.map_append, List.flatMap_singleton, i2]
        congr 1
        refine List.map_congr_left (fun z hz => ?_)
        unfold tidA
        rw [hyn]
        have hzk : z ≠ (k : Int) := fun e => (List.nodup_append.mp (List.nodup_append.mp hnd2).1).2.2 (k : Int) (by simp) z hz e.symm
        rw [if_neg hzk]
        by_cases hzy : z = y
        · subst hzy
          rw [if_pos rfl, hfy.2.2.2, hplk]
        · rw [if_neg hzy]
    obtain ⟨k1, k2⟩ := key (kidsOf ns k) [] (by simp)
    rw [tdL_succ, down, List.map_cons, k1, k2]
    congr 1
    unfold tidA
    rw [Int.toNat_natCast, if_pos rfl]
theorem tdL_tidy {ns : List PNode} (h : STreeOkP ns) : tdL ns ns.length 0 (-1) 0 = tidyN ns := by
  have h1 := h.1.one
  rw [tdL_are h ns.length 0 (-1) 0 (tree_deep h.1 (by omega)) ⟨[], [], by simp [allD], rfl⟩, tidyN_are h]
  refine List.map_congr_left (fun x hx => ?_)
  rfl
end Go.Proofs.YtogdbjafibejdaaGreat

/- Rows of bytes while a tree is marked. No condition. -/
namespace Go.Proofs.YtogdbjafibejdaaGreat
open Go.RowKit
set_option maxRecDepth 100000
set_option linter.unusedVariables false

theorem own_mark {B C : Nat} {w w' : World} {v : Value} {xs : List Int} (h : Own C 5 .u8 w v xs) (f : MkFr B w w') : Own C 5 .u8 w' v xs := by
  obtain ⟨hl, hz | ⟨g, cap, cur, hv, hB, hh, rest⟩⟩ := h
  · exact ⟨hl, .inl hz⟩
  · have hg : g < w.heap.size := blk_lt hh
    exact ⟨hl, .inr ⟨g, cap, cur, hv, hB, (f.block g hg (.inr ⟨_, _, _, hh, by decide, by decide, by decide⟩)).trans hh, rest⟩⟩
theorem MkFr.below {B : Nat} {w w' : World} (f : MkFr B w w') {A : Nat} (hA : A ≤ B) {w0 : World} (h : Below A w0 w) (h0 : A ≤ w0.heap.size) (hs : A ≤ w.heap.size) : Below A w0 w' :=
  ⟨f.os.trans h.os, f.tape.trans h.tape, f.output.trans h.output, by have := f.size; have := h.size; omega, fun i hi => (f.block i (by omega) (.inl (by omega))).trans (h.block i hi)⟩
end Go.Proofs.YtogdbjafibejdaaGreat
