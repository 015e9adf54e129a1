/- The law FnKinds, walked (written by mk/wfnkinds.py). -/
import Derived.Test.YtippcgjoidgahaaWKind
import Derived.Test.YtippcgjoidgahaaDrawS
namespace Go.Proofs.Ytippcgjoidgahaa
open Go.RowKit
set_option maxRecDepth 100000
set_option linter.unusedVariables false

def drawn9 : List ByteArray := [⟨#[97]⟩, ⟨#[98]⟩, ⟨#[98, 105, 103]⟩, ⟨#[99, 111, 100, 101]⟩, ⟨#[101, 109]⟩, ⟨#[102, 111, 110, 116]⟩, ⟨#[105]⟩, ⟨#[110, 111, 98, 114]⟩, ⟨#[115]⟩, ⟨#[115, 109, 97, 108, 108]⟩, ⟨#[115, 116, 114, 105, 107, 101]⟩, ⟨#[115, 116, 114, 111, 110, 103]⟩, ⟨#[116, 116]⟩, ⟨#[117]⟩, ⟨#[97, 100, 100, 114, 101, 115, 115]⟩, ⟨#[97, 114, 116, 105, 99, 108, 101]⟩, ⟨#[99, 101, 110, 116, 101, 114]⟩, ⟨#[100, 105, 97, 108, 111, 103]⟩, ⟨#[100, 105, 118]⟩, ⟨#[100, 108]⟩, ⟨#[102, 105, 101, 108, 100, 115, 101, 116]⟩, ⟨#[109, 97, 105, 110]⟩, ⟨#[111, 108]⟩, ⟨#[112]⟩, ⟨#[115, 101, 97, 114, 99, 104]⟩, ⟨#[117, 108]⟩, ⟨#[104, 49]⟩, ⟨#[104, 54]⟩, ⟨#[104, 55]⟩, ⟨#[98, 97, 115, 101]⟩, ⟨#[108, 105, 110, 107]⟩, ⟨#[109, 101, 116, 97]⟩, ⟨#[110, 111, 102, 114, 97, 109, 101, 115]⟩, ⟨#[115, 99, 114, 105, 112, 116]⟩, ⟨#[115, 116, 121, 108, 101]⟩, ⟨#[116, 105, 116, 108, 101]⟩, ⟨#[97, 112, 112, 108, 101, 116]⟩, ⟨#[97, 114, 101, 97]⟩, ⟨#[98, 111, 100, 121]⟩, ⟨#[98, 114]⟩, ⟨#[98, 117, 116, 116, 111, 110]⟩, ⟨#[100, 100]⟩, ⟨#[100, 116]⟩, ⟨#[104, 114]⟩, ⟨#[104, 116, 109, 108]⟩, ⟨#[108, 105]⟩, ⟨#[111, 98, 106, 101, 99, 116]⟩, ⟨#[111, 112, 116, 105, 111, 110]⟩, ⟨#[111, 112, 116, 103, 114, 111, 117, 112]⟩, ⟨#[112, 114, 101]⟩, ⟨#[116, 97, 98, 108, 101]⟩, ⟨#[116, 100]⟩, ⟨#[116, 101, 120, 116, 97, 114, 101, 97]⟩, ⟨#[116, 104]⟩, ⟨#[116, 114]⟩, ⟨#[120, 109, 112]⟩, ⟨#[120]⟩, ⟨#[]⟩, ⟨#[80]⟩, ⟨#[109, 97, 114, 113, 117, 101, 101]⟩, ⟨#[102, 105, 103, 117, 114, 101]⟩, ⟨#[104, 101, 97, 100, 101, 114]⟩, ⟨#[110, 97, 118]⟩, ⟨#[115, 101, 99, 116, 105, 111, 110]⟩, ⟨#[115, 117, 109, 109, 97, 114, 121]⟩, ⟨#[109, 101, 110, 117]⟩, ⟨#[104, 103, 114, 111, 117, 112]⟩, ⟨#[102, 111, 111, 116, 101, 114]⟩, ⟨#[100, 105, 114]⟩, ⟨#[100, 101, 116, 97, 105, 108, 115]⟩, ⟨#[98, 108, 111, 99, 107, 113, 117, 111, 116, 101]⟩, ⟨#[97, 115, 105, 100, 101]⟩, ⟨#[102, 105, 103, 99, 97, 112, 116, 105, 111, 110]⟩]
theorem drawn9_small : ∀ t ∈ drawn9, t.size ≤ 100 := by decide

set_option maxHeartbeats 2000000 in
theorem drawName9_any {v : Value} {xs : List Int} {w : World} (h : Sl .u8 w v xs) (hb : ∀ x ∈ xs, 0 ≤ x ∧ x ≤ 255) (hn : xs.length ≤ 1099511627776) :
    Calls Try.prog 27 #[v] w fun e w' => ∃ s : ByteArray, e = .returned (.string s) ∧ s.size ≤ 100 ∧ Below w.heap.size w w' := by
  have HB : Hid (∀ x ∈ xs, 0 ≤ x ∧ x ≤ 255) := hb
  clear hb
  go_enter Try.func27, Try.ntmps27
  go_wp2_with fail
  go_at_call 30
  refine (new_any h HB.out hn).mono ?_
  rintro e w1 ⟨rfl, k1, b1⟩
  go_wp2_with fail
  go_at_call 31
  refine (pickS_any k1 HB.out drawn9 (by decide) (by decide) _ rfl _ rfl).mono ?_
  rintro e w2 ⟨s, rfl, hs, k2, g2⟩
  have hsz : s.size ≤ 100 := drawn9_small s hs
  clear hs
  go_wp2
  go_ret
  exact ⟨_, rfl, hsz, b1.grown g2 b1.size (fun k hk => by cases hk; exact Nat.le_refl _)⟩

theorem drawSpecial_any {v : Value} {xs : List Int} {w : World} (h : Sl .u8 w v xs) (hb : ∀ x ∈ xs, 0 ≤ x ∧ x ≤ 255) (hn : xs.length ≤ 1099511627776) :
    Calls Try.prog 12 #[v] w fun e w' => ∃ s : ByteArray, e = .returned (.string s) ∧ s.size ≤ 100 ∧ Below w.heap.size w w' := by
  have hd := drawName9_any h hb hn
  obtain ⟨a, ca, rfl, _, _, _, ha⟩ := h
  clear ha hb
  go_enter Try.func12, Try.ntmps12
  go_wp2_with fail
  go_at_call 27
  refine hd.mono ?_
  rintro e w1 ⟨s, rfl, hs, b1⟩
  go_wp2
  go_ret
  exact ⟨_, rfl, hs, b1⟩

def hasD (ts : List ByteArray) (s : ByteArray) : Bool := ts.any fun t => s.data.toList == t.data.toList
theorem hasD_eq (ts : List ByteArray) (s : ByteArray) : hasB ts s = hasD ts s := by simp only [hasB, hasD, ByteArray.toList_eq]
def all4 : List ByteArray := blocks ++ (headings ++ (heads ++ otherSpecials))
theorem not_both {xs ys : List ByteArray} (h : ∀ t ∈ xs, hasD ys t = false) (s : ByteArray) : (hasB xs s && hasB ys s) = false := by
  by_cases h1 : s ∈ xs
  · rw [hasD_eq ys, h s h1]; simp
  · rw [hasB_no h1]; rfl
theorem special_of {xs : List ByteArray} (h : ∀ t ∈ xs, hasD all4 t = true ∧ (t.data.toList == dialogB.data.toList) = false ∧ (t.data.toList == searchB.data.toList) = false) {s : ByteArray} (hs : hasB xs s = true) : specialF s = true := by
  obtain ⟨h1, h2, h3⟩ := h s ((hasB_iff xs s).1 hs)
  show (hasB all4 s && (!(s.toList == dialogB.toList) && !(s.toList == searchB.toList))) = true
  simp only [ByteArray.toList_eq]
  rw [hasD_eq, h1, h2, h3]
  rfl
theorem not_special {xs : List ByteArray} (h : ∀ t ∈ xs, hasD all4 t = false) (s : ByteArray) : (hasB xs s && specialF s) = false := by
  show (hasB xs s && (hasB all4 s && _)) = false
  rw [← Bool.and_assoc, not_both h s]
  rfl

/-- What FnKinds asks of the answers at a name. -/
theorem kinds_fit (s : ByteArray) : (hasB formats s && hasB blocks s) = false ∧ (hasB formats s && hasB headings s) = false ∧ (hasB formats s && specialF s) = false ∧ (hasB headings s = true → specialF s = true) ∧
    (hasB implieds s && hasB headings s) = false ∧ (hasB bounds s = true → specialF s = true) :=
  ⟨not_both (by decide) s, not_both (by decide) s, not_special (by decide) s, special_of (by decide), not_both (by decide) s, special_of (by decide)⟩

set_option maxHeartbeats 1000000 in
theorem fnKinds_walk {v : Value} {xs : List Int} (w : World) (h : Sl .u8 w v xs) (hwf : ∀ n ∈ xs, (Lit.int .u8 n).wf = true) :
    Calls Try.prog 3 #[v] w fun e w' => e = .returned (.bool true) ∧ Below w.heap.size w w' := by
  have HB : Hid (∀ x ∈ xs, 0 ≤ x ∧ x ≤ 255) := byte_ok hwf
  clear hwf
  have hbig := big_any h
  by_cases hl : 1048576 < xs.length
  · rw [decide_eq_true hl] at hbig
    go_enter Try.func3, Try.ntmps3
    go_wp2_with fail
    go_at_call 11
    refine hbig.mono ?_
    rintro e w1 ⟨rfl, rfl⟩
    go_wp2
    go_ret
    exact ⟨rfl, Below.refl _ _⟩
  rw [decide_eq_false hl] at hbig
  have hd := drawSpecial_any h HB.out (by omega)
  clear h HB hl
  go_enter Try.func3, Try.ntmps3
  go_wp2_with fail
  go_at_call 11
  refine hbig.mono ?_
  rintro e w1 ⟨rfl, rfl⟩
  clear hbig
  go_wp2_with fail
  go_at_call 12
  refine hd.mono ?_
  rintro e w2 ⟨s, rfl, hs, b2⟩
  clear hd
  have hm : s.size ≤ maxLen := by unfold maxLen; omega
  have c := kinds_fit s
  have IFormat := fun w => iisFormat_any s hm w
  have SFormat := fun w => sisFormat_any s w
  have IBlock := fun w => iisBlock_any s hm w
  have SBlock := fun w => sisBlock_any s w
  have IHeading := fun w => iisHeading_any s hm w
  have SHeading := fun w => sisHeading_any s w
  have IHead := fun w => iisHead_any s hm w
  have SHead := fun w => sisHead_any s w
  have ISpecial := fun w => iisSpecial_any s hm w
  have SSpecial := fun w => sisSpecial_any s w
  have IImplied := fun w => iisImplied_any s hm w
  have SImplied := fun w => sisImplied_any s w
  have IBound := fun w => iisBound_any s hm w
  have SBound := fun w => sisBound_any s w
  generalize hasB formats s = f at *
  generalize hasB blocks s = b at *
  generalize hasB headings s = h at *
  generalize hasB heads s = d at *
  generalize specialF s = z at *
  generalize hasB implieds s = m at *
  generalize hasB bounds s = q at *
  replace IFormat := (show Hid _ from IFormat)
  replace SFormat := (show Hid _ from SFormat)
  replace IBlock := (show Hid _ from IBlock)
  replace SBlock := (show Hid _ from SBlock)
  replace IHeading := (show Hid _ from IHeading)
  replace SHeading := (show Hid _ from SHeading)
  replace IHead := (show Hid _ from IHead)
  replace SHead := (show Hid _ from SHead)
  replace ISpecial := (show Hid _ from ISpecial)
  replace SSpecial := (show Hid _ from SSpecial)
  replace IImplied := (show Hid _ from IImplied)
  replace SImplied := (show Hid _ from SImplied)
  replace IBound := (show Hid _ from IBound)
  replace SBound := (show Hid _ from SBound)
  have C := (show Hid _ from c)
  clear c hs hm
  go_wp2_with fail
  go_at_call 13
  refine (IFormat.out _).mono ?_
  rintro e w3 ⟨rfl, b3⟩
  replace b3 := b2.trans (b3.mono b2.size)
  clear b2
  go_wp2_with fail
  go_at_call 14
  refine (IBlock.out _).mono ?_
  rintro e w4 ⟨rfl, b4⟩
  replace b4 := b3.trans (b4.mono b3.size)
  clear b3
  go_wp2_with fail
  go_at_call 15
  refine (IHeading.out _).mono ?_
  rintro e w5 ⟨rfl, b5⟩
  replace b5 := b4.trans (b5.mono b4.size)
  clear b4
  go_wp2_with fail
  go_at_call 16
  refine (IHead.out _).mono ?_
  rintro e w6 ⟨rfl, b6⟩
  replace b6 := b5.trans (b6.mono b5.size)
  clear b5
  go_wp2_with fail
  go_at_call 17
  refine (SFormat.out _).mono ?_
  rintro e w7 ⟨rfl, b7⟩
  replace b7 := b6.trans (b7.mono b6.size)
  clear b6
  go_wp2_with fail
  go_at_call 18
  refine (SBlock.out _).mono ?_
  rintro e w8 ⟨rfl, b8⟩
  replace b8 := b7.trans (b8.mono b7.size)
  clear b7
  go_wp2_with fail
  go_at_call 19
  refine (SHeading.out _).mono ?_
  rintro e w9 ⟨rfl, b9⟩
  replace b9 := b8.trans (b9.mono b8.size)
  clear b8
  go_wp2_with fail
  go_at_call 20
  refine (SHead.out _).mono ?_
  rintro e w10 ⟨rfl, b10⟩
  replace b10 := b9.trans (b10.mono b9.size)
  clear b9
  go_wp2_with fail
  go_at_call 21
  refine (IBound.out _).mono ?_
  rintro e w11 ⟨rfl, b11⟩
  replace b11 := b10.trans (b11.mono b10.size)
  clear b10
  go_wp2_with fail
  go_at_call 22
  refine (SBound.out _).mono ?_
  rintro e w12 ⟨rfl, b12⟩
  replace b12 := b11.trans (b12.mono b11.size)
  clear b11
  go_wp2_with fail
  go_at_call 23
  refine (IImplied.out _).mono ?_
  rintro e w13 ⟨rfl, b13⟩
  replace b13 := b12.trans (b13.mono b12.size)
  clear b12
  go_wp2_with fail
  go_at_call 24
  refine (SImplied.out _).mono ?_
  rintro e w14 ⟨rfl, b14⟩
  replace b14 := b13.trans (b14.mono b13.size)
  clear b13
  go_wp2_with fail
  go_at_call 25
  refine (ISpecial.out _).mono ?_
  rintro e w15 ⟨rfl, b15⟩
  replace b15 := b14.trans (b15.mono b14.size)
  clear b14
  go_wp2_with fail
  go_at_call 26
  refine (SSpecial.out _).mono ?_
  rintro e w16 ⟨rfl, b16⟩
  replace b16 := b15.trans (b16.mono b15.size)
  clear b15
  have cc := C.out
  clear C
  cases f
  all_goals cases h
  all_goals cases z
  all_goals cases m
  all_goals cases q
  all_goals first
    | (exfalso; simp at cc; done)
    | (have CC := (show Hid _ from cc)
       clear cc
       try (have hb0 : b = false := by (have := CC.out.1; simpa using this))
       try subst hb0
       go_wp2_with fail
       go_at_call 23
       refine (IImplied.out _).mono ?_
       rintro e w17 ⟨rfl, b17⟩
       replace b17 := b16.trans (b17.mono b16.size)
       clear b16
       go_wp2_with fail
       go_at_call 21
       refine (IBound.out _).mono ?_
       rintro e w18 ⟨rfl, b18⟩
       replace b18 := b17.trans (b18.mono b17.size)
       clear b17
       go_wp2
       go_ret
       exact ⟨rfl, b18⟩)
end Go.Proofs.Ytippcgjoidgahaa
