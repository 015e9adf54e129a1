/- Escape, plain: what stands for each sign, byte by byte and rune by rune. -/
import Derived.Test.YtogdbjafibejdaaGreatX13
import Derived.Lib.TrimUEq
import Derived.Lib.Strings
import Derived.Lib.Small
import Derived.Test.YtogdbjafibejdaaGreatX12
import Derived.Test.YtogdbjafibejdaaGreatX3
import Derived.Test.YtogdbjafibejdaaGreatX14
namespace Go.Proofs.YtogdbjafibejdaaGreat
open Go.RowKit
set_option maxRecDepth 100000
set_option linter.unusedVariables false
end Go.Proofs.YtogdbjafibejdaaGreat

/- A name in a list of strings that is written out: the specification's l7Find and l8In. -/
namespace Go.Proofs.YtogdbjafibejdaaGreat
open Go.RowKit
set_option maxRecDepth 100000
set_option linter.unusedVariables false

theorem toList_no {a b : ByteArray} (h : a ≠ b) : (a.toList == b.toList) = false := by
  rw [beq_eq_false_iff_ne]
  exact fun e => h ((toList_eq_iff a b).mp e)

def hasB (ts : List ByteArray) (s : ByteArray) : Bool := ts.any fun t => s.toList == t.toList
def Txt (w : World) (g : Nat) (ts : List ByteArray) : Prop := ∀ k (hk : k < ts.length), w.cell? ⟨g, k, none⟩ = some (.string ts[k])

end Go.Proofs.YtogdbjafibejdaaGreat

/- The program's byteReader: text. -/
namespace Go.Proofs.YtogdbjafibejdaaGreat
open Go.RowKit
set_option maxRecDepth 100000
set_option linter.unusedVariables false

theorem wrap_fit7 {x : Int} (h0 : -9223372036854775808 ≤ x) (h1 : x ≤ 9223372036854775807) : IntKind.i64.wrap x = x := by
  simp [IntKind.wrap, IntKind.bits, IntKind.signed]; omega

end Go.Proofs.YtogdbjafibejdaaGreat

/- 'append(v, s...)' where v is the call's own and s a string. No condition. -/
namespace Go.Proofs.YtogdbjafibejdaaGreat
open Go.RowKit
set_option maxRecDepth 100000
set_option linter.unusedVariables false

theorem bs_cells (s : ByteArray) : (bs s).map (Value.int .u8) = (s.data.map (fun b => Value.int .u8 b.toNat)).toList := by
  simp [bs, Function.comp_def]

theorem first_str {P : Program} (w : World) (s : ByteArray) : (Builtin.firstCells 1 s.size (.string s)).run P w = .ok ((bs s).map (Value.int .u8)).toArray w := by
  rw [bs_cells]
  simp [Builtin.firstCells]
  apply Array.ext'
  simp

theorem run_append_str {P : Program} (w : World) (base : Nat) (t u ty e : TypeId) (i : TypeInfo) (z : Value) (ht : P.underlying t = some (.slice e)) (hu : P.underlying u = some .string)
    (hi : P.info? e = some i) (hz : i.zero = some z) (hsize : i.size = 1) (hby : i.bytes = 1) (hzs : z.cells.size = 1) (v : Value) (xs : List Int) (hown : Own base e .u8 w v xs) (hne : xs ≠ [])
    (s : ByteArray) (hb : xs.length + s.size ≤ 140737488355328) (hbase : base ≤ w.heap.size) :
    ∃ v' w', (Builtin.append_ #[t, u] ty #[v, .string s]).run P w = .ok v' w' ∧ Own base e .u8 w' v' (xs ++ bs s) ∧ w.grownBy w' v.ownBlock := by
  have h63 : xs.length + s.size ≤ maxLen := by unfold maxLen; omega
  obtain ⟨ys, hys⟩ : ∃ ys, ys = xs.map (Value.int .u8) := ⟨_, rfl⟩
  obtain ⟨news, hnw⟩ : ∃ ns, ns = (bs s).map (Value.int .u8) := ⟨_, rfl⟩
  have hnl : news.length = s.size := by rw [hnw, List.length_map, bs_len]
  have hyl : ys.length = xs.length := by rw [hys, List.length_map]
  have hpos : 0 < xs.length := List.length_pos_iff.mpr hne
  have h1 : ∀ u ∈ news, u.oneCell' = true := by rw [hnw]; exact ints_oneCell .u8 (bs s)
  have hlen : (ys ++ news).length = xs.length + s.size := by rw [List.length_append, hyl, hnl]
  have hxl : (xs ++ bs s).length = xs.length + s.size := by rw [List.length_append, bs_len]
  have hmap : (xs ++ bs s).map (Value.int .u8) = ys ++ news := by rw [List.map_append, ← hys, ← hnw]
  have hown' := hown
  unfold Own at hown ⊢
  rw [← hys] at hown
  rw [hmap, hxl]
  rcases hown.2 with ⟨rfl, h0⟩ | ⟨g, cap, cur, rfl, hbg, hg, hnc, hcm, hcs, htake⟩
  · omega
  · simp only [Nat.mul_one] at hcs htake
    by_cases hroom : xs.length + s.size ≤ cap
    · have hf := first_str (P := P) w s
      rw [← hnw] at hf
      have hfit : xs.length * 1 + news.length ≤ cur.size := by rw [hnl, hcs]; omega
      have hst := run_storeCells_at P g (xs.length * 1) e news 0 cur w hg (by simpa using hfit) h1
      simp only [Nat.add_zero, Nat.mul_one] at hst
      have hr : (Builtin.append_ #[t, u] ty #[.slice (some ⟨g, 0, none⟩) xs.length cap, .string s]).run P w = .ok (.slice (some ⟨g, 0, none⟩) (xs.length + s.size) cap) (w.setRow g (cur.toList.take xs.length ++ news ++ cur.toList.drop (xs.length + news.length)).toArray) := by
        simp [Builtin.append_, run_underlying ht, run_underlying hu, sizeOf, typeInfo, hi, hsize, Builtin.lenOf, hroom, hf, Addr.add_lit, hst]
      refine ⟨_, _, hr, ⟨by rw [hlen, Nat.mul_one], .inr ⟨g, cap, _, rfl, hbg, setRow_heap w g cur _ e _ hg, hroom, hcm, ?_, ?_⟩⟩, ⟨rfl, rfl, rfl, by simp, fun k _ hk => setRow_other w g k _ (fun e => hk (by simp [Value.ownBlock, e]))⟩⟩
      · simp only [List.size_toArray, List.length_append, List.length_take, List.length_drop, Array.length_toList]
        omega
      · simp only [Nat.mul_one]
        rw [htake, ← hlen]
        exact List.take_left
    · have holds : ∀ j u, ys[j]? = some u → w.cell? ((⟨g, 0, none⟩ : Addr).add j) = some u := hown.cells (g := g) rfl
      have hfo := run_firstCells_some (P := P) w.drew 1 xs.length ⟨g, 0, none⟩ xs.length cap ys (by rw [hyl, Nat.mul_one]) (by simpa using holds)
      have hf := first_str (P := P) w.drew s
      rw [← hnw] at hf
      have h63' : ¬ (9223372036854775807 < ((xs.length : Int) + (s.size : Int))) := by unfold maxLen at h63; omega
      have hfits := growslice_fits (need := xs.length + s.size) (old := cap) (bytes := 1) (by omega) (by omega)
      have h48' : ¬ (281474976710656 < Builtin.nextslicecap (xs.length + s.size) cap) := by omega
      have hge := grownCap_ge w (xs.length + s.size) cap e
      have hcm' : grownCap w (xs.length + s.size) cap e ≤ maxLen := grownCap_le_maxLen w (xs.length + s.size) cap e h63
      have hr : (Builtin.append_ #[t, u] ty #[.slice (some ⟨g, 0, none⟩) xs.length cap, .string s]).run P w = .ok (.slice (some ⟨w.heap.size, 0, none⟩) (xs.length + s.size) (grownCap w (xs.length + s.size) cap e))
          (w.drew.alloc (.cells (ys.toArray ++ news.toArray ++ Builtin.zeroCells z.cells (grownCap w (xs.length + s.size) cap e - (xs.length + s.size))) e)) := by
        simp [Builtin.append_, run_underlying ht, run_underlying hu, sizeOf, typeInfo, zeroValue, hi, hz, hsize, hby, Builtin.lenOf, hroom, h63', h48', Question.forced, hf, hfo, newRow, grownCap]
        congr 2
        apply Array.ext'
        simp [List.append_assoc]
      refine ⟨_, _, hr, ⟨by rw [hlen, Nat.mul_one], .inr ⟨w.heap.size, _, _, rfl, hbase, heap_alloc_new w.drew _, hge, hcm', ?_, ?_⟩⟩, ⟨rfl, rfl, rfl, by simp, fun k hk _ => Below.heap_alloc w.drew _ k hk⟩⟩
      · simp only [Array.size_append, List.size_toArray, size_zeroCells, hzs, hyl, hnl, Nat.mul_one]
        omega
      · simp only [Array.toList_append, List.append_assoc, Nat.mul_one]
        rw [← List.append_assoc, ← hlen]
        exact List.take_left

theorem wpList_app_str {P : Program} (w : World) {ops : Array Oper} {rest : List Oper} {o : Oper} {a : Act} {Q : Exit → Act → World → Prop} (hgd : o.guard = none)
    (s x : Operand) (t u : TypeId) (ho : o.op = Op.call { callee := Callee.builtin Builtin.append, args := #[s, x], argTypes := #[t, u] }) (B : Nat) (e : TypeId) (i : TypeInfo)
    (z : Value) (ht : P.underlying t = some (TypeDesc.slice e)) (hu : P.underlying u = some .string) (hi : P.info? e = some i) (hz : i.zero = some z) (hsize : i.size = 1) (hby : i.bytes = 1)
    (hzs : z.cells.size = 1) (v : Value) (st : ByteArray) (xs : List Int) (hs : a.eval s = v) (hx : a.eval x = .string st) (hown : Own B e .u8 w v xs) (hne : xs ≠ [])
    (hb : xs.length + st.size ≤ 140737488355328) (hbase : B ≤ w.heap.size)
    (h : ∀ (v' : Value) (w' : World), Own B e .u8 w' v' (xs ++ bs st) → w.grownBy w' v.ownBlock → wpList P ops Q rest (a.put o.dst v') w') :
    wpList P ops Q (o :: rest) a w := by
  obtain ⟨v', w', hr, h2, h3⟩ := run_append_str (P := P) w B t u o.type e i z ht hu hi hz hsize hby hzs v xs hown hne st hb hbase
  refine wpList_plain hgd fun _ hK => ?_
  unfold Oper.wp execOp
  simp only [ho, resolve, invoke, builtin, Sem.run_bind, Sem.run_pure, Result.andThen_ok, List.map_toArray, List.map_cons, List.map_nil, hs, hx, hr]
  exact hK _ _ (h v' w' h2 h3)
end Go.Proofs.YtogdbjafibejdaaGreat

/- The contract of the laws' marks of texts: the text for a number hangs on the number alone. -/
namespace Go.Proofs.YtogdbjafibejdaaGreat
open Go.RowKit
set_option maxRecDepth 100000
set_option linter.unusedVariables false

def mtF : Nat → Nat → ByteArray → ByteArray
  | 0, _, s => s
  | n + 1, k, s => if k = 0 then s else mtF n (k / 10) (strOf [48 + (k : Int) % 10] ++ s)
def mt (k : Int) : ByteArray := if k ≤ 0 then ⟨#[109, 48]⟩ else ⟨#[109]⟩ ++ mtF k.toNat k.toNat ⟨#[]⟩

end Go.Proofs.YtogdbjafibejdaaGreat
