/- The exact law of RefRead, walked, where the program's table lies as its text lays it. -/
import Derived.Test.YtidmnckcofclbaaDoorIRef6
import Derived.Test.YtidmnckcofclbaaDoorWRefRead
namespace Go.Proofs.YtidmnckcofclbaaDoor
open Go.RowKit
set_option linter.unusedVariables false

theorem refReadOk_of {W : World} (ho : Older W) : RefReadOk W := fun v xs w hb h i b hw hn => irefRead_any (ho.below hb) h i b hw hn

theorem fnExactRefRead_walk {v : Value} {xs : List Int} {i : Int} (w : World) (ho : Older w) (h : Sl .i64 w v xs) (hwf : ∀ n ∈ xs, (Lit.int .i64 n).wf = true) (hi : (Lit.int .i64 i).wf = true) (b : Bool) :
    Calls Tryd.prog 5 #[v, .int .i64 i, .bool b] w fun e w' => e = .returned (.bool true) ∧ Below w.heap.size w w' :=
  fnExactRefRead_of w (refReadOk_of ho) h hwf hi b
end Go.Proofs.YtidmnckcofclbaaDoor
