/- CosineFactors' walk. -/
import Derived.Test.YtlchdelhhnlgbaaDoorCL
namespace Go.Proofs.YtlchdelhhnlgbaaDoor
open Go.RowKit Go.Lib
set_option linter.unusedVariables false
set_option maxRecDepth 100000
theorem cfac_any (u x : Int) (w : World) (he : Env w) : Calls Tryd.prog 3 #[.int .i64 u, .int .i64 x] w fun e w' => e = .returned (.bool true) ∧ Below w.heap.size w w' := by
  have H1 := Lib.hid (factor_any u x w he)
  have H2 := Lib.hid (rfac_any u x)
  have HA := Lib.hid awake_any
  have HE := Lib.hid he
  clear he
  generalize fcI u x = f at *
  go_enter Tryd.func3, Tryd.ntmps3
  go_wp2_with (first
    | (go_at_call 7; (with_reducible refine H1.out.mono ?_); rintro e w2 ⟨rfl, rfl⟩)
    | (go_at_call 8; (with_reducible refine (H2.out _).mono ?_); rintro e w3 ⟨rfl, hb3⟩; have B3 := Lib.hid hb3; clear hb3)
    | (go_at_call 9; (with_reducible refine (HA.out _ (HE.out.below B3.out)).mono ?_); rintro e w4 ⟨rfl, hb4⟩; have B4 := Lib.hid (B3.out.trans (hb4.mono B3.out.size)); clear hb4))
  go_ret
  exact ⟨rfl, B4.out⟩
end Go.Proofs.YtlchdelhhnlgbaaDoor
