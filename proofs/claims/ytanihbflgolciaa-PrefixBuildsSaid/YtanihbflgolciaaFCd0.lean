/- Codes of a specification that is not valid. -/
import Derived.Test.YtanihbflgolciaaFCod
import Derived.Test.YtanihbflgolciaaFNew
namespace Go.Proofs.Ytanihbflgolciaa
open Go.RowKit Go.Lib
set_option linter.unusedVariables false
set_option maxRecDepth 100000
theorem fCod_no (X : Array Value) (cs : List Int) (l : List Int) (A : Option Addr) (c : Nat) (w : World) (hX : Hv X cs (.slice A l.length c)) (hr : Ri w A l) (hl : l.length ≤ 100000) (hm : mayB cs l = false) (hx17 : X.size = 17) :
    Calls Try.prog 15 #[.agg X] w fun e w' => e = .returned (.slice none 0 0) ∧ Below w.heap.size w w' := by
  have HX := Lib.hid hX
  have HW := Lib.hid ((Below.refl w.heap.size w).alloc (Nat.le_refl _) (.cells X 25))
  have HBL := Lib.hid (Blk.new w X 25)
  have HSZ : Hid ((Try.prog.info? 25).map (·.size) = some X.size) := by show _ = _; rw [hx17]; kernel_rfl
  have HMY := Lib.hid (fMay_any X cs l A c (w.alloc (.cells X 25)) hX (hr.below HW.out) hl)
  rw [hm] at HMY
  clear hX hr hm hx17
  go_enter Try.func15, Try.ntmps15
  go_wp2_with (first
    | (with_reducible refine wpList_loadB _ rfl 25 (.tmp 1) rfl _ Try.underlying25 rfl w.heap.size rfl X HBL.out HSZ.out ?_)
    | ((go_at_call 11; refine HMY.out.mono ?_)
       rintro e w2 ⟨rfl, hb2⟩
       have HB2 := Lib.hid hb2
       clear hb2))
  go_ret
  exact ⟨rfl, below_le HW.out HB2.out HW.out.size⟩
end Go.Proofs.Ytanihbflgolciaa
