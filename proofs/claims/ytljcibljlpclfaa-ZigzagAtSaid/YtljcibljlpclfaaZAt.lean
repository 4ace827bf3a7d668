/- Contract of At. -/
import Derived.Test.YtljcibljlpclfaaZPl
import Derived.Deep.DeepCutAuto
namespace Go.Proofs.Ytljcibljlpclfaa
open Go.RowKit Go.Lib
set_option linter.unusedVariables false
set_option maxRecDepth 100000
theorem sizeI : (Try.prog.info? 3).map (·.size) = some 1 := by kernel_rfl
theorem ia_zi {k : Nat} (h : k < 64) : (ia zi)[k]? = some (.int .i64 ((za k : Nat) : Int)) := by rw [ia_at (by rw [zi_len]; exact h), zi_at h]
theorem at_any (x : Int) (w : World) : Calls Try.prog 7 #[.int .i64 x] w fun e w' => e = .returned (.int .i64 (atS x)) ∧ Below w.heap.size w w' := by
  go_enter Try.func7, Try.ntmps7
  by_cases h0 : x < 0
  · have hf := Lib.hid (show atS x = -1 by unfold atS; rw [if_neg (by omega)])
    go_wp2
    go_ret
    rw [hf.out]
    exact ⟨rfl, Below.refl _ _⟩
  · by_cases h1 : 64 ≤ x
    · have hf := Lib.hid (show atS x = -1 by unfold atS; rw [if_neg (by omega)])
      go_wp2
      go_ret
      rw [hf.out]
      exact ⟨rfl, Below.refl _ _⟩
    · obtain ⟨k, rfl⟩ : ∃ k : Nat, x = (k : Int) := ⟨x.toNat, by omega⟩
      have hk : k < 64 := by omega
      have hf := Lib.hid (show atS (k : Int) = ((za k : Nat) : Int) by unfold atS; rw [if_pos (by omega), Int.toNat_natCast])
      have HZ := Lib.hid (ia_zi hk)
      generalize za k = z at *
      go_wp2_with (first
        | ((with_reducible refine wpList_indexA _ rfl 25 (.tmp 9) (.tmp 10) rfl 64 3 .i64 Try.underlying25 Try.underlying3 sizeI (ia zi) rfl k rfl hk _ HZ.out ?_))
        | (go_at_call 18; (with_reducible refine (order_any _).mono ?_); rintro e w1 ⟨rfl, hb1⟩))
      go_ret
      rw [hf.out]
      exact ⟨rfl, hb1⟩
end Go.Proofs.Ytljcibljlpclfaa
