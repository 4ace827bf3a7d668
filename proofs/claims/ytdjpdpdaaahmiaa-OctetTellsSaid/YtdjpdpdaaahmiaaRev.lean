/- slices.Reverse over a part of a row of bytes of the call's own. -/
import Derived.Test.YtdjpdpdaaahmiaaRow
namespace Go.Proofs.Ytdjpdpdaaahmiaa
open Go.RowKit
set_option linter.unusedVariables false

theorem grown_set {w wr : World} {g i : Nat} {v : Value} (h : w.grownBy wr (some g)) : w.grownBy (wr.setCell ⟨g, i, none⟩ v) (some g) :=
  ⟨h.os, h.tape, h.output, by simpa [World.setCell] using h.size, fun j hj hne => (Below.heap_setCell wr ⟨g, i, none⟩ v j (fun e => hne (by rw [e]))).trans (h.block j hj hne)⟩
theorem grown_drew {w wr : World} {row : Option Nat} (h : w.grownBy wr row) : w.grownBy wr.drew row := ⟨h.os, h.tape, h.output, h.size, h.block⟩

set_option maxRecDepth 100000 in
set_option maxHeartbeats 800000 in
theorem reverse_any (g o n c N : Nat) (f : Nat → Int) (w : World) (hr : Row w g N f) (hn : n ≤ 65536) (ho : o + n ≤ N) (hc : n ≤ c) :
    Calls Try.prog 31 #[.slice (some ⟨g, o, none⟩) n c] w fun e w' => e = .returned (.tuple #[]) ∧ Row w' g N (revF f o n) ∧ w.grownBy w' (some g) := by
  go_enter Try.func31, Try.ntmps31
  go_wp2
  go_loopw [2, 3] (fun i j wr => ∃ k : Nat, 2 * k ≤ n + 1 ∧ i = .int .i64 k ∧ j = .int .i64 (n - 1 - k) ∧ Row wr g N (revK f o n k) ∧ w.grownBy wr (some g)) (fun i _ _ => n - (intOf i).toNat)
  case atStart => exact ⟨0, by omega, rfl, by simp, by rw [revK_zero]; exact hr, World.grownBy.refl _ _⟩
  case round =>
    obtain ⟨k, hk, rfl, rfl, hrow, hg⟩ := hrel
    by_cases hlt : 2 * k + 1 < n
    · have c1 := hrow.cell (i := o + k) (by omega)
      have c2 := hrow.cell (i := o + (n - 1 - k)) (by omega)
      have f1 := hrow.free (o + k)
      have f2 := hrow.free (o + (n - 1 - k))
      have hne : o + k ≠ o + (n - 1 - k) := by omega
      have hlt' : (k : Int) < (n : Int) - 1 - k := by omega
      rw [revK_lo f o n k hlt] at c1
      rw [revK_hi f o n k hlt] at c2
      go_wp2
      go_region
      go_wp2
      go_roundw
      case rel =>
        refine ⟨k + 1, by omega, by go_num, by go_num, ?_, grown_drew (grown_set (grown_set hg))⟩
        rw [← revK_succ f o n k hlt]
        exact (((hrow.set_ _ _).set_ _ _).drew)
      case measure => simp [intOf]; omega
    · have HL := Lib.hid (show n ≤ 2 * k + 1 by omega)
      have hge : ¬ (k : Int) < (n : Int) - 1 - k := by omega
      clear hlt
      go_wp2
      go_end0
      exact ⟨rfl, by rw [← revK_end f o n k HL.out]; exact hrow, hg⟩
end Go.Proofs.Ytdjpdpdaaahmiaa
