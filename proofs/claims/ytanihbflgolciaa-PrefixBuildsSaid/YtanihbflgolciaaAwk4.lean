/- The chapter's examples: Build's, three. -/
import Derived.Test.YtanihbflgolciaaAwkP
import Derived.Test.YtanihbflgolciaaFCod
import Derived.Test.YtanihbflgolciaaFCost
namespace Go.Proofs.Ytanihbflgolciaa
open Go.RowKit Go.Lib Go.Sort
set_option linter.unusedVariables false
set_option maxRecDepth 100000
theorem build2 (A : Option Addr) (c : Nat) (w : World) (hr : Ri w A [1, 1]) : Calls Try.prog 18 #[.slice A 2 c] w fun e w' => ∃ A' c', e = .returned (.tuple #[.agg (hx cs2 (.slice A' 2 c')), .int .i64 0]) ∧ Ri w' A' [0, 1] ∧ Below w.heap.size w w' := by
  refine (fBuild_few [1, 1] A c w hr (by decide) cnt2 (by rw [pos2]; decide) (by rw [pos2]; decide)).mono ?_
  rintro e w' ⟨A', c', r, dp, rfl, h1, h2, h3, h4, h5, h6⟩
  refine ⟨A', c', ?_, ?_, h6⟩
  · rw [bld2 h3 h5, srt2]; rfl
  · rw [srt2] at h1; exact h1
theorem build7 (A : Option Addr) (c : Nat) (w : World) (hr : Ri w A t7) : Calls Try.prog 18 #[.slice A 8 c] w fun e w' => ∃ A' c', e = .returned (.tuple #[.agg (hx cs1 (.slice A' 1 c')), .int .i64 0]) ∧ Ri w' A' [7] ∧ Below w.heap.size w w' := by
  refine (fBuild_few t7 A c w hr (by decide) cnt7 (by rw [pos7]; decide) (by rw [pos7]; decide)).mono ?_
  rintro e w' ⟨A', c', r, dp, rfl, h1, h2, h3, h4, h5, h6⟩
  refine ⟨A', c', ?_, ?_, h6⟩
  · rw [bld7 h3 h4 h5, srt7]; rfl
  · rw [srt7] at h1; exact h1
theorem three_any (w : World) : Calls Try.prog 22 #[] w fun e w' => ∃ A c, e = .returned (.agg (hx cs3 (.slice A 3 c))) ∧ Ri w' A [5, 1, 9] ∧ Below w.heap.size w w' := by
  go_enter Try.func22, Try.ntmps22
  go_wp2_with fail
  (try simp only [Exit.inBlock, Exit.then])
  refine bodyPost_ret (results_cell rfl _ _ _ Try.underlying25 rfl w.heap.size (hx cs3 (.slice (some ⟨w.heap.size + 1, 0, none⟩) 3 3)) rfl (fun j v hv => Blk.cell ((Blk.new w (hx cs3 (.slice (some ⟨w.heap.size + 1, 0, none⟩) 3 3)) _).alloc _) hv) (sizeH rfl)) rfl ?_
  refine ⟨_, 3, rfl, ?_, ?_⟩
  · have := Ri.lits (w.alloc (.cells (hx cs3 (.slice (some ⟨w.heap.size + 1, 0, none⟩) 3 3)) 25)) 3 #[.int .i64 5, .int .i64 1, .int .i64 9] [5, 1, 9] rfl
    simp only [World.size_alloc] at this
    exact this
  · exact ((Below.refl w.heap.size w).alloc (Nat.le_refl _) _).alloc (by simp) _
end Go.Proofs.Ytanihbflgolciaa
