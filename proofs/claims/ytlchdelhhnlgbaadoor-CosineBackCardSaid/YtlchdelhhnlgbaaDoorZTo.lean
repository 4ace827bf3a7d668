/- Contracts of To and From. -/
import Derived.Test.YtlchdelhhnlgbaaDoorZAt
import Derived.Test.YtlchdelhhnlgbaaDoorZPm
namespace Go.Proofs.YtlchdelhhnlgbaaDoor
open Go.RowKit Go.Lib
set_option linter.unusedVariables false
set_option maxRecDepth 100000
theorem zeroB : (Tryd.prog.info? 26).map (fun i => i.zero) = some (some (.agg (ia zeros))) := by kernel_rfl
theorem sizeB {l : List Int} (h : l.length = 64) : (Tryd.prog.info? 26).map (·.size) = some (ia l).size := by rw [ia_size, h]; kernel_rfl
theorem one_ia (l : List Int) : ∀ v ∈ (ia l).toList, v.oneCell' = true := iv_one l
/-- Three blocks: what came in, the result, what is made. -/
theorem three_blk (w : World) (X : Array Value) (T : TypeId) : ∃ w1, w1 = ((w.alloc (.cells X T)).alloc (.cells (ia zeros) T)).alloc (.cells (ia zeros) T) ∧ Blk w1 w.heap.size X ∧ Blk w1 (w.heap.size + 1) (ia zeros) ∧ Blk w1 (w.heap.size + 1 + 1) (ia zeros) ∧ Below w.heap.size w w1 ∧ w1.heap.size = w.heap.size + 1 + 1 + 1 := by
  refine ⟨_, rfl, ((Blk.new w X T).alloc _).alloc _, ?_, ?_, ?_, by simp⟩
  · have := (Blk.new (w.alloc (.cells X T)) (ia zeros) T).alloc (.cells (ia zeros) T)
    rwa [World.size_alloc] at this
  · have := Blk.new ((w.alloc (.cells X T)).alloc (.cells (ia zeros) T)) (ia zeros) T
    simp only [World.size_alloc] at this
    exact this
  · exact (((Below.refl _ w).alloc (Nat.le_refl _) _).alloc (by simp) _).alloc (by simp; omega) _

end Go.Proofs.YtlchdelhhnlgbaaDoor
