/- Whole blocks loaded in regions that draw; equality of blocks. -/
import Derived.Test.YtipmbffpokplgaaDoorQK
import Derived.Test.YtipmbffpokplgaaDoorQM
import Derived.Test.YtipmbffpokplgaaDoorQJ
import Derived.Test.YtipmbffpokplgaaDoorQI
import Derived.Deep.DeepCutAuto
namespace Go.Proofs.YtipmbffpokplgaaDoor
open Go.RowKit Go.Lib
set_option linter.unusedVariables false
set_option maxRecDepth 100000
def litz : Array Value := #[.int .i64 0, .int .i64 0, .int .i64 0, .int .i64 0, .int .i64 0, .int .i64 0, .int .i64 0, .int .i64 0, .int .i64 0, .int .i64 0, .int .i64 0, .int .i64 0, .int .i64 0, .int .i64 0, .int .i64 0, .int .i64 0, .int .i64 0, .int .i64 0, .int .i64 0, .int .i64 0, .int .i64 0, .int .i64 0, .int .i64 0, .int .i64 0, .int .i64 0, .int .i64 0, .int .i64 0, .int .i64 0, .int .i64 0, .int .i64 0, .int .i64 0, .int .i64 0, .int .i64 0, .int .i64 0, .int .i64 0, .int .i64 0, .int .i64 0, .int .i64 0, .int .i64 0, .int .i64 0, .int .i64 0, .int .i64 0, .int .i64 0, .int .i64 0, .int .i64 0, .int .i64 0, .int .i64 0, .int .i64 0, .int .i64 0, .int .i64 0, .int .i64 0, .int .i64 0, .int .i64 0, .int .i64 0, .int .i64 0, .int .i64 0, .int .i64 0, .int .i64 0, .int .i64 0, .int .i64 0, .int .i64 0, .int .i64 0, .int .i64 0, .int .i64 0]
theorem litz_eq : litz = ia zeros := rfl
theorem Blk.range {W : World} {g : Nat} {l : List Int} (h : Blk W g (ia l)) : W.rangeAt g 0 (l.map iv) := fun j v hv => by
  rw [Nat.zero_add]
  exact h.cell (by simpa [ia] using hv)
theorem Blk.ld {W : World} {g : Nat} {l : List Int} (h : Blk W g (ia l)) (hl : l.length = 64) : (Instr.loadAt 23 (.pointer (some ⟨g, 0, none⟩))).run Tryd.prog W = .ok (.agg (ia l)) W :=
  run_loadAt_mid W g 0 23 (l.map iv) _ h.range Tryd.underlying23 rfl (by rw [List.length_map, hl]; kernel_rfl)
theorem eq64 {w : World} {l m : List Int} (hl : l.length = 64) (hm : m.length = 64) : (Op.equalIn 10000 23 (.agg (ia l)) (.agg (ia m))).run Tryd.prog w = .ok (l == m) w :=
  run_equalIn_ints w 9998 23 3 64 Tryd.underlying23 Tryd.underlying3 sizeInt l m hl hm
theorem eqs64 {w : World} {l : List Int} (hl : l.length = 64) : (Op.equalIn 10000 23 (.agg (ia l)) (.agg (ia l))).run Tryd.prog w = .ok true w := by
  rw [eq64 hl hl]; simp
end Go.Proofs.YtipmbffpokplgaaDoor
