/- The law BitsNobody: it returns true, whatever numbers; its walk by the contracts of what it calls. -/
import Derived.Test.YthidhgobocihpaaDoorAwk3
namespace Go.Proofs.YthidhgobocihpaaDoor
open Go.RowKit Go.Lib
set_option linter.unusedVariables false

set_option maxRecDepth 100000 in
theorem nobody_any (v n : Int) (w : World) (hw : Env w) : Calls Tryd.prog 5 #[.int .i64 v, .int .i64 n] w fun e w' => e = .returned (.bool true) ∧ Below w.heap.size w w' := by
  go_enter Tryd.func5, Tryd.ntmps5
  go_wp2_with (first
    | ((with_reducible refine (take_nil n _).mono ?_); rintro e w1 ⟨rfl, rfl⟩)
    | ((with_reducible refine (put_nil v n _).mono ?_); rintro e w1 ⟨rfl, rfl⟩)
    | ((with_reducible refine (len_nil _).mono ?_); rintro e w1 ⟨rfl, rfl⟩)
    | ((with_reducible refine (done_nil _).mono ?_); rintro e w1 ⟨rfl, rfl⟩)
    | ((with_reducible refine (left_nil _).mono ?_); rintro e w1 ⟨rfl, rfl⟩)
    | ((with_reducible refine (filled_nil _).mono ?_); rintro e w1 ⟨rfl, rfl⟩)
    | ((with_reducible refine (awake_any _ hw).mono ?_); rintro e w1 ⟨rfl, hb⟩))
  go_ret
  exact ⟨rfl, hb⟩
end Go.Proofs.YthidhgobocihpaaDoor
