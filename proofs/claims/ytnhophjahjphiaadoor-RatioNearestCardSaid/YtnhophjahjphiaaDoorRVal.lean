/- Contracts: which ratios are valid. -/
import Derived.Test.YtnhophjahjphiaaDoorOct
import Derived.Test.YtnhophjahjphiaaDoorREnv
import Derived.Outline
namespace Go.Proofs.YtnhophjahjphiaaDoor
open Go.RowKit

theorem sgd4 (n : Int) : (sgd n 4).2 = decide (0 ≤ n ∧ n ≤ 4294967295) := by
  unfold sgd topI
  simp only [show ¬ ((4 : Int) = 1) by decide, show ¬ ((4 : Int) = 2) by decide, if_false, if_true]
  split
  · symm; rw [decide_eq_false_iff_not]; omega
  · split <;> (symm; rw [decide_eq_true_eq]; omega)
theorem pln4 (n : Int) : (pln n 4).2 = decide (-2147483648 ≤ n ∧ n ≤ 2147483647) := by
  unfold pln topI
  simp only [show ¬ ((4 : Int) = 1) by decide, show ¬ ((4 : Int) = 2) by decide, if_false, if_true]
  split
  · symm; rw [decide_eq_false_iff_not]; omega
  · split <;> (symm; rw [decide_eq_true_eq]; omega)

theorem oSigned4 (n : Int) (w : World) : Calls Tryd.prog 50 #[.int .i64 n, .int .i64 4] w fun e w' => e = .returned (.tuple #[.int .i64 (sgd n 4).1, .bool (decide (0 ≤ n ∧ n ≤ 4294967295))]) ∧ Below w.heap.size w w' := by
  have := oSigned_any n 4 w
  rwa [sgd4] at this
theorem oPlain4 (n : Int) (w : World) : Calls Tryd.prog 51 #[.int .i64 n, .int .i64 4] w fun e w' => e = .returned (.tuple #[.int .i64 (pln n 4).1, .bool (decide (-2147483648 ≤ n ∧ n ≤ 2147483647))]) ∧ Below w.heap.size w w' := by
  have := oPlain_any n 4 w
  rwa [pln4] at this

theorem plainB_and (n d : Int) : (decide (0 ≤ n ∧ n ≤ 4294967295) && decide (0 ≤ d ∧ d ≤ 4294967295)) = plainB n d := by
  unfold plainB
  rw [← Bool.decide_and]
  exact decide_eq_decide.2 ⟨fun h => ⟨h.1.1, h.1.2, h.2⟩, fun h => ⟨⟨h.1, h.2.1⟩, h.2.2⟩⟩
theorem signB_and (n d : Int) : (decide (-2147483648 ≤ n ∧ n ≤ 2147483647) && decide (-2147483648 ≤ d ∧ d ≤ 2147483647)) = signB n d := by
  unfold signB
  rw [← Bool.decide_and]
  exact decide_eq_decide.2 ⟨fun h => ⟨h.1.1, h.1.2, h.2⟩, fun h => ⟨⟨h.1, h.2.1⟩, h.2.2⟩⟩
theorem bne0 (d : Int) : (d != 0) = decide (d ≠ 0) := by by_cases h : d = 0 <;> simp [h]
theorem ret_bool {a b : Bool} (h : a = b) : Ending.returned (.bool a) = .returned (.bool b) := by rw [h]

theorem taken_u (n d : Int) (w : World) : Calls Tryd.prog 49 #[.agg #[.int .i64 n, .int .i64 d], .func (Fn.func 50) #[] #[]] w fun e w' => e = .returned (.bool (plainB n d)) ∧ Below w.heap.size w w' := by
  rw [← plainB_and]
  have HB := Lib.hid (Bx.new w n d 48)
  generalize hp : decide (0 ≤ n ∧ n ≤ 4294967295) = p
  generalize hq : decide (0 ≤ d ∧ d ≤ 4294967295) = q
  have HP := Lib.hid hp
  have HQ := Lib.hid hq
  clear hp hq
  go_enter Tryd.func49, Tryd.ntmps49
  go_wp2_with fail
  (with_reducible refine (oSigned4 n _).mono ?_); rintro e w1 ⟨rfl, h1⟩
  rw [HP.out]
  have B1 := HB.out.below h1
  have g1 := bboxed h1
  clear h1 HB
  have c1 := B1.c1
  go_wp2_with fail
  (with_reducible refine (oSigned4 d _).mono ?_); rintro e w2 ⟨rfl, h2⟩
  rw [HQ.out]
  have g2 := bstep g1 h2
  clear h2 g1 c1 B1
  cases p <;> go_wp2 <;> go_ret <;> exact ⟨by simp, g2⟩
theorem taken_s (n d : Int) (w : World) : Calls Tryd.prog 49 #[.agg #[.int .i64 n, .int .i64 d], .func (Fn.func 51) #[] #[]] w fun e w' => e = .returned (.bool (signB n d)) ∧ Below w.heap.size w w' := by
  rw [← signB_and]
  have HB := Lib.hid (Bx.new w n d 48)
  generalize hp : decide (-2147483648 ≤ n ∧ n ≤ 2147483647) = p
  generalize hq : decide (-2147483648 ≤ d ∧ d ≤ 2147483647) = q
  have HP := Lib.hid hp
  have HQ := Lib.hid hq
  clear hp hq
  go_enter Tryd.func49, Tryd.ntmps49
  go_wp2_with fail
  (with_reducible refine (oPlain4 n _).mono ?_); rintro e w1 ⟨rfl, h1⟩
  rw [HP.out]
  have B1 := HB.out.below h1
  have g1 := bboxed h1
  clear h1 HB
  have c1 := B1.c1
  go_wp2_with fail
  (with_reducible refine (oPlain4 d _).mono ?_); rintro e w2 ⟨rfl, h2⟩
  rw [HQ.out]
  have g2 := bstep g1 h2
  clear h2 g1 c1 B1
  cases p <;> go_wp2 <;> go_ret <;> exact ⟨by simp, g2⟩
theorem pPlain_any (n d : Int) (w : World) : Calls Tryd.prog 31 #[.agg #[.int .i64 n, .int .i64 d]] w fun e w' => e = .returned (.bool (plainB n d)) ∧ Below w.heap.size w w' := by
  go_enter Tryd.func31, Tryd.ntmps31
  go_wp2_with fail
  (with_reducible refine (taken_u n d _).mono ?_); rintro e w1 ⟨rfl, h1⟩
  have g1 := bboxed h1
  clear h1
  go_wp2
  go_ret
  exact ⟨rfl, g1⟩
theorem pSigned_any (n d : Int) (w : World) : Calls Tryd.prog 32 #[.agg #[.int .i64 n, .int .i64 d]] w fun e w' => e = .returned (.bool (signB n d)) ∧ Below w.heap.size w w' := by
  go_enter Tryd.func32, Tryd.ntmps32
  go_wp2_with fail
  (with_reducible refine (taken_s n d _).mono ?_); rintro e w1 ⟨rfl, h1⟩
  have g1 := bboxed h1
  clear h1
  go_wp2
  go_ret
  exact ⟨rfl, g1⟩
theorem cPlain_any (n d : Int) (w : World) : Calls Tryd.prog 10 #[.agg #[.int .i64 n, .int .i64 d]] w fun e w' => e = .returned (.bool (plainB n d)) ∧ Below w.heap.size w w' := by
  go_enter Tryd.func10, Tryd.ntmps10
  go_wp2_with fail
  (with_reducible refine (pPlain_any n d _).mono ?_); rintro e w1 ⟨rfl, h1⟩
  have g1 := bboxed h1
  clear h1
  go_wp2
  go_ret
  exact ⟨rfl, g1⟩
theorem cSigned_any (n d : Int) (w : World) : Calls Tryd.prog 12 #[.agg #[.int .i64 n, .int .i64 d]] w fun e w' => e = .returned (.bool (signB n d)) ∧ Below w.heap.size w w' := by
  go_enter Tryd.func12, Tryd.ntmps12
  go_wp2_with fail
  (with_reducible refine (pSigned_any n d _).mono ?_); rintro e w1 ⟨rfl, h1⟩
  have g1 := bboxed h1
  clear h1
  go_wp2
  go_ret
  exact ⟨rfl, g1⟩

theorem dPlain_any (n d : Int) (w : World) : Calls Tryd.prog 11 #[.agg #[.int .i64 n, .int .i64 d]] w fun e w' => e = .returned (.bool (plainB n d)) ∧ Below w.heap.size w w' := by
  by_cases h0 : 0 ≤ n
  · by_cases h1 : n < 4294967296
    · by_cases h2 : 0 ≤ d
      · by_cases h3 : d < 4294967296
        · have e : plainB n d = true := by unfold plainB; rw [decide_eq_true_eq]; omega
          rw [e]
          go_enter Tryd.func11, Tryd.ntmps11
          go_wp2
          go_ret
          exact ⟨rfl, by go_grown⟩
        · have e : plainB n d = false := by unfold plainB; rw [decide_eq_false_iff_not]; omega
          rw [e]
          go_enter Tryd.func11, Tryd.ntmps11
          go_wp2
          go_ret
          exact ⟨rfl, by go_grown⟩
      · have e : plainB n d = false := by unfold plainB; rw [decide_eq_false_iff_not]; omega
        rw [e]
        go_enter Tryd.func11, Tryd.ntmps11
        go_wp2
        go_ret
        exact ⟨rfl, by go_grown⟩
    · have e : plainB n d = false := by unfold plainB; rw [decide_eq_false_iff_not]; omega
      rw [e]
      go_enter Tryd.func11, Tryd.ntmps11
      go_wp2
      go_ret
      exact ⟨rfl, by go_grown⟩
  · have e : plainB n d = false := by unfold plainB; rw [decide_eq_false_iff_not]; omega
    rw [e]
    go_enter Tryd.func11, Tryd.ntmps11
    go_wp2
    go_ret
    exact ⟨rfl, by go_grown⟩

theorem dSigned_any (n d : Int) (w : World) : Calls Tryd.prog 13 #[.agg #[.int .i64 n, .int .i64 d]] w fun e w' => e = .returned (.bool (signB n d)) ∧ Below w.heap.size w w' := by
  by_cases h0 : -2147483648 ≤ n
  · by_cases h1 : n < 2147483648
    · by_cases h2 : -2147483648 ≤ d
      · by_cases h3 : d < 2147483648
        · have e : signB n d = true := by unfold signB; rw [decide_eq_true_eq]; omega
          rw [e]
          go_enter Tryd.func13, Tryd.ntmps13
          go_wp2
          go_ret
          exact ⟨rfl, by go_grown⟩
        · have e : signB n d = false := by unfold signB; rw [decide_eq_false_iff_not]; omega
          rw [e]
          go_enter Tryd.func13, Tryd.ntmps13
          go_wp2
          go_ret
          exact ⟨rfl, by go_grown⟩
      · have e : signB n d = false := by unfold signB; rw [decide_eq_false_iff_not]; omega
        rw [e]
        go_enter Tryd.func13, Tryd.ntmps13
        go_wp2
        go_ret
        exact ⟨rfl, by go_grown⟩
    · have e : signB n d = false := by unfold signB; rw [decide_eq_false_iff_not]; omega
      rw [e]
      go_enter Tryd.func13, Tryd.ntmps13
      go_wp2
      go_ret
      exact ⟨rfl, by go_grown⟩
  · have e : signB n d = false := by unfold signB; rw [decide_eq_false_iff_not]; omega
    rw [e]
    go_enter Tryd.func13, Tryd.ntmps13
    go_wp2
    go_ret
    exact ⟨rfl, by go_grown⟩

theorem dMay_any (n d : Int) (w : World) : Calls Tryd.prog 30 #[.agg #[.int .i64 n, .int .i64 d]] w fun e w' => e = .returned (.bool (validB n d)) ∧ Below w.heap.size w w' := by
  have HB := Lib.hid (Bx.new w n d 23)
  unfold validB
  generalize hp : plainB n d = p
  generalize hq : signB n d = q
  have HP := Lib.hid hp
  have HQ := Lib.hid hq
  clear hp hq
  go_enter Tryd.func30, Tryd.ntmps30
  go_wp2_with fail
  (with_reducible refine (dPlain_any n d _).mono ?_); rintro e w1 ⟨rfl, h1⟩
  rw [HP.out]
  have B1 := HB.out.below h1
  have g1 := bboxed h1
  clear h1 HB
  have c0 := B1.c0
  have c1 := B1.c1
  cases p
  · go_wp2_with fail
    (with_reducible refine (dSigned_any n d _).mono ?_); rintro e w2 ⟨rfl, h2⟩
    rw [HQ.out]
    have g2 := bstep g1 h2
    clear h2 g1 c1 B1
    go_wp2
    go_ret
    exact ⟨by simp, g2⟩
  · go_wp2
    go_ret
    exact ⟨by simp, g1⟩

theorem idx0 (a b : Value) (w : World) : (Instr.index 64 (.agg #[a, b]) (.int .i64 0)).run Tryd.prog w = .ok a w := by kernel_rfl
theorem idx1 (a b : Value) (w : World) : (Instr.index 64 (.agg #[a, b]) (.int .i64 1)).run Tryd.prog w = .ok b w := by kernel_rfl
set_option maxRecDepth 100000 in
theorem isValid_any (n d : Int) (w : World) : Calls Tryd.prog 28 #[.agg #[.int .i64 n, .int .i64 d]] w fun e w' => e = .returned (.bool (validB n d)) ∧ Below w.heap.size w w' := by
  unfold validB
  generalize hp : plainB n d = p
  generalize hq : signB n d = q
  have HP := Lib.hid hp
  have HQ := Lib.hid hq
  clear hp hq
  go_enter Tryd.func28, Tryd.ntmps28
  go_wp2_with fail
  have i0 := idx0
  have i1 := idx1
  refine wp_loop_rounds 3 ?_
  rw [rounds_succ]
  go_wp2_with fail
  (with_reducible refine (pPlain_any n d _).mono ?_); rintro e w1 ⟨rfl, h1⟩
  rw [HP.out]
  have g1 := bboxed (bboxed h1)
  clear h1
  cases p
  · go_wp2_with fail
    rw [rounds_succ]
    go_wp2_with fail
    (with_reducible refine (pSigned_any n d _).mono ?_); rintro e w2 ⟨rfl, h2⟩
    rw [HQ.out]
    have g2 := bstep g1 h2
    clear h2 g1
    cases q
    · go_wp2_with fail
      rw [rounds_succ]
      go_wp2
      go_ret
      exact ⟨by simp, g2⟩
    · go_wp2
      go_ret
      exact ⟨by simp, g2⟩
  · go_wp2
    go_ret
    exact ⟨by simp, g1⟩

theorem has_any (n d : Int) (w : World) : Calls Tryd.prog 34 #[.agg #[.int .i64 n, .int .i64 d]] w fun e w' => e = .returned (.bool (hasB n d)) ∧ Below w.heap.size w w' := by
  have HB := Lib.hid (Bx.new w n d 23)
  unfold hasB
  generalize hp : validB n d = p
  have HP := Lib.hid hp
  clear hp
  go_enter Tryd.func34, Tryd.ntmps34
  go_wp2_with fail
  (with_reducible refine (isValid_any n d _).mono ?_); rintro e w1 ⟨rfl, h1⟩
  rw [HP.out]
  have B1 := HB.out.below h1
  have g1 := bboxed h1
  clear h1 HB
  have c0 := B1.c0
  have c1 := B1.c1
  cases p
  · go_wp2
    go_ret
    exact ⟨by simp, g1⟩
  · go_wp2
    go_ret
    exact ⟨ret_bool (by rw [bne0]; rfl), g1⟩
end Go.Proofs.YtnhophjahjphiaaDoor
