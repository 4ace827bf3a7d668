/- Contracts of ratio.Near and what it calls. -/
import Derived.Test.YtnhophjahjphiaaDoorRatN
import Derived.Test.YtnhophjahjphiaaDoorRLeast
namespace Go.Proofs.YtnhophjahjphiaaDoor
open Go.RowKit
set_option linter.unusedVariables false

theorem mul_rng {A q : Int} (a0 : 0 ≤ A) (a1 : A ≤ 4294967295) (q0 : 1 ≤ q) (q1 : q ≤ 4096) : 0 ≤ q * A ∧ q * A ≤ 17592186044416 := by
  have h1 : 0 ≤ q * A := Int.mul_nonneg (by omega) a0
  have h2 : q * A ≤ 4096 * A := Int.mul_le_mul_of_nonneg_right q1 a0
  omega

set_option maxHeartbeats 1600000 in
theorem over_any (A D q : Int) (w : World) (a0 : 0 ≤ A) (a1 : A ≤ 4294967295) (d0 : 1 ≤ D) (d1 : D ≤ 4294967295) (q0 : 1 ≤ q) (q1 : q ≤ 4096) :
    Calls Tryd.prog 44 #[.agg #[.int .i64 A, .int .i64 D], .int .i64 q] w fun e w' => e = .returned (.tuple #[.agg #[.int .i64 (candN A D q), .int .i64 q], .int .i64 (candO A D q)]) ∧ Below w.heap.size w w' := by
  obtain ⟨p0, p1⟩ := mul_rng a0 a1 q0 q1
  unfold candN candO
  generalize hP : q * A = P at p0 p1
  have r0 := Int.emod_nonneg P (show D ≠ 0 by omega)
  have r1 := Int.emod_lt_of_pos P (show 0 < D by omega)
  have m0 : 0 ≤ P / D := Int.ediv_nonneg p0 (by omega)
  have m1 : P / D ≤ P := Int.ediv_le_self _ p0
  have e1 : P.tdiv D = P / D := Int.tdiv_eq_ediv_of_nonneg p0
  have e2 : P.tmod D = P % D := Int.tmod_eq_emod_of_nonneg p0
  generalize hM : P / D = M at *
  generalize hR : P % D = R at *
  have w1 : IntKind.i64.wrap (q * A) = P := by rw [hP, IntKind.wrap_i64]; omega
  have w2 : IntKind.i64.wrap M = M := by rw [IntKind.wrap_i64]; omega
  have w3 : IntKind.i64.wrap (M + 1) = M + 1 := by rw [IntKind.wrap_i64]; omega
  have w4 : IntKind.i64.wrap (D - R) = D - R := by rw [IntKind.wrap_i64]; omega
  have t0 : (D == 0) = false := by rw [beq_eq_false_iff_ne]; omega
  have t1 : ¬ D = 0 := by omega
  have E1 := Lib.hid e1
  have E2 := Lib.hid e2
  have HM := Lib.hid hM
  have HR := Lib.hid hR
  have W1 := Lib.hid w1
  have W2 := Lib.hid w2
  have W3 := Lib.hid w3
  have W4 := Lib.hid w4
  clear e1 e2 hM hR w1 w2 w3 w4 hP
  by_cases h : D - R < R
  · rw [if_pos h, if_pos h]
    have ht : decide (D - R < R) = true := by rw [decide_eq_true_eq]; exact h
    go_enter Tryd.func44, Tryd.ntmps44
    go_wp2_with fail
    have e1 := E1.out
    have e2 := E2.out
    have hM := HM.out
    have hR := HR.out
    have w1 := W1.out
    have w2 := W2.out
    go_quiet (fail)
    clear e1 e2 hM hR w1 w2
    go_wp2_with fail
    have w3 := W3.out
    have w4 := W4.out
    go_region_held3 (fun w' => w'.cell? ⟨w.heap.size, 0, none⟩ = some (.int .i64 A) ∧ w'.cell? ⟨w.heap.size, 1, none⟩ = some (.int .i64 D)) (go_keep) (fail)
    all_goals
      go_wp2
      refine bodyPost_ret (v := .tuple #[.agg #[.int .i64 (M + 1), .int .i64 q], .int .i64 (D - R)]) (by simp [results, Tryd.results44, go_sem]) rfl ⟨rfl, ?_⟩
      go_grown
      refine bdrew ?_ _
      go_grown
  · rw [if_neg h, if_neg h]
    have ht : decide (D - R < R) = false := by rw [decide_eq_false_iff_not]; exact h
    go_enter Tryd.func44, Tryd.ntmps44
    go_wp2_with fail
    have e1 := E1.out
    have e2 := E2.out
    have hM := HM.out
    have hR := HR.out
    have w1 := W1.out
    have w2 := W2.out
    go_quiet (fail)
    clear e1 e2 hM hR w1 w2
    go_wp2
    refine bodyPost_ret (v := .tuple #[.agg #[.int .i64 M, .int .i64 q], .int .i64 R]) (by simp [results, Tryd.results44, go_sem]) rfl ⟨rfl, ?_⟩
    go_grown
    refine bdrew ?_ _
    go_grown
end Go.Proofs.YtnhophjahjphiaaDoor
