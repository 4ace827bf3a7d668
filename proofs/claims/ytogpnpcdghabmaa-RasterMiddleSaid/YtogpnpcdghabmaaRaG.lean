/- Contracts of the document's Fit and of the law's fits (written by tools/gen_raG.py). -/
import Derived.Test.YtogpnpcdghabmaaRaF
namespace Go.Proofs.Ytogpnpcdghabmaa
open Go.RowKit Go.Lib
set_option linter.unusedVariables false
set_option maxRecDepth 100000
set_option maxHeartbeats 2000000 in
theorem rFit_yes (a b c d : Nat) (w : World) (a1 : 1 ≤ a) (a2 : a ≤ 4096) (b1 : 1 ≤ b) (b2 : b ≤ 4096) (c1 : 1 ≤ c) (c2 : c ≤ 4096) (d1 : 1 ≤ d) (d2 : d ≤ 4096) :
    Calls Try.prog 14 #[.int .i64 a, .int .i64 b, .int .i64 c, .int .i64 d] w fun e w' => e = .returned (.tuple #[.int .i64 (fitN a b c d).1, .int .i64 (fitN a b c d).2]) ∧ Below w.heap.size w w' := by
  by_cases h1 : a ≤ c ∧ b ≤ d
  · have HF := Lib.hid (fitN_in a b c d h1)
    generalize fitN a b c d = R at *
    have e1 : decide ((a : Int) ≤ (c : Int)) = true := decide_eq_true (by omega)
    have e2 : decide ((b : Int) ≤ (d : Int)) = true := decide_eq_true (by omega)
    go_enter Try.func14, Try.ntmps14
    go_wp2
    go_ret2
    exact ⟨by rw [HF.out]; rfl, Below.refl _ _⟩
  · have e : decide ((a : Int) ≤ (c : Int)) = false ∨ decide ((a : Int) ≤ (c : Int)) = true ∧ decide ((b : Int) ≤ (d : Int)) = false := by
      by_cases hq : a ≤ c
      · exact .inr ⟨decide_eq_true (by omega), decide_eq_false (by omega)⟩
      · exact .inl (decide_eq_false (by omega))
    obtain ⟨m1, m2⟩ := mulN a2 d2
    obtain ⟨m3, m4⟩ := mulN b2 c2
    have n1 := nat_mul4 a2 d2
    have n2 := nat_mul4 b2 c2
    have za : ¬ (a : Int) = 0 := by omega
    have za2 : ((a : Int) == 0) = false := by rw [beq_eq_false_iff_ne]; exact za
    have zb : ¬ (b : Int) = 0 := by omega
    have zb2 : ((b : Int) == 0) = false := by rw [beq_eq_false_iff_ne]; exact zb
    have kc : decide ((c : Int) < 1) = false := decide_eq_false (by omega)
    have kd : decide ((d : Int) < 1) = false := decide_eq_false (by omega)
    have q1 : b * c / a ≤ b * c := Nat.div_le_self _ _
    have q2 : ((b * c : Nat) : Int).tdiv (a : Int) = ((b * c / a : Nat) : Int) := by rw [Int.tdiv_eq_ediv_of_nonneg (by omega)]; push_cast; rfl
    have p1 : a * d / b ≤ a * d := Nat.div_le_self _ _
    have p2 : ((a * d : Nat) : Int).tdiv (b : Int) = ((a * d / b : Nat) : Int) := by rw [Int.tdiv_eq_ediv_of_nonneg (by omega)]; push_cast; rfl
    by_cases h2 : b * c ≤ a * d
    · have HF := Lib.hid (fitN_wide a b c d h1 h2)
      have hd : decide (((a * d : Nat) : Int) < ((b * c : Nat) : Int)) = false := decide_eq_false (by omega)
      generalize fitN a b c d = R at *
      generalize b * c / a = Q at *
      generalize a * d / b = P at *
      clear h1 h2 m2 m4
      generalize a * d = p at *
      generalize b * c = q at *
      have q3 : IntKind.i64.wrap (Q : Int) = (Q : Int) := IntWalk.i64_in _ (by omega)
      have p3 : IntKind.i64.wrap (P : Int) = (P : Int) := IntWalk.i64_in _ (by omega)
      have HF1 : Hid ((R.1 : Int) = (c : Int)) := by rw [HF.out]; show _ = _; first | rfl | (push_cast; omega)
      have HF2 : Hid ((R.2 : Int) = max 1 (Q : Int)) := by rw [HF.out]; show _ = _; first | rfl | (push_cast; omega)
      clear HF
      generalize (R.1 : Int) = r1 at *
      generalize (R.2 : Int) = r2 at *
      clear a1 a2 b1 b2 c1 c2 d1 d2 n1 n2 q1 p1
      generalize (a : Int) = A at *
      generalize (b : Int) = B at *
      generalize (c : Int) = C at *
      generalize (d : Int) = D at *
      generalize (p : Int) = PP at *
      generalize (q : Int) = PQ at *
      generalize (Q : Int) = Q2 at *
      generalize (P : Int) = P2 at *
      clear a b c d R Q P p q
      have HX : Hid ((decide (Q2 < 1) = true ∧ r2 = 1) ∨ (decide (Q2 < 1) = false ∧ r2 = Q2)) := by
        rw [HF2.out]
        by_cases h : Q2 < 1
        · exact .inl ⟨decide_eq_true h, by omega⟩
        · exact .inr ⟨decide_eq_false h, by omega⟩
      clear HF2
      rcases HX with ⟨k1, k2⟩ | ⟨k1, k2⟩
      all_goals (
        have HF2 := Lib.hid k2
        clear k2
        rcases e with e1 | ⟨e1, e2⟩
        all_goals (
          go_enter Try.func14, Try.ntmps14
          go_wp2
          refine wp_region_seq (fun W => Below w.heap.size w W) (by kernel_rfl) (by kernel_rfl) (by kernel_rfl) ((Below.refl _ _).drew) ?_
          repeat (
            first
              | (apply seq_val (by rfl); focus (intro W hS; go_simp; (try with_reducible rfl); done))
            simp only [Act.put, List.setIfInBounds_toArray, List.set_cons_zero, List.set_cons_succ])
          intro W hS
          go_wp2
          go_ret2
          exact ⟨by rw [HF1.out, HF2.out]; rfl, hS⟩))
    · have HF := Lib.hid (fitN_high a b c d h1 h2)
      have hd : decide (((a * d : Nat) : Int) < ((b * c : Nat) : Int)) = true := decide_eq_true (by omega)
      generalize fitN a b c d = R at *
      generalize b * c / a = Q at *
      generalize a * d / b = P at *
      clear h1 h2 m2 m4
      generalize a * d = p at *
      generalize b * c = q at *
      have q3 : IntKind.i64.wrap (Q : Int) = (Q : Int) := IntWalk.i64_in _ (by omega)
      have p3 : IntKind.i64.wrap (P : Int) = (P : Int) := IntWalk.i64_in _ (by omega)
      have HF1 : Hid ((R.1 : Int) = max 1 (P : Int)) := by rw [HF.out]; show _ = _; first | rfl | (push_cast; omega)
      have HF2 : Hid ((R.2 : Int) = (d : Int)) := by rw [HF.out]; show _ = _; first | rfl | (push_cast; omega)
      clear HF
      generalize (R.1 : Int) = r1 at *
      generalize (R.2 : Int) = r2 at *
      clear a1 a2 b1 b2 c1 c2 d1 d2 n1 n2 q1 p1
      generalize (a : Int) = A at *
      generalize (b : Int) = B at *
      generalize (c : Int) = C at *
      generalize (d : Int) = D at *
      generalize (p : Int) = PP at *
      generalize (q : Int) = PQ at *
      generalize (Q : Int) = Q2 at *
      generalize (P : Int) = P2 at *
      clear a b c d R Q P p q
      have HX : Hid ((decide (P2 < 1) = true ∧ r1 = 1) ∨ (decide (P2 < 1) = false ∧ r1 = P2)) := by
        rw [HF1.out]
        by_cases h : P2 < 1
        · exact .inl ⟨decide_eq_true h, by omega⟩
        · exact .inr ⟨decide_eq_false h, by omega⟩
      clear HF1
      rcases HX with ⟨k1, k2⟩ | ⟨k1, k2⟩
      all_goals (
        have HF1 := Lib.hid k2
        clear k2
        rcases e with e1 | ⟨e1, e2⟩
        all_goals (
          go_enter Try.func14, Try.ntmps14
          go_wp2
          refine wp_region_seq (fun W => Below w.heap.size w W) (by kernel_rfl) (by kernel_rfl) (by kernel_rfl) ((Below.refl _ _).drew) ?_
          repeat (
            first
              | (apply seq_val (by rfl); focus (intro W hS; go_simp; (try with_reducible rfl); done))
            simp only [Act.put, List.setIfInBounds_toArray, List.set_cons_zero, List.set_cons_succ])
          intro W hS
          go_wp2
          go_ret2
          exact ⟨by rw [HF1.out, HF2.out]; rfl, hS⟩))
theorem fits_any (a b c d x y : Nat) (w : World) (a1 : 1 ≤ a) (a2 : a ≤ 4096) (b1 : 1 ≤ b) (b2 : b ≤ 4096) (c1 : 1 ≤ c) (c2 : c ≤ 4096) (d1 : 1 ≤ d) (d2 : d ≤ 4096) (h : fitN a b c d = (x, y)) :
    Calls Try.prog 23 #[.int .i64 a, .int .i64 b, .int .i64 c, .int .i64 d, .int .i64 x, .int .i64 y] w fun e w' => e = .returned (.bool true) ∧ Below w.heap.size w w' := by
  have HF := Lib.hid (fit_yes a b c d w a1 a2 b1 b2 c1 c2 d1 d2)
  rw [h] at HF
  clear a1 a2 b1 b2 c1 c2 d1 d2 h
  generalize (x : Int) = X at *
  generalize (y : Int) = Y at *
  go_enter Try.func23, Try.ntmps23
  go_wp2_with fail
  (with_reducible refine HF.out.mono ?_); rintro e w1 ⟨rfl, h1⟩
  go_wp2
  go_ret
  exact ⟨rfl, h1⟩
end Go.Proofs.Ytogpnpcdghabmaa
