/- Contracts of Fit, the document's Fit, and the law's fits. -/
import Derived.Test.YtogpnpcdghabmaaRaE
namespace Go.Proofs.Ytogpnpcdghabmaa
open Go.RowKit Go.Lib
set_option linter.unusedVariables false
set_option maxRecDepth 100000
def sd4 (a b c d : Int) : Bool := sd a && sd b && sd c && sd d
theorem sides4 (a b c d : Int) (w : World) : Hid (∀ W', W' = w.alloc (.cells #[.int .i64 a, .int .i64 b, .int .i64 c, .int .i64 d] 3) → Calls Try.prog 26 #[.slice (some ⟨w.heap.size, 0, none⟩) 4 4] W' fun e w' => e = .returned (.bool (sd4 a b c d)) ∧ W' = w') := by
  intro W' e
  subst e
  have := areSides_any [a, b, c, d] (some ⟨w.heap.size, 0, none⟩) 4 4 (w.alloc (.cells #[.int .i64 a, .int .i64 b, .int .i64 c, .int .i64 d] 3)) rfl (by simp) (Ri.lits w 3 _ [a, b, c, d] rfl)
  rw [sds4] at this
  unfold sd4
  rw [Bool.and_assoc, Bool.and_assoc]
  exact this
theorem fit_no (a b c d : Int) (w : World) (h : sd4 a b c d = false) :
    Calls Try.prog 12 #[.int .i64 a, .int .i64 b, .int .i64 c, .int .i64 d] w fun e w' => e = .returned (.tuple #[.int .i64 0, .int .i64 0, .int .i64 1]) ∧ Below w.heap.size w w' := by
  have HA := sides4 a b c d w
  rw [h] at HA
  have HB := Lib.hid ((Below.refl w.heap.size w).alloc (Nat.le_refl _) (.cells #[.int .i64 a, .int .i64 b, .int .i64 c, .int .i64 d] 3))
  clear h
  go_enter Try.func12, Try.ntmps12
  go_wp2_with (first
    | (go_at_call 26; (with_reducible refine (HA.out _ rfl).mono ?_); rintro e w3 ⟨rfl, rfl⟩))
  go_ret3
  exact ⟨rfl, HB.out⟩
theorem mulN {a b : Nat} (ha : a ≤ 4096) (hb : b ≤ 4096) : IntKind.i64.wrap ((a : Int) * (b : Int)) = ((a * b : Nat) : Int) ∧ (a : Int) * (b : Int) = ((a * b : Nat) : Int) := by
  have h := nat_mul4 ha hb
  have e : (a : Int) * (b : Int) = ((a * b : Nat) : Int) := by push_cast; rfl
  refine ⟨?_, e⟩
  rw [e]
  exact IntWalk.i64_in _ (by omega)
theorem fitN_in (a b c d : Nat) (h : a ≤ c ∧ b ≤ d) : fitN a b c d = (a, b) := by unfold fitN; rw [if_pos h]
theorem fitN_wide (a b c d : Nat) (h : ¬ (a ≤ c ∧ b ≤ d)) (h2 : b * c ≤ a * d) : fitN a b c d = (c, max 1 (b * c / a)) := by unfold fitN; rw [if_neg h, if_pos h2]
theorem fitN_high (a b c d : Nat) (h : ¬ (a ≤ c ∧ b ≤ d)) (h2 : ¬ b * c ≤ a * d) : fitN a b c d = (max 1 (a * d / b), d) := by unfold fitN; rw [if_neg h, if_neg h2]
set_option maxHeartbeats 2000000 in
theorem fit_yes (a b c d : Nat) (w : World) (a1 : 1 ≤ a) (a2 : a ≤ 4096) (b1 : 1 ≤ b) (b2 : b ≤ 4096) (c1 : 1 ≤ c) (c2 : c ≤ 4096) (d1 : 1 ≤ d) (d2 : d ≤ 4096) :
    Calls Try.prog 12 #[.int .i64 a, .int .i64 b, .int .i64 c, .int .i64 d] w fun e w' => e = .returned (.tuple #[.int .i64 (fitN a b c d).1, .int .i64 (fitN a b c d).2, .int .i64 0]) ∧ Below w.heap.size w w' := by
  have HA := sides4 a b c d w
  rw [show sd4 (a : Int) b c d = true by unfold sd4; rw [sd_of, sd_of, sd_of, sd_of] <;> first | rfl | omega] at HA
  have HB := Lib.hid ((Below.refl w.heap.size w).alloc (Nat.le_refl _) (.cells #[.int .i64 a, .int .i64 b, .int .i64 c, .int .i64 d] 3))
  have HW := Lib.hid (fun W' => isWithin_any a b c d W')
  by_cases h1 : a ≤ c ∧ b ≤ d
  · have HF := Lib.hid (fitN_in a b c d h1)
    generalize fitN a b c d = R at *
    have e : (decide ((a : Int) ≤ (c : Int)) && decide ((b : Int) ≤ (d : Int))) = true := by rw [decide_eq_true (by omega), decide_eq_true (by omega)]; rfl
    rw [e] at HW
    go_enter Try.func12, Try.ntmps12
    go_wp2_with (first
      | (go_at_call 26; (with_reducible refine (HA.out _ rfl).mono ?_); rintro e w3 ⟨rfl, rfl⟩)
      | (go_at_call 27; (with_reducible refine (HW.out _).mono ?_); rintro e w3 ⟨rfl, rfl⟩))
    go_ret3
    exact ⟨by rw [HF.out]; rfl, HB.out⟩
  · have e : (decide ((a : Int) ≤ (c : Int)) && decide ((b : Int) ≤ (d : Int))) = false := by
      cases hq : decide ((a : Int) ≤ (c : Int)) with
      | false => rfl
      | true => rw [Bool.true_and]; have := of_decide_eq_true hq; exact decide_eq_false (by omega)
    rw [e] at HW
    clear e
    obtain ⟨m1, m2⟩ := mulN a2 d2
    obtain ⟨m3, m4⟩ := mulN b2 c2
    have n1 := nat_mul4 a2 d2
    have n2 := nat_mul4 b2 c2
    have za : ¬ (a : Int) = 0 := by omega
    have za2 : ((a : Int) == 0) = false := by rw [beq_eq_false_iff_ne]; exact za
    have zb : ¬ (b : Int) = 0 := by omega
    have zb2 : ((b : Int) == 0) = false := by rw [beq_eq_false_iff_ne]; exact zb
    by_cases h2 : b * c ≤ a * d
    · have HF := Lib.hid (fitN_wide a b c d h1 h2)
      generalize fitN a b c d = R at *
      have q1 : b * c / a ≤ b * c := Nat.div_le_self _ _
      have q2 : ((b * c : Nat) : Int).tdiv (a : Int) = ((b * c / a : Nat) : Int) := by rw [Int.tdiv_eq_ediv_of_nonneg (by omega)]; push_cast; rfl
      generalize b * c / a = Q at *
      have hd : decide (((a * d : Nat) : Int) ≥ ((b * c : Nat) : Int)) = true := decide_eq_true (by omega)
      clear h1 h2 m2 m4
      generalize a * d = p at *
      generalize b * c = q at *
      have q3 : IntKind.i64.wrap (Q : Int) = (Q : Int) := IntWalk.i64_in _ (by omega)
      have HQ : Hid (max (Q : Int) 1 = ((max 1 Q : Nat) : Int)) := by show _ = _; omega
      generalize max 1 Q = M at *
      have HF1 : Hid ((R.1 : Int) = c) := by rw [HF.out]; rfl
      have HF2 : Hid ((R.2 : Int) = M) := by rw [HF.out]; rfl
      clear HF
      generalize (R.1 : Int) = r1 at *
      generalize (R.2 : Int) = r2 at *
      clear a1 a2 b1 b2 c1 c2 d1 d2 n1 n2 q1
      generalize (a : Int) = A at *
      generalize (b : Int) = B at *
      generalize (c : Int) = C at *
      generalize (d : Int) = D at *
      generalize (p : Int) = P at *
      generalize (q : Int) = P2 at *
      generalize (Q : Int) = Q2 at *
      generalize (M : Int) = M2 at *
      have HM : Hid (∀ (ts : Array TypeId) (T : TypeId) W, (Builtin.max_ ts T #[.int .i64 Q2, .int .i64 1]).run Try.prog W = .ok (.int .i64 M2) W) := fun ts T W => by rw [← HQ.out]; exact run_maxI W ts T _ _
      go_enter Try.func12, Try.ntmps12
      go_wp2_with (first
        | (go_at_call 26; (with_reducible refine (HA.out _ rfl).mono ?_); rintro e w3 ⟨rfl, rfl⟩)
        | (go_at_call 27; (with_reducible refine (HW.out _).mono ?_); rintro e w3 ⟨rfl, rfl⟩))
      refine wp_region_seq (fun W => Below w.heap.size w W) (by kernel_rfl) (by kernel_rfl) (by kernel_rfl) (HB.out.drew) ?_
      repeat (
        first
          | (refine seq_val (v := .int .i64 M2) (by rfl) ?_ ?_; focus (intro W hS; have h0 := HM.out #[3, 3] 3 W; unfold execOp; simp [resolve, invoke, builtin, go_sem, h0]; done))
          | (apply seq_val (by rfl); focus (intro W hS; go_simp; (try with_reducible rfl); done))
        simp only [Act.put, List.setIfInBounds_toArray, List.set_cons_zero, List.set_cons_succ])
      intro W hS
      go_wp2
      go_ret3
      exact ⟨by rw [HF1.out, HF2.out]; rfl, hS⟩
    · have HF := Lib.hid (fitN_high a b c d h1 h2)
      generalize fitN a b c d = R at *
      have q1 : a * d / b ≤ a * d := Nat.div_le_self _ _
      have q2 : ((a * d : Nat) : Int).tdiv (b : Int) = ((a * d / b : Nat) : Int) := by rw [Int.tdiv_eq_ediv_of_nonneg (by omega)]; push_cast; rfl
      generalize a * d / b = Q at *
      have hd : decide (((a * d : Nat) : Int) ≥ ((b * c : Nat) : Int)) = false := decide_eq_false (by omega)
      clear h1 h2 m2 m4
      generalize a * d = p at *
      generalize b * c = q at *
      have q3 : IntKind.i64.wrap (Q : Int) = (Q : Int) := IntWalk.i64_in _ (by omega)
      have HQ : Hid (max (Q : Int) 1 = ((max 1 Q : Nat) : Int)) := by show _ = _; omega
      generalize max 1 Q = M at *
      have HF1 : Hid ((R.1 : Int) = M) := by rw [HF.out]; rfl
      have HF2 : Hid ((R.2 : Int) = d) := by rw [HF.out]; rfl
      clear HF
      generalize (R.1 : Int) = r1 at *
      generalize (R.2 : Int) = r2 at *
      clear a1 a2 b1 b2 c1 c2 d1 d2 n1 n2 q1
      generalize (a : Int) = A at *
      generalize (b : Int) = B at *
      generalize (c : Int) = C at *
      generalize (d : Int) = D at *
      generalize (p : Int) = P at *
      generalize (q : Int) = P2 at *
      generalize (Q : Int) = Q2 at *
      generalize (M : Int) = M2 at *
      go_enter Try.func12, Try.ntmps12
      go_wp2_with (first
        | (go_at_call 26; (with_reducible refine (HA.out _ rfl).mono ?_); rintro e w3 ⟨rfl, rfl⟩)
        | (go_at_call 27; (with_reducible refine (HW.out _).mono ?_); rintro e w3 ⟨rfl, rfl⟩)
        | (with_reducible refine wpList_maxK _ rfl (.tmp 46) (.const (.int .i64 1)) rfl Q2 1 M2 rfl rfl HQ.out ?_))
      go_ret3
      exact ⟨by rw [HF1.out, HF2.out]; rfl, HB.out⟩
end Go.Proofs.Ytogpnpcdghabmaa
