/- Contracts of colour: Clamp, the weighted sums, Luma, Paint; and the document's. -/
import Derived.Test.YtefdimkiijmjbaaColP
import Derived.Test.YtefdimkiijmjbaaBlk
import Derived.Test.YtefdimkiijmjbaaDrw
import Derived.IntWalk
namespace Go.Proofs.Ytefdimkiijmjbaa
open Go.RowKit Go.Lib
set_option linter.unusedVariables false
set_option maxRecDepth 100000
theorem ret_i {k : IntKind} {a b : Int} (h : a = b) : Ending.returned (.int k a) = .returned (.int k b) := by rw [h]
theorem clamp_any (n : Int) (w : World) : Calls Try.prog 7 #[.int .i64 n] w fun e w' => e = .returned (.int .i64 (cl n)) ∧ w = w' := by
  by_cases h0 : n < 0
  · have HX : Hid (cl n = 0) := by show _ = _; unfold cl; rw [if_pos h0]
    go_enter Try.func7, Try.ntmps7
    go_wp2
    all_goals first
      | (go_ret; exact ⟨ret_i (by rw [HX.out]), rfl⟩)
      | omega
  · by_cases h1 : 255 < n
    · have HX : Hid (cl n = 255) := by show _ = _; unfold cl; rw [if_neg h0, if_pos h1]
      go_enter Try.func7, Try.ntmps7
      go_wp2
      all_goals first
        | (go_ret; exact ⟨ret_i (by rw [HX.out]), rfl⟩)
        | omega
    · have HX : Hid (cl n = n) := by show _ = _; unfold cl; rw [if_neg h0, if_neg h1]
      go_enter Try.func7, Try.ntmps7
      go_wp2
      all_goals first
        | (go_ret; exact ⟨ret_i (by rw [HX.out]), rfl⟩)
        | (go_ret; exact ⟨ret_i (by rw [HX.out]; omega), rfl⟩)
        | omega
theorem rclamp_any (n : Int) (w : World) : Calls Try.prog 8 #[.int .i64 n] w fun e w' => e = .returned (.int .i64 (cl n)) ∧ w = w' := by
  by_cases h0 : n < 0
  · have HX : Hid (cl n = 0) := by show _ = _; unfold cl; rw [if_pos h0]
    go_enter Try.func8, Try.ntmps8
    go_wp2
    go_ret
    exact ⟨ret_i (by rw [HX.out]), rfl⟩
  · by_cases h1 : 255 < n
    · have HX : Hid (cl n = 255) := by show _ = _; unfold cl; rw [if_neg h0, if_pos h1]
      go_enter Try.func8, Try.ntmps8
      go_wp2
      go_ret
      exact ⟨ret_i (by rw [HX.out]), rfl⟩
    · have HX : Hid (cl n = n) := by show _ = _; unfold cl; rw [if_neg h0, if_neg h1]
      go_enter Try.func8, Try.ntmps8
      go_wp2
      go_ret
      exact ⟨ret_i (by rw [HX.out]), rfl⟩
theorem rround_any (n : Int) (w : World) (h0 : -1000000000 ≤ n) (h1 : n ≤ 1000000000) : Calls Try.prog 17 #[.int .i64 n] w fun e w' => e = .returned (.int .i64 (rd n)) ∧ w = w' := by
  by_cases hn : n + 32768 < 0
  · by_cases hm : (n + 32768).tmod 65536 = 0
    · have HX := Lib.hid (rd_whole hm)
      have hb : ((n + 32768).tmod 65536 != 0) = false := by rw [hm]; rfl
      clear hm
      go_enter Try.func17, Try.ntmps17
      go_wp2
      go_ret
      exact ⟨ret_i HX.out, rfl⟩
    · have HX : Hid (wrap64 ((n + 32768).tdiv 65536 - 1) = rd n) := by
        have h2 := rd_neg hn hm
        have h3 := rd_rng h0 h1
        show _ = _
        rw [h2]
        exact IntWalk.wrap64_in _ (by omega)
      have hb : ((n + 32768).tmod 65536 != 0) = true := by rw [bne_iff_ne]; exact hm
      clear hm
      go_enter Try.func17, Try.ntmps17
      go_wp2
      go_ret
      exact ⟨ret_i HX.out, rfl⟩
  · have hq : 0 ≤ n + 32768 := by omega
    have HX := Lib.hid (rd_pos hq)
    go_enter Try.func17, Try.ntmps17
    go_wp2
    go_ret
    exact ⟨ret_i (by first | exact HX.out | (rw [← HX.out, Int.tdiv_eq_ediv_of_nonneg hq])), rfl⟩
/-- A weighted sum. -/
def sm3 (p q s a b c : Int) : Int := rd (p * a + q * b + s * c)
def wtv (p q s : Int) : Value := .agg #[.int .i64 p, .int .i64 q, .int .i64 s]
theorem mul_bnd {p a : Int} (h1 : -200000 ≤ p) (h2 : p ≤ 200000) (h3 : -255 ≤ a) (h4 : a ≤ 255) : -51000000 ≤ p * a ∧ p * a ≤ 51000000 := by
  have h := Int.natAbs_mul p a
  have h5 : (p * a).natAbs ≤ 200000 * 255 := by rw [h]; exact Nat.mul_le_mul (by omega) (by omega)
  omega
theorem sum_any (p q s a b c : Int) (w : World) (p1 : -200000 ≤ p) (p2 : p ≤ 200000) (q1 : -200000 ≤ q) (q2 : q ≤ 200000) (s1 : -200000 ≤ s) (s2 : s ≤ 200000)
    (a1 : -255 ≤ a) (a2 : a ≤ 255) (b1 : -255 ≤ b) (b2 : b ≤ 255) (c1 : -255 ≤ c) (c2 : c ≤ 255) :
    Calls Try.prog 19 #[.agg #[.int .i64 p, .int .i64 q, .int .i64 s], .int .i64 a, .int .i64 b, .int .i64 c] w fun e w' => e = .returned (.int .i64 (sm3 p q s a b c)) ∧ Below w.heap.size w w' := by
  have e1 := mul_bnd p1 p2 a1 a2
  have e2 := mul_bnd q1 q2 b1 b2
  have e3 := mul_bnd s1 s2 c1 c2
  have HX : Hid (sm3 p q s a b c = (p * a + q * b + s * c + 32768) / 65536) := rfl
  generalize hx : p * a = x at *
  generalize hy : q * b = y at *
  generalize hz : s * c = z at *
  go_enter Try.func19, Try.ntmps19
  go_wp2
  go_ret
  exact ⟨ret_i (by rw [HX.out]), (Below.refl _ _).alloc (Nat.le_refl _) _⟩
end Go.Proofs.Ytefdimkiijmjbaa
