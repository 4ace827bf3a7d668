/- Contracts of the document's answer: the floor, the denominator above 0, the comparison by continued fractions. -/
import Derived.Test.YtnhophjahjphiaaDoorRCmp
namespace Go.Proofs.YtnhophjahjphiaaDoor
open Go.RowKit
open Go.Lib (compareInt)

theorem fl_unique {n d q : Int} (hd : 0 < d) (h1 : q * d ≤ n) (h2 : n < q * d + d) : n / d = q := by
  have a := (Int.le_ediv_iff_mul_le hd).2 h1
  have b : n / d < q + 1 := (Int.ediv_lt_iff_lt_mul hd).2 (by rw [Int.add_mul, Int.one_mul]; exact h2)
  omega
theorem tdiv_neg_parts {n d : Int} (hn : n < 0) (hd : 0 < d) : n ≤ n.tdiv d * d ∧ n.tdiv d * d < n + d ∧ n.tdiv d * d ≤ 0 ∧ n ≤ n.tdiv d ∧ n.tdiv d ≤ 0 := by
  have e : n.tdiv d = -((-n) / d) := by
    conv => lhs; rw [show n = -(-n) from by omega]
    rw [Int.neg_tdiv, Int.tdiv_eq_ediv_of_nonneg (by omega)]
  have h1 := Int.mul_ediv_add_emod (-n) d
  have h2 := Int.emod_nonneg (-n) (show d ≠ 0 by omega)
  have h3 := Int.emod_lt_of_pos (-n) hd
  have h4 : 0 ≤ (-n) / d := Int.ediv_nonneg (by omega) (by omega)
  have h5 : (-n) / d ≤ -n := Int.ediv_le_self _ (by omega)
  rw [e, Int.neg_mul, Int.mul_comm ((-n) / d)]
  have h6 : 0 ≤ d * ((-n) / d) := Int.mul_nonneg (by omega) h4
  refine ⟨by omega, by omega, by omega, by omega, by omega⟩

theorem below_any (n d : Int) (w : World) (n0 : -8589934592 ≤ n) (n1 : n ≤ 8589934592) (d0 : 1 ≤ d) (d1 : d ≤ 8589934592) :
    Calls Tryd.prog 55 #[.int .i64 n, .int .i64 d] w fun e w' => e = .returned (.int .i64 (n / d)) ∧ w = w' := by
  have hz : (d == 0) = false := by simp; omega
  by_cases hn : 0 ≤ n
  · have h1 := Int.mul_ediv_add_emod n d
    have h2 := Int.emod_nonneg n (show d ≠ 0 by omega)
    have h3 := Int.emod_lt_of_pos n (show 0 < d by omega)
    have h4 : 0 ≤ n / d := Int.ediv_nonneg hn (by omega)
    have h6 : 0 ≤ d * (n / d) := Int.mul_nonneg (by omega) h4
    rw [Int.mul_comm] at h1 h6
    have hw : wrap64 (n / d * d) = n / d * d := by unfold wrap64; omega
    have ht : decide (n < n / d * d) = false := by rw [decide_eq_false_iff_not]; omega
    clear h1 h2 h3 h4 h6
    go_enter Tryd.func55, Tryd.ntmps55
    go_wp2
    go_ret
    exact ⟨rfl, rfl⟩
  · obtain ⟨h1, h2, h3, h4, h5⟩ := tdiv_neg_parts (show n < 0 by omega) (show 0 < d by omega)
    have hw : wrap64 (n.tdiv d * d) = n.tdiv d * d := by unfold wrap64; omega
    by_cases ht : n < n.tdiv d * d
    · have e : n / d = n.tdiv d - 1 := fl_unique (by omega) (by rw [Int.sub_mul, Int.one_mul]; omega) (by rw [Int.sub_mul, Int.one_mul]; omega)
      rw [e]
      have ht' : decide (n < n.tdiv d * d) = true := by rw [decide_eq_true_eq]; exact ht
      clear e h1 h2 h3 ht
      go_enter Tryd.func55, Tryd.ntmps55
      go_wp2
      go_ret
      exact ⟨rfl, rfl⟩
    · have e : n / d = n.tdiv d := fl_unique (by omega) (by omega) (by omega)
      rw [e]
      have ht' : decide (n < n.tdiv d * d) = false := by rw [decide_eq_false_iff_not]; exact ht
      clear e h1 h2 h3 ht
      go_enter Tryd.func55, Tryd.ntmps55
      go_wp2
      go_ret
      exact ⟨rfl, rfl⟩

theorem up_any (n d : Int) (w : World) (n0 : -8589934592 ≤ n) (n1 : n ≤ 8589934592) (d0 : -8589934592 ≤ d) (d1 : d ≤ 8589934592) :
    Calls Tryd.prog 40 #[.agg #[.int .i64 n, .int .i64 d]] w fun e w' => e = .returned (.agg #[.int .i64 (upN n d), .int .i64 (upD d)]) ∧ Below w.heap.size w w' := by
  by_cases h : d < 0
  · have e1 : upN n d = -n := by unfold upN; rw [if_pos h]
    have e2 : upD d = -d := by unfold upD; rw [if_pos h]
    rw [e1, e2]
    clear e1 e2
    go_enter Tryd.func40, Tryd.ntmps40
    go_wp2
    exact bodyPost_ret (v := .agg #[.int .i64 (-n), .int .i64 (-d)]) (by simp [results, Tryd.results40, go_sem]) rfl ⟨rfl, by go_grown⟩
  · have e1 : upN n d = n := by unfold upN; rw [if_neg h]
    have e2 : upD d = d := by unfold upD; rw [if_neg h]
    rw [e1, e2]
    clear e1 e2
    go_enter Tryd.func40, Tryd.ntmps40
    go_wp2
    exact bodyPost_ret (v := .agg #[.int .i64 n, .int .i64 d]) (by simp [results, Tryd.results40, go_sem]) rfl ⟨rfl, by go_grown⟩

theorem emod_eq (A : Int) (p : Int) : A - A / p * p = A % p := by
  have := Int.mul_ediv_add_emod A p
  rw [Int.mul_comm] at this
  omega
theorem quo_mul_rng {A p : Int} (hp : 1 ≤ p) (p1 : p ≤ 8589934592) (a0 : -8589934592 ≤ A) (a1 : A ≤ 8589934592) : -17179869184 ≤ A / p * p ∧ A / p * p ≤ 17179869184 ∧ -8589934592 ≤ A / p ∧ A / p ≤ 8589934592 := by
  have h1 := emod_eq A p
  have h2 := Int.emod_nonneg A (show p ≠ 0 by omega)
  have h3 := Int.emod_lt_of_pos A (show 0 < p by omega)
  refine ⟨by omega, by omega, ?_, ?_⟩
  · exact (Int.le_ediv_iff_mul_le (by omega)).2 (by have : -8589934592 * p ≤ -8589934592 * 1 := Int.mul_le_mul_of_nonpos_left (by omega) (by omega); omega)
  · have : A / p < 8589934593 := (Int.ediv_lt_iff_lt_mul (by omega)).2 (by have : 8589934593 * 1 ≤ 8589934593 * p := Int.mul_le_mul_of_nonneg_left (by omega) (by omega); omega)
    omega

set_option maxHeartbeats 1600000 in
theorem dcmp_fuel (k : Nat) : ∀ (A p B q : Int) (w : World), p.toNat + q.toNat ≤ k → 1 ≤ p → p ≤ 8589934592 → 1 ≤ q → q ≤ 8589934592 → -8589934592 ≤ A → A ≤ 8589934592 → -8589934592 ≤ B → B ≤ 8589934592 →
    Calls Tryd.prog 39 #[.agg #[.int .i64 A, .int .i64 p], .agg #[.int .i64 B, .int .i64 q]] w fun e w' => e = .returned (.int .i64 (compareInt (A * q) (B * p))) ∧ Below w.heap.size w w' := by
  induction k with
  | zero => intro A p B q w h hp; omega
  | succ k ih =>
    intro A p B q w hk hp p1 hq q1 a0 a1 b0 b1
    have HI := Lib.hid ih
    clear ih
    obtain ⟨x0, x1, x2, x3⟩ := quo_mul_rng hp p1 a0 a1
    obtain ⟨y0, y1, y2, y3⟩ := quo_mul_rng hq q1 b0 b1
    by_cases hxy : A / p = B / q
    · have hR := cmp_rest (A := A) (p := p) (B := B) (q := q) hxy
      rw [hR]
      have u0 := Int.emod_nonneg A (show p ≠ 0 by omega)
      have u1 := Int.emod_lt_of_pos A (show 0 < p by omega)
      have v0 := Int.emod_nonneg B (show q ≠ 0 by omega)
      have v1 := Int.emod_lt_of_pos B (show 0 < q by omega)
      have ea := emod_eq A p
      have eb := emod_eq B q
      have w1 : IntKind.i64.wrap (A / p * p) = A / p * p := by rw [IntKind.wrap_i64]; omega
      have w2 : IntKind.i64.wrap (A - A / p * p) = A % p := by rw [ea, IntKind.wrap_i64]; omega
      have w3 : IntKind.i64.wrap (B / q * q) = B / q * q := by rw [IntKind.wrap_i64]; omega
      have w4 : IntKind.i64.wrap (B - B / q * q) = B % q := by rw [eb, IntKind.wrap_i64]; omega
      have W1 := Lib.hid w1
      have W2 := Lib.hid w2
      have W3 := Lib.hid w3
      have W4 := Lib.hid w4
      have he : (A / p != B / q) = false := by rw [hxy]; simp
      clear hR hxy ea eb w1 w2 w3 w4
      by_cases hu : A % p = 0
      · by_cases hv : B % q = 0
        · have e : compareInt (A % p * q) (B % q * p) = 0 := by rw [hu, hv, Int.zero_mul, Int.zero_mul]; rfl
          rw [e]
          have tu : (A % p == 0) = true := by rw [beq_iff_eq]; exact hu
          have tv : (B % q == 0) = true := by rw [beq_iff_eq]; exact hv
          clear e hu hv HI
          go_enter Tryd.func39, Tryd.ntmps39
          go_wp2_with fail
          go_quiet ((go_at_call 55; exact quietL (below_any _ _ _ (by omega) (by omega) (by omega) (by omega))))
          go_wp2_with fail
          have w1 := W1.out
          have w2 := W2.out
          have w3 := W3.out
          have w4 := W4.out
          go_quiet (fail)
          clear w1 w2 w3 w4
          go_wp2
          go_ret
          refine ⟨rfl, bdrew ?_ _⟩
          go_grown
        · have e : compareInt (A % p * q) (B % q * p) = -1 := by rw [hu, Int.zero_mul]; exact cI_lt (Int.mul_pos (by omega) (by omega))
          rw [e]
          have tu : (A % p == 0) = true := by rw [beq_iff_eq]; exact hu
          have tv : (B % q == 0) = false := by rw [beq_eq_false_iff_ne]; exact hv
          clear e hu hv HI
          go_enter Tryd.func39, Tryd.ntmps39
          go_wp2_with fail
          go_quiet ((go_at_call 55; exact quietL (below_any _ _ _ (by omega) (by omega) (by omega) (by omega))))
          go_wp2_with fail
          have w1 := W1.out
          have w2 := W2.out
          have w3 := W3.out
          have w4 := W4.out
          go_quiet (fail)
          clear w1 w2 w3 w4
          go_wp2
          go_ret
          refine ⟨rfl, bdrew ?_ _⟩
          go_grown
      · by_cases hv : B % q = 0
        · have e : compareInt (A % p * q) (B % q * p) = 1 := by rw [hv, Int.zero_mul]; exact cI_gt (Int.mul_pos (by omega) (by omega))
          rw [e]
          have tu : (A % p == 0) = false := by rw [beq_eq_false_iff_ne]; exact hu
          have tv : (B % q == 0) = true := by rw [beq_iff_eq]; exact hv
          clear e hu hv HI
          go_enter Tryd.func39, Tryd.ntmps39
          go_wp2_with fail
          go_quiet ((go_at_call 55; exact quietL (below_any _ _ _ (by omega) (by omega) (by omega) (by omega))))
          go_wp2_with fail
          have w1 := W1.out
          have w2 := W2.out
          have w3 := W3.out
          have w4 := W4.out
          go_quiet (fail)
          clear w1 w2 w3 w4
          go_wp2
          go_ret
          refine ⟨rfl, bdrew ?_ _⟩
          go_grown
        · have tu : (A % p == 0) = false := by rw [beq_eq_false_iff_ne]; exact hu
          have tv : (B % q == 0) = false := by rw [beq_eq_false_iff_ne]; exact hv
          have HR := Lib.hid (HI.out q (B % q) p (A % p))
          have k1 : (B % q).toNat + (A % p).toNat ≤ k := by omega
          have k2 : 1 ≤ B % q := by omega
          have k3 : 1 ≤ A % p := by omega
          have K1 := Lib.hid k1
          clear hu hv HI k1 hk
          go_enter Tryd.func39, Tryd.ntmps39
          go_wp2_with fail
          go_quiet ((go_at_call 55; exact quietL (below_any _ _ _ (by omega) (by omega) (by omega) (by omega))))
          go_wp2_with fail
          have w1 := W1.out
          have w2 := W2.out
          have w3 := W3.out
          have w4 := W4.out
          go_quiet (fail)
          clear w1 w2 w3 w4
          go_wp2_with fail
          (with_reducible refine (HR.out _ K1.out k2 (by omega) k3 (by omega) (by omega) (by omega) (by omega) (by omega)).mono ?_); rintro e w' ⟨rfl, h1⟩
          go_wp2
          go_ret
          refine ⟨ret_i (by rw [Int.mul_comm q, Int.mul_comm p]), ?_⟩
          have g0 : Below w.heap.size w ((w.alloc (.cells #[.int .i64 A, .int .i64 p] 23)).alloc (.cells #[.int .i64 B, .int .i64 q] 23)) := by go_grown
          exact (bdrew g0 _).trans (h1.mono (by simp [World.drewN]; omega))
    · have hR := cmp_whole (A := A) (p := p) (B := B) (q := q) (by omega) (by omega) hxy
      rw [← hR]
      clear hR HI
      have hne : (A / p != B / q) = true := by rw [bne_iff_ne]; exact hxy
      rcases cI_cases (A / p) (B / q) with ⟨h, e⟩ | ⟨h, _⟩ | ⟨h, e⟩
      · rw [e]
        clear e
        have hlt : decide (A / p < B / q) = true := by rw [decide_eq_true_eq]; exact h
        clear h hxy
        go_enter Tryd.func39, Tryd.ntmps39
        go_wp2_with fail
        go_quiet ((go_at_call 55; exact quietL (below_any _ _ _ (by omega) (by omega) (by omega) (by omega))))
        go_wp2
        go_ret
        exact ⟨rfl, bdrew (by go_grown) _⟩
      · exact absurd h hxy
      · rw [e]
        clear e
        have hlt : decide (A / p < B / q) = false := by rw [decide_eq_false_iff_not]; omega
        clear h hxy
        go_enter Tryd.func39, Tryd.ntmps39
        go_wp2_with fail
        go_quiet ((go_at_call 55; exact quietL (below_any _ _ _ (by omega) (by omega) (by omega) (by omega))))
        go_wp2
        go_ret
        exact ⟨rfl, bdrew (by go_grown) _⟩
end Go.Proofs.YtnhophjahjphiaaDoor
