/- Plain facts on the numbers of layer 2 (ratio): order, lowest terms, the nearest ratio; without any program. -/
import Derived.WalkKit
import Derived.Lib.Small
namespace Go.Proofs.YtnhophjahjphiaaDoor
open Go
open Go.Lib (compareInt)

theorem cI_lt {x y : Int} (h : x < y) : compareInt x y = -1 := by unfold compareInt; rw [if_pos h]
theorem cI_gt {x y : Int} (h : y < x) : compareInt x y = 1 := by unfold compareInt; rw [if_neg (by omega), if_pos (by omega)]
theorem cI_eq {x y : Int} (h : x = y) : compareInt x y = 0 := by unfold compareInt; rw [if_neg (by omega), if_neg (by omega)]
theorem cI_cases (x y : Int) : (x < y ∧ compareInt x y = -1) ∨ (x = y ∧ compareInt x y = 0) ∨ (y < x ∧ compareInt x y = 1) := by
  rcases Int.lt_trichotomy x y with h | h | h
  · exact .inl ⟨h, cI_lt h⟩
  · exact .inr (.inl ⟨h, cI_eq h⟩)
  · exact .inr (.inr ⟨h, cI_gt h⟩)
theorem cI_rng (x y : Int) : -1 ≤ compareInt x y ∧ compareInt x y ≤ 1 := by
  rcases cI_cases x y with h | h | h <;> omega
theorem cI_swap (x y : Int) : compareInt y x = - compareInt x y := by
  rcases cI_cases x y with h | h | h <;> rcases cI_cases y x with k | k | k <;> omega
theorem cI_scale {k : Int} (x y : Int) (hk : 0 < k) : compareInt (x * k) (y * k) = compareInt x y := by
  rcases cI_cases x y with ⟨h, e⟩ | ⟨h, e⟩ | ⟨h, e⟩
  · rw [e]; exact cI_lt (Int.mul_lt_mul_of_pos_right h hk)
  · rw [e]; exact cI_eq (by rw [h])
  · rw [e]; exact cI_gt (Int.mul_lt_mul_of_pos_right h hk)

/-- Valid unsigned, valid signed, valid; with a value. -/
def plainB (n d : Int) : Bool := decide (0 ≤ n ∧ n ≤ 4294967295 ∧ 0 ≤ d ∧ d ≤ 4294967295)
def signB (n d : Int) : Bool := decide (-2147483648 ≤ n ∧ n ≤ 2147483647 ∧ -2147483648 ≤ d ∧ d ≤ 2147483647)
def validB (n d : Int) : Bool := plainB n d || signB n d
def hasB (n d : Int) : Bool := validB n d && decide (d ≠ 0)
theorem plainB_iff {n d : Int} : plainB n d = true ↔ (0 ≤ n ∧ n ≤ 4294967295 ∧ 0 ≤ d ∧ d ≤ 4294967295) := by unfold plainB; rw [decide_eq_true_eq]
theorem validB_rng {n d : Int} (h : validB n d = true) : (-2147483648 ≤ n ∧ n ≤ 4294967295) ∧ (-2147483648 ≤ d ∧ d ≤ 4294967295) := by
  unfold validB plainB signB at h
  rw [Bool.or_eq_true, decide_eq_true_eq, decide_eq_true_eq] at h
  omega
theorem hasB_iff {n d : Int} : hasB n d = true ↔ validB n d = true ∧ d ≠ 0 := by unfold hasB; rw [Bool.and_eq_true, decide_eq_true_eq]

/-- The numerator and the denominator, with the denominator above 0. -/
def upN (n d : Int) : Int := if d < 0 then -n else n
def upD (d : Int) : Int := if d < 0 then -d else d
def absI (n : Int) : Int := if n < 0 then -n else n
theorem upD_pos {d : Int} (h : d ≠ 0) : 0 < upD d := by unfold upD; split <;> omega
theorem absI_nn (n : Int) : 0 ≤ absI n := by unfold absI; split <;> omega
theorem absI_up (d : Int) : absI d = upD d := rfl
theorem absI_upN (n d : Int) : absI (upN n d) = absI n := by unfold absI upN; split <;> (try split) <;> (try split) <;> omega
/-- How the values of two ratios are to each other. -/
def cmpR (an ad bn bd : Int) : Int := compareInt (upN an ad * upD bd) (upN bn bd * upD ad)
def sgn (n d : Int) : Int := compareInt n 0 * compareInt d 0
theorem sgn_up (n : Int) {d : Int} (h : d ≠ 0) : sgn n d = compareInt (upN n d) 0 := by
  unfold sgn upN
  rcases cI_cases n 0 with ⟨h1, e1⟩ | ⟨h1, e1⟩ | ⟨h1, e1⟩ <;> rw [e1] <;>
    rcases cI_cases d 0 with ⟨h2, e2⟩ | ⟨h2, e2⟩ | ⟨h2, e2⟩ <;> rw [e2] <;> (try omega) <;> split <;>
    (first | (rw [cI_lt (by omega)]; rfl) | (rw [cI_gt (by omega)]; rfl) | (rw [cI_eq (by omega)]; rfl) | omega)

theorem cmp_core (A p B q : Int) (hp : 0 < p) (hq : 0 < q) :
    (compareInt A 0 ≠ compareInt B 0 → compareInt (compareInt A 0) (compareInt B 0) = compareInt (A * q) (B * p)) ∧
    (compareInt A 0 = compareInt B 0 → compareInt A 0 * compareInt (absI A * q) (absI B * p) = compareInt (A * q) (B * p)) := by
  have n1 : A < 0 → A * q < 0 := fun h => Int.mul_neg_of_neg_of_pos h hq
  have n2 : 0 < A → 0 < A * q := fun h => Int.mul_pos h hq
  have n3 : A = 0 → A * q = 0 := fun h => by rw [h, Int.zero_mul]
  have m1 : B < 0 → B * p < 0 := fun h => Int.mul_neg_of_neg_of_pos h hp
  have m2 : 0 < B → 0 < B * p := fun h => Int.mul_pos h hp
  have m3 : B = 0 → B * p = 0 := fun h => by rw [h, Int.zero_mul]
  rcases cI_cases A 0 with ⟨ha, ea⟩ | ⟨ha, ea⟩ | ⟨ha, ea⟩ <;> rcases cI_cases B 0 with ⟨hb, eb⟩ | ⟨hb, eb⟩ | ⟨hb, eb⟩ <;> rw [ea, eb]
  · refine ⟨fun h => absurd rfl h, fun _ => ?_⟩
    have e1 : absI A = -A := by unfold absI; rw [if_pos ha]
    have e2 : absI B = -B := by unfold absI; rw [if_pos hb]
    rw [e1, e2, Int.neg_mul A, Int.neg_mul B]
    generalize A * q = X
    generalize B * p = Y
    rcases cI_cases X Y with k | k | k <;> rcases cI_cases (-X) (-Y) with j | j | j <;> omega
  · have := n1 ha; have := m3 hb
    exact ⟨fun _ => by rw [cI_lt (x := A * q) (by omega)]; rfl, fun h => absurd h (by decide)⟩
  · have := n1 ha; have := m2 hb
    exact ⟨fun _ => by rw [cI_lt (x := A * q) (by omega)]; rfl, fun h => absurd h (by decide)⟩
  · have := n3 ha; have := m1 hb
    exact ⟨fun _ => by rw [cI_gt (x := A * q) (by omega)]; rfl, fun h => absurd h (by decide)⟩
  · refine ⟨fun h => absurd rfl h, fun _ => ?_⟩
    rw [n3 ha, m3 hb, Int.zero_mul]; rfl
  · have := n3 ha; have := m2 hb
    exact ⟨fun _ => by rw [cI_lt (x := A * q) (by omega)]; rfl, fun h => absurd h (by decide)⟩
  · have := n2 ha; have := m1 hb
    exact ⟨fun _ => by rw [cI_gt (x := A * q) (by omega)]; rfl, fun h => absurd h (by decide)⟩
  · have := n2 ha; have := m3 hb
    exact ⟨fun _ => by rw [cI_gt (x := A * q) (by omega)]; rfl, fun h => absurd h (by decide)⟩
  · refine ⟨fun h => absurd rfl h, fun _ => ?_⟩
    have e1 : absI A = A := by unfold absI; rw [if_neg (by omega)]
    have e2 : absI B = B := by unfold absI; rw [if_neg (by omega)]
    rw [e1, e2, Int.one_mul]

/-- What ratio.Cmp reckons. -/
theorem cmp_code (an ad bn bd : Int) (ha : ad ≠ 0) (hb : bd ≠ 0) :
    (sgn an ad ≠ sgn bn bd → compareInt (sgn an ad) (sgn bn bd) = cmpR an ad bn bd) ∧
    (sgn an ad = sgn bn bd → sgn an ad * compareInt (absI an * absI bd) (absI bn * absI ad) = cmpR an ad bn bd) := by
  have h := cmp_core (upN an ad) (upD ad) (upN bn bd) (upD bd) (upD_pos ha) (upD_pos hb)
  rw [absI_upN, absI_upN] at h
  rw [sgn_up an ha, sgn_up bn hb, absI_up ad, absI_up bd]
  exact h

/-- One step of the document's way: whole parts first, then what is left the other way round. -/
theorem cmp_whole {A p B q : Int} (hp : 0 < p) (hq : 0 < q) (h : A / p ≠ B / q) : compareInt (A / p) (B / q) = compareInt (A * q) (B * p) := by
  have a1 : A = A / p * p + A % p := by have := Int.mul_ediv_add_emod A p; rw [Int.mul_comm] at this; omega
  have b1 : B = B / q * q + B % q := by have := Int.mul_ediv_add_emod B q; rw [Int.mul_comm] at this; omega
  have a2 := Int.emod_nonneg A (show p ≠ 0 by omega)
  have a3 := Int.emod_lt_of_pos A hp
  have b2 := Int.emod_nonneg B (show q ≠ 0 by omega)
  have b3 := Int.emod_lt_of_pos B hq
  rcases Int.lt_or_gt_of_ne h with h | h
  · rw [cI_lt h]
    symm
    apply cI_lt
    have s1 : A < (A / p + 1) * p := by rw [Int.add_mul, Int.one_mul]; omega
    have s2 : (A / p + 1) * p ≤ B / q * p := Int.mul_le_mul_of_nonneg_right (by omega) (by omega)
    have s3 : A * q < B / q * p * q := Int.mul_lt_mul_of_pos_right (by omega) hq
    have s4 : B / q * q * p ≤ B * p := Int.mul_le_mul_of_nonneg_right (by omega) (by omega)
    have s5 : B / q * p * q = B / q * q * p := by rw [Int.mul_assoc, Int.mul_comm p q, ← Int.mul_assoc]
    omega
  · rw [cI_gt h]
    symm
    apply cI_gt
    have s1 : B < (B / q + 1) * q := by rw [Int.add_mul, Int.one_mul]; omega
    have s2 : (B / q + 1) * q ≤ A / p * q := Int.mul_le_mul_of_nonneg_right (by omega) (by omega)
    have s3 : B * p < A / p * q * p := Int.mul_lt_mul_of_pos_right (by omega) hp
    have s4 : A / p * p * q ≤ A * q := Int.mul_le_mul_of_nonneg_right (by omega) (by omega)
    have s5 : A / p * q * p = A / p * p * q := by rw [Int.mul_assoc, Int.mul_comm q p, ← Int.mul_assoc]
    omega
theorem cmp_rest {A p B q : Int} (h : A / p = B / q) : compareInt (A * q) (B * p) = compareInt (A % p * q) (B % q * p) := by
  have a1 : A = A / p * p + A % p := by have := Int.mul_ediv_add_emod A p; rw [Int.mul_comm] at this; omega
  have b1 : B = B / q * q + B % q := by have := Int.mul_ediv_add_emod B q; rw [Int.mul_comm] at this; omega
  have e1 : A * q = A / p * p * q + A % p * q := by rw [← Int.add_mul, ← a1]
  have e2 : B * p = A / p * p * q + B % q * p := by
    rw [show A / p * p * q = B / q * q * p from by rw [h, Int.mul_assoc, Int.mul_comm p q, ← Int.mul_assoc], ← Int.add_mul, ← b1]
  rw [e1, e2]
  generalize A % p * q = X
  generalize B % q * p = Y
  generalize A / p * p * q = Z
  rcases cI_cases X Y with k | k | k <;> rcases cI_cases (Z + X) (Z + Y) with j | j | j <;> omega

/-- The order: three of them. -/
theorem cmpR_swap (an ad bn bd : Int) : cmpR bn bd an ad = - cmpR an ad bn bd := cI_swap _ _
theorem cmpR_three (an ad bn bd cn cd : Int) (ha : ad ≠ 0) (hb : bd ≠ 0) (hc : cd ≠ 0) :
    (cmpR an ad bn bd ≤ 0 → cmpR bn bd cn cd ≤ 0 → cmpR an ad cn cd ≤ 0) ∧ (0 ≤ cmpR an ad bn bd → 0 ≤ cmpR bn bd cn cd → 0 ≤ cmpR an ad cn cd) ∧
    (cmpR an ad bn bd = 0 → cmpR bn bd cn cd = cmpR an ad cn cd) ∧ (cmpR bn bd cn cd = 0 → cmpR an ad bn bd = cmpR an ad cn cd) := by
  have p := upD_pos ha
  have q := upD_pos hb
  have r := upD_pos hc
  have e1 := cI_scale (upN an ad * upD bd) (upN bn bd * upD ad) r
  have e2 := cI_scale (upN bn bd * upD cd) (upN cn cd * upD bd) p
  have e3 := cI_scale (upN an ad * upD cd) (upN cn cd * upD ad) q
  have k1 : upN an ad * upD cd * upD bd = upN an ad * upD bd * upD cd := by rw [Int.mul_assoc, Int.mul_comm (upD cd), ← Int.mul_assoc]
  have k2 : upN bn bd * upD cd * upD ad = upN bn bd * upD ad * upD cd := by rw [Int.mul_assoc, Int.mul_comm (upD cd), ← Int.mul_assoc]
  have k3 : upN cn cd * upD ad * upD bd = upN cn cd * upD bd * upD ad := by rw [Int.mul_assoc, Int.mul_comm (upD ad), ← Int.mul_assoc]
  rw [k1, k3] at e3
  rw [k2] at e2
  unfold cmpR
  rw [← e1, ← e2, ← e3]
  generalize upN an ad * upD bd * upD cd = X
  generalize upN bn bd * upD ad * upD cd = Y
  generalize upN cn cd * upD bd * upD ad = Z
  rcases cI_cases X Y with h | h | h <;> rcases cI_cases Y Z with j | j | j <;> rcases cI_cases X Z with k | k | k <;> omega
theorem cmpR_rng (an ad bn bd : Int) : -1 ≤ cmpR an ad bn bd ∧ cmpR an ad bn bd ≤ 1 := cI_rng _ _

/-- Lowest terms. -/
def gcdI (n d : Int) : Int := ((Nat.gcd n.natAbs d.natAbs : Nat) : Int)
def leastN (n d : Int) : Int := upN n d / gcdI n d
def leastD (n d : Int) : Int := upD d / gcdI n d
theorem gcdI_pos (n : Int) {d : Int} (h : d ≠ 0) : 0 < gcdI n d := by
  have : 0 < Nat.gcd n.natAbs d.natAbs := Nat.gcd_pos_of_pos_right _ (Int.natAbs_pos.2 h)
  unfold gcdI; omega
theorem gcdI_dvd_n (n d : Int) : gcdI n d ∣ n := by
  exact Int.gcd_dvd_left n d
theorem gcdI_dvd_d (n d : Int) : gcdI n d ∣ d := by
  exact Int.gcd_dvd_right n d
theorem upN_dvd (n d : Int) : gcdI n d ∣ upN n d := by
  unfold upN; split
  · exact Int.dvd_neg.2 (gcdI_dvd_n n d)
  · exact gcdI_dvd_n n d
theorem upD_dvd (n d : Int) : gcdI n d ∣ upD d := by
  unfold upD; split
  · exact Int.dvd_neg.2 (gcdI_dvd_d n d)
  · exact gcdI_dvd_d n d
theorem leastN_mul (n d : Int) : leastN n d * gcdI n d = upN n d := Int.ediv_mul_cancel (upN_dvd n d)
theorem leastD_mul (n d : Int) : leastD n d * gcdI n d = upD d := Int.ediv_mul_cancel (upD_dvd n d)
theorem leastD_pos (n : Int) {d : Int} (h : d ≠ 0) : 0 < leastD n d := by
  have h1 := leastD_mul n d
  have h2 := upD_pos h
  have h3 := gcdI_pos n h
  rcases Int.lt_or_le 0 (leastD n d) with k | k
  · exact k
  · have : leastD n d * gcdI n d ≤ 0 := Int.mul_nonpos_of_nonpos_of_nonneg k (by omega)
    omega
/-- What both divisions give. -/
theorem least_tdiv (n : Int) {d : Int} (h : d ≠ 0) :
    (d < 0 → n.tdiv (-gcdI n d) = leastN n d ∧ d.tdiv (-gcdI n d) = leastD n d) ∧ (¬ d < 0 → n.tdiv (gcdI n d) = leastN n d ∧ d.tdiv (gcdI n d) = leastD n d) := by
  have hg := gcdI_pos n h
  have e1 := leastN_mul n d
  have e2 := leastD_mul n d
  constructor
  · intro hd
    have u1 : upN n d = -n := by unfold upN; rw [if_pos hd]
    have u2 : upD d = -d := by unfold upD; rw [if_pos hd]
    constructor
    · have : n = leastN n d * (-gcdI n d) := by rw [Int.mul_neg, e1, u1]; omega
      conv => lhs; lhs; rw [this]
      exact Int.mul_tdiv_cancel _ (by omega)
    · have : d = leastD n d * (-gcdI n d) := by rw [Int.mul_neg, e2, u2]; omega
      have k : (leastD n d * (-gcdI n d)).tdiv (-gcdI n d) = leastD n d := Int.mul_tdiv_cancel _ (by omega)
      rw [← this] at k
      exact k
  · intro hd
    have u1 : upN n d = n := by unfold upN; rw [if_neg hd]
    have u2 : upD d = d := by unfold upD; rw [if_neg hd]
    constructor
    · have : n = leastN n d * gcdI n d := by rw [e1, u1]
      have k : (leastN n d * gcdI n d).tdiv (gcdI n d) = leastN n d := Int.mul_tdiv_cancel _ (by omega)
      rw [← this] at k
      exact k
    · have : d = leastD n d * gcdI n d := by rw [e2, u2]
      have k : (leastD n d * gcdI n d).tdiv (gcdI n d) = leastD n d := Int.mul_tdiv_cancel _ (by omega)
      rw [← this] at k
      exact k
end Go.Proofs.YtnhophjahjphiaaDoor
