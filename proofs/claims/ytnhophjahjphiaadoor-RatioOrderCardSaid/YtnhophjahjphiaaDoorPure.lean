/- Plain facts on the numbers of layer 1 (octet): what each call says, without any program. -/
import Derived.WalkKit
import Derived.IntWalk
namespace Go.Proofs.YtnhophjahjphiaaDoor
open Go

theorem and_mask (n m : Int) (j : Nat) (h : (BitVec.ofInt 64 m).toNat = 2 ^ j - 1) (h64 : (2 : Int) ^ j ∣ 18446744073709551616) (hj : (2 : Int) ^ j ≤ 9223372036854775808) : bits .and .i64 n m = n % 2 ^ j := by
  have key : (BitVec.ofInt 64 n &&& BitVec.ofInt 64 m).toNat = (n % ((2 ^ 64 : Nat) : Int)).toNat % 2 ^ j := by
    rw [BitVec.toNat_and, BitVec.toNat_ofInt, h, Nat.and_two_pow_sub_one_eq_mod]
  show IntKind.i64.wrap ((BitVec.ofInt 64 n &&& BitVec.ofInt 64 m).toNat : Nat) = n % 2 ^ j
  rw [key, IntKind.wrap_i64]
  have hp : (0 : Int) < 2 ^ j := Int.pow_pos (by decide)
  have h1 : ((((n % ((2 ^ 64 : Nat) : Int)).toNat % 2 ^ j : Nat)) : Int) = n % 2 ^ j := by
    rw [Int.natCast_emod, Int.toNat_of_nonneg (Int.emod_nonneg _ (by decide))]
    rw [show (((2 ^ j : Nat)) : Int) = (2 : Int) ^ j from by simp]
    exact Int.emod_emod_of_dvd n h64
  rw [h1]
  have := Int.emod_nonneg n (show (2 : Int) ^ j ≠ 0 by omega)
  have := Int.emod_lt_of_pos n hp
  omega

theorem and1 (n : Int) : bits .and .i64 n 1 = n % 2 := and_mask n 1 1 (by decide) (by decide) (by decide)
theorem and255 (n : Int) : bits .and .i64 n 255 = n % 256 := and_mask n 255 8 (by decide) (by decide) (by decide)
theorem and65535 (n : Int) : bits .and .i64 n 65535 = n % 65536 := and_mask n 65535 16 (by decide) (by decide) (by decide)
theorem and32 (n : Int) : bits .and .i64 n 4294967295 = n % 4294967296 := and_mask n 4294967295 32 (by decide) (by decide) (by decide)

/-- One more than the greatest number of a size; 0: no size. -/
def topI (s : Int) : Int := if s = 1 then 256 else if s = 2 then 65536 else if s = 4 then 4294967296 else 0
def okSize (s : Int) : Prop := s = 1 ∨ s = 2 ∨ s = 4
instance (s : Int) : Decidable (okSize s) := inferInstanceAs (Decidable (s = 1 ∨ s = 2 ∨ s = 4))
theorem topI_pos {s : Int} (h : okSize s) : 0 < topI s := by
  rcases h with rfl | rfl | rfl <;> decide
theorem topI_zero {s : Int} (h : ¬ okSize s) : topI s = 0 := by
  unfold okSize at h
  unfold topI
  rw [if_neg (by omega), if_neg (by omega), if_neg (by omega)]
theorem topI_rng (s : Int) : 0 ≤ topI s ∧ topI s ≤ 4294967296 := by
  unfold topI
  repeat (first | split | omega)
theorem topI_even (s : Int) : topI s % 2 = 0 := by
  unfold topI
  repeat (first | split | decide)
def sgd (n s : Int) : Int × Bool := if n < 0 ∨ topI s ≤ n then (0, false) else if topI s ≤ 2 * n then (n - topI s, true) else (n, true)
def pln (n s : Int) : Int × Bool := if n < - (topI s / 2) ∨ topI s / 2 ≤ n then (0, false) else if n < 0 then (n + topI s, true) else (n, true)
def addP (a b : Int) : Int × Bool := if a < 0 ∨ b < 0 ∨ 4294967295 < a ∨ 4294967295 < b ∨ 4294967295 < a + b then (0, false) else (a + b, true)
def roomB (a l e : Int) : Bool := decide (0 ≤ a ∧ 0 ≤ l ∧ a ≤ e ∧ l ≤ e - a)
def evn (n : Int) : Int := n + n % 2

theorem low_eq {n s : Int} (h : okSize s) : n % topI s = n ↔ 0 ≤ n ∧ n < topI s := by
  have hp := topI_pos h
  constructor
  · intro e
    rw [← e]
    exact ⟨Int.emod_nonneg _ (by omega), Int.emod_lt_of_pos _ hp⟩
  · rintro ⟨h1, h2⟩
    exact Int.emod_eq_of_lt h1 h2
/-- What the lowest bytes say in two's complement. -/
def extI (n s : Int) : Int := (n + topI s / 2) % topI s - topI s / 2
theorem ext_sgd {n s : Int} (h : okSize s) (h0 : 0 ≤ n) (h1 : n < topI s) : sgd n s = (extI n s, true) := by
  unfold sgd extI
  rw [if_neg (by omega)]
  rcases h with rfl | rfl | rfl <;> simp only [topI] at * <;> simp at * <;> split <;> simp <;> omega
theorem ext_eq {n s : Int} (h : okSize s) : extI n s = n ↔ - (topI s / 2) ≤ n ∧ n < topI s / 2 := by
  unfold extI
  rcases h with rfl | rfl | rfl <;> simp [topI] <;> omega
theorem low_pln {n s : Int} (h : okSize s) (h0 : - (topI s / 2) ≤ n) (h1 : n < topI s / 2) : pln n s = (n % topI s, true) := by
  unfold pln
  rw [if_neg (by omega)]
  rcases h with rfl | rfl | rfl <;> simp only [topI] at * <;> simp at * <;> split <;> simp <;> omega
theorem sgd_no {n s : Int} (h : n < 0 ∨ topI s ≤ n) : sgd n s = (0, false) := by unfold sgd; rw [if_pos h]
theorem pln_no {n s : Int} (h : n < - (topI s / 2) ∨ topI s / 2 ≤ n) : pln n s = (0, false) := by unfold pln; rw [if_pos h]
theorem pln_small (n : Int) {s : Int} (h : ¬ okSize s) : pln n s = (0, false) := by
  apply pln_no; rw [topI_zero h]; omega
theorem sgd_small (n : Int) {s : Int} (h : ¬ okSize s) : sgd n s = (0, false) := by
  apply sgd_no; rw [topI_zero h]; omega
end Go.Proofs.YtnhophjahjphiaaDoor
