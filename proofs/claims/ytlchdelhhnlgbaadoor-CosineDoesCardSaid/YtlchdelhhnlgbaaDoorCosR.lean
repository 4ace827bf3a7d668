/- The transform in plain numbers, third part: there and back. -/
import Derived.Test.YtlchdelhhnlgbaaDoorCosQ
namespace Go.Proofs.YtlchdelhhnlgbaaDoor
set_option maxRecDepth 100000
set_option linter.unusedVariables false
def mM (x z : Nat) : Int := sm (fun u => fc u x * fc u z) 8
def kK (r p : Nat) : Int := mM (r % 8) (p % 8) * mM (r / 8) (p / 8)
theorem kK_sum (r p : Nat) : sm (fun q => wt q r * wt q p) 64 = kK r p := by
  rw [sm_64]
  unfold kK mM
  rw [← sm_prod (fun u => fc u (r % 8) * fc u (p % 8)) (fun v => fc v (r / 8) * fc v (p / 8)) 8 8]
  refine sm_congr 8 fun v hv => sm_congr 8 fun u hu => ?_
  unfold wt
  rw [show (8 * v + u) % 8 = u by omega, show (8 * v + u) / 8 = v by omega, Int.mul_assoc, Int.mul_assoc, Int.mul_left_comm (fc v (r / 8))]
def ab (x : Int) : Int := max x (-x)
theorem mul_ab {n A B : Int} (h1 : -B ≤ n) (h2 : n ≤ B) : n * A ≤ B * ab A ∧ -(B * ab A) ≤ n * A := by
  unfold ab
  by_cases hA : 0 ≤ A
  · have a1 := Int.mul_le_mul_of_nonneg_right h1 hA
    have a2 := Int.mul_le_mul_of_nonneg_right h2 hA
    rw [show max A (-A) = A by omega]
    rw [Int.neg_mul] at a1
    omega
  · have a1 := Int.mul_le_mul_of_nonpos_right h1 (show A ≤ 0 by omega)
    have a2 := Int.mul_le_mul_of_nonpos_right h2 (show A ≤ 0 by omega)
    rw [show max A (-A) = -A by omega, Int.mul_neg]
    rw [Int.neg_mul] at a1
    omega
theorem sm_ab {f g : Nat → Int} {B : Int} (n : Nat) (hf : ∀ i, i < n → -B ≤ f i ∧ f i ≤ B) : sm (fun i => f i * g i) n ≤ B * sm (fun i => ab (g i)) n ∧ -(B * sm (fun i => ab (g i)) n) ≤ sm (fun i => f i * g i) n := by
  have a1 := sm_le (f := fun i => f i * g i) (g := fun i => B * ab (g i)) n fun i hi => (mul_ab (hf i hi).1 (hf i hi).2).1
  have a2 := sm_le (f := fun i => -B * ab (g i)) (g := fun i => f i * g i) n fun i hi => by have := (mul_ab (A := g i) (hf i hi).1 (hf i hi).2).2; rw [Int.neg_mul]; exact this
  rw [sm_mul] at a1 a2
  rw [Int.neg_mul] at a2
  exact ⟨a1, a2⟩
def dl (r p : Nat) : Int := if r = p then 18446744073709551616 else 0
def dD (p : Nat) : Int := sm (fun r => ab (kK r p - dl r p)) 64
def nN (p : Nat) : Int := sm (fun q => ab (wt q p)) 64
theorem back_ok : ∀ p, p < 64 → 128 * dD p + 2147483648 * nN p + 9223372036854775808 < 5 * 18446744073709551616 := all64 (by decide +kernel)
theorem sm_one (b : Nat → Int) (p : Nat) (c : Int) : ∀ n, sm (fun r => b r * (if r = p then c else 0)) n = if p < n then b p * c else 0
  | 0 => by simp [sm]
  | n + 1 => by
    rw [sm, sm_one b p c n]
    by_cases h : n = p
    · subst h
      rw [if_neg (Nat.lt_irrefl _), if_pos rfl, if_pos (by omega), Int.zero_add]
    · rw [if_neg h, Int.mul_zero, Int.add_zero]
      by_cases h2 : p < n
      · rw [if_pos h2, if_pos (by omega)]
      · rw [if_neg h2, if_neg (by omega)]
/-- What comes back is within 4. -/
theorem back_c {b c : Nat → Int} (hb : ∀ p, p < 64 → -128 ≤ b p ∧ b p ≤ 127) (hc : ∀ q, q < 64 → c q = rd (fS b q)) {p : Nat} (hp : p < 64) : b p - 4 ≤ rd (iS c p) ∧ rd (iS c p) ≤ b p + 4 := by
  -- 2^32 iS = sum of fS wt, and of what was rounded
  have e1 : 4294967296 * iS c p = sm (fun q => fS b q * wt q p) 64 + sm (fun q => (4294967296 * c q - fS b q) * wt q p) 64 := by
    unfold iS
    rw [← sm_mul, ← sm_add]
    refine sm_congr 64 fun q _ => ?_
    rw [Int.sub_mul, Int.mul_assoc]; omega
  have e2 : sm (fun q => fS b q * wt q p) 64 = sm (fun r => b r * kK r p) 64 := by
    have s1 : sm (fun q => fS b q * wt q p) 64 = sm (fun q => sm (fun r => b r * (wt q r * wt q p)) 64) 64 := by
      refine sm_congr 64 fun q _ => ?_
      unfold fS
      rw [← sm_mulr]
      exact sm_congr 64 fun r _ => Int.mul_assoc ..
    rw [s1, sm_comm]
    refine sm_congr 64 fun r _ => ?_
    rw [sm_mul, kK_sum]
  have e3 : sm (fun r => b r * kK r p) 64 = b p * 18446744073709551616 + sm (fun r => b r * (kK r p - dl r p)) 64 := by
    have s1 : sm (fun r => b r * dl r p) 64 = b p * 18446744073709551616 := by
      unfold dl
      rw [sm_one, if_pos hp]
    rw [← s1, ← sm_add]
    refine sm_congr 64 fun r _ => ?_
    rw [Int.mul_sub]; omega
  have b1 := sm_ab (f := b) (g := fun r => kK r p - dl r p) (B := 128) 64 fun i hi => by have := hb i hi; omega
  have b2 := sm_ab (f := fun q => 4294967296 * c q - fS b q) (g := fun q => wt q p) (B := 2147483648) 64 fun q hq => by
    show -2147483648 ≤ 4294967296 * c q - fS b q ∧ 4294967296 * c q - fS b q ≤ 2147483648
    rw [hc q hq]
    have := rd_bnd (fS b q)
    omega
  have ok := back_ok p hp
  have r := rd_bnd (iS c p)
  rw [e2, e3] at e1
  unfold dD nN at ok
  generalize sm (fun r => b r * (kK r p - dl r p)) 64 = s1 at *
  generalize sm (fun q => (4294967296 * c q - fS b q) * wt q p) 64 = s2 at *
  generalize sm (fun r => ab (kK r p - dl r p)) 64 = t1 at *
  generalize sm (fun q => ab (wt q p)) 64 = t2 at *
  generalize rd (iS c p) = z at *
  generalize iS c p = i at *
  generalize b p = x at *
  omega
end Go.Proofs.YtlchdelhhnlgbaaDoor
