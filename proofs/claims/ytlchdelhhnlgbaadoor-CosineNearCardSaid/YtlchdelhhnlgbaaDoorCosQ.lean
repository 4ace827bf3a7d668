/- The transform in plain numbers, second part: near the exact one; turned; flat; there and back. -/
import Derived.Test.YtlchdelhhnlgbaaDoorCosP
namespace Go.Proofs.YtlchdelhhnlgbaaDoor
set_option maxRecDepth 100000
set_option linter.unusedVariables false
/-- Half the cosine in parts of 10^7, brought down, without its sign; its sign. -/
def hd : List Int := [0, 4903926, 4619397, 4157348, 3535533, 2777851, 1913417, 975451, 0]
def hk (k : Nat) : Int × Int := if k ≤ 8 then (hd.getD k 0, 1) else if k ≤ 16 then (hd.getD (16 - k) 0, -1) else if k ≤ 24 then (hd.getD (k - 16) 0, -1) else (hd.getD (32 - k) 0, 1)
def hp (u x : Nat) : Int × Int := if u = 0 then (3535533, 1) else hk ((2 * x + 1) * u % 32)
def hL (q p : Nat) : Int := (hp (q % 8) (p % 8)).1 * (hp (q / 8) (p / 8)).1
def hM (q p : Nat) : Int := ((hp (q % 8) (p % 8)).1 + 1) * ((hp (q / 8) (p / 8)).1 + 1)
def hS (q p : Nat) : Int := (hp (q % 8) (p % 8)).2 * (hp (q / 8) (p / 8)).2
def lowS (b : Nat → Int) (q : Nat) : Int := sm (fun p => min (b p * hS q p * hL q p) (b p * hS q p * hM q p)) 64
def highS (b : Nat → Int) (q : Nat) : Int := sm (fun p => max (b p * hS q p * hL q p) (b p * hS q p * hM q p)) 64
def erS (q p : Nat) : Int := max 0 (max (100000000000000 * (wt q p * hS q p) - 4294967296 * hM q p) (4294967296 * hL q p - 100000000000000 * (wt q p * hS q p)))
theorem erS_ok : ∀ q, q < 64 → 128 * sm (fun p => erS q p) 64 ≤ 53687091200000000000000 := all64 (by decide +kernel)
theorem hS_ok : ∀ q, q < 64 → ∀ p, p < 64 → (hS q p = 1 ∨ hS q p = -1) ∧ hL q p ≤ hM q p := by
  have : ∀ q, q < 64 → ((List.range 64).all fun p => decide ((hS q p = 1 ∨ hS q p = -1) ∧ hL q p ≤ hM q p)) = true := all64 (by decide +kernel)
  exact fun q hq => all64 (this q hq)
/-- One term. -/
theorem near_term {n s W L M : Int} (hs : s = 1 ∨ s = -1) (hn1 : -128 ≤ n) (hn2 : n ≤ 127) {E : Int} (hE : E = max 0 (max (100000000000000 * (W * s) - 4294967296 * M) (4294967296 * L - 100000000000000 * (W * s)))) :
    100000000000000 * (n * W) ≤ 4294967296 * max (n * s * L) (n * s * M) + 128 * E ∧ 4294967296 * min (n * s * L) (n * s * M) - 128 * E ≤ 100000000000000 * (n * W) := by
  have e : n * W = (n * s) * (W * s) := by rcases hs with rfl | rfl <;> simp [Int.neg_mul, Int.mul_neg]
  rw [e]
  have hm : -128 ≤ n * s ∧ n * s ≤ 128 := by rcases hs with rfl | rfl <;> omega
  generalize n * s = m at *
  generalize W * s = A at *
  have e0 : 0 ≤ E := by omega
  have e1 : 100000000000000 * A - 4294967296 * M ≤ E := by omega
  have e2 : 4294967296 * L - 100000000000000 * A ≤ E := by omega
  clear hE
  by_cases h : 0 ≤ m
  · have a1 := Int.mul_le_mul_of_nonneg_left e1 h
    have a2 := Int.mul_le_mul_of_nonneg_left e2 h
    have a3 : m * E ≤ 128 * E := Int.mul_le_mul_of_nonneg_right hm.2 e0
    rw [Int.mul_sub, Int.mul_left_comm m, Int.mul_left_comm m] at a1 a2
    constructor
    · have : m * M ≤ max (m * L) (m * M) := by omega
      omega
    · have : min (m * L) (m * M) ≤ m * L := by omega
      omega
  · have a1 := Int.mul_le_mul_of_nonneg_left e1 (show 0 ≤ -m by omega)
    have a2 := Int.mul_le_mul_of_nonneg_left e2 (show 0 ≤ -m by omega)
    have a3 : -m * E ≤ 128 * E := Int.mul_le_mul_of_nonneg_right (by omega) e0
    rw [Int.mul_sub, Int.mul_left_comm (-m), Int.mul_left_comm (-m), Int.neg_mul, Int.neg_mul] at a1 a2
    constructor
    · have : m * L ≤ max (m * L) (m * M) := by omega
      omega
    · have : min (m * L) (m * M) ≤ m * M := by omega
      omega
theorem near_sum {b : Nat → Int} (hb : ∀ p, p < 64 → -128 ≤ b p ∧ b p ≤ 127) {q : Nat} (hq : q < 64) :
    100000000000000 * fS b q ≤ 4294967296 * highS b q + 53687091200000000000000 ∧ 4294967296 * lowS b q - 53687091200000000000000 ≤ 100000000000000 * fS b q := by
  have E : 128 * sm (erS q) 64 ≤ 53687091200000000000000 := erS_ok q hq
  have T := fun p (hp : p < 64) => near_term (n := b p) (W := wt q p) (L := hL q p) (M := hM q p) (hS_ok q hq p hp).1 (hb p hp).1 (hb p hp).2 (E := erS q p) rfl
  have a1 : sm (fun p => 100000000000000 * (b p * wt q p)) 64 ≤ sm (fun p => 4294967296 * max (b p * hS q p * hL q p) (b p * hS q p * hM q p) + 128 * erS q p) 64 := sm_le 64 fun p hp => (T p hp).1
  have a2 : sm (fun p => 4294967296 * min (b p * hS q p * hL q p) (b p * hS q p * hM q p) + -128 * erS q p) 64 ≤ sm (fun p => 100000000000000 * (b p * wt q p)) 64 := sm_le 64 fun p hp => by have := (T p hp).2; omega
  rw [sm_add, sm_mul, sm_mul, sm_mul] at a1 a2
  unfold fS highS lowS
  omega
/-- Each coefficient is within 5/8 of the exact one. -/
theorem near_c {b : Nat → Int} (hb : ∀ p, p < 64 → -128 ≤ b p ∧ b p ≤ 127) {q : Nat} (hq : q < 64) :
    8 * rd (fS b q) * 100000000000000 ≤ 8 * highS b q + 5 * 100000000000000 ∧ 8 * lowS b q - 5 * 100000000000000 ≤ 8 * rd (fS b q) * 100000000000000 := by
  obtain ⟨h1, h2⟩ := near_sum hb hq
  have r := rd_bnd (fS b q)
  generalize rd (fS b q) = c at *
  omega
/-- Turned about the diagonal. -/
def tr (p : Nat) : Nat := p % 8 * 8 + p / 8
theorem tr_lt {p : Nat} (h : p < 64) : tr p < 64 := by unfold tr; omega
theorem tr_tr {p : Nat} (h : p < 64) : tr (tr p) = p := by unfold tr; omega
theorem wt_tr {q p : Nat} (hq : q < 64) (hp : p < 64) : wt (tr q) (tr p) = wt q p := by
  unfold wt tr
  rw [show (q % 8 * 8 + q / 8) % 8 = q / 8 by omega, show (p % 8 * 8 + p / 8) % 8 = p / 8 by omega, show (q % 8 * 8 + q / 8) / 8 = q % 8 by omega, show (p % 8 * 8 + p / 8) / 8 = p % 8 by omega, Int.mul_comm]
theorem sm_tr (f : Nat → Int) : sm (fun p => f (tr p)) 64 = sm f 64 := by
  rw [sm_64, sm_64, sm_comm]
  refine sm_congr 8 fun y hy => sm_congr 8 fun x hx => ?_
  unfold tr
  rw [show (8 * x + y) % 8 * 8 + (8 * x + y) / 8 = 8 * y + x by omega]
theorem turned {b t : Nat → Int} (ht : ∀ p, p < 64 → t (tr p) = b p) {q : Nat} (hq : q < 64) : fS t (tr q) = fS b q := by
  unfold fS
  rw [← sm_tr]
  exact sm_congr 64 fun p hp => by rw [ht p hp, wt_tr hq hp]
/-- Of one number. -/
def rowS (q : Nat) : Int := sm (fun p => wt q p) 64
theorem rowS_zero : ∀ q, q < 64 → 0 < q → rowS q = 0 := by
  have := all64 (P := fun q => 0 < q → rowS q = 0) (by decide +kernel)
  exact this
theorem rowS_first : rowS 0 = 34358329600 := by decide +kernel
theorem flat_c {n : Int} (h1 : -128 ≤ n) (h2 : n ≤ 127) {q : Nat} (hq : q < 64) : rd (fS (fun _ => n) q) = if q = 0 then 8 * n else 0 := by
  have e : fS (fun _ => n) q = n * rowS q := sm_mul n (fun p => wt q p) 64
  rw [e]
  by_cases h : q = 0
  · subst h
    rw [if_pos rfl, rowS_first]
    unfold rd
    omega
  · rw [if_neg h, rowS_zero q hq (by omega)]
    simp [rd]
end Go.Proofs.YtlchdelhhnlgbaaDoor
