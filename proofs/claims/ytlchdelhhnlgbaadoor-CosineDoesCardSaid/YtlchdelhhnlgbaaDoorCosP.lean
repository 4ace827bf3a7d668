/- The transform in plain numbers: sums, the factors, rounding; accuracy, bounds, there and back, turned, flat. (No program: it builds in any seat.) -/
import Derived.Test.YtlchdelhhnlgbaaDoorRows
namespace Go.Proofs.YtlchdelhhnlgbaaDoor
set_option maxRecDepth 100000
set_option linter.unusedVariables false
def sm (f : Nat → Int) : Nat → Int
  | 0 => 0
  | n + 1 => sm f n + f n
theorem sm_congr {f g : Nat → Int} : ∀ n, (∀ i, i < n → f i = g i) → sm f n = sm g n
  | 0, _ => rfl
  | n + 1, h => by rw [sm, sm, sm_congr n fun i hi => h i (by omega), h n (by omega)]
theorem sm_add (f g : Nat → Int) : ∀ n, sm (fun i => f i + g i) n = sm f n + sm g n
  | 0 => rfl
  | n + 1 => by rw [sm, sm, sm, sm_add f g n]; omega
theorem sm_mul (c : Int) (f : Nat → Int) : ∀ n, sm (fun i => c * f i) n = c * sm f n
  | 0 => by simp [sm]
  | n + 1 => by rw [sm, sm, sm_mul c f n, Int.mul_add]
theorem sm_mulr (c : Int) (f : Nat → Int) : ∀ n, sm (fun i => f i * c) n = sm f n * c
  | 0 => by simp [sm]
  | n + 1 => by rw [sm, sm, sm_mulr c f n, Int.add_mul]
theorem sm_le {f g : Nat → Int} : ∀ n, (∀ i, i < n → f i ≤ g i) → sm f n ≤ sm g n
  | 0, _ => Int.le_refl _
  | n + 1, h => by
    have h1 := sm_le n fun i hi => h i (by omega)
    have h2 := h n (by omega)
    rw [sm, sm]; omega
theorem sm_zero : ∀ n, sm (fun _ => 0) n = 0
  | 0 => rfl
  | n + 1 => by rw [sm, sm_zero n]; rfl
theorem sm_append (f : Nat → Int) (a : Nat) : ∀ b, sm f (a + b) = sm f a + sm (fun i => f (a + i)) b
  | 0 => by simp [sm]
  | b + 1 => by rw [← Nat.add_assoc, sm, sm, sm_append f a b]; omega
theorem sm_comm (f : Nat → Nat → Int) (m : Nat) : ∀ n, sm (fun i => sm (fun j => f i j) m) n = sm (fun j => sm (fun i => f i j) n) m
  | 0 => by simp only [sm]; rw [sm_zero]
  | n + 1 => by
    rw [sm, sm_comm f m n, ← sm_add]
    exact sm_congr m fun j _ => rfl
/-- Rows behind one another. -/
theorem sm_rows (f : Nat → Int) (n : Nat) : ∀ m, sm f (n * m) = sm (fun y => sm (fun x => f (n * y + x)) n) m
  | 0 => rfl
  | m + 1 => by rw [Nat.mul_succ, sm_append, sm_rows f n m, sm]
theorem sm_64 (f : Nat → Int) : sm f 64 = sm (fun y => sm (fun x => f (8 * y + x)) 8) 8 := sm_rows f 8 8
theorem sm_prod (f g : Nat → Int) (m n : Nat) : sm (fun y => sm (fun x => f x * g y) n) m = sm f n * sm g m := by
  rw [sm_congr (g := fun y => sm f n * g y) m fun y _ => sm_mulr (g y) f n, sm_mul]
/-- The factors. -/
def fl : List Int := [0, 32138, 30274, 27246, 23170, 18205, 12540, 6393, 0]
def fk (k : Nat) : Int := if k ≤ 8 then fl.getD k 0 else if k ≤ 16 then -(fl.getD (16 - k) 0) else if k ≤ 24 then -(fl.getD (k - 16) 0) else fl.getD (32 - k) 0
def fc (u x : Nat) : Int := if u = 0 then 23170 else fk ((2 * x + 1) * u % 32)
/-- The weight of place p in coefficient q. -/
def wt (q p : Nat) : Int := fc (q % 8) (p % 8) * fc (q / 8) (p / 8)
/-- Rounding, in parts of 2^32. -/
def rd (s : Int) : Int := (s + 2147483648) / 4294967296
theorem rd_bnd (s : Int) : rd s * 4294967296 ≤ s + 2147483648 ∧ s + 2147483648 < rd s * 4294967296 + 4294967296 := by unfold rd; omega
def fS (b : Nat → Int) (q : Nat) : Int := sm (fun p => b p * wt q p) 64
def iS (c : Nat → Int) (p : Nat) : Int := sm (fun q => c q * wt q p) 64
theorem fS_rows (b : Nat → Int) (v u : Nat) (hu : u < 8) : fS b (8 * v + u) = sm (fun y => sm (fun x => b (8 * y + x) * fc u x * fc v y) 8) 8 := by
  unfold fS
  rw [sm_64]
  refine sm_congr 8 fun y _ => sm_congr 8 fun x hx => ?_
  unfold wt
  rw [show (8 * v + u) % 8 = u by omega, show (8 * y + x) % 8 = x by omega, show (8 * v + u) / 8 = v by omega, show (8 * y + x) / 8 = y by omega, Int.mul_assoc]
theorem iS_rows (c : Nat → Int) (y x : Nat) (hx : x < 8) : iS c (8 * y + x) = sm (fun v => sm (fun u => c (8 * v + u) * fc u x * fc v y) 8) 8 := by
  unfold iS
  rw [sm_64]
  refine sm_congr 8 fun v _ => sm_congr 8 fun u hu => ?_
  unfold wt
  rw [show (8 * v + u) % 8 = u by omega, show (8 * y + x) % 8 = x by omega, show (8 * v + u) / 8 = v by omega, show (8 * y + x) / 8 = y by omega, Int.mul_assoc]
theorem all64 {P : Nat → Prop} [DecidablePred P] (h : ((List.range 64).all fun q => decide (P q)) = true) : ∀ q, q < 64 → P q := fun q hq => by
  have := List.all_eq_true.1 h q (List.mem_range.2 hq)
  simpa using this
/-- How great a product can be. -/
theorem mul_max {n A lo hi : Int} (h1 : lo ≤ n) (h2 : n ≤ hi) : n * A ≤ max (lo * A) (hi * A) ∧ min (lo * A) (hi * A) ≤ n * A := by
  by_cases hA : 0 ≤ A
  · have a1 := Int.mul_le_mul_of_nonneg_right h1 hA
    have a2 := Int.mul_le_mul_of_nonneg_right h2 hA
    omega
  · have a1 := Int.mul_le_mul_of_nonpos_right h1 (show A ≤ 0 by omega)
    have a2 := Int.mul_le_mul_of_nonpos_right h2 (show A ≤ 0 by omega)
    omega
def topS (q : Nat) : Int := sm (fun p => max (-128 * wt q p) (127 * wt q p)) 64
def botS (q : Nat) : Int := sm (fun p => min (-128 * wt q p) (127 * wt q p)) 64
theorem topS_ok : ∀ q, q < 64 → topS q + 2147483648 < 1024 * 4294967296 ∧ (q = 0 → topS q + 2147483648 < 1017 * 4294967296) ∧ -1024 * 4294967296 ≤ botS q + 2147483648 ∧ (0 < q → -1023 * 4294967296 ≤ botS q + 2147483648) :=
  all64 (by decide +kernel)
/-- The coefficients of samples. -/
theorem c_bnd {b : Nat → Int} (hb : ∀ p, p < 64 → -128 ≤ b p ∧ b p ≤ 127) {q : Nat} (hq : q < 64) : -1024 ≤ rd (fS b q) ∧ rd (fS b q) ≤ 1023 ∧ (q = 0 → rd (fS b q) ≤ 1016) ∧ (0 < q → -1023 ≤ rd (fS b q)) := by
  obtain ⟨t1, t2, t3, t4⟩ := topS_ok q hq
  have u1 : fS b q ≤ topS q := sm_le 64 fun p hp => (mul_max (A := wt q p) (hb p hp).1 (hb p hp).2).1
  have u2 : botS q ≤ fS b q := sm_le 64 fun p hp => (mul_max (A := wt q p) (hb p hp).1 (hb p hp).2).2
  have r := rd_bnd (fS b q)
  generalize rd (fS b q) = c at *
  refine ⟨by omega, by omega, fun h => ?_, fun h => ?_⟩
  · have := t2 h; omega
  · have := t4 h; omega
end Go.Proofs.YtlchdelhhnlgbaaDoor
