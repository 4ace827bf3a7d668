/- Tables, blocks scaled, divided, multiplied: in plain numbers. -/
import Derived.Test.YtlchdelhhnlgbaaDoorZPm
namespace Go.Proofs.YtlchdelhhnlgbaaDoor
set_option maxRecDepth 100000
set_option linter.unusedVariables false
/-- Are all numbers from a to b? -/
def wiB (l : List Int) (a b : Int) : Bool := l.all fun x => decide (a ≤ x) && decide (x ≤ b)
theorem wiB_iff {l : List Int} {a b : Int} : wiB l a b = true ↔ ∀ x ∈ l, a ≤ x ∧ x ≤ b := by simp [wiB]
theorem getD_mem {l : List Int} {k : Nat} (h : k < l.length) : l.getD k 0 ∈ l := by
  rw [List.getD_eq_getElem?_getD, List.getElem?_eq_getElem h]
  exact List.getElem_mem h
theorem mem_getD {l : List Int} {x : Int} (h : x ∈ l) : ∃ k, k < l.length ∧ l.getD k 0 = x := by
  obtain ⟨k, hk, rfl⟩ := List.mem_iff_getElem.1 h
  exact ⟨k, hk, by rw [List.getD_eq_getElem?_getD, List.getElem?_eq_getElem hk]; rfl⟩
theorem wiB_at {l : List Int} {a b : Int} (h : wiB l a b = true) {k : Nat} (hk : k < l.length) : a ≤ l.getD k 0 ∧ l.getD k 0 ≤ b := wiB_iff.1 h _ (getD_mem hk)
theorem wiB_of {l : List Int} {a b : Int} (h : ∀ k, k < l.length → a ≤ l.getD k 0 ∧ l.getD k 0 ≤ b) : wiB l a b = true := wiB_iff.2 fun x hx => by
  obtain ⟨k, hk, rfl⟩ := mem_getD hx
  exact h k hk
theorem wiB_no {l : List Int} {a b : Int} {k : Nat} (hk : k < l.length) (h : l.getD k 0 < a ∨ b < l.getD k 0) : wiB l a b = false := by
  cases hb : wiB l a b with
  | false => rfl
  | true => have := wiB_at hb hk; omega
def mapB (F : Nat → Int) : List Int := (List.range 64).map F
def partK (F : Nat → Int) (k : Nat) : List Int := (List.range 64).map fun p => if p < k then F p else 0
theorem mapB_len (F : Nat → Int) : (mapB F).length = 64 := map64_len _
theorem partK_len (F : Nat → Int) (k : Nat) : (partK F k).length = 64 := map64_len _
theorem mapB_at (F : Nat → Int) {p : Nat} (h : p < 64) : (mapB F).getD p 0 = F p := map64_getD F h
theorem partK_zero (F : Nat → Int) : partK F 0 = zeros := by
  unfold partK
  rw [map64_ext (g' := fun _ => 0) fun p _ => if_neg (Nat.not_lt_zero _)]
  decide +kernel
theorem partK_all (F : Nat → Int) : partK F 64 = mapB F := map64_ext fun p hp => if_pos hp
theorem partK_next (F : Nat → Int) {k : Nat} (hk : k < 64) : (partK F k).set k (F k) = partK F (k + 1) := by
  refine map64_set hk (if_pos (by omega)) fun p hp hne => ?_
  by_cases h2 : p < k
  · rw [if_pos h2, if_pos (by omega)]
  · rw [if_neg h2, if_neg (by omega)]
theorem ext64 {l m : List Int} (hl : l.length = 64) (hm : m.length = 64) (h : ∀ k, k < 64 → l.getD k 0 = m.getD k 0) : l = m := by
  apply List.ext_getElem?
  intro i
  by_cases hi : i < 64
  · have := h i hi
    rw [List.getD_eq_getElem?_getD, List.getD_eq_getElem?_getD, List.getElem?_eq_getElem (by omega), List.getElem?_eq_getElem (by omega)] at this
    rw [List.getElem?_eq_getElem (by omega), List.getElem?_eq_getElem (by omega)]
    exact congrArg some this
  · rw [List.getElem?_eq_none (by omega), List.getElem?_eq_none (by omega)]
/-- The percentage of a quality; an element scaled, divided, the document's nearest one. -/
def pcS (k : Int) : Int := if k < 50 then (5000 : Int).tdiv k else 2 * (100 - k)
def scE (x p : Int) : Int := min (max ((x * p + 50).tdiv 100) 1) 255
def haE (n f : Int) : Int := if n < 0 then -(f.tdiv 2) else f.tdiv 2
def qoE (n f : Int) : Int := (n + haE n f).tdiv f
def neE (x y : Int) : Int := if y ≤ 2 * (x - x.tdiv y * y) then x.tdiv y + 1 else if 2 * (x - x.tdiv y * y) ≤ -y then x.tdiv y - 1 else x.tdiv y
def scL (q : List Int) (k : Int) : List Int := mapB fun i => scE (q.getD i 0) (pcS k)
def dvL (b q : List Int) : List Int := mapB fun i => qoE (b.getD i 0) (q.getD i 0)
def mlL (b q : List Int) : List Int := mapB fun i => b.getD i 0 * q.getD i 0

theorem div_is {x y n : Int} (hy : 0 < y) (h1 : n * y ≤ x) (h2 : x < n * y + y) : x / y = n := by
  have a1 := (Int.le_ediv_iff_mul_le hy).2 h1
  have a2 : x / y < n + 1 := (Int.ediv_lt_iff_lt_mul hy).2 (by rw [Int.add_mul, Int.one_mul]; omega)
  omega
theorem tdiv_neg' (x y : Int) : (-x).tdiv y = -(x.tdiv y) := Int.neg_tdiv ..
theorem tdiv_pos {x y : Int} (hx : 0 ≤ x) : x.tdiv y = x / y := Int.tdiv_eq_ediv_of_nonneg hx
/-- For a number that is not below 0: the divided one, by its bounds. -/
theorem qo_nonneg {x y : Int} (hx : 0 ≤ x) (hy : 1 ≤ y) : ∃ q, qoE x y = q ∧ neE x y = q ∧ 0 ≤ q ∧ 2 * (q * y) - 2 * x ≤ y ∧ 2 * x - 2 * (q * y) < y := by
  have hh : y.tdiv 2 = y / 2 := tdiv_pos (by omega)
  have e1 : qoE x y = (x + y / 2) / y := by
    unfold qoE haE
    rw [if_neg (by omega), hh, tdiv_pos (by omega)]
  have e2 : x.tdiv y = x / y := tdiv_pos hx
  have m1 := Int.mul_ediv_add_emod x y
  have m2 := Int.emod_nonneg x (show y ≠ 0 by omega)
  have m3 := Int.emod_lt_of_pos x (show 0 < y by omega)
  have h0 : 0 ≤ x / y := Int.ediv_nonneg hx (by omega)
  rw [Int.mul_comm] at m1
  rw [e1]
  unfold neE
  rw [e2]
  generalize hn : x / y = n at *
  generalize x % y = r at *
  by_cases hr : y ≤ 2 * r
  · have e3 : (x + y / 2) / y = n + 1 := div_is (by omega) (by rw [Int.add_mul, Int.one_mul]; omega) (by rw [Int.add_mul, Int.one_mul]; omega)
    refine ⟨n + 1, e3, ?_, by omega, ?_, ?_⟩
    · rw [if_pos (by omega)]
    · rw [Int.add_mul, Int.one_mul]; omega
    · rw [Int.add_mul, Int.one_mul]; omega
  · have e3 : (x + y / 2) / y = n := div_is (by omega) (by omega) (by omega)
    refine ⟨n, e3, ?_, by omega, ?_, ?_⟩
    · rw [if_neg (by omega), if_neg (by omega)]
    · omega
    · omega
theorem qo_neg {x y : Int} (hx : x ≠ 0) : qoE (-x) y = -(qoE x y) := by
  unfold qoE haE
  by_cases h : x < 0
  · rw [if_neg (by omega), if_pos h, ← Int.neg_tdiv, Int.neg_add, Int.neg_neg]
  · rw [if_pos (by omega), if_neg h, ← Int.neg_add, Int.neg_tdiv]
theorem qo_zero {y : Int} (hy : 1 ≤ y) : qoE 0 y = 0 := by
  obtain ⟨q, h1, _, h3, h4, h5⟩ := qo_nonneg (x := 0) (Int.le_refl _) hy
  rw [h1]
  rcases Int.lt_or_le 0 q with h | h
  · have : 1 * y ≤ q * y := Int.mul_le_mul_of_nonneg_right (by omega) (by omega)
    omega
  · omega
theorem qo_opp {x y : Int} (hy : 1 ≤ y) : qoE (-x) y = -(qoE x y) := by
  by_cases h : x = 0
  · subst h; rw [Int.neg_zero, qo_zero hy]; rfl
  · exact qo_neg h
theorem ne_neg {x y : Int} (hx : 0 < x) (hy : 1 ≤ y) : neE (-x) y = -(neE x y) := by
  have m1 := Int.mul_tdiv_add_tmod x y
  have e : x - x.tdiv y * y = x.tmod y := by rw [Int.mul_comm]; omega
  have h0 : 0 ≤ x.tmod y := Int.tmod_nonneg _ (by omega)
  unfold neE
  rw [tdiv_neg', show -x - -(x.tdiv y) * y = -(x - x.tdiv y * y) by rw [Int.neg_mul]; omega, e]
  by_cases h1 : y ≤ 2 * x.tmod y
  · rw [if_neg (by omega), if_pos (by omega), if_pos h1]; omega
  · rw [if_neg (by omega), if_neg (by omega), if_neg (by omega), if_neg (by omega)]
theorem qo_ne {x y : Int} (hy : 1 ≤ y) : qoE x y = neE x y := by
  by_cases h : 0 ≤ x
  · obtain ⟨q, h1, h2, _⟩ := qo_nonneg h hy
    rw [h1, h2]
  · obtain ⟨z, rfl⟩ : ∃ z, x = -z := ⟨-x, by omega⟩
    obtain ⟨q, h1, h2, _⟩ := qo_nonneg (x := z) (by omega) hy
    rw [qo_opp hy, ne_neg (by omega) hy, h1, h2]
/-- No farther off than half the table's. -/
theorem qo_near {x y : Int} (hy : 1 ≤ y) : 2 * (qoE x y * y - x) ≤ y ∧ 2 * (x - qoE x y * y) ≤ y := by
  by_cases h : 0 ≤ x
  · obtain ⟨q, h1, h2, h3, h4, h5⟩ := qo_nonneg h hy
    rw [h1]; omega
  · obtain ⟨z, rfl⟩ : ∃ z, x = -z := ⟨-x, by omega⟩
    obtain ⟨q, h1, h2, h3, h4, h5⟩ := qo_nonneg (x := z) (by omega) hy
    rw [qo_opp hy, h1, Int.neg_mul]; omega
theorem qo_mono {x z y : Int} (hy : 1 ≤ y) (h : x ≤ z) : qoE x y ≤ qoE z y := by
  have pos : ∀ a b : Int, 0 ≤ a → a ≤ b → qoE a y ≤ qoE b y := by
    intro a b ha hab
    unfold qoE haE
    rw [if_neg (by omega), if_neg (by omega), tdiv_pos (x := y) (by omega), tdiv_pos (by omega), tdiv_pos (by omega)]
    exact Int.ediv_le_ediv (by omega) (by omega)
  have nn : ∀ a : Int, 0 ≤ a → 0 ≤ qoE a y := fun a ha => by
    obtain ⟨q, h1, _, h3, _⟩ := qo_nonneg ha hy
    omega
  by_cases hx : 0 ≤ x
  · exact pos x z hx h
  · by_cases hz : 0 ≤ z
    · have a1 := nn z hz
      have a2 := nn (-x) (by omega)
      rw [qo_opp hy] at a2
      omega
    · have := pos (-z) (-x) (by omega) (by omega)
      rw [qo_opp hy, qo_opp hy] at this
      omega
theorem qo_bnd {x y B : Int} (hy : 1 ≤ y) (hB : 0 ≤ B) (h1 : -B ≤ x) (h2 : x ≤ B) : -B ≤ qoE x y ∧ qoE x y ≤ B := by
  have up : ∀ z : Int, z ≤ B → qoE z y ≤ B := by
    intro z hz
    have n := (qo_near (x := z) hy).1
    rcases Int.lt_or_le B (qoE z y) with h | h
    · have a1 : (B + 1) * y ≤ qoE z y * y := Int.mul_le_mul_of_nonneg_right (by omega) (by omega)
      have a2 : B * 1 ≤ B * y := Int.mul_le_mul_of_nonneg_left hy hB
      rw [Int.add_mul, Int.one_mul] at a1
      omega
    · exact h
  refine ⟨?_, up x h2⟩
  have := up (-x) (by omega)
  rw [qo_opp hy] at this
  omega
theorem qo_mul {x y : Int} (hy : 1 ≤ y) : qoE (x * y) y = x := by
  obtain ⟨h1, h2⟩ := qo_near (x := x * y) hy
  generalize qoE (x * y) y = q at *
  rcases Int.lt_trichotomy q x with h | h | h
  · have : (q + 1) * y ≤ x * y := Int.mul_le_mul_of_nonneg_right (by omega) (by omega)
    rw [Int.add_mul, Int.one_mul] at this
    omega
  · exact h
  · have : (x + 1) * y ≤ q * y := Int.mul_le_mul_of_nonneg_right (by omega) (by omega)
    rw [Int.add_mul, Int.one_mul] at this
    omega
theorem mul_bnd {x y : Int} (h1 : -1048576 ≤ x) (h2 : x ≤ 1048576) (h3 : 1 ≤ y) (h4 : y ≤ 255) : -267386880 ≤ x * y ∧ x * y ≤ 267386880 := by
  have a1 : -1048576 * y ≤ x * y := Int.mul_le_mul_of_nonneg_right h1 (by omega)
  have a2 : x * y ≤ 1048576 * y := Int.mul_le_mul_of_nonneg_right h2 (by omega)
  omega
/-- Scaling. -/
theorem pc_bnd {k : Int} (h1 : 1 ≤ k) (h2 : k ≤ 100) : 0 ≤ pcS k ∧ pcS k ≤ 5000 := by
  have : ∀ n : Nat, n < 100 → 0 ≤ pcS ((n : Int) + 1) ∧ pcS ((n : Int) + 1) ≤ 5000 := by decide +kernel
  have h := this (k - 1).toNat (by omega)
  rwa [show (((k - 1).toNat : Nat) : Int) + 1 = k by omega] at h
theorem pc_anti {j k : Int} (h1 : 1 ≤ j) (h2 : j ≤ k) (h3 : k ≤ 100) : pcS k ≤ pcS j := by
  have : ∀ m n : Nat, m < 100 → n < 100 → m ≤ n → pcS ((n : Int) + 1) ≤ pcS ((m : Int) + 1) := by
    have h : ∀ m : Nat, m < 100 → ∀ n : Nat, n < 100 → m ≤ n → pcS ((n : Int) + 1) ≤ pcS ((m : Int) + 1) := by decide +kernel
    exact fun m n a b c => h m a n b c
  have h := this (j - 1).toNat (k - 1).toNat (by omega) (by omega) (by omega)
  rwa [show (((k - 1).toNat : Nat) : Int) + 1 = k by omega, show (((j - 1).toNat : Nat) : Int) + 1 = j by omega] at h
theorem sc_bnd (x p : Int) : 1 ≤ scE x p ∧ scE x p ≤ 255 := by unfold scE; omega
theorem mul_bnd2 {x p : Int} (h1 : 1 ≤ x) (h2 : x ≤ 255) (h3 : 0 ≤ p) (h4 : p ≤ 5000) : 0 ≤ x * p ∧ x * p ≤ 1275000 := by
  have a1 : 0 ≤ x * p := Int.mul_nonneg (by omega) h3
  have a2 : x * p ≤ 255 * p := Int.mul_le_mul_of_nonneg_right h2 h3
  omega
theorem sc_mono {x p r : Int} (hx : 0 ≤ x) (hp : 0 ≤ p) (h : p ≤ r) : scE x p ≤ scE x r := by
  have a : x * p ≤ x * r := Int.mul_le_mul_of_nonneg_left h hx
  have a0 : 0 ≤ x * p := Int.mul_nonneg hx hp
  unfold scE
  rw [tdiv_pos (by omega), tdiv_pos (by omega)]
  omega
theorem sc_fifty {x : Int} (h1 : 1 ≤ x) (h2 : x ≤ 255) : scE x (pcS 50) = x := by
  have : pcS 50 = 100 := by decide +kernel
  rw [this]
  unfold scE
  rw [tdiv_pos (by omega)]
  omega
theorem scL_ok (q : List Int) (k : Int) : wiB (scL q k) 1 255 = true := wiB_of fun i hi => by
  rw [scL, mapB_len] at hi
  rw [scL, mapB_at _ hi]
  exact sc_bnd _ _
theorem scL_fifty {q : List Int} (hl : q.length = 64) (h : wiB q 1 255 = true) : scL q 50 = q := ext64 (mapB_len _) hl fun k hk => by
  rw [scL, mapB_at _ hk]
  have := wiB_at h (k := k) (by omega)
  exact sc_fifty this.1 this.2
theorem dvL_ok {b q : List Int} (hb : b.length = 64) (hq : q.length = 64) (h1 : wiB q 1 255 = true) (h2 : wiB b (-1048576) 1048576 = true) : wiB (dvL b q) (-1048576) 1048576 = true := wiB_of fun i hi => by
  rw [dvL, mapB_len] at hi
  rw [dvL, mapB_at _ hi]
  have a := wiB_at h1 (k := i) (by omega)
  have c := wiB_at h2 (k := i) (by omega)
  exact qo_bnd a.1 (by omega) c.1 c.2
theorem dv_ml {b q : List Int} (hb : b.length = 64) (hq : q.length = 64) (h1 : wiB q 1 255 = true) : dvL (mlL b q) q = b := ext64 (mapB_len _) hb fun k hk => by
  rw [dvL, mapB_at _ hk, mlL, mapB_at _ hk]
  exact qo_mul (wiB_at h1 (k := k) (by omega)).1
end Go.Proofs.YtlchdelhhnlgbaaDoor
