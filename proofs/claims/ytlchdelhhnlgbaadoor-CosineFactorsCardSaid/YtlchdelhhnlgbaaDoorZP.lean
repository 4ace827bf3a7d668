/- The zigzag in plain numbers: its order as a list, the steps of places, diagonals. -/
import Derived.Test.YtlchdelhhnlgbaaDoorZMem
namespace Go.Proofs.YtlchdelhhnlgbaaDoor
set_option maxRecDepth 100000
/-- The order: the place at each step. -/
def zl : List Nat := [0, 1, 8, 16, 9, 2, 3, 10, 17, 24, 32, 25, 18, 11, 4, 5, 12, 19, 26, 33, 40, 48, 41, 34, 27, 20, 13, 6, 7, 14, 21, 28, 35, 42, 49, 56, 57, 50, 43, 36, 29, 22, 15, 23, 30, 37, 44, 51, 58, 59, 52, 45, 38, 31, 39, 46, 53, 60, 61, 54, 47, 55, 62, 63]
/-- The step of each place. -/
def zp : List Nat := [0, 1, 5, 6, 14, 15, 27, 28, 2, 4, 7, 13, 16, 26, 29, 42, 3, 8, 12, 17, 25, 30, 41, 43, 9, 11, 18, 24, 31, 40, 44, 53, 10, 19, 23, 32, 39, 45, 52, 54, 20, 22, 33, 38, 46, 51, 55, 60, 21, 34, 37, 47, 50, 56, 59, 61, 35, 36, 48, 49, 57, 58, 62, 63]
abbrev za (m : Nat) : Nat := zl.getD m 0
abbrev zq (m : Nat) : Nat := zp.getD m 0
/-- What came ahead of a diagonal. -/
def zcnt (k : Nat) : Nat := if k ≤ 8 then k * (k + 1) / 2 else 64 - (15 - k) * (16 - k) / 2
theorem za_ea : ∀ k, k < 8 → k % 2 = 0 → ∀ i, i < 8 → i < k + 1 → ((za (zcnt k + i) : Nat) : Int) = 8 * ((k : Int) - (i : Int)) + (k : Int) - ((k : Int) - (i : Int)) := by decide +kernel
theorem za_oa : ∀ k, k < 8 → k % 2 = 1 → ∀ i, i < 8 → i < k + 1 → ((za (zcnt k + i) : Nat) : Int) = 8 * (i : Int) + (k : Int) - (i : Int) := by decide +kernel
theorem za_eb : ∀ k, k < 15 → 7 < k → k % 2 = 0 → ∀ i, i < 8 → i < 15 - k → ((za (zcnt k + i) : Nat) : Int) = 8 * (7 - (i : Int)) + (k : Int) - (7 - (i : Int)) := by decide +kernel
theorem za_ob : ∀ k, k < 15 → 7 < k → k % 2 = 1 → ∀ i, i < 8 → i < 15 - k → ((za (zcnt k + i) : Nat) : Int) = 8 * ((k : Int) - 7 + (i : Int)) + (k : Int) - ((k : Int) - 7 + (i : Int)) := by decide +kernel
theorem zcnt_a : ∀ k, k < 8 → zcnt (k + 1) = zcnt k + (k + 1) ∧ zcnt k + (k + 1) ≤ 64 := by decide +kernel
theorem zcnt_b : ∀ k, k < 15 → 7 < k → zcnt (k + 1) = zcnt k + (15 - k) ∧ zcnt k + (15 - k) ≤ 64 := by decide +kernel
def fr : List (Fin 64) := List.finRange 64
theorem fr_len : fr.length = 64 := by decide +kernel
theorem fr_take {m : Nat} (h : m < 64) : fr.take m ++ [⟨m, h⟩] = fr.take (m + 1) := by
  have : fr[m]? = some ⟨m, h⟩ := by
    unfold fr
    rw [List.getElem?_eq_getElem (by simpa using h)]
    simp
  rw [List.take_add_one, this]; rfl
theorem fr_all : fr.take 64 = fr := by decide +kernel
theorem za_lt : ∀ m, m < 64 → za m < 64 := by decide +kernel
theorem zq_lt : ∀ m, m < 64 → zq m < 64 := by decide +kernel
theorem zq_za : ∀ m, m < 64 → zq (za m) = m := by decide +kernel
theorem za_zq : ∀ m, m < 64 → za (zq m) = m := by decide +kernel
end Go.Proofs.YtlchdelhhnlgbaaDoor
