/- Contract of the document's May. -/
import Derived.Test.YtkkkonmbbdhdhaaGreatDoorMemI
namespace Go.Proofs.YtkkkonmbbdhdhaaGreatDoor
open Go.RowKit Go.Lib
set_option linter.unusedVariables false
set_option maxRecDepth 100000

/-- A code specification as a value: sixteen counts and a slice. -/
structure Hv (X : Array Value) (cs : List Int) (s : Value) : Prop where
  cnt : ∀ k, k < 16 → X[k]? = some (.int .i64 (cs.getD k 0))
  syms : X[16]? = some s
/-- One that stands in a block. -/
structure Hb (w : World) (b : Nat) (cs : List Int) (s : Value) : Prop where
  cnt : ∀ k, k < 16 → w.cell? ⟨b, k, none⟩ = some (.int .i64 (cs.getD k 0))
  syms : w.cell? ⟨b, 16, none⟩ = some s
  size : b < w.heap.size
theorem Hv.box {X : Array Value} {cs : List Int} {s : Value} (h : Hv X cs s) (w : World) (T : TypeId) : Hb (w.alloc (.cells X T)) w.heap.size cs s :=
  ⟨fun k hk => by rw [World.cell?_alloc_at _ _ _ _ rfl]; exact h.cnt k hk, by rw [World.cell?_alloc_at _ _ _ _ rfl]; exact h.syms, by simp⟩
theorem Hb.below {w w' : World} {b : Nat} {cs : List Int} {s : Value} (h : Hb w b cs s) (hb : Below w.heap.size w w') : Hb w' b cs s :=
  ⟨fun k hk => cell_later hb (h.cnt k hk), cell_later hb h.syms, Nat.lt_of_lt_of_le h.size hb.size⟩

def manyS (cs : List Int) : Nat → Int
  | 0 => 0
  | k + 1 => manyS cs k + cs.getD k 0
def sumS (cs : List Int) : Nat → Int
  | 0 => 0
  | k + 1 => sumS cs k + cs.getD k 0 * 2 ^ (15 - k)
/-- The document's May. -/
structure MayP (cs l : List Int) : Prop where
  cnt : ∀ k, k < 16 → 0 ≤ cs.getD k 0 ∧ cs.getD k 0 ≤ 256
  sym : ∀ i, i < l.length → 0 ≤ l.getD i 0 ∧ l.getD i 0 ≤ 255
  dif : ∀ i k, i < l.length → k < i → l.getD k 0 ≠ l.getD i 0
  many : manyS cs 16 = l.length
  some : 1 ≤ l.length
  sum : sumS cs 16 < 65536

/-- The document's May, as a bool. -/
noncomputable def mayB (cs l : List Int) : Bool := @decide (MayP cs l) (Classical.propDecidable _)
theorem mayB_true {cs l : List Int} (h : MayP cs l) : mayB cs l = true := by unfold mayB; exact @decide_eq_true _ (Classical.propDecidable _) h
theorem mayB_false {cs l : List Int} (h : ¬ MayP cs l) : mayB cs l = false := by unfold mayB; exact @decide_eq_false _ (Classical.propDecidable _) h
theorem mayB_iff {cs l : List Int} : mayB cs l = true ↔ MayP cs l := by unfold mayB; exact @decide_eq_true_iff _ (Classical.propDecidable _)
theorem pow_case {k : Nat} (hk : k < 16) {x : Int} (h0 : 0 ≤ x) (h1 : x ≤ 256) : ∃ P G : Int, (2 : Int) ^ (15 - k) = P ∧ 1 ≤ P ∧ P ≤ 32768 ∧ x * P = G ∧ 0 ≤ G ∧ G ≤ 8388608 ∧ Hid (G = x * 2 ^ (15 - k)) := by
  have h3 : (2 : Int) ^ (15 - k) ≤ 2 ^ 15 := by
    have : (2 : Nat) ^ (15 - k) ≤ 2 ^ 15 := Nat.pow_le_pow_right (by omega) (by omega)
    exact_mod_cast this
  have h4 : (0 : Int) < 2 ^ (15 - k) := Int.pow_pos (by decide)
  have h6 : x * 2 ^ (15 - k) ≤ 256 * 2 ^ 15 := Int.mul_le_mul h1 h3 (by omega) (by omega)
  exact ⟨_, _, rfl, by omega, by simpa using h3, rfl, Int.mul_nonneg h0 (by omega), by simpa using h6, Lib.hid rfl⟩
theorem many_rng {cs : List Int} : ∀ k, (∀ j, j < k → 0 ≤ cs.getD j 0 ∧ cs.getD j 0 ≤ 256) → 0 ≤ manyS cs k ∧ manyS cs k ≤ 256 * k
  | 0, _ => by simp [manyS]
  | k + 1, h => by
    have h1 := h k (by omega)
    have ih := many_rng k (fun j hj => h j (by omega))
    rw [manyS]
    omega
theorem sum_rng {cs : List Int} : ∀ k, k ≤ 16 → (∀ j, j < k → 0 ≤ cs.getD j 0 ∧ cs.getD j 0 ≤ 256) → 0 ≤ sumS cs k ∧ sumS cs k ≤ 8388608 * k
  | 0, _, _ => by simp [sumS]
  | k + 1, hk, h => by
    obtain ⟨h1, h2⟩ := h k (by omega)
    have ih := sum_rng k (by omega) (fun j hj => h j (by omega))
    rw [sumS]
    have h3 : (2 : Int) ^ (15 - k) ≤ 2 ^ 15 := by
      have : (2 : Nat) ^ (15 - k) ≤ 2 ^ 15 := Nat.pow_le_pow_right (by omega) (by omega)
      exact_mod_cast this
    have h4 : (0 : Int) < 2 ^ (15 - k) := Int.pow_pos (by decide)
    have h5 : (0 : Int) ≤ cs.getD k 0 * 2 ^ (15 - k) := Int.mul_nonneg h1 (by omega)
    have h6 : cs.getD k 0 * 2 ^ (15 - k) ≤ 256 * 2 ^ 15 := Int.mul_le_mul h2 h3 (by omega) (by omega)
    have e : (256 : Int) * 2 ^ 15 = 8388608 := by decide
    omega

end Go.Proofs.YtkkkonmbbdhdhaaGreatDoor
