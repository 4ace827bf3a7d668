/- RatioNearest: what the walk asks of the numbers. -/
import Derived.Test.YtnhophjahjphiaaDoorRAwake
namespace Go.Proofs.YtnhophjahjphiaaDoor
open Go.RowKit
set_option linter.unusedVariables false

theorem near_no_pure {A D m : Int} (h : nearOk A D m = false) (a : 0 ≤ A) (d : 1 ≤ D) (m0 : 1 ≤ m) (m1 : m ≤ 4096) : plainB A D = false ∧ signB A D = false := by
  have hp : plainB A D = false := by
    cases hp : plainB A D with
    | false => rfl
    | true =>
      obtain ⟨_, h1, _, h2⟩ := plainB_iff.1 hp
      have : nearOk A D m = true := nearOk_iff.2 ⟨⟨a, h1⟩, ⟨d, h2⟩, m0, m1⟩
      rw [h] at this; cases this
  refine ⟨hp, ?_⟩
  unfold plainB at hp
  rw [decide_eq_false_iff_not] at hp
  unfold signB
  rw [decide_eq_false_iff_not]
  omega

/-- What the nearest one is. -/
structure NearP (A D m n d o e f : Int) : Prop where
  d0 : 1 ≤ d
  d1 : d ≤ m
  n0 : 0 ≤ n
  n1 : n ≤ 4294967295
  o0 : 0 ≤ o
  o1 : o ≤ D
  self : f ≤ m → n = e ∧ d = f
  far : dist A D d n = o
  best : ∀ q k, 1 ≤ q → q ≤ m → o * q ≤ dist A D q k * d
  least : ∀ q k, 1 ≤ q → q ≤ m → o * q = dist A D q k * d → d ≤ q
theorem near_pure {A D m : Int} (h : nearOk A D m = true) : ∃ o, hasB (nearN A D m) (nearD A D m) = true ∧ lstN (nearN A D m) (nearD A D m) = nearN A D m ∧ lstD (nearN A D m) (nearD A D m) = nearD A D m ∧ hasB A D = true ∧
    NearP A D m (nearN A D m) (nearD A D m) o (lstN A D) (lstD A D) := by
  obtain ⟨⟨a0, a1⟩, ⟨d0, d1⟩, m0, m1⟩ := nearOk_iff.1 h
  have hD : 0 < D := by omega
  have I : NearI A D m (nearS A D m) := by
    have := nearI_all A hD (m - 1).toNat
    rw [show (((m - 1).toNat : Nat) : Int) + 1 = m by omega] at this
    exact this
  have en : nearN A D m = (nearS A D m).1 := by unfold nearN; rw [if_pos h]
  have ed : nearD A D m = (nearS A D m).2.1 := by unfold nearD; rw [if_pos h]
  rw [en, ed]
  generalize nearS A D m = s at *
  have l := I.lo
  have hi := I.hi
  have nn := I.num_nn a0 hD
  have nl := I.num_le a0 hD
  have hp : hasB s.1 s.2.1 = true := hasB_iff.2 ⟨by unfold validB; rw [plainB_iff.2 (by omega)]; rfl, by omega⟩
  have hA : hasB A D = true := hasB_iff.2 ⟨by unfold validB; rw [plainB_iff.2 (by omega)]; rfl, by omega⟩
  obtain ⟨s1, s2⟩ := least_self (show 0 < s.2.1 by omega) (I.cop hD)
  have off := I.off
  have og := candO_rng A s.2.1 hD
  refine ⟨s.2.2, hp, ?_, ?_, hA, l, hi, nn, by omega, by omega, by omega, ?_, (I.off_dist hD).symm, I.best, I.least⟩
  · unfold lstN; rw [if_pos hp]; exact s1
  · unfold lstD; rw [if_pos hp]; exact s2
  · unfold lstN lstD; rw [if_pos hA, if_pos hA]; exact I.self hD

theorem max_dist (A D q n : Int) : max (A * q - n * D) (n * D - A * q) = dist A D q n := by unfold dist absI; split <;> omega
theorem prod_rng2 {x y : Int} (x0 : 0 ≤ x) (x1 : x ≤ 900000000000) (y0 : 0 ≤ y) (y1 : y ≤ 4096) : 0 ≤ x * y ∧ x * y ≤ 3686400000000000 := by
  have h1 := Int.mul_nonneg x0 y0
  have h2 := Int.mul_le_mul x1 y1 y0 (by omega)
  omega
theorem prod_rng3 {x y : Int} (x0 : 0 ≤ x) (x1 : x ≤ 4294967295) (y0 : 0 ≤ y) (y1 : y ≤ 200) : 0 ≤ x * y ∧ x * y ≤ 858993459000 := by
  have h1 := Int.mul_nonneg x0 y0
  have h2 := Int.mul_le_mul x1 y1 y0 (by omega)
  omega
/-- The numbers tried about A * q / D. -/
theorem about {A D q G : Int} (d0 : 1 ≤ D) (a : 0 ≤ A * q) (e : A * q / D = G) : 0 ≤ G ∧ G ≤ A * q ∧ (∀ j, 0 ≤ j → j ≤ G + 2 → 0 ≤ j * D ∧ j * D ≤ A * q + 2 * D) := by
  have g0 : 0 ≤ A * q / D := Int.ediv_nonneg a (by omega)
  have g1 : A * q / D ≤ A * q := Int.ediv_le_self _ a
  have g2 : A * q / D * D ≤ A * q := Int.ediv_mul_le _ (by omega)
  subst e
  refine ⟨g0, g1, fun j j0 j1 => ⟨Int.mul_nonneg j0 (by omega), ?_⟩⟩
  have : j * D ≤ (A * q / D + 2) * D := Int.mul_le_mul_of_nonneg_right j1 (by omega)
  rw [Int.add_mul] at this
  omega

/-- What is kept: the ratio. -/
structure K1 (w0 : World) (A D : Int) (w : World) : Prop where
  a : Bx w w0.heap.size A D
  g : Below w0.heap.size w0 w
theorem K1.call {w0 w w' : World} {A D : Int} (h : K1 w0 A D w) (hb : Below w.heap.size w w') : K1 w0 A D w' := ⟨h.a.below hb, bstep h.g hb⟩
theorem K1.alloc {w0 w : World} {A D : Int} (h : K1 w0 A D w) (o : Obj) : K1 w0 A D (w.alloc o) := h.call ((Below.refl _ _).alloc (Nat.le_refl _) o)
theorem K1.new (w : World) (A D : Int) (T : TypeId) : K1 w A D (w.alloc (.cells #[.int .i64 A, .int .i64 D] T)) := ⟨Bx.new _ _ _ _, by go_grown⟩
end Go.Proofs.YtnhophjahjphiaaDoor
