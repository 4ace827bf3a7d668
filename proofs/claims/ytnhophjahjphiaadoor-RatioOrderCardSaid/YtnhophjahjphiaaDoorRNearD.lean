/- Contract of the document's Near. -/
import Derived.Test.YtnhophjahjphiaaDoorRNearC
import Derived.Test.YtnhophjahjphiaaDoorRRefB
namespace Go.Proofs.YtnhophjahjphiaaDoor
open Go.RowKit
set_option linter.unusedVariables false

/-- One numerator tried. -/
def rst (s : Int × Int × Int) (q p n : Int) : Int × Int × Int := if s.2.1 = 0 ∨ n * s.2.1 < s.2.2 * q then (p, q, n) else s
theorem rst_yes {s : Int × Int × Int} {q p n : Int} (h : s.2.1 = 0 ∨ n * s.2.1 < s.2.2 * q) : rst s q p n = (p, q, n) := if_pos h
theorem rst_no {s : Int × Int × Int} {q p n : Int} (h : ¬ (s.2.1 = 0 ∨ n * s.2.1 < s.2.2 * q)) : rst s q p n = s := if_neg h
theorem ref_step (A : Int) {D q : Int} (hD : 0 < D) (hq : 1 ≤ q) {s : Int × Int × Int} (h1 : 1 ≤ s.2.1) :
    rst (rst s q (q * A / D) (q * A % D)) q (q * A / D + 1) (D - q * A % D) = nearStep A D s q := by
  have r := cand_rem A q hD
  unfold nearStep candN candO
  generalize q * A % D = R at *
  generalize q * A / D = f
  obtain ⟨n, d, o⟩ := s
  dsimp only at h1 ⊢
  by_cases h : D - R < R
  · rw [if_pos h, if_pos h]
    by_cases k : R * d < o * q
    · rw [rst_yes (s := (n, d, o)) (.inr k), rst_yes (s := (f, q, R)) (.inr (show (D - R) * q < R * q from Int.mul_lt_mul_of_pos_right h (by omega)))]
      have : (D - R) * d < o * q := Int.lt_of_le_of_lt (Int.mul_le_mul_of_nonneg_right (by omega) (by omega)) k
      rw [if_pos this]
    · rw [rst_no (s := (n, d, o)) (by rintro (e | e); (dsimp only at e; omega); exact k e)]
      by_cases j : (D - R) * d < o * q
      · rw [rst_yes (s := (n, d, o)) (.inr j), if_pos j]
      · rw [rst_no (s := (n, d, o)) (by rintro (e | e); (dsimp only at e; omega); exact j e), if_neg j]
  · rw [if_neg h, if_neg h]
    by_cases k : R * d < o * q
    · rw [rst_yes (s := (n, d, o)) (.inr k), if_pos k, rst_no]
      rintro (e | e)
      · dsimp only at e; omega
      · have : R * q ≤ (D - R) * q := Int.mul_le_mul_of_nonneg_right (by omega) (by omega)
        dsimp only at e; omega
    · rw [rst_no (s := (n, d, o)) (by rintro (e | e); (dsimp only at e; omega); exact k e), if_neg k, rst_no]
      rintro (e | e)
      · dsimp only at e; omega
      · have : R * d ≤ (D - R) * d := Int.mul_le_mul_of_nonneg_right (by omega) (by omega)
        dsimp only at e; omega
theorem ref_first (A : Int) {D : Int} (hD : 0 < D) : rst (rst (0, 0, 0) 1 (1 * A / D) (1 * A % D)) 1 (1 * A / D + 1) (D - 1 * A % D) = nearF A D 0 := by
  have r := cand_rem A 1 hD
  rw [rst_yes (s := (0, 0, 0)) (.inl rfl)]
  unfold nearF candN candO
  generalize 1 * A % D = R at *
  generalize 1 * A / D = f
  by_cases h : D - R < R
  · rw [if_pos h, if_pos h, rst_yes (.inr (by dsimp only; omega))]
  · rw [if_neg h, if_neg h, rst_no (by dsimp only; omega)]
/-- The best one ahead of denominator j. -/
def refS (A D j : Int) : Int × Int × Int := if j = 1 then (0, 0, 0) else nearF A D (j - 2).toNat
theorem refS_next (A : Int) {D j : Int} (hD : 0 < D) (hj : 1 ≤ j) : rst (rst (refS A D j) j (j * A / D) (j * A % D)) j (j * A / D + 1) (D - j * A % D) = refS A D (j + 1) := by
  unfold refS
  rw [if_neg (show ¬ j + 1 = 1 by omega)]
  by_cases h : j = 1
  · subst h
    rw [if_pos rfl]
    exact ref_first A hD
  · rw [if_neg h, nearF_next A D (by omega)]
    exact ref_step A hD hj (nearI_all A hD _).lo
theorem refS_rng (A : Int) {D j : Int} (d0 : 1 ≤ D) (hj : 1 ≤ j) (j1 : j ≤ 4097) : 0 ≤ (refS A D j).2.1 ∧ (refS A D j).2.1 ≤ 4096 ∧ 0 ≤ (refS A D j).2.2 ∧ (refS A D j).2.2 ≤ D := by
  unfold refS
  split
  · dsimp only; omega
  · have := nearF_rng A d0 (show 2 ≤ j by omega) j1
    omega
theorem rst_rng {s : Int × Int × Int} {q p n D : Int} (h : 0 ≤ s.2.1 ∧ s.2.1 ≤ 4096 ∧ 0 ≤ s.2.2 ∧ s.2.2 ≤ D) (q0 : 1 ≤ q) (q1 : q ≤ 4096) (n0 : 0 ≤ n) (n1 : n ≤ D) :
    0 ≤ (rst s q p n).2.1 ∧ (rst s q p n).2.1 ≤ 4096 ∧ 0 ≤ (rst s q p n).2.2 ∧ (rst s q p n).2.2 ≤ D := by
  unfold rst
  split
  · dsimp only; omega
  · exact h

/-- What is kept while the document's Near goes on: the ratio, the result's place, the best one (block g), its distance (block h). -/
structure NQ (w0 : World) (g h : Nat) (A D : Int) (s : Int × Int × Int) (w : World) : Prop where
  a : w.cell? ⟨w0.heap.size, 0, none⟩ = some (.int .i64 A)
  b : w.cell? ⟨w0.heap.size, 1, none⟩ = some (.int .i64 D)
  r0 : w.cell? ⟨w0.heap.size + 1, 0, none⟩ = some (.int .i64 0)
  r1 : w.cell? ⟨w0.heap.size + 1, 1, none⟩ = some (.int .i64 0)
  g0 : w.cell? ⟨g, 0, none⟩ = some (.int .i64 s.1)
  g1 : w.cell? ⟨g, 1, none⟩ = some (.int .i64 s.2.1)
  k0 : w.cell? ⟨h, 0, none⟩ = some (.int .i64 s.2.2)
  k1 : w.cell? ⟨h, 1, none⟩ = some (.int .i64 s.2.1)
  f : ∀ i, w.frozen? ⟨w0.heap.size + 1, i, none⟩ = false
  fg : ∀ i, w.frozen? ⟨g, i, none⟩ = false
  fh : ∀ i, w.frozen? ⟨h, i, none⟩ = false
  s1 : w0.heap.size + 1 < g
  s2 : g < h
  s3 : h < w.heap.size
  u : Below w0.heap.size w0 w
theorem NQ.put {w0 w : World} {g h : Nat} {A D : Int} {s : Int × Int × Int} (k : NQ w0 g h A D s w) (p q n : Int) :
    NQ w0 g h A D (p, q, n) ((((w.setCell ⟨g, 0, none⟩ (.int .i64 p)).setCell ⟨g, 1, none⟩ (.int .i64 q)).setCell ⟨h, 0, none⟩ (.int .i64 n)).setCell ⟨h, 1, none⟩ (.int .i64 q)) := by
  have h1 := k.s1
  have h2 := k.s2
  have far : ∀ (W : World) (c b i o : Nat) (v : Value), c ≠ b → (W.setCell ⟨c, i, none⟩ v).cell? ⟨b, o, none⟩ = W.cell? ⟨b, o, none⟩ := fun W c b i o v hb => World.cell?_setCell_other _ _ _ _ (fun e => by injection e with e _; exact hb e)
  have z := two_set (w := w) (g := g) (.int .i64 p) (.int .i64 q) (by rw [k.g0]; rfl) (by rw [k.g1]; rfl)
  have y := two_set (w := (w.setCell ⟨g, 0, none⟩ (.int .i64 p)).setCell ⟨g, 1, none⟩ (.int .i64 q)) (g := h) (.int .i64 n) (.int .i64 q)
    (by rw [far _ g h 1 0 _ (by omega), far _ g h 0 0 _ (by omega), k.k0]; rfl) (by rw [far _ g h 1 1 _ (by omega), far _ g h 0 1 _ (by omega), k.k1]; rfl)
  have old : ∀ b o : Nat, b < g → ((((w.setCell ⟨g, 0, none⟩ (.int .i64 p)).setCell ⟨g, 1, none⟩ (.int .i64 q)).setCell ⟨h, 0, none⟩ (.int .i64 n)).setCell ⟨h, 1, none⟩ (.int .i64 q)).cell? ⟨b, o, none⟩ = w.cell? ⟨b, o, none⟩ := fun b o hb => by
    rw [far _ h b 1 o _ (by omega), far _ h b 0 o _ (by omega), far _ g b 1 o _ (by omega), far _ g b 0 o _ (by omega)]
  have fz : ∀ (W : World) (p q : Addr) (v : Value), (W.setCell p v).frozen? q = W.frozen? q := fun W p q v => by simp
  exact ⟨(old _ _ (by omega)).trans k.a, (old _ _ (by omega)).trans k.b, (old _ _ (by omega)).trans k.r0, (old _ _ (by omega)).trans k.r1,
    by rw [far _ h g 1 0 _ (by omega), far _ h g 0 0 _ (by omega)]; exact z.1, by rw [far _ h g 1 1 _ (by omega), far _ h g 0 1 _ (by omega)]; exact z.2, y.1, y.2,
    fun i => by rw [fz, fz, fz, fz]; exact k.f i, fun i => by rw [fz, fz, fz, fz]; exact k.fg i, fun i => by rw [fz, fz, fz, fz]; exact k.fh i, h1, h2, by simpa [World.setCell] using k.s3,
    below_two (below_two k.u (by omega) _ _) (by omega) _ _⟩
end Go.Proofs.YtnhophjahjphiaaDoor
