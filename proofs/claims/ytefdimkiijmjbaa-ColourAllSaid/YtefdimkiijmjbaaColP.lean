/- Plain facts of layer 8 (colour): clamped numbers, rounded sums, there and back. -/
import Derived.WalkKit
namespace Go.Proofs.Ytefdimkiijmjbaa
open Go
set_option linter.unusedVariables false

/-- Clamped. -/
def cl (n : Int) : Int := if n < 0 then 0 else if 255 < n then 255 else n
theorem cl_rng (n : Int) : 0 ≤ cl n ∧ cl n ≤ 255 := by unfold cl; split <;> (try split) <;> omega
theorem cl_of {n : Int} (h0 : 0 ≤ n) (h1 : n ≤ 255) : cl n = n := by unfold cl; rw [if_neg (by omega), if_neg (by omega)]
theorem cl_cl (n : Int) : cl (cl n) = cl n := cl_of (cl_rng n).1 (cl_rng n).2
theorem cl_mono {a b : Int} (h : a ≤ b) : cl a ≤ cl b := by unfold cl; repeat (first | split | omega)
theorem cl_near {a n : Int} (h0 : 0 ≤ n) (h1 : n ≤ 255) (h : a - n ≤ 1 ∧ n - a ≤ 1) : cl a - n ≤ 1 ∧ n - cl a ≤ 1 := by
  unfold cl; repeat (first | split | omega)
/-- Rounded, in parts of 2^16. -/
def rd (n : Int) : Int := (n + 32768) / 65536
theorem rd_rng {n : Int} (h0 : -1000000000 ≤ n) (h1 : n ≤ 1000000000) : -100000 ≤ rd n ∧ rd n ≤ 100000 := by unfold rd; omega
theorem rd_mono {a b : Int} (h : a ≤ b) : rd a ≤ rd b := by unfold rd; omega

def luY (r g b : Int) : Int := cl (rd (19595 * cl r + 38470 * cl g + 7471 * cl b))
def luB (r g b : Int) : Int := cl (128 + rd (-11059 * cl r + -21709 * cl g + 32768 * cl b))
def luR (r g b : Int) : Int := cl (128 + rd (32768 * cl r + -27439 * cl g + -5329 * cl b))
def paR (y b r : Int) : Int := cl (rd (65536 * cl y + 0 * (cl b - 128) + 91881 * (cl r - 128)))
def paG (y b r : Int) : Int := cl (rd (65536 * cl y + -22554 * (cl b - 128) + -46802 * (cl r - 128)))
def paB (y b r : Int) : Int := cl (rd (65536 * cl y + 116130 * (cl b - 128) + 0 * (cl r - 128)))
theorem luY_rng (r g b : Int) : 0 ≤ luY r g b ∧ luY r g b ≤ 255 := cl_rng _
theorem luB_rng (r g b : Int) : 0 ≤ luB r g b ∧ luB r g b ≤ 255 := cl_rng _
theorem luR_rng (r g b : Int) : 0 ≤ luR r g b ∧ luR r g b ≤ 255 := cl_rng _
theorem paR_rng (r g b : Int) : 0 ≤ paR r g b ∧ paR r g b ≤ 255 := cl_rng _
theorem paG_rng (r g b : Int) : 0 ≤ paG r g b ∧ paG r g b ≤ 255 := cl_rng _
theorem paB_rng (r g b : Int) : 0 ≤ paB r g b ∧ paB r g b ≤ 255 := cl_rng _

/-- P8.5. -/
theorem lu_grey {n : Int} (h0 : 0 ≤ n) (h1 : n ≤ 255) : luY n n n = n ∧ luB n n n = 128 ∧ luR n n n = 128 := by
  unfold luY luB luR rd
  rw [cl_of h0 h1]
  refine ⟨?_, ?_, ?_⟩
  · rw [show (19595 * n + 38470 * n + 7471 * n + 32768) / 65536 = n by omega]; exact cl_of h0 h1
  · rw [show 128 + (-11059 * n + -21709 * n + 32768 * n + 32768) / 65536 = 128 by omega]; exact cl_of (by omega) (by omega)
  · rw [show 128 + (32768 * n + -27439 * n + -5329 * n + 32768) / 65536 = 128 by omega]; exact cl_of (by omega) (by omega)
theorem pa_grey {n : Int} (h0 : 0 ≤ n) (h1 : n ≤ 255) : paR n 128 128 = n ∧ paG n 128 128 = n ∧ paB n 128 128 = n := by
  unfold paR paG paB rd
  rw [cl_of h0 h1, cl_of (n := 128) (by omega) (by omega)]
  refine ⟨?_, ?_, ?_⟩
  · rw [show (65536 * n + 0 * (128 - 128) + 91881 * (128 - 128) + 32768) / 65536 = n by omega]; exact cl_of h0 h1
  · rw [show (65536 * n + -22554 * (128 - 128) + -46802 * (128 - 128) + 32768) / 65536 = n by omega]; exact cl_of h0 h1
  · rw [show (65536 * n + 116130 * (128 - 128) + 0 * (128 - 128) + 32768) / 65536 = n by omega]; exact cl_of h0 h1
/-- P8.6. -/
theorem luY_mono {r g b r' g' b' : Int} (h1 : r ≤ r') (h2 : g ≤ g') (h3 : b ≤ b') : luY r g b ≤ luY r' g' b' := by
  unfold luY
  have e1 := cl_mono h1
  have e2 := cl_mono h2
  have e3 := cl_mono h3
  exact cl_mono (rd_mono (by omega))

/-- P8.4: there and back within 1 of each. -/
theorem nearY (r g b : Int) (r0 : 0 ≤ r) (r1 : r ≤ 255) (g0 : 0 ≤ g) (g1 : g ≤ 255) (b0 : 0 ≤ b) (b1 : b ≤ 255) :
    ∃ y, luY r g b = y ∧ 0 ≤ y ∧ y ≤ 255 ∧ 65536 * y ≤ 19595 * r + 38470 * g + 7471 * b + 32768 ∧ 19595 * r + 38470 * g + 7471 * b + 32768 < 65536 * y + 65536 := by
  refine ⟨rd (19595 * r + 38470 * g + 7471 * b), ?_, ?_⟩
  · unfold luY
    rw [cl_of r0 r1, cl_of g0 g1, cl_of b0 b1]
    refine cl_of ?_ ?_ <;> unfold rd <;> omega
  · unfold rd; omega
theorem nearB (r g b : Int) (r0 : 0 ≤ r) (r1 : r ≤ 255) (g0 : 0 ≤ g) (g1 : g ≤ 255) (b0 : 0 ≤ b) (b1 : b ≤ 255) :
    (r = 0 ∧ g = 0 ∧ b = 255) ∨ ∃ u, luB r g b = u + 128 ∧ -128 ≤ u ∧ u ≤ 127 ∧ 65536 * u ≤ -11059 * r + -21709 * g + 32768 * b + 32768 ∧ -11059 * r + -21709 * g + 32768 * b + 32768 < 65536 * u + 65536 := by
  by_cases h : r = 0 ∧ g = 0 ∧ b = 255
  · exact .inl h
  refine .inr ⟨rd (-11059 * r + -21709 * g + 32768 * b), ?_, ?_⟩
  · unfold luB
    rw [cl_of r0 r1, cl_of g0 g1, cl_of b0 b1]
    rw [Int.add_comm]
    refine cl_of ?_ ?_ <;> unfold rd <;> omega
  · unfold rd; omega
theorem nearR (r g b : Int) (r0 : 0 ≤ r) (r1 : r ≤ 255) (g0 : 0 ≤ g) (g1 : g ≤ 255) (b0 : 0 ≤ b) (b1 : b ≤ 255) :
    (r = 255 ∧ g = 0 ∧ b = 0) ∨ ∃ v, luR r g b = v + 128 ∧ -128 ≤ v ∧ v ≤ 127 ∧ 65536 * v ≤ 32768 * r + -27439 * g + -5329 * b + 32768 ∧ 32768 * r + -27439 * g + -5329 * b + 32768 < 65536 * v + 65536 := by
  by_cases h : r = 255 ∧ g = 0 ∧ b = 0
  · exact .inl h
  refine .inr ⟨rd (32768 * r + -27439 * g + -5329 * b), ?_, ?_⟩
  · unfold luR
    rw [cl_of r0 r1, cl_of g0 g1, cl_of b0 b1]
    rw [Int.add_comm]
    refine cl_of ?_ ?_ <;> unfold rd <;> omega
  · unfold rd; omega
def Near (a n : Int) : Prop := a - n ≤ 1 ∧ n - a ≤ 1
instance (a n : Int) : Decidable (Near a n) := inferInstanceAs (Decidable (_ ∧ _))
def BackOk (r g b : Int) : Prop := Near (paR (luY r g b) (luB r g b) (luR r g b)) r ∧ Near (paG (luY r g b) (luB r g b) (luR r g b)) g ∧ Near (paB (luY r g b) (luB r g b) (luR r g b)) b
instance (r g b : Int) : Decidable (BackOk r g b) := inferInstanceAs (Decidable (_ ∧ _ ∧ _))
set_option maxHeartbeats 4000000 in
theorem near_r {r g b y v : Int} (r0 : 0 ≤ r) (r1 : r ≤ 255) (g0 : 0 ≤ g) (g1 : g ≤ 255) (b0 : 0 ≤ b) (b1 : b ≤ 255) (y2 : 65536 * y ≤ 19595 * r + 38470 * g + 7471 * b + 32768) (y3 : 19595 * r + 38470 * g + 7471 * b + 32768 < 65536 * y + 65536)
    (v2 : 65536 * v ≤ 32768 * r + -27439 * g + -5329 * b + 32768) (v3 : 32768 * r + -27439 * g + -5329 * b + 32768 < 65536 * v + 65536) (u : Int) :
    Near (rd (65536 * y + 0 * u + 91881 * v)) r := by
  unfold Near rd
  have h : (65536 * y + 0 * u + 91881 * v + 32768) / 65536 = y + (91881 * v + 32768) / 65536 := by omega
  rw [h]
  generalize hq : (91881 * v + 32768) / 65536 = q
  have q1 : 65536 * q ≤ 91881 * v + 32768 := by omega
  have q2 : 91881 * v + 32768 < 65536 * q + 65536 := by omega
  clear hq h
  constructor
  · have a1 : 4294967296 * y + 4294967296 * q ≤ 65536 * (19595 * r + 38470 * g + 7471 * b + 32768) + 91881 * (32768 * r + -27439 * g + -5329 * b + 32768) + 65536 * 32768 := by omega
    omega
  · have a1 : 65536 * (19595 * r + 38470 * g + 7471 * b - 32768) + 91881 * (32768 * r + -27439 * g + -5329 * b - 32768) - 65536 * 32768 < 4294967296 * y + 4294967296 * q := by omega
    omega
set_option maxHeartbeats 4000000 in
theorem near_b {r g b y u : Int} (r0 : 0 ≤ r) (r1 : r ≤ 255) (g0 : 0 ≤ g) (g1 : g ≤ 255) (b0 : 0 ≤ b) (b1 : b ≤ 255) (y2 : 65536 * y ≤ 19595 * r + 38470 * g + 7471 * b + 32768) (y3 : 19595 * r + 38470 * g + 7471 * b + 32768 < 65536 * y + 65536)
    (u2 : 65536 * u ≤ -11059 * r + -21709 * g + 32768 * b + 32768) (u3 : -11059 * r + -21709 * g + 32768 * b + 32768 < 65536 * u + 65536) (v : Int) :
    Near (rd (65536 * y + 116130 * u + 0 * v)) b := by
  unfold Near rd
  have h : (65536 * y + 116130 * u + 0 * v + 32768) / 65536 = y + (116130 * u + 32768) / 65536 := by omega
  rw [h]
  generalize hq : (116130 * u + 32768) / 65536 = q
  have q1 : 65536 * q ≤ 116130 * u + 32768 := by omega
  have q2 : 116130 * u + 32768 < 65536 * q + 65536 := by omega
  clear hq h
  constructor
  · have a1 : 4294967296 * y + 4294967296 * q ≤ 65536 * (19595 * r + 38470 * g + 7471 * b + 32768) + 116130 * (-11059 * r + -21709 * g + 32768 * b + 32768) + 65536 * 32768 := by omega
    omega
  · have a1 : 65536 * (19595 * r + 38470 * g + 7471 * b - 32768) + 116130 * (-11059 * r + -21709 * g + 32768 * b - 32768) - 65536 * 32768 < 4294967296 * y + 4294967296 * q := by omega
    omega
set_option maxHeartbeats 4000000 in
theorem near_g {r g b y u v : Int} (r0 : 0 ≤ r) (r1 : r ≤ 255) (g0 : 0 ≤ g) (g1 : g ≤ 255) (b0 : 0 ≤ b) (b1 : b ≤ 255) (y2 : 65536 * y ≤ 19595 * r + 38470 * g + 7471 * b + 32768) (y3 : 19595 * r + 38470 * g + 7471 * b + 32768 < 65536 * y + 65536)
    (u2 : 65536 * u ≤ -11059 * r + -21709 * g + 32768 * b + 32768) (u3 : -11059 * r + -21709 * g + 32768 * b + 32768 < 65536 * u + 65536)
    (v2 : 65536 * v ≤ 32768 * r + -27439 * g + -5329 * b + 32768) (v3 : 32768 * r + -27439 * g + -5329 * b + 32768 < 65536 * v + 65536) :
    Near (rd (65536 * y + -22554 * u + -46802 * v)) g := by
  unfold Near rd
  have h : (65536 * y + -22554 * u + -46802 * v + 32768) / 65536 = y + (-22554 * u + -46802 * v + 32768) / 65536 := by omega
  rw [h]
  generalize hq : (-22554 * u + -46802 * v + 32768) / 65536 = q
  have q1 : 65536 * q ≤ -22554 * u + -46802 * v + 32768 := by omega
  have q2 : -22554 * u + -46802 * v + 32768 < 65536 * q + 65536 := by omega
  clear hq h
  constructor
  · have a1 : 4294967296 * y + 4294967296 * q ≤ 65536 * (19595 * r + 38470 * g + 7471 * b + 32768) - 22554 * (-11059 * r + -21709 * g + 32768 * b - 32768) - 46802 * (32768 * r + -27439 * g + -5329 * b - 32768) + 65536 * 32768 := by omega
    omega
  · have a1 : 65536 * (19595 * r + 38470 * g + 7471 * b - 32768) - 22554 * (-11059 * r + -21709 * g + 32768 * b + 32768) - 46802 * (32768 * r + -27439 * g + -5329 * b + 32768) - 65536 * 32768 < 4294967296 * y + 4294967296 * q := by omega
    omega
theorem cl_shift {u : Int} (u0 : -128 ≤ u) (u1 : u ≤ 127) : cl (u + 128) - 128 = u := by rw [cl_of (by omega) (by omega)]; omega
theorem back_blue : decide (BackOk 0 0 255) = true := by decide +kernel
theorem back_red : decide (BackOk 255 0 0) = true := by decide +kernel
theorem back_ok (r g b : Int) (r0 : 0 ≤ r) (r1 : r ≤ 255) (g0 : 0 ≤ g) (g1 : g ≤ 255) (b0 : 0 ≤ b) (b1 : b ≤ 255) : BackOk r g b := by
  have hB := nearB r g b r0 r1 g0 g1 b0 b1
  rcases hB with hB | hB
  · obtain ⟨h1, h2, h3⟩ := hB
    rw [h1, h2, h3]
    exact of_decide_eq_true back_blue
  have hR := nearR r g b r0 r1 g0 g1 b0 b1
  rcases hR with hR | hR
  · obtain ⟨h1, h2, h3⟩ := hR
    rw [h1, h2, h3]
    exact of_decide_eq_true back_red
  obtain ⟨u, hu, u0, u1, u2, u3⟩ := hB
  obtain ⟨v, hv, v0, v1, v2, v3⟩ := hR
  obtain ⟨y, hy, y0, y1, y2, y3⟩ := nearY r g b r0 r1 g0 g1 b0 b1
  have n1 := near_r r0 r1 g0 g1 b0 b1 y2 y3 v2 v3 u
  have n2 := near_g r0 r1 g0 g1 b0 b1 y2 y3 u2 u3 v2 v3
  have n3 := near_b r0 r1 g0 g1 b0 b1 y2 y3 u2 u3 v
  have e1 := cl_of y0 y1
  have e2 := cl_shift u0 u1
  have e3 := cl_shift v0 v1
  clear y2 y3 u2 u3 v2 v3
  unfold BackOk
  rw [hu, hv, hy]
  unfold paR paG paB
  rw [e1, e2, e3]
  exact ⟨cl_near r0 r1 n1, cl_near g0 g1 n2, cl_near b0 b1 n3⟩

/-- One of the three numbers that a colour is turned into. -/
def cv (p : Bool) (k : Nat) (a b c : Int) : Int :=
  if p then (if k = 0 then paR a b c else if k = 1 then paG a b c else paB a b c) else (if k = 0 then luY a b c else if k = 1 then luB a b c else luR a b c)
theorem cv_rng (p : Bool) (k : Nat) (a b c : Int) : 0 ≤ cv p k a b c ∧ cv p k a b c ≤ 255 := by
  unfold cv
  repeat (first | split | (with_reducible exact paR_rng _ _ _) | (with_reducible exact paG_rng _ _ _) | (with_reducible exact paB_rng _ _ _) | (with_reducible exact luY_rng _ _ _) | (with_reducible exact luB_rng _ _ _) | (with_reducible exact luR_rng _ _ _))
/-- The document's rounding, which divides towards 0. -/
theorem rd_neg {n : Int} (h : n + 32768 < 0) (hm : ¬ (n + 32768).tmod 65536 = 0) : (n + 32768).tdiv 65536 - 1 = rd n := by
  unfold rd
  have e : n + 32768 = -(-(n + 32768)) := by omega
  rw [e] at hm ⊢
  rw [Int.neg_tdiv, Int.tdiv_eq_ediv_of_nonneg (by omega)]
  rw [Int.neg_tmod, Int.tmod_eq_emod_of_nonneg (by omega)] at hm
  omega
theorem rd_whole {n : Int} (hm : (n + 32768).tmod 65536 = 0) : (n + 32768).tdiv 65536 = rd n := by
  unfold rd
  rcases Int.lt_or_le (n + 32768) 0 with h | h
  · have e : n + 32768 = -(-(n + 32768)) := by omega
    rw [e] at hm ⊢
    rw [Int.neg_tdiv, Int.tdiv_eq_ediv_of_nonneg (by omega)]
    rw [Int.neg_tmod, Int.tmod_eq_emod_of_nonneg (by omega)] at hm
    omega
  · rw [Int.tdiv_eq_ediv_of_nonneg h]
theorem rd_pos {n : Int} (h : 0 ≤ n + 32768) : (n + 32768).tdiv 65536 = rd n := by
  unfold rd
  rw [Int.tdiv_eq_ediv_of_nonneg h]
end Go.Proofs.Ytefdimkiijmjbaa
