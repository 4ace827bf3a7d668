/- Plain facts of layer 2 (ratio): equal values have one ratio in lowest terms; the nearest ratio is nearest. -/
import Derived.Test.YtnhophjahjphiaaDoorRatP
namespace Go.Proofs.YtnhophjahjphiaaDoor
open Go
open Go.Lib (compareInt)

theorem cop_least (n : Int) {d : Int} (h : d ≠ 0) : Nat.gcd (leastN n d).natAbs (leastD n d).natAbs = 1 := by
  have hg := gcdI_pos n h
  have e1 := leastN_mul n d
  have e2 := leastD_mul n d
  have g1 : Nat.gcd (upN n d).natAbs (upD d).natAbs = (gcdI n d).natAbs := by
    have a1 : (upN n d).natAbs = n.natAbs := by unfold upN; split <;> omega
    have a2 : (upD d).natAbs = d.natAbs := by unfold upD; split <;> omega
    rw [a1, a2]; rfl
  rw [← e1, ← e2, Int.natAbs_mul, Int.natAbs_mul, Nat.gcd_mul_right] at g1
  have hp : 0 < (gcdI n d).natAbs := by omega
  exact Nat.eq_of_mul_eq_mul_right hp (by rw [g1, Nat.one_mul])

/-- Two fractions in lowest terms of one value are one. -/
theorem cop_unique {a b c d : Int} (hb : 0 < b) (hd : 0 < d) (h1 : Nat.gcd a.natAbs b.natAbs = 1) (h2 : Nat.gcd c.natAbs d.natAbs = 1) (h : a * d = c * b) : a = c ∧ b = d := by
  have hn : a.natAbs * d.natAbs = c.natAbs * b.natAbs := by rw [← Int.natAbs_mul, h, Int.natAbs_mul]
  have k1 : b.natAbs ∣ d.natAbs := by
    have : b.natAbs ∣ a.natAbs * d.natAbs := by rw [hn]; exact Nat.dvd_mul_left _ _
    exact Nat.Coprime.dvd_of_dvd_mul_left (show Nat.Coprime b.natAbs a.natAbs by rw [Nat.Coprime, Nat.gcd_comm]; exact h1) this
  have k2 : d.natAbs ∣ b.natAbs := by
    have : d.natAbs ∣ c.natAbs * b.natAbs := by rw [← hn]; exact Nat.dvd_mul_left _ _
    exact Nat.Coprime.dvd_of_dvd_mul_left (show Nat.Coprime d.natAbs c.natAbs by rw [Nat.Coprime, Nat.gcd_comm]; exact h2) this
  have e := Nat.dvd_antisymm k1 k2
  have e' : b = d := by omega
  subst e'
  exact ⟨Int.eq_of_mul_eq_mul_right (by omega) h, rfl⟩

theorem cmpR_zero {an ad bn bd : Int} : cmpR an ad bn bd = 0 ↔ upN an ad * upD bd = upN bn bd * upD ad := by
  unfold cmpR
  rcases cI_cases (upN an ad * upD bd) (upN bn bd * upD ad) with h | h | h <;> omega
theorem least_eq_iff (an : Int) {ad : Int} (bn : Int) {bd : Int} (ha : ad ≠ 0) (hb : bd ≠ 0) :
    cmpR an ad bn bd = 0 ↔ (leastN an ad = leastN bn bd ∧ leastD an ad = leastD bn bd) := by
  rw [cmpR_zero, ← leastN_mul an ad, ← leastD_mul bn bd, ← leastN_mul bn bd, ← leastD_mul an ad]
  have g1 := gcdI_pos an ha
  have g2 := gcdI_pos bn hb
  have e1 : leastN an ad * gcdI an ad * (leastD bn bd * gcdI bn bd) = leastN an ad * leastD bn bd * (gcdI an ad * gcdI bn bd) := by ac_rfl
  have e2 : leastN bn bd * gcdI bn bd * (leastD an ad * gcdI an ad) = leastN bn bd * leastD an ad * (gcdI an ad * gcdI bn bd) := by ac_rfl
  rw [e1, e2]
  constructor
  · intro h
    have h' := Int.eq_of_mul_eq_mul_right (Int.ne_of_gt (Int.mul_pos g1 g2)) h
    exact cop_unique (leastD_pos an ha) (leastD_pos bn hb) (cop_least an ha) (cop_least bn hb) h'
  · rintro ⟨h1, h2⟩
    rw [h1, h2]
theorem upN_pos {n d : Int} (h : 0 < d) : upN n d = n := by unfold upN; rw [if_neg (by omega)]
theorem upD_self {d : Int} (h : 0 < d) : upD d = d := by unfold upD; rw [if_neg (by omega)]
theorem cmpR_least (n : Int) {d : Int} (h : d ≠ 0) : cmpR n d (leastN n d) (leastD n d) = 0 := by
  have hp := leastD_pos n h
  rw [cmpR_zero, upN_pos hp, upD_self hp, ← leastN_mul n d, ← leastD_mul n d]
  ac_rfl
/-- What is in lowest terms is its own lowest terms. -/
theorem least_self {n d : Int} (hd : 0 < d) (h : Nat.gcd n.natAbs d.natAbs = 1) : leastN n d = n ∧ leastD n d = d := by
  have hg : gcdI n d = 1 := by unfold gcdI; rw [h]; rfl
  unfold leastN leastD
  rw [hg, Int.ediv_one, Int.ediv_one, upN_pos hd, upD_self hd]
  exact ⟨rfl, rfl⟩

/-! The nearest ratio. -/
def dist (A D q n : Int) : Int := absI (A * q - n * D)
/-- The numerator beside q that is nearest to A by D, the smaller one of two; how far it is. -/
def candN (A D q : Int) : Int := if D - q * A % D < q * A % D then q * A / D + 1 else q * A / D
def candO (A D q : Int) : Int := if D - q * A % D < q * A % D then D - q * A % D else q * A % D
def nearStep (A D : Int) (s : Int × Int × Int) (q : Int) : Int × Int × Int := if candO A D q * s.2.1 < s.2.2 * q then (candN A D q, q, candO A D q) else s
/-- The best one of the denominators up to k + 1: numerator, denominator, distance. -/
def nearF (A D : Int) : Nat → Int × Int × Int
  | 0 => (candN A D 1, 1, candO A D 1)
  | k + 1 => nearStep A D (nearF A D k) (k + 2)

theorem cand_parts (A D q : Int) : A * q = q * A / D * D + q * A % D := by
  have := Int.mul_ediv_add_emod (q * A) D
  rw [Int.mul_comm D] at this
  rw [Int.mul_comm A q]; omega
theorem cand_rem (A q : Int) {D : Int} (hD : 0 < D) : 0 ≤ q * A % D ∧ q * A % D < D := ⟨Int.emod_nonneg _ (by omega), Int.emod_lt_of_pos _ hD⟩
theorem candO_rng (A q : Int) {D : Int} (hD : 0 < D) : 0 ≤ candO A D q ∧ candO A D q ≤ D := by
  have := cand_rem A q hD
  unfold candO; split <;> omega
theorem candO_dist (A q : Int) {D : Int} (hD : 0 < D) : candO A D q = dist A D q (candN A D q) := by
  have h1 := cand_parts A D q
  have h2 := cand_rem A q hD
  unfold candO candN dist
  split
  · rw [h1, Int.add_mul, Int.one_mul]
    unfold absI; split <;> omega
  · rw [h1]
    unfold absI; split <;> omega
theorem candO_le (A q n : Int) {D : Int} (hD : 0 < D) : candO A D q ≤ dist A D q n := by
  have h1 := cand_parts A D q
  have h2 := cand_rem A q hD
  have h3 : candO A D q ≤ q * A % D ∧ candO A D q ≤ D - q * A % D := by unfold candO; split <;> omega
  unfold dist
  rw [h1]
  rcases Int.lt_or_le (q * A / D) n with h | h
  · have : (q * A / D + 1) * D ≤ n * D := Int.mul_le_mul_of_nonneg_right (by omega) (by omega)
    rw [Int.add_mul, Int.one_mul] at this
    unfold absI; split <;> omega
  · have : n * D ≤ q * A / D * D := Int.mul_le_mul_of_nonneg_right h (by omega)
    unfold absI; split <;> omega

structure NearI (A D m : Int) (s : Int × Int × Int) : Prop where
  lo : 1 ≤ s.2.1
  hi : s.2.1 ≤ m
  num : s.1 = candN A D s.2.1
  off : s.2.2 = candO A D s.2.1
  best : ∀ q n, 1 ≤ q → q ≤ m → s.2.2 * q ≤ dist A D q n * s.2.1
  least : ∀ q n, 1 ≤ q → q ≤ m → s.2.2 * q = dist A D q n * s.2.1 → s.2.1 ≤ q

theorem nearI_one (A : Int) {D : Int} (hD : 0 < D) : NearI A D 1 (nearF A D 0) := by
  refine ⟨Int.le_refl 1, Int.le_refl 1, rfl, rfl, fun q n h1 h2 => ?_, fun q n h1 h2 _ => h1⟩
  have : q = 1 := by omega
  subst this
  have := candO_le A 1 n hD
  show candO A D 1 * 1 ≤ dist A D 1 n * 1
  omega
theorem nearI_step (A m : Int) {D : Int} (hD : 0 < D) {s : Int × Int × Int} (h : NearI A D m s) : NearI A D (m + 1) (nearStep A D s (m + 1)) := by
  have hlo := h.lo
  have hhi := h.hi
  unfold nearStep
  split
  · rename_i hlt
    refine ⟨by show 1 ≤ m + 1; omega, Int.le_refl _, rfl, rfl, fun q n h1 h2 => ?_, fun q n h1 h2 he => ?_⟩
    · show candO A D (m + 1) * q ≤ dist A D q n * (m + 1)
      rcases Int.lt_or_le m q with hq | hq
      · have : q = m + 1 := by omega
        subst this
        exact Int.mul_le_mul_of_nonneg_right (candO_le A _ n hD) (by omega)
      · have b := h.best q n h1 hq
        have b1 : s.2.2 * q * (m + 1) ≤ dist A D q n * s.2.1 * (m + 1) := Int.mul_le_mul_of_nonneg_right b (by omega)
        have b2 : candO A D (m + 1) * s.2.1 * q ≤ s.2.2 * (m + 1) * q := Int.mul_le_mul_of_nonneg_right (by omega) (by omega)
        have e1 : s.2.2 * q * (m + 1) = s.2.2 * (m + 1) * q := by ac_rfl
        have e2 : candO A D (m + 1) * s.2.1 * q = candO A D (m + 1) * q * s.2.1 := by ac_rfl
        have e3 : dist A D q n * s.2.1 * (m + 1) = dist A D q n * (m + 1) * s.2.1 := by ac_rfl
        exact Int.le_of_mul_le_mul_right (by omega) (show 0 < s.2.1 by omega)
    · show m + 1 ≤ q
      rcases Int.lt_or_le m q with hq | hq
      · omega
      · exfalso
        have he' : candO A D (m + 1) * q = dist A D q n * (m + 1) := he
        have b := h.best q n h1 hq
        have b1 : s.2.2 * q * (m + 1) ≤ dist A D q n * s.2.1 * (m + 1) := Int.mul_le_mul_of_nonneg_right b (by omega)
        have b2 : candO A D (m + 1) * s.2.1 * q < s.2.2 * (m + 1) * q := Int.mul_lt_mul_of_pos_right hlt (by omega)
        have e1 : s.2.2 * q * (m + 1) = s.2.2 * (m + 1) * q := by ac_rfl
        have e2 : candO A D (m + 1) * s.2.1 * q = candO A D (m + 1) * q * s.2.1 := by ac_rfl
        have e3 : dist A D q n * s.2.1 * (m + 1) = dist A D q n * (m + 1) * s.2.1 := by ac_rfl
        rw [← he'] at e3
        omega
  · rename_i hge
    have hge' : s.2.2 * (m + 1) ≤ candO A D (m + 1) * s.2.1 := by omega
    have new : ∀ n, s.2.2 * (m + 1) ≤ dist A D (m + 1) n * s.2.1 := fun n =>
      Int.le_trans hge' (Int.mul_le_mul_of_nonneg_right (candO_le A _ n hD) (by omega))
    refine ⟨hlo, by omega, h.num, h.off, fun q n h1 h2 => ?_, fun q n h1 h2 he => ?_⟩
    · rcases Int.lt_or_le m q with hq | hq
      · have : q = m + 1 := by omega
        subst this
        exact new n
      · exact h.best q n h1 hq
    · rcases Int.lt_or_le m q with hq | hq
      · omega
      · exact h.least q n h1 hq he
theorem nearI_all (A : Int) {D : Int} (hD : 0 < D) : ∀ k : Nat, NearI A D (k + 1) (nearF A D k)
  | 0 => nearI_one A hD
  | k + 1 => by
    have := nearI_step A (k + 1) hD (nearI_all A hD k)
    show NearI A D (((k + 1 : Nat) : Int) + 1) (nearStep A D (nearF A D k) (k + 2))
    rw [show (((k + 1 : Nat) : Int) + 1) = (k : Int) + 1 + 1 from by omega, show ((k : Int) + 2) = (k : Int) + 1 + 1 from by omega]
    exact this

theorem NearI.off_dist {A D m : Int} {s : Int × Int × Int} (h : NearI A D m s) (hD : 0 < D) : s.2.2 = dist A D s.2.1 s.1 := by
  rw [h.off, h.num]; exact candO_dist A _ hD
theorem dist_exact (A D q n : Int) (h : A * q = n * D) : dist A D q n = 0 := by unfold dist; rw [h, Int.sub_self]; rfl
theorem dist_mul (A D q n : Int) {g : Int} (hg : 0 ≤ g) : dist A D (q * g) (n * g) = dist A D q n * g := by
  unfold dist
  rw [show A * (q * g) - n * g * D = (A * q - n * D) * g from by rw [Int.sub_mul]; congr 1 <;> ac_rfl]
  generalize A * q - n * D = X
  unfold absI
  rcases Int.lt_or_le X 0 with h | h
  · rw [if_pos h]
    rcases Int.lt_or_le 0 g with k | k
    · rw [if_pos (Int.mul_neg_of_neg_of_pos h k), Int.neg_mul]
    · have : g = 0 := by omega
      subst this; simp
  · have k := Int.mul_nonneg h hg
    rw [if_neg (show ¬ X < 0 by omega), if_neg (show ¬ X * g < 0 by omega)]
/-- The nearest one is in lowest terms. -/
theorem NearI.cop {A D m : Int} {s : Int × Int × Int} (h : NearI A D m s) (hD : 0 < D) : Nat.gcd s.1.natAbs s.2.1.natAbs = 1 := by
  have hlo := h.lo
  have hg : 0 < gcdI s.1 s.2.1 := gcdI_pos s.1 (by omega)
  obtain ⟨n, hn⟩ := gcdI_dvd_n s.1 s.2.1
  obtain ⟨q, hq⟩ := gcdI_dvd_d s.1 s.2.1
  have hn' : s.1 = n * gcdI s.1 s.2.1 := by rw [Int.mul_comm]; exact hn
  have hq' : s.2.1 = q * gcdI s.1 s.2.1 := by rw [Int.mul_comm]; exact hq
  have q1 : 1 ≤ q := by
    rcases Int.lt_or_le 0 q with k | k
    · omega
    · have := Int.mul_nonpos_of_nonpos_of_nonneg k (show 0 ≤ gcdI s.1 s.2.1 by omega)
      omega
  have q2 : q ≤ s.2.1 := by
    have := Int.mul_le_mul_of_nonneg_left (show 1 ≤ gcdI s.1 s.2.1 by omega) (show 0 ≤ q by omega)
    rw [Int.mul_one] at this
    omega
  have e0 := h.off_dist hD
  have e1 : s.2.2 = dist A D q n * gcdI s.1 s.2.1 := by
    have := dist_mul A D q n (show 0 ≤ gcdI s.1 s.2.1 by omega)
    rw [← hn', ← hq'] at this
    omega
  have e2 : s.2.2 * q = dist A D q n * s.2.1 := by
    rw [e1]
    conv => rhs; rhs; rw [hq']
    ac_rfl
  have le := h.least q n q1 (Int.le_trans q2 h.hi) e2
  have hge : s.2.1 = q := by omega
  have : gcdI s.1 s.2.1 = 1 := by
    have k : q * gcdI s.1 s.2.1 = q * 1 := by omega
    exact Int.eq_of_mul_eq_mul_left (by omega) k
  unfold gcdI at this
  omega
theorem NearI.num_nn {A D m : Int} {s : Int × Int × Int} (h : NearI A D m s) (hA : 0 ≤ A) (hD : 0 < D) : 0 ≤ s.1 := by
  have hlo := h.lo
  have : 0 ≤ s.2.1 * A / D := Int.ediv_nonneg (Int.mul_nonneg (by omega) hA) (by omega)
  rw [h.num]; unfold candN; split <;> omega
/-- The numerator is not above A, or not above the denominator. -/
theorem NearI.num_le {A D m : Int} {s : Int × Int × Int} (h : NearI A D m s) (hA : 0 ≤ A) (hD : 0 < D) : s.1 ≤ A ∨ s.1 ≤ s.2.1 := by
  have hlo := h.lo
  have hf := cand_parts A D s.2.1
  have hr := cand_rem A s.2.1 hD
  have hle : s.2.1 ≤ D := by
    rcases Int.lt_or_le m D with k | k
    · have := h.hi; omega
    · have b := h.best D A (by omega) k
      have z : dist A D D A = 0 := dist_exact A D D A rfl
      rw [z, Int.zero_mul] at b
      have o : 0 ≤ s.2.2 := by rw [h.off]; exact (candO_rng A _ hD).1
      have o' : s.2.2 * D = 0 := by have := Int.mul_nonneg o (show 0 ≤ D by omega); omega
      exact h.least D A (by omega) k (by rw [z, Int.zero_mul, o'])
  have hc : s.1 ≤ s.2.1 * A / D + 1 ∧ (s.2.1 * A % D = 0 → s.1 = s.2.1 * A / D) := by
    rw [h.num]; unfold candN; constructor
    · split <;> omega
    · intro e; rw [if_neg (by omega)]
  rcases Int.lt_or_le s.2.1 D with k | k
  · rcases Int.lt_or_le A D with j | j
    · right
      have t : A * s.2.1 < D * s.2.1 := Int.mul_lt_mul_of_pos_right j (by omega)
      have t2 : s.2.1 * A / D * D < s.2.1 * D := by rw [Int.mul_comm s.2.1 D]; omega
      have := Int.lt_of_mul_lt_mul_right t2 (by omega)
      omega
    · left
      have t : A * s.2.1 ≤ A * (D - 1) := Int.mul_le_mul_of_nonneg_left (by omega) hA
      have t1 : (A - 1) * D = A * D - D := by rw [Int.sub_mul, Int.one_mul]
      have t3 : A * (D - 1) = A * D - A := by rw [Int.mul_sub, Int.mul_one]
      have t2 : s.2.1 * A / D * D ≤ (A - 1) * D := by omega
      have := Int.le_of_mul_le_mul_right t2 hD
      omega
  · left
    have e : s.2.1 = D := by omega
    have e0 : s.2.1 * A % D = 0 := by rw [e]; exact Int.mul_emod_right D A
    have e1 : s.2.1 * A / D = A := by rw [e, Int.mul_comm]; exact Int.mul_ediv_cancel _ (by omega)
    have := hc.2 e0
    omega
/-- The ratio itself, if its denominator is not above the bound. -/
theorem NearI.self {A D m : Int} {s : Int × Int × Int} (h : NearI A D m s) (hD : 0 < D) (hm : leastD A D ≤ m) : s.1 = leastN A D ∧ s.2.1 = leastD A D := by
  have hd : D ≠ 0 := by omega
  have hlo := h.lo
  have q1 := leastD_pos A hd
  have z : dist A D (leastD A D) (leastN A D) = 0 := by
    apply dist_exact
    have e1 := leastN_mul A D
    have e2 := leastD_mul A D
    rw [upN_pos hD] at e1
    rw [upD_self hD] at e2
    conv => lhs; lhs; rw [← e1]
    conv => rhs; rhs; rw [← e2]
    ac_rfl
  have b := h.best _ (leastN A D) (by omega) hm
  rw [z, Int.zero_mul] at b
  have o : 0 ≤ s.2.2 := by rw [h.off]; exact (candO_rng A _ hD).1
  have o' : s.2.2 * leastD A D = 0 := by have := Int.mul_nonneg o (show 0 ≤ leastD A D by omega); omega
  have o2 : s.2.2 = 0 := by
    rcases Int.mul_eq_zero.1 o' with k | k
    · exact k
    · omega
  have e0 := h.off_dist hD
  rw [o2] at e0
  have e1 : A * s.2.1 = s.1 * D := by
    unfold dist absI at e0
    split at e0 <;> omega
  have c1 := h.cop hD
  have c2 := cop_least A hd
  refine cop_unique (by omega) q1 c1 c2 ?_
  have g := gcdI_pos A hd
  have e2 := leastN_mul A D
  have e3 := leastD_mul A D
  rw [upN_pos hD] at e2
  rw [upD_self hD] at e3
  apply Int.eq_of_mul_eq_mul_right (Int.ne_of_gt g)
  rw [Int.mul_assoc, e3, ← e1]
  conv => lhs; lhs; rw [← e2]
  ac_rfl
end Go.Proofs.YtnhophjahjphiaaDoor
