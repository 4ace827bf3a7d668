/- Contracts of ratio.Least and the document's Least. -/
import Derived.Test.YtnhophjahjphiaaDoorRRefA
namespace Go.Proofs.YtnhophjahjphiaaDoor
open Go.RowKit

theorem gcdI_step {a b : Int} (ha : 0 ≤ a) : gcdI b (a % b) = gcdI a b := by
  unfold gcdI
  have e : (a % b).natAbs = a.natAbs % b.natAbs := by
    rw [Int.natAbs_emod_of_nonneg ha]
  rw [e, Nat.gcd_comm a.natAbs b.natAbs, Nat.gcd_rec b.natAbs a.natAbs, Nat.gcd_comm (a.natAbs % b.natAbs) b.natAbs]
theorem gcdI_zero {a : Int} (ha : 0 ≤ a) : gcdI a 0 = a := by
  unfold gcdI
  show ((Nat.gcd a.natAbs 0 : Nat) : Int) = a
  rw [Nat.gcd_zero_right]; omega
theorem gcdI_abs (n d : Int) : gcdI (absI n) (absI d) = gcdI n d := by
  unfold gcdI
  have h : ∀ x : Int, (absI x).natAbs = x.natAbs := fun x => by unfold absI; split <;> omega
  rw [h, h]
theorem gcdI_up (n d : Int) : gcdI (absI (upN n d)) (upD d) = gcdI n d := by
  rw [absI_upN, ← absI_up, gcdI_abs]

theorem divisor_any (m n : Int) (w : World) (m0 : 0 ≤ m) (m1 : m ≤ 8589934592) (n0 : 0 ≤ n) (n1 : n ≤ 8589934592) :
    Calls Tryd.prog 41 #[.int .i64 m, .int .i64 n] w fun e w' => e = .returned (.int .i64 (gcdI m n)) ∧ ∃ k, w' = w.drewN k := by
  go_enter Tryd.func41, Tryd.ntmps41
  go_wp2_with fail
  go_loopw [0, 1] (fun x y wr => ∃ a b : Int, x = .int .i64 a ∧ y = .int .i64 b ∧ 0 ≤ a ∧ 0 ≤ b ∧ a ≤ 8589934592 ∧ b ≤ 8589934592 ∧ gcdI a b = gcdI m n ∧ ∃ k, wr = w.drewN k) (fun _ y _ => (intOf y).toNat)
  case atStart => exact ⟨m, n, rfl, rfl, m0, n0, m1, n1, rfl, 0, rfl⟩
  case round =>
    obtain ⟨a, b, rfl, rfl, a0, b0, a1, b1, hg, k, rfl⟩ := hrel
    have HG := Lib.hid hg
    clear hg
    by_cases hb : b = 0
    · subst hb
      go_wp2
      go_ret
      exact ⟨ret_i (by rw [← HG.out, gcdI_zero a0]), k, rfl⟩
    · have t1 : (b != 0) = true := by rw [bne_iff_ne]; exact hb
      have t2 : (b == 0) = false := by rw [beq_eq_false_iff_ne]; exact hb
      have hp : 0 < b := by omega
      have r0 := Int.emod_nonneg a hb
      have r1 := Int.emod_lt_of_pos a hp
      have HS := Lib.hid (gcdI_step (b := b) a0)
      clear hb
      go_wp2_with fail
      go_quiet (fail)
      go_roundw
      case rel => exact ⟨_, _, _, _, _, _, _, _, ⟨b, a % b, rfl, rfl, b0, r0, b1, by omega, HS.out.trans HG.out, k + nq, by rw [World.drewN_drewN]⟩, rfl⟩
      case measure => simp [intOf]; omega

theorem gcd_fuel (k : Nat) : ∀ (m n : Int) (w : World), n.toNat ≤ k → 0 ≤ m → m ≤ 8589934592 → 0 ≤ n → n ≤ 8589934592 →
    Calls Tryd.prog 43 #[.int .i64 m, .int .i64 n] w fun e w' => e = .returned (.int .i64 (gcdI m n)) ∧ w = w' := by
  induction k with
  | zero =>
    intro m n w hk m0 m1 n0 n1
    obtain rfl : n = 0 := by omega
    have HZ := Lib.hid (gcdI_zero m0)
    go_enter Tryd.func43, Tryd.ntmps43
    go_wp2_with fail
    go_wp2
    go_ret
    exact ⟨ret_i HZ.out.symm, rfl⟩
  | succ k ih =>
    intro m n w hk m0 m1 n0 n1
    by_cases hn : n = 0
    · subst hn
      have HZ := Lib.hid (gcdI_zero m0)
      clear ih
      go_enter Tryd.func43, Tryd.ntmps43
      go_wp2_with fail
      go_wp2
      go_ret
      exact ⟨ret_i HZ.out.symm, rfl⟩
    · have t1 : (n == 0) = false := by rw [beq_eq_false_iff_ne]; exact hn
      have hp : 0 < n := by omega
      have r0 := Int.emod_nonneg m hn
      have r1 := Int.emod_lt_of_pos m hp
      have HS := Lib.hid (gcdI_step (b := n) m0)
      have HR := Lib.hid (ih n (m % n))
      have k1 : (m % n).toNat ≤ k := by omega
      have K1 := Lib.hid k1
      clear ih hn k1 hk
      go_enter Tryd.func43, Tryd.ntmps43
      go_wp2_with fail
      (with_reducible refine (HR.out _ K1.out (by omega) (by omega) (by omega) (by omega)).mono ?_); rintro e w' ⟨rfl, rfl⟩
      go_wp2
      go_ret
      exact ⟨ret_i HS.out, rfl⟩
theorem gcd_any (m n : Int) (w : World) (m0 : 0 ≤ m) (m1 : m ≤ 8589934592) (n0 : 0 ≤ n) (n1 : n ≤ 8589934592) :
    Calls Tryd.prog 43 #[.int .i64 m, .int .i64 n] w fun e w' => e = .returned (.int .i64 (gcdI m n)) ∧ w = w' := gcd_fuel _ m n w (Nat.le_refl _) m0 m1 n0 n1

theorem ret_least {n d m e : Int} {b : Bool} (h : n = m) (k : d = e) : Ending.returned (.tuple #[.agg #[.int .i64 n, .int .i64 d], .bool b]) = .returned (.tuple #[.agg #[.int .i64 m, .int .i64 e], .bool b]) := by rw [h, k]
/-- What ratio.Least answers. -/
def lstN (n d : Int) : Int := if hasB n d then leastN n d else 0
def lstD (n d : Int) : Int := if hasB n d then leastD n d else 0
theorem below_two {w0 w : World} (h : Below w0.heap.size w0 w) {g : Nat} (hg : w0.heap.size ≤ g) (u v : Value) : Below w0.heap.size w0 ((w.setCell ⟨g, 0, none⟩ u).setCell ⟨g, 1, none⟩ v) := (h.setCell hg u).setCell hg v
theorem Kp.two {w0 w : World} {an ad bn bd : Int} (h : Kp w0 an ad bn bd w) (x y : Int) :
    ((w.setCell ⟨w0.heap.size + 1, 0, none⟩ (.int .i64 x)).setCell ⟨w0.heap.size + 1, 1, none⟩ (.int .i64 y)).cell? ⟨w0.heap.size + 1, 0, none⟩ = some (.int .i64 x) ∧ ((w.setCell ⟨w0.heap.size + 1, 0, none⟩ (.int .i64 x)).setCell ⟨w0.heap.size + 1, 1, none⟩ (.int .i64 y)).cell? ⟨w0.heap.size + 1, 1, none⟩ = some (.int .i64 y) :=
  two_set _ _ (by rw [h.2.2.1]; rfl) (by rw [h.2.2.2.1]; rfl)
theorem least_no (n d : Int) (w : World) (h : hasB n d = false) :
    Calls Tryd.prog 18 #[.agg #[.int .i64 n, .int .i64 d]] w fun e w' => e = .returned (.tuple #[.agg #[.int .i64 0, .int .i64 0], .bool false]) ∧ Below w.heap.size w w' := by
  have H := Lib.hid h
  clear h
  go_enter Tryd.func18, Tryd.ntmps18
  go_wp2_with fail
  (with_reducible refine (has_any n d _).mono ?_); rintro e w1 ⟨rfl, h1⟩
  rw [H.out]
  have K1 := Lib.hid (Kp.new h1)
  have z := Lib.hid (K1.out.two 0 0)
  obtain ⟨hc, hf, hz⟩ := bcell h1
  clear h1
  go_wp2
  have z0 := z.out.1
  have z1 := z.out.2
  exact bodyPost_ret (v := .tuple #[.agg #[.int .i64 0, .int .i64 0], .bool false]) (by simp [results, Tryd.results18, go_sem, z0, z1]) rfl ⟨rfl, below_two K1.out.2.2.2.2.2 (by omega) _ _⟩

/-- What is kept while one ratio is boxed and a result stands beside it. -/
def Ks (w0 : World) (n d : Int) (w : World) : Prop :=
  w.cell? ⟨w0.heap.size, 0, none⟩ = some (.int .i64 n) ∧ w.cell? ⟨w0.heap.size, 1, none⟩ = some (.int .i64 d) ∧ w0.heap.size + 1 < w.heap.size ∧ Below w0.heap.size w0 w
theorem Ks.of {w0 w : World} {n d m e : Int} (h : Kp w0 n d m e w) : Ks w0 n d w := ⟨h.1, h.2.1, h.2.2.2.2.1, h.2.2.2.2.2⟩
theorem Ks.drewN {w0 w : World} {n d : Int} (h : Ks w0 n d w) (k : Nat) : Ks w0 n d (w.drewN k) := ⟨h.1, h.2.1, h.2.2.1, bdrew h.2.2.2 k⟩
theorem Ks.drew {w0 w : World} {n d : Int} (h : Ks w0 n d w) : Ks w0 n d w.drew := ⟨h.1, h.2.1, h.2.2.1, h.2.2.2.drew⟩
theorem Ks.set {w0 w : World} {n d : Int} (h : Ks w0 n d w) {b o : Nat} (hp : w0.heap.size < b) (u : Value) : Ks w0 n d (w.setCell ⟨b, o, none⟩ u) := by
  obtain ⟨h1, h2, h3, h4⟩ := h
  have far : ∀ (i : Nat), (w.setCell ⟨b, o, none⟩ u).cell? ⟨w0.heap.size, i, none⟩ = w.cell? ⟨w0.heap.size, i, none⟩ := fun i => World.cell?_setCell_other _ _ _ _ (fun e => by injection e with e _; omega)
  exact ⟨(far _).trans h1, (far _).trans h2, by simpa [World.setCell] using h3, h4.setCell (by show w0.heap.size ≤ b; omega) u⟩

set_option maxHeartbeats 1600000 in
theorem least_yes (n d : Int) (w : World) (h : hasB n d = true) :
    Calls Tryd.prog 18 #[.agg #[.int .i64 n, .int .i64 d]] w fun e w' => e = .returned (.tuple #[.agg #[.int .i64 (leastN n d), .int .i64 (leastD n d)], .bool true]) ∧ Below w.heap.size w w' := by
  have H := Lib.hid h
  have hd := (hasB_iff.1 h).2
  have R := validB_rng (hasB_iff.1 h).1
  obtain ⟨T1, T2⟩ := least_tdiv n hd
  have hg := gcdI_pos n hd
  have up : upD d ≤ 8589934592 ∧ 0 < upD d ∧ -8589934592 ≤ upN n d ∧ upN n d ≤ 8589934592 := by unfold upD upN; split <;> omega
  have hg2 : gcdI n d ≤ 8589934592 := Int.le_trans (Int.le_of_dvd up.2.1 (upD_dvd n d)) up.1
  have B1 := quo_mul_rng (A := upN n d) (p := gcdI n d) (by omega) hg2 (by omega) (by omega)
  have B2 := quo_mul_rng (A := upD d) (p := gcdI n d) (by omega) hg2 (by omega) (by omega)
  have w1 : IntKind.i64.wrap (leastN n d) = leastN n d := by rw [IntKind.wrap_i64]; unfold leastN; omega
  have w2 : IntKind.i64.wrap (leastD n d) = leastD n d := by rw [IntKind.wrap_i64]; unfold leastD; omega
  have W1 := Lib.hid w1
  have W2 := Lib.hid w2
  clear w1 w2 B1 B2 up
  have HA := Lib.hid (gcdI_abs n d)
  have an := absI_nn n
  have ad := absI_nn d
  have an1 : absI n ≤ 8589934592 := by unfold absI; split <;> omega
  have ad1 : absI d ≤ 8589934592 := by unfold absI; split <;> omega
  generalize hG : gcdI n d = G at *
  have t0 : (G == 0) = false := by rw [beq_eq_false_iff_ne]; omega
  have t0' : ((-G) == 0) = false := by rw [beq_eq_false_iff_ne]; omega
  have t1 : ¬ G = 0 := by omega
  have t1' : ¬ -G = 0 := by omega
  clear h hG
  by_cases hneg : d < 0
  · obtain ⟨q1, q2⟩ := T1 hneg
    have Q1 := Lib.hid q1
    have Q2 := Lib.hid q2
    clear T1 T2 q1 q2
    go_enter Tryd.func18, Tryd.ntmps18
    go_wp2_with fail
    (with_reducible refine (has_any n d _).mono ?_); rintro e w1 ⟨rfl, h1⟩
    rw [H.out]
    have K1 := Lib.hid (Kp.new h1)
    obtain ⟨hc, hf, hz⟩ := bcell h1
    clear h1
    go_wp2_with fail
    go_quiet ((first | (go_at_call 42; exact quietL (mag_any _ _ (by omega) (by omega))) | (go_at_call 41; exact Calls.quiet_of (divisor_any _ _ _ (by omega) (by omega) (by omega) (by omega)))))
    rw [HA.out]
    go_wp2_with fail
    have q1 := Q1.out
    have q2 := Q2.out
    have w1' := W1.out
    have w2' := W2.out
    go_region_held3 (fun w' => w'.cell? ⟨w.heap.size, 0, none⟩ = some (.int .i64 n) ∧ w'.cell? ⟨w.heap.size, 1, none⟩ = some (.int .i64 d) ∧ w.heap.size + 1 < w'.heap.size ∧ Below w.heap.size w w')
      ((show Ks w n d _
        first
          | with_reducible exact ((Ks.of K1.out).drewN _).drew
          | with_reducible exact (Ks.of K1.out).drewN _
          | with_reducible exact Ks.set (Ks.set ((Ks.of K1.out).drewN _) (Nat.lt_succ_self _) _) (Nat.lt_succ_self _) _
          | with_reducible exact Ks.set (Ks.set (((Ks.of K1.out).drewN _).drew) (Nat.lt_succ_self _) _) (Nat.lt_succ_self _) _))
      (fail)
    all_goals
      go_wp2
      have z := Kp.two (K1.out.call (below_drewN w1 (nq + 1))) (leastN n d) (leastD n d)
      have z0 := z.1
      have z1 := z.2
      exact bodyPost_ret (v := .tuple #[.agg #[.int .i64 (leastN n d), .int .i64 (leastD n d)], .bool true]) (by simp [results, Tryd.results18, go_sem, z0, z1]) rfl ⟨rfl, below_two (bdrew K1.out.2.2.2.2.2 _) (by omega) _ _⟩
  · obtain ⟨q1, q2⟩ := T2 hneg
    have Q1 := Lib.hid q1
    have Q2 := Lib.hid q2
    clear T1 T2 q1 q2
    go_enter Tryd.func18, Tryd.ntmps18
    go_wp2_with fail
    (with_reducible refine (has_any n d _).mono ?_); rintro e w1 ⟨rfl, h1⟩
    rw [H.out]
    have K1 := Lib.hid (Kp.new h1)
    obtain ⟨hc, hf, hz⟩ := bcell h1
    clear h1
    go_wp2_with fail
    go_quiet ((first | (go_at_call 42; exact quietL (mag_any _ _ (by omega) (by omega))) | (go_at_call 41; exact Calls.quiet_of (divisor_any _ _ _ (by omega) (by omega) (by omega) (by omega)))))
    rw [HA.out]
    go_wp2_with fail
    have q1 := Q1.out
    have q2 := Q2.out
    have w1' := W1.out
    have w2' := W2.out
    go_region_held3 (fun w' => w'.cell? ⟨w.heap.size, 0, none⟩ = some (.int .i64 n) ∧ w'.cell? ⟨w.heap.size, 1, none⟩ = some (.int .i64 d) ∧ w.heap.size + 1 < w'.heap.size ∧ Below w.heap.size w w')
      ((show Ks w n d _
        first
          | with_reducible exact ((Ks.of K1.out).drewN _).drew
          | with_reducible exact (Ks.of K1.out).drewN _
          | with_reducible exact Ks.set (Ks.set ((Ks.of K1.out).drewN _) (Nat.lt_succ_self _) _) (Nat.lt_succ_self _) _
          | with_reducible exact Ks.set (Ks.set (((Ks.of K1.out).drewN _).drew) (Nat.lt_succ_self _) _) (Nat.lt_succ_self _) _))
      (fail)
    all_goals
      go_wp2
      have z := Kp.two (K1.out.call (below_drewN w1 (nq + 1))) (leastN n d) (leastD n d)
      have z0 := z.1
      have z1 := z.2
      exact bodyPost_ret (v := .tuple #[.agg #[.int .i64 (leastN n d), .int .i64 (leastD n d)], .bool true]) (by simp [results, Tryd.results18, go_sem, z0, z1]) rfl ⟨rfl, below_two (bdrew K1.out.2.2.2.2.2 _) (by omega) _ _⟩
end Go.Proofs.YtnhophjahjphiaaDoor
