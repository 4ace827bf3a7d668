/- Contracts of the document's Least. -/
import Derived.Test.YtnhophjahjphiaaDoorRLeast
import Derived.Test.YtnhophjahjphiaaDoorRRefB
namespace Go.Proofs.YtnhophjahjphiaaDoor
open Go.RowKit

theorem least_any (n d : Int) (w : World) :
    Calls Tryd.prog 18 #[.agg #[.int .i64 n, .int .i64 d]] w fun e w' => e = .returned (.tuple #[.agg #[.int .i64 (lstN n d), .int .i64 (lstD n d)], .bool (hasB n d)]) ∧ Below w.heap.size w w' := by
  unfold lstN lstD
  cases h : hasB n d with
  | false => exact least_no n d w h
  | true => exact least_yes n d w h

theorem dLeast_bad (n d : Int) (w : World) (h : validB n d = false) :
    Calls Tryd.prog 19 #[.agg #[.int .i64 n, .int .i64 d]] w fun e w' => e = .returned (.tuple #[.agg #[.int .i64 0, .int .i64 0], .bool false]) ∧ Below w.heap.size w w' := by
  have H := Lib.hid h
  clear h
  go_enter Tryd.func19, Tryd.ntmps19
  go_wp2_with fail
  (with_reducible refine (dMay_any n d _).mono ?_); rintro e w1 ⟨rfl, h1⟩
  rw [H.out]
  have K1 := Lib.hid (Kp.new h1)
  have z := Lib.hid (K1.out.two 0 0)
  obtain ⟨hc, hf, hz⟩ := bcell h1
  clear h1
  go_wp2
  have z0 := z.out.1
  have z1 := z.out.2
  exact bodyPost_ret (v := .tuple #[.agg #[.int .i64 0, .int .i64 0], .bool false]) (by simp [results, Tryd.results19, go_sem, z0, z1]) rfl ⟨rfl, below_two K1.out.2.2.2.2.2 (by omega) _ _⟩
theorem dLeast_zero (n d : Int) (w : World) (h : validB n d = true) (hd : d = 0) :
    Calls Tryd.prog 19 #[.agg #[.int .i64 n, .int .i64 d]] w fun e w' => e = .returned (.tuple #[.agg #[.int .i64 0, .int .i64 0], .bool false]) ∧ Below w.heap.size w w' := by
  have H := Lib.hid h
  have t0 : (d == 0) = true := by rw [beq_iff_eq]; exact hd
  clear h hd
  go_enter Tryd.func19, Tryd.ntmps19
  go_wp2_with fail
  (with_reducible refine (dMay_any n d _).mono ?_); rintro e w1 ⟨rfl, h1⟩
  rw [H.out]
  have K1 := Lib.hid (Kp.new h1)
  have z := Lib.hid (K1.out.two 0 0)
  obtain ⟨hc, hf, hz⟩ := bcell h1
  clear h1
  go_wp2
  have z0 := z.out.1
  have z1 := z.out.2
  exact bodyPost_ret (v := .tuple #[.agg #[.int .i64 0, .int .i64 0], .bool false]) (by simp [results, Tryd.results19, go_sem, z0, z1]) rfl ⟨rfl, below_two K1.out.2.2.2.2.2 (by omega) _ _⟩

/-- What is kept while a block g holds a pair and nothing below the call's own blocks has turned. -/
def Kt (w0 : World) (g : Nat) (n d : Int) (w : World) : Prop :=
  w.cell? ⟨g, 0, none⟩ = some (.int .i64 n) ∧ w.cell? ⟨g, 1, none⟩ = some (.int .i64 d) ∧ w0.heap.size + 1 < w.heap.size ∧ Below w0.heap.size w0 w
theorem Kt.drew {w0 w : World} {g : Nat} {n d : Int} (h : Kt w0 g n d w) : Kt w0 g n d w.drew := ⟨h.1, h.2.1, h.2.2.1, h.2.2.2.drew⟩
theorem Kt.set {w0 w : World} {g : Nat} {n d : Int} (h : Kt w0 g n d w) {b o : Nat} (hb : w0.heap.size ≤ b) (hp : b ≠ g) (u : Value) : Kt w0 g n d (w.setCell ⟨b, o, none⟩ u) := by
  obtain ⟨h1, h2, h3, h4⟩ := h
  have far : ∀ (i : Nat), (w.setCell ⟨b, o, none⟩ u).cell? ⟨g, i, none⟩ = w.cell? ⟨g, i, none⟩ := fun i => World.cell?_setCell_other _ _ _ _ (fun e => by injection e with e _; exact hp e)
  exact ⟨(far _).trans h1, (far _).trans h2, by simpa [World.setCell] using h3, h4.setCell hb u⟩
theorem Kt.new {w0 w : World} {a b c e n d : Int} {T : TypeId} (h : Kp w0 a b c e w) : Kt w0 w.heap.size n d (w.alloc (.cells #[.int .i64 n, .int .i64 d] T)) := by
  have B := Bx.new w n d T
  have k := h.alloc (.cells #[.int .i64 n, .int .i64 d] T)
  exact ⟨B.c0, B.c1, k.2.2.2.2.1, k.2.2.2.2.2⟩

theorem Kt.newS {w0 w : World} {a b c e n d : Int} {T : TypeId} (h : Kp w0 a b c e w) (x y : Int) :
    Kt w0 w.heap.size n d (((w.setCell ⟨w0.heap.size + 1, 0, none⟩ (.int .i64 x)).setCell ⟨w0.heap.size + 1, 1, none⟩ (.int .i64 y)).alloc (.cells #[.int .i64 n, .int .i64 d] T)) ∧
    (((w.setCell ⟨w0.heap.size + 1, 0, none⟩ (.int .i64 x)).setCell ⟨w0.heap.size + 1, 1, none⟩ (.int .i64 y)).alloc (.cells #[.int .i64 n, .int .i64 d] T)).cell? ⟨w0.heap.size + 1, 0, none⟩ = some (.int .i64 x) ∧
    (((w.setCell ⟨w0.heap.size + 1, 0, none⟩ (.int .i64 x)).setCell ⟨w0.heap.size + 1, 1, none⟩ (.int .i64 y)).alloc (.cells #[.int .i64 n, .int .i64 d] T)).cell? ⟨w0.heap.size + 1, 1, none⟩ = some (.int .i64 y) := by
  have sz : ((w.setCell ⟨w0.heap.size + 1, 0, none⟩ (.int .i64 x)).setCell ⟨w0.heap.size + 1, 1, none⟩ (.int .i64 y)).heap.size = w.heap.size := by simp [World.setCell]
  have hs := h.two x y
  have hb := below_two h.2.2.2.2.2 (g := w0.heap.size + 1) (by omega) (.int .i64 x) (.int .i64 y)
  have hl := h.2.2.2.2.1
  revert hs hb
  generalize ((w.setCell ⟨w0.heap.size + 1, 0, none⟩ (.int .i64 x)).setCell ⟨w0.heap.size + 1, 1, none⟩ (.int .i64 y)) = W at sz
  intro hs hb
  have B := Bx.new W n d T
  rw [sz] at B
  refine ⟨⟨B.c0, B.c1, by rw [sz_alloc]; omega, hb.alloc hb.size _⟩, ?_, ?_⟩
  · rw [World.cell?_alloc_past _ _ _ (by omega)]; exact hs.1
  · rw [World.cell?_alloc_past _ _ _ (by omega)]; exact hs.2

set_option maxHeartbeats 1600000 in
theorem dLeast_yes (n d : Int) (w : World) (h : hasB n d = true) :
    Calls Tryd.prog 19 #[.agg #[.int .i64 n, .int .i64 d]] w fun e w' => e = .returned (.tuple #[.agg #[.int .i64 (leastN n d), .int .i64 (leastD n d)], .bool true]) ∧ Below w.heap.size w w' := by
  have hv := (hasB_iff.1 h).1
  have hd := (hasB_iff.1 h).2
  have H := Lib.hid hv
  have R := validB_rng hv
  have hg := gcdI_pos n hd
  have up : upD d ≤ 8589934592 ∧ 0 < upD d ∧ -8589934592 ≤ upN n d ∧ upN n d ≤ 8589934592 := by unfold upD upN; split <;> omega
  have hg2 : gcdI n d ≤ 8589934592 := Int.le_trans (Int.le_of_dvd up.2.1 (upD_dvd n d)) up.1
  have B1 := quo_mul_rng (A := upN n d) (p := gcdI n d) (by omega) hg2 (by omega) (by omega)
  have B2 := quo_mul_rng (A := upD d) (p := gcdI n d) (by omega) hg2 (by omega) (by omega)
  have w1 : IntKind.i64.wrap (leastN n d) = leastN n d := by rw [IntKind.wrap_i64]; unfold leastN; omega
  have w2 : IntKind.i64.wrap (leastD n d) = leastD n d := by rw [IntKind.wrap_i64]; unfold leastD; omega
  have W1 := Lib.hid w1
  have W2 := Lib.hid w2
  clear w1 w2 B1 B2
  have q1 : (upN n d).tdiv (gcdI n d) = leastN n d := by
    have e := leastN_mul n d
    have k : (leastN n d * gcdI n d).tdiv (gcdI n d) = leastN n d := Int.mul_tdiv_cancel _ (by omega)
    rw [e] at k; exact k
  have q2 : (upD d).tdiv (gcdI n d) = leastD n d := by
    have e := leastD_mul n d
    have k : (leastD n d * gcdI n d).tdiv (gcdI n d) = leastD n d := Int.mul_tdiv_cancel _ (by omega)
    rw [e] at k; exact k
  have q3 : (upD d) / (gcdI n d) = leastD n d := rfl
  have q4 : (upN n d) / (gcdI n d) = leastN n d := rfl
  have HA := gcdI_up n d
  have an : absI (upN n d) = if upN n d < 0 then - upN n d else upN n d := rfl
  rw [an] at HA
  generalize hN : upN n d = A at *
  generalize hD : upD d = p at *
  generalize hG : gcdI n d = G at *
  generalize leastN n d = X at *
  generalize leastD n d = Y at *
  have HN := Lib.hid hN
  have HD := Lib.hid hD
  have Q1 := Lib.hid q1
  have Q2 := Lib.hid q2
  have Q3 := Lib.hid q3
  have Q4 := Lib.hid q4
  have t0 : (G == 0) = false := by rw [beq_eq_false_iff_ne]; omega
  have t1 : ¬ G = 0 := by omega
  have td : (d == 0) = false := by rw [beq_eq_false_iff_ne]; exact hd
  clear h hG hN hD q1 q2 q3 q4 an hv hd
  by_cases hneg : A < 0
  · rw [if_pos hneg] at HA
    have HA' := Lib.hid HA
    clear HA
    go_enter Tryd.func19, Tryd.ntmps19
    go_wp2_with fail
    (with_reducible refine (dMay_any n d _).mono ?_); rintro e w1 ⟨rfl, h1⟩
    rw [H.out]
    have K1 := Lib.hid (Kp.new h1)
    obtain ⟨hc, hf, hz⟩ := bcell h1
    clear h1
    go_wp2_with fail
    (with_reducible refine (up_any n d _ (by omega) (by omega) (by omega) (by omega)).mono ?_); rintro e w2 ⟨rfl, h2⟩
    rw [HN.out, HD.out]
    have K2 := Lib.hid (K1.out.call h2)
    obtain ⟨hc2, hf2, hz2⟩ := bcell h2
    clear h2
    have ne : w.heap.size + 1 ≠ w2.heap.size := by have := K2.out.2.2.2.2.1; omega
    go_wp2_with fail
    (with_reducible refine (gcd_any _ _ _ (by omega) (by omega) (by omega) (by omega)).mono ?_); rintro e w3 ⟨rfl, rfl⟩
    rw [HA'.out]
    go_wp2_with fail
    have K3 : Hid (Kt w w2.heap.size A p _) := Lib.hid (Kt.new (n := A) (d := p) (T := 23) K2.out)
    have q1 := Q1.out
    have q2 := Q2.out
    have q3 := Q3.out
    have q4 := Q4.out
    have w1' := W1.out
    have w2' := W2.out
    have k0 := K2.out.2.2.1
    have k1 := K2.out.2.2.2.1
    have k5 := K2.out.2.2.2.2.1
    have f0 : w2.frozen? ⟨w.heap.size + 1, 0, none⟩ = false := by go_simp
    have f1 : w2.frozen? ⟨w.heap.size + 1, 1, none⟩ = false := by go_simp
    go_region_held3 (fun w' => w'.cell? ⟨w2.heap.size, 0, none⟩ = some (.int .i64 A) ∧ w'.cell? ⟨w2.heap.size, 1, none⟩ = some (.int .i64 p) ∧ w.heap.size + 1 < w'.heap.size ∧ Below w.heap.size w w')
      ((show Kt w w2.heap.size A p _
        first
          | with_reducible exact K3.out.drew
          | with_reducible exact (Kt.newS K2.out _ _).1.drew))
      (fail)
    all_goals
      go_wp2
      have z := Kt.newS (n := A) (d := p) (T := 23) K2.out X Y
      have z0 := z.2.1
      have z1 := z.2.2
      exact bodyPost_ret (v := .tuple #[.agg #[.int .i64 X, .int .i64 Y], .bool true]) (by simp [results, Tryd.results19, go_sem, z0, z1]) rfl ⟨rfl, z.1.2.2.2.drew⟩
  · rw [if_neg hneg] at HA
    have HA' := Lib.hid HA
    clear HA
    go_enter Tryd.func19, Tryd.ntmps19
    go_wp2_with fail
    (with_reducible refine (dMay_any n d _).mono ?_); rintro e w1 ⟨rfl, h1⟩
    rw [H.out]
    have K1 := Lib.hid (Kp.new h1)
    obtain ⟨hc, hf, hz⟩ := bcell h1
    clear h1
    go_wp2_with fail
    (with_reducible refine (up_any n d _ (by omega) (by omega) (by omega) (by omega)).mono ?_); rintro e w2 ⟨rfl, h2⟩
    rw [HN.out, HD.out]
    have K2 := Lib.hid (K1.out.call h2)
    obtain ⟨hc2, hf2, hz2⟩ := bcell h2
    clear h2
    have ne : w.heap.size + 1 ≠ w2.heap.size := by have := K2.out.2.2.2.2.1; omega
    go_wp2_with fail
    (with_reducible refine (gcd_any _ _ _ (by omega) (by omega) (by omega) (by omega)).mono ?_); rintro e w3 ⟨rfl, rfl⟩
    rw [HA'.out]
    go_wp2_with fail
    have K3 : Hid (Kt w w2.heap.size A p _) := Lib.hid (Kt.new (n := A) (d := p) (T := 23) K2.out)
    have q1 := Q1.out
    have q2 := Q2.out
    have q3 := Q3.out
    have q4 := Q4.out
    have w1' := W1.out
    have w2' := W2.out
    have k0 := K2.out.2.2.1
    have k1 := K2.out.2.2.2.1
    have k5 := K2.out.2.2.2.2.1
    have f0 : w2.frozen? ⟨w.heap.size + 1, 0, none⟩ = false := by go_simp
    have f1 : w2.frozen? ⟨w.heap.size + 1, 1, none⟩ = false := by go_simp
    go_region_held3 (fun w' => w'.cell? ⟨w2.heap.size, 0, none⟩ = some (.int .i64 A) ∧ w'.cell? ⟨w2.heap.size, 1, none⟩ = some (.int .i64 p) ∧ w.heap.size + 1 < w'.heap.size ∧ Below w.heap.size w w')
      ((show Kt w w2.heap.size A p _
        first
          | with_reducible exact K3.out.drew
          | with_reducible exact (Kt.newS K2.out _ _).1.drew))
      (fail)
    all_goals
      go_wp2
      have z := Kt.newS (n := A) (d := p) (T := 23) K2.out X Y
      have z0 := z.2.1
      have z1 := z.2.2
      exact bodyPost_ret (v := .tuple #[.agg #[.int .i64 X, .int .i64 Y], .bool true]) (by simp [results, Tryd.results19, go_sem, z0, z1]) rfl ⟨rfl, z.1.2.2.2.drew⟩

theorem dLeast_any (n d : Int) (w : World) :
    Calls Tryd.prog 19 #[.agg #[.int .i64 n, .int .i64 d]] w fun e w' => e = .returned (.tuple #[.agg #[.int .i64 (lstN n d), .int .i64 (lstD n d)], .bool (hasB n d)]) ∧ Below w.heap.size w w' := by
  unfold lstN lstD
  cases hv : validB n d with
  | false =>
    rw [has_no (.inl hv)]
    exact dLeast_bad n d w hv
  | true =>
    by_cases hz : d = 0
    · rw [has_no (.inr hz)]
      exact dLeast_zero n d w hv hz
    · have h := hasB_iff.2 ⟨hv, hz⟩
      rw [h]
      exact dLeast_yes n d w h
end Go.Proofs.YtnhophjahjphiaaDoor
