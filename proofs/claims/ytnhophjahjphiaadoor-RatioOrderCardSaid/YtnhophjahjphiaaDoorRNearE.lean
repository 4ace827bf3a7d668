/- Contract of the document's Near: the walk. -/
import Derived.Test.YtnhophjahjphiaaDoorRNearD
namespace Go.Proofs.YtnhophjahjphiaaDoor
open Go.RowKit
set_option linter.unusedVariables false

theorem dNear_no (A D m : Int) (w : World) (h : nearOk A D m = false) :
    Calls Tryd.prog 21 #[.agg #[.int .i64 A, .int .i64 D], .int .i64 m] w fun e w' => e = .returned (.tuple #[.agg #[.int .i64 0, .int .i64 0], .bool false]) ∧ Below w.heap.size w w' := by
  have fin : ∀ (w1 : World), Kp w A D 0 0 w1 → Below w.heap.size w w1 := fun w1 K => K.2.2.2.2.2
  cases hp : validB A D with
  | false =>
    have H := Lib.hid hp
    clear h hp
    go_enter Tryd.func21, Tryd.ntmps21
    go_wp2_with fail
    (with_reducible refine (dMay_any A D _).mono ?_); rintro e w1 ⟨rfl, h1⟩
    rw [H.out]
    have K1 := Lib.hid (Kp.new h1)
    have z := Lib.hid (K1.out.two 0 0)
    obtain ⟨hc, hf, hz⟩ := bcell h1
    clear h1
    go_wp2
    have z0 := z.out.1
    have z1 := z.out.2
    exact bodyPost_ret (v := .tuple #[.agg #[.int .i64 0, .int .i64 0], .bool false]) (by simp [results, Tryd.results21, go_sem, z0, z1]) rfl ⟨rfl, below_two K1.out.2.2.2.2.2 (by omega) _ _⟩
  | true =>
    have H := Lib.hid hp
    have hx : A < 0 ∨ (¬ A < 0 ∧ D < 1) ∨ (¬ A < 0 ∧ ¬ D < 1 ∧ m < 1) ∨ (¬ A < 0 ∧ ¬ D < 1 ∧ ¬ m < 1 ∧ 4096 < m) := by
      have : ¬ (nearOk A D m = true) := by rw [h]; exact fun e => by cases e
      rw [nearOk_iff] at this
      have := validB_rng hp
      omega
    clear h hp
    rcases hx with x1 | ⟨x0, x1⟩ | ⟨x0, x2, x1⟩ | ⟨x0, x2, x3, x1⟩
    all_goals
      go_enter Tryd.func21, Tryd.ntmps21
      go_wp2_with fail
      (with_reducible refine (dMay_any A D _).mono ?_); rintro e w1 ⟨rfl, h1⟩
      rw [H.out]
      have K1 := Lib.hid (Kp.new h1)
      have z := Lib.hid (K1.out.two 0 0)
      obtain ⟨hc, hf, hz⟩ := bcell h1
      clear h1
      go_wp2
      have z0 := z.out.1
      have z1 := z.out.2
      exact bodyPost_ret (v := .tuple #[.agg #[.int .i64 0, .int .i64 0], .bool false]) (by simp [results, Tryd.results21, go_sem, z0, z1]) rfl ⟨rfl, below_two K1.out.2.2.2.2.2 (by omega) _ _⟩

set_option maxHeartbeats 6400000 in
set_option maxRecDepth 100000 in
theorem dNear_yes (A D m : Int) (w : World) (h : nearOk A D m = true) :
    Calls Tryd.prog 21 #[.agg #[.int .i64 A, .int .i64 D], .int .i64 m] w fun e w' => e = .returned (.tuple #[.agg #[.int .i64 (nearS A D m).1, .int .i64 (nearS A D m).2.1], .bool true]) ∧ Below w.heap.size w w' := by
  obtain ⟨⟨a0, a1⟩, ⟨d0, d1⟩, m0, m1⟩ := nearOk_iff.1 h
  have hp : validB A D = true := by unfold validB; rw [plainB_iff.2 (by omega)]; rfl
  have H := Lib.hid hp
  have t0 : (D == 0) = false := by rw [beq_eq_false_iff_ne]; omega
  clear h hp
  go_enter Tryd.func21, Tryd.ntmps21
  go_wp2_with fail
  (with_reducible refine (dMay_any A D _).mono ?_); rintro e w1 ⟨rfl, h1⟩
  rw [H.out]
  have K1 := Lib.hid (Kp.new h1)
  have N0 : Hid (NQ w w1.heap.size (w1.heap.size + 1) A D (0, 0, 0) ((w1.alloc (.cells #[.int .i64 0, .int .i64 0] 23)).alloc (.cells #[.int .i64 0, .int .i64 0] 23))) := by
    obtain ⟨B1, B2⟩ := Bx.two w1 0 0 0 0 23 23
    have k := (K1.out.alloc (.cells #[.int .i64 0, .int .i64 0] 23)).alloc (.cells #[.int .i64 0, .int .i64 0] 23)
    obtain ⟨hc, hf, hz⟩ := bcell h1
    have l1 := K1.out.2.2.2.2.1
    have z : ∀ i, w1.frozen? ⟨w.heap.size + 1, i, none⟩ = false := fun i => (hf _ _ (by simp)).trans (by simp)
    refine ⟨k.1, k.2.1, k.2.2.1, k.2.2.2.1, B1.c0, B1.c1, B2.c0, B2.c1, fun i => ?_, fun i => ?_, fun i => ?_, l1, by omega, B2.lt, k.2.2.2.2.2⟩
    · rw [World.frozen?_alloc_past _ _ _ (by simp; omega), World.frozen?_alloc_past _ _ _ l1]; exact z i
    · rw [World.frozen?_alloc_past _ _ _ (by simp)]; simp
    · exact World.frozen?_alloc_at _ _ _ _ (by simp)
  obtain ⟨hc, hf, hz⟩ := bcell h1
  clear h1
  have c0 := K1.out.1
  have c1 := K1.out.2.1
  go_wp2_with fail
  clear c0 c1 hc hf hz K1
  go_loopw [8] (fun x wr => ∃ j : Int, x = .int .i64 j ∧ 1 ≤ j ∧ j ≤ m + 1 ∧ NQ w w1.heap.size (w1.heap.size + 1) A D (refS A D j) wr) (fun x _ => (m + 1 - intOf x).toNat)
  case atStart => exact ⟨1, rfl, by omega, by omega, N0.out⟩
  case round =>
    obtain ⟨j, rfl, j0, j1, hN⟩ := hrel
    have x := refS_rng A d0 j0 (show j ≤ 4097 by omega)
    have HX := Lib.hid (refS_next A (show 0 < D by omega) j0)
    have NR0 := Lib.hid hN
    clear hN N0
    obtain ⟨wo, rfl⟩ : ∃ wo : World, wo = wr := ⟨_, rfl⟩
    by_cases hj : j ≤ m
    · have p := mul_rng a0 a1 j0 (show j ≤ 4096 by omega)
      have hpq := cand_parts A D j
      have r := cand_rem A j (show 0 < D by omega)
      have hP : A * j = j * A := Int.mul_comm _ _
      rw [hP] at hpq
      have m2 : 0 ≤ j * A / D := Int.ediv_nonneg p.1 (by omega)
      have m3 : j * A / D ≤ j * A := Int.ediv_le_self _ p.1
      have e1 : (j * A).tdiv D = j * A / D := Int.tdiv_eq_ediv_of_nonneg p.1
      generalize hR : j * A % D = R at *
      generalize hT : D - R = T at *
      have hb : (j * A / D + 1) * D = j * A / D * D + D := by rw [Int.add_mul, Int.one_mul]
      generalize hPP : j * A = P at *
      have c0 := NR0.out.a
      have c1 := NR0.out.b
      have w1' : wrap64 (A * j) = P := by rw [hP]; unfold wrap64; omega
      have w2' : wrap64 (P / D * D) = P / D * D := by unfold wrap64; omega
      have w3' : wrap64 ((P / D + 1) * D) = (P / D + 1) * D := by unfold wrap64; omega
      have w4' : wrap64 (P - P / D * D) = R := by rw [show P - P / D * D = R from by omega]; unfold wrap64; omega
      have w5' : wrap64 (P - (P / D + 1) * D) = -T := by rw [show P - (P / D + 1) * D = -T from by omega]; unfold wrap64; omega
      have u4' : P - P / D * D = R := by omega
      have u5' : P - (P / D + 1) * D = -T := by omega
      have T0 : 0 < T := by omega
      have T1 : T ≤ D := by omega
      clear hR hT hPP hP hpq hb e1
      have U4 := Lib.hid u4'
      have U5 := Lib.hid u5'
      clear u4' u5'
      generalize hs : refS A D j = s at *
      go_wp2_with fail
      go_loopw [9] (fun x wi => ∃ p : Int, x = .int .i64 p ∧ ((p = P / D ∧ NQ w w1.heap.size (w1.heap.size + 1) A D s wi) ∨ (p = P / D + 1 ∧ NQ w w1.heap.size (w1.heap.size + 1) A D (rst s j (P / D) R) wi) ∨ (p = P / D + 1 + 1 ∧ NQ w w1.heap.size (w1.heap.size + 1) A D (rst (rst s j (P / D) R) j (P / D + 1) T) wi))) (fun x _ => (P / D + 2 - intOf x).toNat)
      case atStart => exact ⟨_, rfl, .inl ⟨rfl, NR0.out⟩⟩
      case round =>
        obtain ⟨p, rfl, hI⟩ := hrel
        clear c0 c1 NR0
        rcases hI with ⟨rfl, hI⟩ | ⟨rfl, hI⟩ | ⟨rfl, hI⟩
        · have hI := Lib.hid hI
          clear HX
          obtain ⟨n, d, o⟩ := s
          dsimp only at x
          have u4' := U4.out
          have g0 := hI.out.g0
          have g1 := hI.out.g1
          have k0 := hI.out.k0
          have k1 := hI.out.k1
          have c0 := hI.out.a
          have c1 := hI.out.b
          have fg := hI.out.fg
          have fh := hI.out.fh
          have v1 := prod_rng (x := R) (y := d) (by omega) (by omega) (by omega) (by omega)
          have v2 := prod_rng (x := o) (y := j) (by omega) (by omega) (by omega) (by omega)
          have y1 : wrap64 (R * d) = R * d := by unfold wrap64; omega
          have y2 : wrap64 (o * j) = o * j := by unfold wrap64; omega
          clear v1 v2
          by_cases hd : d = 0
          · have td : (d == 0) = true := by rw [beq_iff_eq]; exact hd
            have HY : Hid (rst (n, d, o) j (P / D) R = (P / D, j, R)) := Lib.hid (rst_yes (.inl hd))
            clear hd
            go_wp2_with fail
            go_roundw
            case rel => exact ⟨_, rfl, .inr (.inl ⟨rfl, by rw [HY.out]; exact hI.out.put _ _ _⟩)⟩
            case measure => simp [intOf]; omega
          · have td : (d == 0) = false := by rw [beq_eq_false_iff_ne]; exact hd
            by_cases hlt : R * d < o * j
            · have ht : decide (R * d < o * j) = true := by rw [decide_eq_true_eq]; exact hlt
              have HY : Hid (rst (n, d, o) j (P / D) R = (P / D, j, R)) := Lib.hid (rst_yes (.inr hlt))
              clear hd hlt
              go_wp2_with fail
              go_roundw
              case rel => exact ⟨_, rfl, .inr (.inl ⟨rfl, by rw [HY.out]; exact hI.out.put _ _ _⟩)⟩
              case measure => simp [intOf]; omega
            · have ht : decide (R * d < o * j) = false := by rw [decide_eq_false_iff_not]; exact hlt
              have HY : Hid (rst (n, d, o) j (P / D) R = (n, d, o)) := Lib.hid (rst_no (by rintro (q | q); exact hd q; exact hlt q))
              clear hd hlt
              go_wp2_with fail
              go_roundw
              case rel => exact ⟨_, rfl, .inr (.inl ⟨rfl, by rw [HY.out]; exact hI.out⟩)⟩
              case measure => simp [intOf]; omega
        · have x' := rst_rng (p := P / D) x j0 (show j ≤ 4096 by omega) r.1 (show R ≤ D by omega)
          generalize rst s j (P / D) R = s' at *
          have hI := Lib.hid hI
          clear x HX hs
          obtain ⟨n, d, o⟩ := s'
          dsimp only at x'
          have u5' := U5.out
          have g0 := hI.out.g0
          have g1 := hI.out.g1
          have k0 := hI.out.k0
          have k1 := hI.out.k1
          have c0 := hI.out.a
          have c1 := hI.out.b
          have fg := hI.out.fg
          have fh := hI.out.fh
          have v1 := prod_rng (x := T) (y := d) (by omega) (by omega) (by omega) (by omega)
          have v2 := prod_rng (x := o) (y := j) (by omega) (by omega) (by omega) (by omega)
          have y1 : wrap64 (T * d) = T * d := by unfold wrap64; omega
          have y2 : wrap64 (o * j) = o * j := by unfold wrap64; omega
          clear v1 v2
          by_cases hd : d = 0
          · have td : (d == 0) = true := by rw [beq_iff_eq]; exact hd
            have HY : Hid (rst (n, d, o) j (P / D + 1) T = (P / D + 1, j, T)) := Lib.hid (rst_yes (.inl hd))
            clear hd
            go_wp2_with fail
            go_roundw
            case rel => exact ⟨_, rfl, .inr (.inr ⟨rfl, by rw [HY.out]; exact hI.out.put _ _ _⟩)⟩
            case measure => simp [intOf]; omega
          · have td : (d == 0) = false := by rw [beq_eq_false_iff_ne]; exact hd
            by_cases hlt : T * d < o * j
            · have ht : decide (T * d < o * j) = true := by rw [decide_eq_true_eq]; exact hlt
              have HY : Hid (rst (n, d, o) j (P / D + 1) T = (P / D + 1, j, T)) := Lib.hid (rst_yes (.inr hlt))
              clear hd hlt
              go_wp2_with fail
              go_roundw
              case rel => exact ⟨_, rfl, .inr (.inr ⟨rfl, by rw [HY.out]; exact hI.out.put _ _ _⟩)⟩
              case measure => simp [intOf]; omega
            · have ht : decide (T * d < o * j) = false := by rw [decide_eq_false_iff_not]; exact hlt
              have HY : Hid (rst (n, d, o) j (P / D + 1) T = (n, d, o)) := Lib.hid (rst_no (by rintro (q | q); exact hd q; exact hlt q))
              clear hd hlt
              go_wp2_with fail
              go_roundw
              case rel => exact ⟨_, rfl, .inr (.inr ⟨rfl, by rw [HY.out]; exact hI.out⟩)⟩
              case measure => simp [intOf]; omega
        · have hI := Lib.hid hI
          have c0 := hI.out.a
          have c1 := hI.out.b
          go_wp2_with fail
          go_roundw
          case rel => exact ⟨j + 1, rfl, by omega, by omega, by rw [← HX.out]; exact hI.out⟩
          case measure => simp [intOf]; omega
    · obtain rfl : j = m + 1 := by omega
      have e : refS A D (m + 1) = nearS A D m := by
        unfold refS nearS
        rw [if_neg (by omega)]
        congr 1; omega
      rw [e] at NR0
      have hS : nearS A D m = nearS A D m := rfl
      generalize hG : nearS A D m = s at NR0
      obtain ⟨n, d, o⟩ := s
      have HS := Lib.hid hG
      have g0 := NR0.out.g0
      have g1 := NR0.out.g1
      have r0 := NR0.out.r0
      have r1 := NR0.out.r1
      have f0 := NR0.out.f
      clear HX hS hG e
      have Z := Lib.hid (two_set (w := wo) (g := w.heap.size + 1) (.int .i64 n) (.int .i64 d) (by rw [r0]; rfl) (by rw [r1]; rfl))
      go_wp2
      have z0 := Z.out.1
      have z1 := Z.out.2
      exact bodyPost_ret (v := .tuple #[.agg #[.int .i64 n, .int .i64 d], .bool true]) (by simp [results, Tryd.results21, go_sem, z0, z1]) rfl ⟨ret_least (by rw [HS.out]) (by rw [HS.out]), below_two NR0.out.u (by omega) _ _⟩

theorem dNear_any (A D m : Int) (w : World) :
    Calls Tryd.prog 21 #[.agg #[.int .i64 A, .int .i64 D], .int .i64 m] w fun e w' => e = .returned (.tuple #[.agg #[.int .i64 (nearN A D m), .int .i64 (nearD A D m)], .bool (nearOk A D m)]) ∧ Below w.heap.size w w' := by
  unfold nearN nearD
  cases h : nearOk A D m with
  | false => exact dNear_no A D m w h
  | true => exact dNear_yes A D m w h
end Go.Proofs.YtnhophjahjphiaaDoor
