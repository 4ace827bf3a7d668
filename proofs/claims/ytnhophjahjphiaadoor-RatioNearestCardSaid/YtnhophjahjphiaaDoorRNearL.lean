/- The law RatioNearest: it returns true, whatever the ratio and the two numbers. -/
import Derived.Test.YtnhophjahjphiaaDoorRNearA
namespace Go.Proofs.YtnhophjahjphiaaDoor
open Go.RowKit
set_option linter.unusedVariables false

set_option maxRecDepth 100000 in
set_option maxHeartbeats 6400000 in
theorem rnear_no (A D m q : Int) (w : World) (hw : Env w) (h : nearOk A D m = false) :
    Calls Tryd.prog 6 #[.agg #[.int .i64 A, .int .i64 D], .int .i64 m, .int .i64 q] w fun e w' => e = .returned (.bool true) ∧ Below w.heap.size w w' := by
  have K0 := Lib.hid (K1.new w A D 23)
  have HN := near_any A D m (w.alloc (.cells #[.int .i64 A, .int .i64 D] 23))
  have e1 : nearN A D m = 0 := by unfold nearN; rw [h]; rfl
  have e2 : nearD A D m = 0 := by unfold nearD; rw [h]; rfl
  rw [e1, e2, h] at HN
  have NO := Lib.hid (fun a d m0 m1 => near_no_pure (A := A) (D := D) (m := m) h a d m0 m1)
  have HP := Lib.hid (fun W => cPlain_any A D W)
  have HS := Lib.hid (fun W => cSigned_any A D W)
  have HN' := Lib.hid HN
  clear HN e1 e2 h
  generalize plainB A D = pp at *
  generalize signB A D = ss at *
  go_enter Tryd.func6, Tryd.ntmps6
  have l0 := K0.out.a.c0
  have l1 := K0.out.a.c1
  go_wp2_with fail
  (with_reducible refine HN'.out.mono ?_); rintro e w1 ⟨rfl, h1⟩
  have K2 := Lib.hid ((K0.out.call h1).alloc (.cells #[.int .i64 0, .int .i64 0] 23))
  have R2 := Lib.hid (Bx.new w1 0 0 23)
  clear h1 K0 HN' l0 l1
  have l0 := K2.out.a.c0
  have l1 := K2.out.a.c1
  have m0 := R2.out.c0
  have m1 := R2.out.c1
  go_upto_region 3 with fail
  by_cases g1 : A < 0
  · clear NO HP HS
    have g1' : decide (A < 0) = true := decide_eq_true g1
    go_wp2_with fail
    (with_reducible refine (awake_any _ (hw.below K2.out.g)).mono ?_); rintro e wz ⟨rfl, hz⟩
    have gz := bstep K2.out.g hz
    clear hz
    go_wp2
    go_ret
    exact ⟨rfl, gz⟩
  have g1' : decide (A < 0) = false := decide_eq_false_iff_not.2 g1
  by_cases g2 : D < 1
  · clear NO HP HS
    have g2' : decide (D < 1) = true := decide_eq_true g2
    go_wp2_with fail
    (with_reducible refine (awake_any _ (hw.below K2.out.g)).mono ?_); rintro e wz ⟨rfl, hz⟩
    have gz := bstep K2.out.g hz
    clear hz
    go_wp2
    go_ret
    exact ⟨rfl, gz⟩
  have g2' : decide (D < 1) = false := decide_eq_false_iff_not.2 g2
  by_cases g3 : m < 1
  · clear NO HP HS
    have g3' : decide (m < 1) = true := decide_eq_true g3
    go_wp2_with fail
    (with_reducible refine (awake_any _ (hw.below K2.out.g)).mono ?_); rintro e wz ⟨rfl, hz⟩
    have gz := bstep K2.out.g hz
    clear hz
    go_wp2
    go_ret
    exact ⟨rfl, gz⟩
  have g3' : decide (m < 1) = false := decide_eq_false_iff_not.2 g3
  by_cases g4 : 4096 < m
  · clear NO HP HS
    have g4' : decide (4096 < m) = true := decide_eq_true g4
    go_wp2_with fail
    (with_reducible refine (awake_any _ (hw.below K2.out.g)).mono ?_); rintro e wz ⟨rfl, hz⟩
    have gz := bstep K2.out.g hz
    clear hz
    go_wp2
    go_ret
    exact ⟨rfl, gz⟩
  have g4' : decide (4096 < m) = false := decide_eq_false_iff_not.2 g4
  obtain ⟨rfl, rfl⟩ := NO.out (by omega) (by omega) (by omega) (by omega)
  clear NO
  go_wp2_with fail
  (with_reducible refine (HP.out _).mono ?_); rintro e w3 ⟨rfl, h3⟩
  have K3 := Lib.hid (K2.out.call h3)
  clear h3 K2 R2 l0 l1 m0 m1
  have l0 := K3.out.a.c0
  have l1 := K3.out.a.c1
  go_wp2_with fail
  (with_reducible refine (HS.out _).mono ?_); rintro e w4 ⟨rfl, h4⟩
  have K4 := Lib.hid (K3.out.call h4)
  clear h4 K3 l0 l1
  go_wp2_with fail
  (with_reducible refine (awake_any _ (hw.below K4.out.g)).mono ?_); rintro e wz ⟨rfl, hz⟩
  have gz := bstep K4.out.g hz
  clear hz
  go_wp2
  go_ret
  exact ⟨rfl, gz⟩

set_option maxRecDepth 100000 in
set_option maxHeartbeats 12800000 in
theorem rnear_yes (A D m q : Int) (w : World) (hw : Env w) (h : nearOk A D m = true) :
    Calls Tryd.prog 6 #[.agg #[.int .i64 A, .int .i64 D], .int .i64 m, .int .i64 q] w fun e w' => e = .returned (.bool true) ∧ Below w.heap.size w w' := by
  have K0 := Lib.hid (K1.new w A D 23)
  have HN := near_any A D m (w.alloc (.cells #[.int .i64 A, .int .i64 D] 23))
  obtain ⟨⟨a0, a1⟩, ⟨d0, d1⟩, m0, m1⟩ := nearOk_iff.1 h
  obtain ⟨o, p1, p2, p3, p4, pn⟩ := near_pure h
  have HL := Lib.hid (fun W => least_any (nearN A D m) (nearD A D m) W)
  rw [p1, p2, p3] at HL
  have HS := Lib.hid (fun W => least_any A D W)
  rw [p4] at HS
  rw [h] at HN
  have HN' := Lib.hid HN
  have PN := Lib.hid pn
  clear HN h p1 p2 p3 p4 pn
  generalize nearN A D m = n at *
  generalize nearD A D m = d at *
  generalize lstN A D = e at *
  generalize lstD A D = f at *
  go_enter Tryd.func6, Tryd.ntmps6
  have l0 := K0.out.a.c0
  have l1 := K0.out.a.c1
  go_wp2_with fail
  (with_reducible refine HN'.out.mono ?_); rintro e w1 ⟨rfl, h1⟩
  have K2 := Lib.hid ((K0.out.call h1).alloc (.cells #[.int .i64 n, .int .i64 d] 23))
  have R2 := Lib.hid (Bx.new w1 n d 23)
  clear h1 K0 HN' l0 l1
  have r0 := R2.out.c0
  have r1 := R2.out.c1
  go_wp2_with fail
  (with_reducible refine (HL.out _).mono ?_); rintro e w3 ⟨rfl, h3⟩
  have K3 := Lib.hid ((K2.out.call h3).alloc (.cells #[.int .i64 n, .int .i64 d] 23))
  have R3 := Lib.hid ((R2.out.below h3).alloc (.cells #[.int .i64 n, .int .i64 d] 23))
  have S3 := Lib.hid (Bx.new w3 n d 23)
  clear h3 K2 R2 HL r0 r1
  have l0 := K3.out.a.c0
  have l1 := K3.out.a.c1
  go_wp2_with fail
  (with_reducible refine (HS.out _).mono ?_); rintro e' w4 ⟨rfl, h4⟩
  have K4 := Lib.hid ((K3.out.call h4).alloc (.cells #[.int .i64 e, .int .i64 f] 23))
  have R4 := Lib.hid ((R3.out.below h4).alloc (.cells #[.int .i64 e, .int .i64 f] 23))
  have S4 := Lib.hid ((S3.out.below h4).alloc (.cells #[.int .i64 e, .int .i64 f] 23))
  have T4 := Lib.hid (Bx.new w4 e f 23)
  clear h4 K3 R3 S3 HS l0 l1
  have l0 := K4.out.a.c0
  have l1 := K4.out.a.c1
  have r0 := R4.out.c0
  have r1 := R4.out.c1
  have s0 := S4.out.c0
  have s1 := S4.out.c1
  have t0 := T4.out.c0
  have t1 := T4.out.c1
  go_upto_region 6 with fail
  go_cut [110] (fun c wx => c = .bool false ∧ wx = w4.alloc (.cells #[.int .i64 e, .int .i64 f] 23))
  case first => as_aux_lemma =>
    have b1 : decide (d < 1) = false := decide_eq_false_iff_not.2 (by have := PN.out.d0; omega)
    have b2 : decide (m < d) = false := decide_eq_false_iff_not.2 (by have := PN.out.d1; omega)
    have b3 : decide (n < 0) = false := decide_eq_false_iff_not.2 (by have := PN.out.n0; omega)
    have b4 : decide (4294967295 < n) = false := decide_eq_false_iff_not.2 (by have := PN.out.n1; omega)
    have c1 : 1 ≤ d := PN.out.d0
    have c2 : d ≤ m := PN.out.d1
    have c3 : 0 ≤ n := PN.out.n0
    have c4 : n ≤ 4294967295 := PN.out.n1
    by_cases hf : f ≤ m
    · have hs := PN.out.self hf
      have b5 : decide (f ≤ m) = true := decide_eq_true hf
      clear PN K4 R4 S4 T4
      obtain ⟨rfl, rfl⟩ := hs
      go_wp2_with fail
      go_meet
      exact ⟨rfl, rfl⟩
    · have b5 : decide (f ≤ m) = false := decide_eq_false_iff_not.2 hf
      clear PN K4 R4 S4 T4
      go_wp2_with fail
      go_meet
      exact ⟨rfl, rfl⟩
  case rest =>
    (obtain ⟨rfl, hh⟩ := hcut; subst wc)
    clear S4 T4 s0 s1 t0 t1
    go_upto_region 8 with fail
    go_cut [121] (fun c wx => c = .bool (!decide (1 ≤ q ∧ q ≤ m ∧ q ≤ 200)) ∧ wx = w4.alloc (.cells #[.int .i64 e, .int .i64 f] 23))
    case first => as_aux_lemma =>
      clear PN K4 R4
      by_cases q1 : 1 ≤ q
      · have b1 : decide (q < 1) = false := decide_eq_false_iff_not.2 (by omega)
        by_cases q2 : q ≤ m
        · have b2 : decide (m < q) = false := decide_eq_false_iff_not.2 (by omega)
          by_cases q3 : q ≤ 200
          · have b3 : decide (200 < q) = false := decide_eq_false_iff_not.2 (by omega)
            have HH := Lib.hid (decide_eq_true (p := 1 ≤ q ∧ q ≤ m ∧ q ≤ 200) ⟨q1, q2, q3⟩)
            go_wp2_with fail
            go_meet
            exact ⟨by rw [HH.out]; rfl, rfl⟩
          · have b3 : decide (200 < q) = true := decide_eq_true (by omega)
            have HH := Lib.hid (decide_eq_false (p := 1 ≤ q ∧ q ≤ m ∧ q ≤ 200) (by omega))
            go_wp2_with fail
            go_meet
            exact ⟨by rw [HH.out]; rfl, rfl⟩
        · have b2 : decide (m < q) = true := decide_eq_true (by omega)
          have HH := Lib.hid (decide_eq_false (p := 1 ≤ q ∧ q ≤ m ∧ q ≤ 200) (by omega))
          go_wp2_with fail
          go_meet
          exact ⟨by rw [HH.out]; rfl, rfl⟩
      · have b1 : decide (q < 1) = true := decide_eq_true (by omega)
        have HH := Lib.hid (decide_eq_false (p := 1 ≤ q ∧ q ≤ m ∧ q ≤ 200) (by omega))
        go_wp2_with fail
        go_meet
        exact ⟨by rw [HH.out]; rfl, rfl⟩
    case rest =>
      obtain ⟨rfl, hh⟩ := hcut
      subst wc
      by_cases hq : 1 ≤ q ∧ q ≤ m ∧ q ≤ 200
      · rw [decide_eq_true hq]
        obtain ⟨q0, q1, q2⟩ := hq
        have q0' : decide (q < 1) = false := decide_eq_false_iff_not.2 (by omega)
        have pn := PN.out
        have hx := prod_rng a0 a1 (show 0 ≤ d by have := pn.d0; omega) (show d ≤ 4096 by have := pn.d1; omega)
        have hf := pn.far
        have ho := pn.o1
        have hf2 : absI (A * d - n * D) = o := hf
        have hy : A * d - D ≤ n * D ∧ n * D ≤ A * d + D := by unfold absI at hf2; split at hf2 <;> omega
        have v1 : wrap64 (A * d) = A * d := by unfold wrap64; omega
        have v2 : wrap64 (n * D) = n * D := by unfold wrap64; omega
        have v3 : wrap64 (A * d - n * D) = A * d - n * D := by unfold wrap64; omega
        have v4 : wrap64 (n * D - A * d) = n * D - A * d := by unfold wrap64; omega
        have PF := Lib.hid hf
        have BE := Lib.hid pn.best
        have LE := Lib.hid pn.least
        have DD : 1 ≤ d ∧ d ≤ m := ⟨pn.d0, pn.d1⟩
        have OO : 0 ≤ o ∧ o ≤ D := ⟨pn.o0, pn.o1⟩
        clear pn hx hf ho hf2 hy PN
        have MX := Lib.hid ((max_dist A D d n).trans PF.out)
        go_upto_region 11 with fail
        rw [MX.out]
        clear v1 v2 v3 v4 MX
        have aq := prod_rng3 a0 a1 (show 0 ≤ q by omega) q2
        have e1 : (A * q).tdiv D = A * q / D := Int.tdiv_eq_ediv_of_nonneg aq.1
        generalize hG : A * q / D = G at e1
        obtain ⟨g0, g1, gj⟩ := about d0 aq.1 hG
        have GJ := Lib.hid gj
        have t0 : (D == 0) = false := by rw [beq_eq_false_iff_ne]; omega
        have t1 : ¬ D = 0 := by omega
        have v1 : wrap64 (A * q) = A * q := by unfold wrap64; omega
        have v2 : wrap64 G = G := by unfold wrap64; omega
        have v3 : wrap64 (G - 1) = G - 1 := by unfold wrap64; omega
        have v4 : wrap64 (G + 2) = G + 2 := by unfold wrap64; omega
        have AQ := Lib.hid aq
        clear hG gj aq
        go_wp2_with fail
        go_loop [14] (fun x => ∃ j : Int, x = .int .i64 j ∧ 0 ≤ j ∧ j ≤ G + 3) (fun x => (G + 3 - intOf x).toNat)
        case atStart => exact ⟨max 0 (G - 1), rfl, by omega, by omega⟩
        case round =>
          obtain ⟨j, rfl, j0, j1⟩ := hrel
          by_cases hj : j ≤ G + 2
          · have hj' : decide (j ≤ G + 2) = true := decide_eq_true hj
            obtain ⟨y0, y1⟩ := GJ.out j j0 hj
            have aq := AQ.out
            have x1 : wrap64 (j * D) = j * D := by unfold wrap64; omega
            have x2 : wrap64 (A * q - j * D) = A * q - j * D := by unfold wrap64; omega
            have x3 : wrap64 (j * D - A * q) = j * D - A * q := by unfold wrap64; omega
            have x4 : wrap64 (j + 1) = j + 1 := by unfold wrap64; omega
            have hB : 0 ≤ dist A D q j ∧ dist A D q j ≤ 900000000000 := by unfold dist absI; split <;> omega
            have be := BE.out q j q0 q1
            have le := LE.out q j q0 q1
            have MX := Lib.hid (max_dist A D q j)
            clear y0 y1 aq
            generalize dist A D q j = B at *
            have p1 := prod_rng2 hB.1 hB.2 (show 0 ≤ d by omega) (show d ≤ 4096 by omega)
            have p2 := prod_rng3 (x := o) (y := q) OO.1 (by omega) (by omega) q2
            have x5 : wrap64 (B * d) = B * d := by unfold wrap64; omega
            have x6 : wrap64 (o * q) = o * q := by unfold wrap64; omega
            have z1 : decide (B * d < o * q) = false := decide_eq_false_iff_not.2 (by omega)
            by_cases hz : B * d = o * q
            · have hd := le hz.symm
              have z2 : (B * d == o * q) = true := beq_iff_eq.2 hz
              have z3 : decide (q < d) = false := decide_eq_false_iff_not.2 (by omega)
              have JH := Lib.hid hj
              clear be le hz p1 p2 hB hj
              go_upto_region 15 with fail
              rw [MX.out]
              go_wp2_with fail
              go_round
              case rel => exact ⟨j + 1, by go_num, by omega, by have := JH.out; omega⟩
              case measure => have := JH.out; simp [intOf]; omega
            · have z2 : (B * d == o * q) = false := beq_eq_false_iff_ne.2 hz
              have JH := Lib.hid hj
              clear be le hz p1 p2 hB hj
              go_upto_region 15 with fail
              rw [MX.out]
              go_wp2_with fail
              go_round
              case rel => exact ⟨j + 1, by go_num, by omega, by have := JH.out; omega⟩
              case measure => have := JH.out; simp [intOf]; omega
          · have hj' : decide (j ≤ G + 2) = false := decide_eq_false hj
            go_wp2_with fail
            (with_reducible refine (awake_any _ (hw.below K4.out.g)).mono ?_); rintro e' wz ⟨rfl, hz⟩
            have gz := bstep K4.out.g hz
            clear hz
            go_wp2
            go_ret
            exact ⟨rfl, gz⟩
      · rw [decide_eq_false hq]
        clear PN
        go_wp2_with fail
        (with_reducible refine (awake_any _ (hw.below K4.out.g)).mono ?_); rintro e' wz ⟨rfl, hz⟩
        have gz := bstep K4.out.g hz
        clear hz
        go_wp2
        go_ret
        exact ⟨rfl, gz⟩

theorem rnear_any (A D m q : Int) (w : World) (hw : Env w) :
    Calls Tryd.prog 6 #[.agg #[.int .i64 A, .int .i64 D], .int .i64 m, .int .i64 q] w fun e w' => e = .returned (.bool true) ∧ Below w.heap.size w w' := by
  cases h : nearOk A D m with
  | false => exact rnear_no A D m q w hw h
  | true => exact rnear_yes A D m q w hw h
end Go.Proofs.YtnhophjahjphiaaDoor
