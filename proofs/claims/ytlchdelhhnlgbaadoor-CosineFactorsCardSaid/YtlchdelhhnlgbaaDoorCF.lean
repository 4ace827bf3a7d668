/- Contracts: the factors (Factor, the document's Factor), places, rounding. -/
import Derived.Test.YtlchdelhhnlgbaaDoorCB
namespace Go.Proofs.YtlchdelhhnlgbaaDoor
open Go.RowKit Go.Lib
set_option linter.unusedVariables false
set_option maxRecDepth 100000
theorem place_any (n : Int) (w : World) : Calls Tryd.prog 18 #[.int .i64 n] w fun e w' => e = .returned (.bool (decide (0 ≤ n) && decide (n < 8))) ∧ w = w' := by
  by_cases h : 0 ≤ n
  · go_enter Tryd.func18, Tryd.ntmps18
    go_wp2
    go_ret
    simp [h]
  · have h' : n < 0 := by omega
    have HF : Hid ((decide (0 ≤ n) && decide (n < 8)) = false) := by show _ = _; simp; omega
    go_enter Tryd.func18, Tryd.ntmps18
    go_wp2
    go_ret
    rw [HF.out]
    exact ⟨rfl, rfl⟩
/-- The factors, as the code has them: for k from 0 to 8. -/
def fz : List Int := [23170, 32138, 30274, 27246, 23170, 18205, 12540, 6393, 0]
/-- What the variable holds. -/
def Env (w : World) : Prop := Blk w 0 (ia fz)
theorem Env.below {w w' : World} (h : Env w) (hb : Below w.heap.size w w') : Env w' := Blk.below h hb
theorem Env.drew {w : World} (h : Env w) : Env w.drew := h
/-- The factor of any two numbers. -/
def fcI (u x : Int) : Int := if 0 ≤ u ∧ u < 8 ∧ 0 ≤ x ∧ x < 8 then fc u.toNat x.toNat else 0
theorem fcI_nat {u x : Nat} (hu : u < 8) (hx : x < 8) : fcI u x = fc u x := by
  unfold fcI
  rw [if_pos (by omega)]; simp
theorem fcI_no {u x : Int} (h : ¬ (0 ≤ u ∧ u < 8 ∧ 0 ≤ x ∧ x < 8)) : fcI u x = 0 := if_neg h
theorem fc_bnd : ∀ u, u < 8 → ∀ x, x < 8 → -32138 ≤ fc u x ∧ fc u x ≤ 32138 := by decide +kernel
theorem fcI_bnd (u x : Int) : -32138 ≤ fcI u x ∧ fcI u x ≤ 32138 := by
  unfold fcI
  split
  · exact fc_bnd _ (by omega) _ (by omega)
  · omega
/-- k of u and x, and which factor it names. -/
def kN (u x : Nat) : Nat := (2 * x + 1) * u % 32
theorem kN_int {u x : Nat} : ((2 * (x : Int) + 1) * (u : Int)).tmod 32 = (kN u x : Int) := by
  unfold kN
  rw [Int.tmod_eq_emod_of_nonneg (by
    have : (0 : Int) ≤ (2 * (x : Int) + 1) * (u : Int) := Int.mul_nonneg (by omega) (by omega)
    exact this)]
  simp
theorem kN_bnd {u x : Nat} (hu : u < 8) (hx : x < 8) : (0 : Int) ≤ (2 * (x : Int) + 1) * (u : Int) ∧ (2 * (x : Int) + 1) * (u : Int) ≤ 105 := by
  have : (2 * x + 1) * u ≤ 15 * 7 := Nat.mul_le_mul (by omega) (by omega)
  constructor
  · exact Int.mul_nonneg (by omega) (by omega)
  · have h2 : ((2 * x + 1) * u : Nat) ≤ (105 : Int) := by omega
    simpa using h2
theorem fc_le8 : ∀ u, u < 8 → ∀ x, x < 8 → kN u x ≤ 8 → fz.getD (kN u x) 0 = fc u x := by decide +kernel
theorem fc_le16 : ∀ u, u < 8 → ∀ x, x < 8 → 8 < kN u x → kN u x ≤ 16 → -(fz.getD (16 - kN u x) 0) = fc u x := by decide +kernel
theorem fc_lt24 : ∀ u, u < 8 → ∀ x, x < 8 → 16 < kN u x → kN u x < 24 → -(fz.getD (kN u x - 16) 0) = fc u x := by decide +kernel
theorem fc_ge24 : ∀ u, u < 8 → ∀ x, x < 8 → 24 ≤ kN u x → fz.getD (32 - kN u x) 0 = fc u x := by decide +kernel
theorem fz_at {j : Nat} (h : j ≤ 8) : (ia fz)[j]? = some (.int .i64 (fz.getD j 0)) := ia_at (by show j < 9; omega)
theorem fz_bnd : ∀ j, j < 9 → 0 ≤ fz.getD j 0 ∧ fz.getD j 0 ≤ 32138 := by decide +kernel
theorem factor_no (u x : Int) (h : ¬ (0 ≤ u ∧ u < 8 ∧ 0 ≤ x ∧ x < 8)) (w : World) : Calls Tryd.prog 7 #[.int .i64 u, .int .i64 x] w fun e w' => e = .returned (.int .i64 0) ∧ w = w' := by
  have HP := Lib.hid place_any
  cases hu : (decide (0 ≤ u) && decide (u < 8)) with
  | false =>
    have HU := Lib.hid (HP.out u w)
    rw [hu] at HU
    clear hu h
    go_enter Tryd.func7, Tryd.ntmps7
    go_wp2_with (go_at_call 18; (with_reducible refine HU.out.mono ?_); rintro e w2 ⟨rfl, rfl⟩)
    go_ret
    exact ⟨rfl, rfl⟩
  | true =>
    have HU := Lib.hid (HP.out u w)
    rw [hu] at HU
    have hx : (decide (0 ≤ x) && decide (x < 8)) = false := by
      simp only [Bool.and_eq_true, decide_eq_true_eq] at hu
      simp only [Bool.and_eq_false_iff, decide_eq_false_iff_not]
      omega
    have HX := Lib.hid (HP.out x w)
    rw [hx] at HX
    clear hu hx h
    go_enter Tryd.func7, Tryd.ntmps7
    go_wp2_with (first
      | (go_at_call 18; (with_reducible refine HU.out.mono ?_); rintro e w2 ⟨rfl, rfl⟩)
      | (go_at_call 18; (with_reducible refine HX.out.mono ?_); rintro e w2 ⟨rfl, rfl⟩))
    go_ret
    exact ⟨rfl, rfl⟩
theorem factor_yes (u x : Nat) (hu : u < 8) (hx : x < 8) (w : World) (he : Env w) : Calls Tryd.prog 7 #[.int .i64 u, .int .i64 x] w fun e w' => e = .returned (.int .i64 (fc u x)) ∧ w = w' := by
  have HU : Hid (Calls Tryd.prog 18 #[.int .i64 u] w fun e w' => e = .returned (.bool true) ∧ w = w') := by
    have := place_any u w
    rwa [show (decide (0 ≤ (u : Int)) && decide ((u : Int) < 8)) = true by simp; omega] at this
  have HX : Hid (Calls Tryd.prog 18 #[.int .i64 x] w fun e w' => e = .returned (.bool true) ∧ w = w') := by
    have := place_any x w
    rwa [show (decide (0 ≤ (x : Int)) && decide ((x : Int) < 8)) = true by simp; omega] at this
  have hm := kN_bnd hu hx
  have hK := kN_int (u := u) (x := x)
  have hk : kN u x < 32 := Nat.mod_lt _ (by omega)
  have l8 := fc_le8 u hu x hx
  have l16 := fc_le16 u hu x hx
  have l24 := fc_lt24 u hu x hx
  have g24 := fc_ge24 u hu x hx
  generalize fc u x = f at *
  generalize kN u x = K at *
  generalize hM : (2 * (x : Int) + 1) * (u : Int) = m at *
  obtain ⟨m1, m2⟩ := hm
  have hu2 : (u : Int) < 8 := by omega
  have hx2 : (x : Int) < 8 := by omega
  have hu3 : (0 : Int) ≤ u := by omega
  have hx3 : (0 : Int) ≤ x := by omega
  rcases Nat.lt_or_ge 8 K with h8 | h8
  · rcases Nat.lt_or_ge 16 K with h16 | h16
    · have l8 := True.intro; have l16 := True.intro
      rcases Nat.lt_or_ge K 24 with h24 | h24
      · obtain ⟨J, hJ⟩ : ∃ J : Nat, J = K - 16 := ⟨_, rfl⟩
        obtain ⟨M, hM2⟩ : ∃ M : Int, M = 32 - (K : Int) := ⟨_, rfl⟩
        have HF := Lib.hid (l24 h16 h24)
        rw [← hJ] at HF
        have hcell := he.cell (fz_at (j := J) (by omega))
        obtain ⟨b1, b2⟩ := fz_bnd J (by omega)
        generalize fz.getD J 0 = y at *
        have e1 : 32 - (K : Int) = M := hM2.symm
        have e2 : 16 - M = (J : Int) := by omega
        have e3 : (K : Int) = 16 + J := by omega
        have q1 : 8 < M := by omega
        have q2 : M < 16 := by omega
        have q3 : (0 : Int) ≤ J := by omega
        have q4 : (J : Int) ≤ 8 := by omega
        have q5 : M ≤ (K : Int) := by omega
        clear l8 l16 l24 g24 hM2 hJ
        clear e3
        go_enter Tryd.func7, Tryd.ntmps7
        go_wp2_with (first
          | (go_at_call 18; (with_reducible refine HU.out.mono ?_); rintro e w2 ⟨rfl, rfl⟩)
          | (go_at_call 18; (with_reducible refine HX.out.mono ?_); rintro e w2 ⟨rfl, rfl⟩))
        go_ret
        exact ⟨ret_i HF.out, rfl⟩
      · obtain ⟨J, hJ⟩ : ∃ J : Nat, J = 32 - K := ⟨_, rfl⟩
        have HF := Lib.hid (g24 h24)
        rw [← hJ] at HF
        have hcell := he.cell (fz_at (j := J) (by omega))
        obtain ⟨b1, b2⟩ := fz_bnd J (by omega)
        generalize fz.getD J 0 = y at *
        have e1 : 32 - (K : Int) = J := by omega
        have q1 : ¬ (8 : Int) < (J : Int) := by omega
        have q3 : (0 : Int) ≤ J := by omega
        have q4 : (J : Int) < 9 := by omega
        have q5 : (J : Int) ≤ (K : Int) := by omega
        clear l8 l16 l24 g24 hJ
        go_enter Tryd.func7, Tryd.ntmps7
        go_wp2_with (first
          | (go_at_call 18; (with_reducible refine HU.out.mono ?_); rintro e w2 ⟨rfl, rfl⟩)
          | (go_at_call 18; (with_reducible refine HX.out.mono ?_); rintro e w2 ⟨rfl, rfl⟩))
        go_ret
        exact ⟨ret_i HF.out, rfl⟩
    · obtain ⟨J, hJ⟩ : ∃ J : Nat, J = 16 - K := ⟨_, rfl⟩
      obtain ⟨M, hM2⟩ : ∃ M : Int, M = 32 - (K : Int) := ⟨_, rfl⟩
      have HF := Lib.hid (l16 h8 h16)
      rw [← hJ] at HF
      have hcell := he.cell (fz_at (j := J) (by omega))
      obtain ⟨b1, b2⟩ := fz_bnd J (by omega)
      generalize fz.getD J 0 = y at *
      have e1 : 32 - (K : Int) = M := hM2.symm
      have e2 : 16 - (K : Int) = (J : Int) := by omega
      have q1 : 8 < (K : Int) := by omega
      have q2 : M ≤ 24 := by omega
      have q3 : (0 : Int) ≤ J := by omega
      have q4 : (J : Int) ≤ 8 := by omega
      have q5 : (K : Int) ≤ M := by omega
      clear l8 l16 l24 g24 hM2 hJ
      go_enter Tryd.func7, Tryd.ntmps7
      go_wp2_with (first
        | (go_at_call 18; (with_reducible refine HU.out.mono ?_); rintro e w2 ⟨rfl, rfl⟩)
        | (go_at_call 18; (with_reducible refine HX.out.mono ?_); rintro e w2 ⟨rfl, rfl⟩))
      go_ret
      exact ⟨ret_i HF.out, rfl⟩
  · obtain ⟨M, hM2⟩ : ∃ M : Int, M = 32 - (K : Int) := ⟨_, rfl⟩
    have HF := Lib.hid (l8 h8)
    have hcell := he.cell (fz_at (j := K) (by omega))
    obtain ⟨b1, b2⟩ := fz_bnd K (by omega)
    generalize fz.getD K 0 = y at *
    have e1 : 32 - (K : Int) = M := hM2.symm
    have q1 : ¬ (8 : Int) < (K : Int) := by omega
    have q2 : M ≤ 32 := by omega
    have q3 : (0 : Int) ≤ K := by omega
    have q4 : (K : Int) < 9 := by omega
    have q5 : (K : Int) ≤ M := by omega
    clear l8 l16 l24 g24 hM2
    go_enter Tryd.func7, Tryd.ntmps7
    go_wp2_with (first
      | (go_at_call 18; (with_reducible refine HU.out.mono ?_); rintro e w2 ⟨rfl, rfl⟩)
      | (go_at_call 18; (with_reducible refine HX.out.mono ?_); rintro e w2 ⟨rfl, rfl⟩))
    go_ret
    exact ⟨ret_i HF.out, rfl⟩
theorem factor_any (u x : Int) (w : World) (he : Env w) : Calls Tryd.prog 7 #[.int .i64 u, .int .i64 x] w fun e w' => e = .returned (.int .i64 (fcI u x)) ∧ w = w' := by
  by_cases h : 0 ≤ u ∧ u < 8 ∧ 0 ≤ x ∧ x < 8
  · obtain ⟨a, rfl⟩ := Int.eq_ofNat_of_zero_le h.1
    obtain ⟨b, rfl⟩ := Int.eq_ofNat_of_zero_le h.2.2.1
    rw [fcI_nat (by omega) (by omega)]
    exact factor_yes a b (by omega) (by omega) w he
  · rw [fcI_no h]
    exact factor_no u x h w
/-- Rounding. -/
theorem round_any (s : Int) (h1 : -4611686018427387904 ≤ s) (h2 : s ≤ 4611686018427387904) (w : World) : Calls Tryd.prog 24 #[.int .i64 s] w fun e w' => e = .returned (.int .i64 (rd s)) ∧ w = w' := by
  have HF : Hid (rd s = (s + 2147483648) / 4294967296) := rfl
  go_enter Tryd.func24, Tryd.ntmps24
  go_wp2
  go_ret
  exact ⟨ret_i HF.out.symm, rfl⟩
theorem inv_any (x u : Int) (w : World) (he : Env w) : Calls Tryd.prog 20 #[.int .i64 x, .int .i64 u] w fun e w' => e = .returned (.int .i64 (fcI u x)) ∧ w = w' := by
  have HK := Lib.hid (factor_any u x w he)
  clear he
  go_enter Tryd.func20, Tryd.ntmps20
  go_wp2_with (go_at_call 7; (with_reducible refine HK.out.mono ?_); rintro e w2 ⟨rfl, rfl⟩)
  go_ret
  exact ⟨rfl, rfl⟩
end Go.Proofs.YtlchdelhhnlgbaaDoor
