/- Contracts: the document's Factor. -/
import Derived.Test.YtlchdelhhnlgbaaDoorCG
namespace Go.Proofs.YtlchdelhhnlgbaaDoor
open Go.RowKit Go.Lib
set_option linter.unusedVariables false
set_option maxRecDepth 100000
theorem gc_le8 : ∀ u, u < 8 → ∀ x, x < 8 → 0 < u → kN u x ≤ 8 → fl.getD (kN u x) 0 = fc u x := by decide +kernel
theorem gc_le16 : ∀ u, u < 8 → ∀ x, x < 8 → 0 < u → 8 < kN u x → kN u x ≤ 16 → -(fl.getD (16 - kN u x) 0) = fc u x := by decide +kernel
theorem gc_le24 : ∀ u, u < 8 → ∀ x, x < 8 → 0 < u → 16 < kN u x → kN u x ≤ 24 → -(fl.getD (kN u x - 16) 0) = fc u x := by decide +kernel
theorem gc_gt24 : ∀ u, u < 8 → ∀ x, x < 8 → 0 < u → 24 < kN u x → fl.getD (32 - kN u x) 0 = fc u x := by decide +kernel
theorem gc_zero : ∀ x, x < 8 → fc 0 x = 23170 := by decide +kernel
theorem fl_at {j : Nat} (h : j ≤ 8) : (ia fl)[j]? = some (.int .i64 (fl.getD j 0)) := ia_at (by show j < 9; omega)
theorem fl_bnd : ∀ j, j < 9 → 0 ≤ fl.getD j 0 ∧ fl.getD j 0 ≤ 32138 := by decide +kernel
theorem rfac_no (u x : Int) (h : ¬ (0 ≤ u ∧ u < 8 ∧ 0 ≤ x ∧ x < 8)) (w : World) : Calls Tryd.prog 8 #[.int .i64 u, .int .i64 x] w fun e w' => e = .returned (.int .i64 0) ∧ Below w.heap.size w w' := by
  have HB := Lib.hid (Below.refl w.heap.size w)
  by_cases h1 : u < 0
  · go_enter Tryd.func8, Tryd.ntmps8
    go_wp2
    go_ret
    exact ⟨rfl, HB.out⟩
  · by_cases h2 : 7 < u
    · go_enter Tryd.func8, Tryd.ntmps8
      go_wp2
      go_ret
      exact ⟨rfl, HB.out⟩
    · by_cases h3 : x < 0
      · go_enter Tryd.func8, Tryd.ntmps8
        go_wp2
        go_ret
        exact ⟨rfl, HB.out⟩
      · have h4 : 7 < x := by omega
        go_enter Tryd.func8, Tryd.ntmps8
        go_wp2
        go_ret
        exact ⟨rfl, HB.out⟩
set_option maxHeartbeats 2000000 in
theorem rfac_yes (u x : Nat) (hu : u < 8) (hx : x < 8) (w : World) : Calls Tryd.prog 8 #[.int .i64 u, .int .i64 x] w fun e w' => e = .returned (.int .i64 (fc u x)) ∧ Below w.heap.size w w' := by
  obtain ⟨w1, hw1⟩ : ∃ w1, w1 = w.alloc (.cells #[.int .i64 0, .int .i64 32138, .int .i64 30274, .int .i64 27246, .int .i64 23170, .int .i64 18205, .int .i64 12540, .int .i64 6393, .int .i64 0] 3) := ⟨_, rfl⟩
  have H0 : Hid (Blk w1 w.heap.size (ia fl)) := by rw [hw1]; exact Blk.new w _ _
  have HB : Hid (Below w.heap.size w w1) := by rw [hw1]; exact (Below.refl _ w).alloc (Nat.le_refl _) _
  have hm := kN_bnd hu hx
  have hK := kN_int (u := u) (x := x)
  have hk : kN u x < 32 := Nat.mod_lt _ (by omega)
  have l8 := gc_le8 u hu x hx
  have l16 := gc_le16 u hu x hx
  have l24 := gc_le24 u hu x hx
  have g24 := gc_gt24 u hu x hx
  have hu2 : (u : Int) ≤ 7 := by omega
  have hx2 : (x : Int) ≤ 7 := by omega
  have hu3 : (0 : Int) ≤ u := by omega
  have hx3 : (0 : Int) ≤ x := by omega
  rcases Nat.eq_zero_or_pos u with h0 | h0
  · have HF : Hid (fc u x = 23170) := by rw [h0]; exact gc_zero x hx
    generalize fc u x = f at *
    generalize kN u x = K at *
    generalize hM : (2 * (x : Int) + 1) * (u : Int) = m at *
    obtain ⟨m1, m2⟩ := hm
    have hub : ((u : Int) == 0) = true := by simp [h0]
    clear l8 l16 l24 g24 H0
    go_enter Tryd.func8, Tryd.ntmps8
    go_wp2
    go_ret
    exact ⟨ret_i HF.out.symm, by rw [← hw1]; exact HB.out⟩
  have hub : ((u : Int) == 0) = false := by simp; omega
  replace l8 := l8 h0
  replace l16 := l16 h0
  replace l24 := l24 h0
  replace g24 := g24 h0
  generalize fc u x = f at *
  generalize kN u x = K at *
  generalize hM : (2 * (x : Int) + 1) * (u : Int) = m at *
  obtain ⟨m1, m2⟩ := hm
  clear h0
  rcases Nat.lt_or_ge 8 K with h8 | h8
  · rcases Nat.lt_or_ge 16 K with h16 | h16
    · rcases Nat.lt_or_ge 24 K with h24 | h24
      · obtain ⟨J, hJ⟩ : ∃ J : Nat, J = 32 - K := ⟨_, rfl⟩
        have HF := Lib.hid (g24 h24)
        rw [← hJ] at HF
        have hcell := H0.out.cell (fl_at (j := J) (by omega))
        obtain ⟨b1, b2⟩ := fl_bnd J (by omega)
        generalize fl.getD J 0 = y at *
        have e1 : 32 - (K : Int) = J := by omega
        have q1 : ¬ (K : Int) ≤ 8 := by omega
        have q2 : ¬ (K : Int) ≤ 16 := by omega
        have q3 : ¬ (K : Int) ≤ 24 := by omega
        have q4 : (0 : Int) ≤ J := by omega
        have q5 : (J : Int) < 9 := by omega
        clear l8 l16 l24 g24 hJ H0
        go_enter Tryd.func8, Tryd.ntmps8
        go_upto_region 4 with fail
        rw [← hw1]
        clear hw1
        go_wp2
        go_ret
        exact ⟨ret_i HF.out, HB.out⟩
      · obtain ⟨J, hJ⟩ : ∃ J : Nat, J = K - 16 := ⟨_, rfl⟩
        have HF := Lib.hid (l24 h16 h24)
        rw [← hJ] at HF
        have hcell := H0.out.cell (fl_at (j := J) (by omega))
        obtain ⟨b1, b2⟩ := fl_bnd J (by omega)
        generalize fl.getD J 0 = y at *
        have e1 : (K : Int) - 16 = J := by omega
        have q1 : ¬ (K : Int) ≤ 8 := by omega
        have q2 : ¬ (K : Int) ≤ 16 := by omega
        have q3 : (K : Int) ≤ 24 := by omega
        have q4 : (0 : Int) ≤ J := by omega
        have q5 : (J : Int) < 9 := by omega
        clear l8 l16 l24 g24 hJ H0
        go_enter Tryd.func8, Tryd.ntmps8
        go_upto_region 4 with fail
        rw [← hw1]
        clear hw1
        go_wp2
        go_ret
        exact ⟨ret_i HF.out, HB.out⟩
    · obtain ⟨J, hJ⟩ : ∃ J : Nat, J = 16 - K := ⟨_, rfl⟩
      have HF := Lib.hid (l16 h8 h16)
      rw [← hJ] at HF
      have hcell := H0.out.cell (fl_at (j := J) (by omega))
      obtain ⟨b1, b2⟩ := fl_bnd J (by omega)
      generalize fl.getD J 0 = y at *
      have e1 : 16 - (K : Int) = J := by omega
      have q1 : ¬ (K : Int) ≤ 8 := by omega
      have q2 : (K : Int) ≤ 16 := by omega
      have q4 : (0 : Int) ≤ J := by omega
      have q5 : (J : Int) < 9 := by omega
      clear l8 l16 l24 g24 hJ H0
      go_enter Tryd.func8, Tryd.ntmps8
      go_upto_region 4 with fail
      rw [← hw1]
      clear hw1
      go_wp2
      go_ret
      exact ⟨ret_i HF.out, HB.out⟩
  · have HF := Lib.hid (l8 h8)
    have hcell := H0.out.cell (fl_at (j := K) (by omega))
    obtain ⟨b1, b2⟩ := fl_bnd K (by omega)
    generalize fl.getD K 0 = y at *
    have q1 : (K : Int) ≤ 8 := by omega
    have q4 : (0 : Int) ≤ K := by omega
    have q5 : (K : Int) < 9 := by omega
    clear l8 l16 l24 g24 H0
    go_enter Tryd.func8, Tryd.ntmps8
    go_upto_region 4 with fail
    rw [← hw1]
    clear hw1
    go_wp2
    go_ret
    exact ⟨ret_i HF.out, HB.out⟩
theorem rfac_any (u x : Int) (w : World) : Calls Tryd.prog 8 #[.int .i64 u, .int .i64 x] w fun e w' => e = .returned (.int .i64 (fcI u x)) ∧ Below w.heap.size w w' := by
  by_cases h : 0 ≤ u ∧ u < 8 ∧ 0 ≤ x ∧ x < 8
  · obtain ⟨a, rfl⟩ := Int.eq_ofNat_of_zero_le h.1
    obtain ⟨b, rfl⟩ := Int.eq_ofNat_of_zero_le h.2.2.1
    rw [fcI_nat (by omega) (by omega)]
    exact rfac_yes a b (by omega) (by omega) w
  · rw [fcI_no h]
    exact rfac_no u x h w
end Go.Proofs.YtlchdelhhnlgbaaDoor
