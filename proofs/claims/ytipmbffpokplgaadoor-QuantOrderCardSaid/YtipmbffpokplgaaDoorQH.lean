/- Contracts: the document's Within, Nearest, Divide, Multiply, Scaled. -/
import Derived.Test.YtipmbffpokplgaaDoorQF
import Derived.StillTailTactics
namespace Go.Proofs.YtipmbffpokplgaaDoor
open Go.RowKit Go.Lib
set_option linter.unusedVariables false
set_option maxRecDepth 100000
set_option maxHeartbeats 2000000 in
theorem rwi_any (l : List Int) (hl : l.length = 64) (a b : Int) (w : World) : Calls Tryd.prog 7 #[.agg (ia l), .int .i64 a, .int .i64 b] w fun e w' => e = .returned (.bool (wiB l a b)) ∧ Below w.heap.size w w' := by
  obtain ⟨w1, hw1⟩ : ∃ w1, w1 = w.alloc (.cells (ia l) 23) := ⟨_, rfl⟩
  have H0 : Hid (Blk w1 w.heap.size (ia l)) := by rw [hw1]; exact Blk.new w _ _
  have HB : Hid (Below w.heap.size w w1) := by rw [hw1]; exact (Below.refl _ w).alloc (Nat.le_refl _) _
  have HL := Lib.hid hl
  clear hl
  go_enter Tryd.func7, Tryd.ntmps7
  go_wp2
  rw [← hw1]
  clear hw1
  go_loopw [7] (fun i wr => ∃ k : Nat, k ≤ 64 ∧ i = .int .i64 k ∧ wr = w1 ∧ Hid (∀ j, j < k → a ≤ l.getD j 0 ∧ l.getD j 0 ≤ b)) (fun i _ => 64 - (RowKit.intOf i).toNat)
  case atStart => exact ⟨0, by omega, rfl, rfl, (show Hid _ from fun j hj => by omega)⟩
  case round =>
    obtain ⟨k, hk, rfl, hw, HN⟩ := hrel
    subst hw
    by_cases hk4 : k < 64
    · have hcell := H0.out.cell (ia_at (l := l) (j := k) (by rw [HL.out]; exact hk4))
      by_cases h1 : l.getD k 0 < a
      · have HY := Lib.hid (wiB_no (l := l) (a := a) (b := b) (k := k) (by rw [HL.out]; exact hk4) (.inl h1))
        clear HN
        generalize l.getD k 0 = x at *
        go_wp2
        go_ret
        rw [HY.out]
        exact ⟨rfl, HB.out⟩
      · by_cases h2 : b < l.getD k 0
        · have HY := Lib.hid (wiB_no (l := l) (a := a) (b := b) (k := k) (by rw [HL.out]; exact hk4) (.inr h2))
          clear HN
          generalize l.getD k 0 = x at *
          go_wp2
          go_ret
          rw [HY.out]
          exact ⟨rfl, HB.out⟩
        · have HX : Hid (a ≤ l.getD k 0 ∧ l.getD k 0 ≤ b) := by show _ ∧ _; omega
          have HNN : Hid (∀ j, j < k + 1 → a ≤ l.getD j 0 ∧ l.getD j 0 ≤ b) := fun j hj => by
            by_cases hjk : j = k
            · subst hjk; exact HX.out
            · exact HN.out j (by omega)
          clear HN HX
          generalize hgx : l.getD k 0 = x at *
          clear hgx
          go_wp2
          go_roundw
          case rel => exact ⟨k + 1, by omega, by go_num, trivial, HNN⟩
          case measure => simp [RowKit.intOf]; omega
    · obtain rfl : k = 64 := by omega
      have HY : Hid (wiB l a b = true) := wiB_of fun j hj => HN.out j (by rw [HL.out] at hj; exact hj)
      go_wp2
      go_ret
      rw [HY.out]
      exact ⟨rfl, HB.out⟩
theorem near_any (x y : Int) (h1 : -1048576 ≤ x) (h2 : x ≤ 1048576) (h3 : 1 ≤ y) (h4 : y ≤ 255) (w : World) : Calls Tryd.prog 29 #[.int .i64 x, .int .i64 y] w fun e w' => e = .returned (.int .i64 (qoE x y)) ∧ w = w' := by
  have HQ : Hid (qoE x y = neE x y) := qo_ne h3
  have HF : Hid (neE x y = if y ≤ 2 * (x - x.tdiv y * y) then x.tdiv y + 1 else if 2 * (x - x.tdiv y * y) ≤ -y then x.tdiv y - 1 else x.tdiv y) := rfl
  have m1 := Int.mul_tdiv_add_tmod x y
  rw [Int.mul_comm] at m1
  have b1 : -y < x.tmod y ∧ x.tmod y < y := by
    by_cases hx : 0 ≤ x
    · have := Int.tmod_nonneg y hx
      have := Int.tmod_lt_of_pos x (show 0 < y by omega)
      omega
    · obtain ⟨z, rfl⟩ : ∃ z, x = -z := ⟨-x, by omega⟩
      rw [Int.neg_tmod]
      have := Int.tmod_nonneg (a := z) y (by omega)
      have := Int.tmod_lt_of_pos z (show 0 < y by omega)
      omega
  have b2 : -1048576 ≤ x.tdiv y ∧ x.tdiv y ≤ 1048576 := by
    by_cases hx : 0 ≤ x
    · rw [tdiv_pos hx]
      have := Int.ediv_nonneg hx (show 0 ≤ y by omega)
      have := Int.ediv_le_self y hx
      omega
    · obtain ⟨z, rfl⟩ : ∃ z, x = -z := ⟨-x, by omega⟩
      rw [tdiv_neg', tdiv_pos (x := z) (by omega)]
      have := Int.ediv_nonneg (a := z) (by omega) (show 0 ≤ y by omega)
      have := Int.ediv_le_self (a := z) y (by omega)
      omega
  have h0 : ¬ y = 0 := by omega
  have hz : (y == 0) = false := by simp [h0]
  generalize hG : x.tdiv y = G at *
  generalize x.tmod y = r at *
  generalize hm : G * y = m at *
  obtain ⟨b3, b4⟩ := b1
  obtain ⟨b5, b6⟩ := b2
  have b7 : -2097152 ≤ m ∧ m ≤ 2097152 := by omega
  obtain ⟨b7, b8⟩ := b7
  rw [HF.out] at HQ
  clear HF
  by_cases c1 : y ≤ 2 * (x - m)
  · have HV : Hid (qoE x y = G + 1) := by show _ = _; rw [HQ.out, if_pos c1]
    clear HQ
    go_enter Tryd.func29, Tryd.ntmps29
    go_wp2
    go_ret
    rw [HV.out]
    exact ⟨rfl, rfl⟩
  · by_cases c2 : 2 * (x - m) ≤ -y
    · have HV : Hid (qoE x y = G - 1) := by show _ = _; rw [HQ.out, if_neg c1, if_pos c2]
      clear HQ
      go_enter Tryd.func29, Tryd.ntmps29
      go_wp2
      go_ret
      rw [HV.out]
      exact ⟨rfl, rfl⟩
    · have HV : Hid (qoE x y = G) := by show _ = _; rw [HQ.out, if_neg c1, if_neg c2]
      clear HQ
      go_enter Tryd.func29, Tryd.ntmps29
      go_wp2
      go_ret
      rw [HV.out]
      exact ⟨rfl, rfl⟩
end Go.Proofs.YtipmbffpokplgaaDoor
