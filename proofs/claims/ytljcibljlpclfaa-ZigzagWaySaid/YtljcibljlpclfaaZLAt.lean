/- The walks of ZigzagAt, ZigzagWay. -/
import Derived.Test.YtljcibljlpclfaaZAwk
namespace Go.Proofs.Ytljcibljlpclfaa
open Go.RowKit Go.Lib
set_option linter.unusedVariables false
set_option maxRecDepth 100000
set_option maxHeartbeats 2000000 in
theorem zat_any (x : Int) (w : World) : Calls Try.prog 3 #[.int .i64 x] w fun e w' => e = .returned (.bool true) ∧ Below w.heap.size w w' := by
  have B0 := Lib.hid (Below.refl w.heap.size w)
  by_cases hr : 0 ≤ x ∧ x < 64
  · obtain ⟨k, rfl⟩ : ∃ k : Nat, x = (k : Int) := ⟨x.toNat, by omega⟩
    have hk : k < 64 := by omega
    have h0 : ¬ ((k : Int) < 0) := by omega
    have h1 : ¬ ((63 : Int) < (k : Int)) := by omega
    have V := Lib.hid (show atS (k : Int) = ((za k : Nat) : Int) by unfold atS; rw [if_pos (by omega), Int.toNat_natCast])
    have P := Lib.hid (show placeS (k : Int) = ((zq k : Nat) : Int) by unfold placeS; rw [if_pos (by omega), Int.toNat_natCast])
    have HA := Lib.hid (rat_any k hk)
    have HP := Lib.hid (rplace_any k hk)
    clear hr
    generalize za k = z at *
    generalize zq k = q at *
    go_enter Try.func3, Try.ntmps3
    go_wp2_with (first
      | (go_at_call 7; (with_reducible refine (at_val V.out _).mono ?_); rintro e w1 ⟨rfl, hb1⟩; replace B0 := Lib.hid (B0.out.trans (hb1.mono B0.out.size)); clear hb1)
      | (go_at_call 8; (with_reducible refine (place_val P.out _).mono ?_); rintro e w1 ⟨rfl, hb1⟩; replace B0 := Lib.hid (B0.out.trans (hb1.mono B0.out.size)); clear hb1)
      | (go_at_call 10; (with_reducible refine (HA.out _).mono ?_); rintro e w1 ⟨rfl, rfl⟩)
      | (go_at_call 11; (with_reducible refine (HP.out _).mono ?_); rintro e w1 ⟨rfl, rfl⟩)
      | (go_at_call 9; (with_reducible refine (awake_any _).mono ?_); rintro e w1 ⟨rfl, hb1⟩; replace B0 := Lib.hid (B0.out.trans (hb1.mono B0.out.size)); clear hb1))
    go_ret
    exact ⟨rfl, B0.out⟩
  · have V := Lib.hid (show atS x = -1 by unfold atS; rw [if_neg hr])
    have P := Lib.hid (show placeS x = -1 by unfold placeS; rw [if_neg hr])
    by_cases h0 : x < 0
    · clear hr
      go_enter Try.func3, Try.ntmps3
      go_wp2_with (first
        | (go_at_call 7; (with_reducible refine (at_val V.out _).mono ?_); rintro e w1 ⟨rfl, hb1⟩; replace B0 := Lib.hid (B0.out.trans (hb1.mono B0.out.size)); clear hb1)
        | (go_at_call 8; (with_reducible refine (place_val P.out _).mono ?_); rintro e w1 ⟨rfl, hb1⟩; replace B0 := Lib.hid (B0.out.trans (hb1.mono B0.out.size)); clear hb1)
        | (go_at_call 9; (with_reducible refine (awake_any _).mono ?_); rintro e w1 ⟨rfl, hb1⟩; replace B0 := Lib.hid (B0.out.trans (hb1.mono B0.out.size)); clear hb1))
      go_ret
      exact ⟨rfl, B0.out⟩
    · have h1 : 63 < x := by omega
      clear hr
      go_enter Try.func3, Try.ntmps3
      go_wp2_with (first
        | (go_at_call 7; (with_reducible refine (at_val V.out _).mono ?_); rintro e w1 ⟨rfl, hb1⟩; replace B0 := Lib.hid (B0.out.trans (hb1.mono B0.out.size)); clear hb1)
        | (go_at_call 8; (with_reducible refine (place_val P.out _).mono ?_); rintro e w1 ⟨rfl, hb1⟩; replace B0 := Lib.hid (B0.out.trans (hb1.mono B0.out.size)); clear hb1)
        | (go_at_call 9; (with_reducible refine (awake_any _).mono ?_); rintro e w1 ⟨rfl, hb1⟩; replace B0 := Lib.hid (B0.out.trans (hb1.mono B0.out.size)); clear hb1))
      go_ret
      exact ⟨rfl, B0.out⟩

/-- apart of two numbers that are next to each other. -/
theorem apart_le (a b : Nat) (ha : a < 100) (hb : b < 100) (h1 : a ≤ b + 1) (h2 : b ≤ a + 1) (w : World) : Calls Try.prog 17 #[.int .i64 a, .int .i64 b] w fun e w' => (∃ d : Int, e = .returned (.int .i64 d) ∧ d ≤ 1) ∧ w = w' := by
  go_enter Try.func17, Try.ntmps17
  go_wp2
  all_goals (go_ret; exact ⟨⟨_, rfl, by omega⟩, rfl⟩)


theorem atS_no {x : Int} (h : ¬ (0 ≤ x ∧ x < 64)) : atS x = -1 := if_neg h
theorem atS_yes {k : Nat} (hk : k < 64) : atS (k : Int) = ((za k : Nat) : Int) := by unfold atS; rw [if_pos (by omega), Int.toNat_natCast]
theorem placeS_yes {k : Nat} (hk : k < 64) : placeS (k : Int) = ((zq k : Nat) : Int) := by unfold placeS; rw [if_pos (by omega), Int.toNat_natCast]
/-- From a step to the next one. -/
theorem za_way : ∀ k, k < 63 → za k / 8 ≤ za (k + 1) / 8 + 1 ∧ za (k + 1) / 8 ≤ za k / 8 + 1 ∧ za k % 8 ≤ za (k + 1) % 8 + 1 ∧ za (k + 1) % 8 ≤ za k % 8 + 1 ∧ za k / 8 + za k % 8 ≤ za (k + 1) / 8 + za (k + 1) % 8 ∧ za (k + 1) / 8 + za (k + 1) % 8 ≤ za k / 8 + za k % 8 + 1 := by decide +kernel
set_option maxHeartbeats 4000000 in
theorem zway_out (x : Int) (hx : -9223372036854775808 ≤ x ∧ x ≤ 9223372036854775807) (w : World) (hr : ¬ (0 ≤ x ∧ x ≤ 62)) : Calls Try.prog 6 #[.int .i64 x] w fun e w' => e = .returned (.bool true) ∧ Below w.heap.size w w' := by
  have B0 := Lib.hid (Below.refl w.heap.size w)
  by_cases e1 : x = 63
  · subst e1
    have VA := Lib.hid (show atS 63 = 63 by decide +kernel)
    have VB := Lib.hid (show atS 64 = -1 by decide +kernel)
    clear hr hx
    go_enter Try.func6, Try.ntmps6
    go_wp2_with (first
      | (go_at_call 7; (with_reducible refine (at_val VA.out _).mono ?_); rintro e w1 ⟨rfl, hb1⟩; replace B0 := Lib.hid (B0.out.trans (hb1.mono B0.out.size)); clear hb1)
      | (go_at_call 7; (with_reducible refine (at_val VB.out _).mono ?_); rintro e w1 ⟨rfl, hb1⟩; replace B0 := Lib.hid (B0.out.trans (hb1.mono B0.out.size)); clear hb1)
      | (go_at_call 9; (with_reducible refine (awake_any _).mono ?_); rintro e w1 ⟨rfl, hb1⟩; replace B0 := Lib.hid (B0.out.trans (hb1.mono B0.out.size)); clear hb1))
    go_ret
    exact ⟨rfl, B0.out⟩
  by_cases e2 : x = -1
  · subst e2
    have VA := Lib.hid (show atS (-1) = -1 by decide +kernel)
    have VB := Lib.hid (show atS 0 = 0 by decide +kernel)
    clear hr hx e1
    go_enter Try.func6, Try.ntmps6
    go_wp2_with (first
      | (go_at_call 7; (with_reducible refine (at_val VA.out _).mono ?_); rintro e w1 ⟨rfl, hb1⟩; replace B0 := Lib.hid (B0.out.trans (hb1.mono B0.out.size)); clear hb1)
      | (go_at_call 7; (with_reducible refine (at_val VB.out _).mono ?_); rintro e w1 ⟨rfl, hb1⟩; replace B0 := Lib.hid (B0.out.trans (hb1.mono B0.out.size)); clear hb1)
      | (go_at_call 9; (with_reducible refine (awake_any _).mono ?_); rintro e w1 ⟨rfl, hb1⟩; replace B0 := Lib.hid (B0.out.trans (hb1.mono B0.out.size)); clear hb1))
    go_ret
    exact ⟨rfl, B0.out⟩
  by_cases e3 : x = 9223372036854775807
  · subst e3
    have VA := Lib.hid (show atS 9223372036854775807 = -1 by decide +kernel)
    have VB := Lib.hid (show atS (wrap64 9223372036854775808) = -1 by decide +kernel)
    clear hr hx e1 e2
    go_enter Try.func6, Try.ntmps6
    go_wp2_with (first
      | (go_at_call 7; (with_reducible refine (at_val VA.out _).mono ?_); rintro e w1 ⟨rfl, hb1⟩; replace B0 := Lib.hid (B0.out.trans (hb1.mono B0.out.size)); clear hb1)
      | (go_at_call 7; (with_reducible refine (at_val VB.out _).mono ?_); rintro e w1 ⟨rfl, hb1⟩; replace B0 := Lib.hid (B0.out.trans (hb1.mono B0.out.size)); clear hb1)
      | (go_at_call 9; (with_reducible refine (awake_any _).mono ?_); rintro e w1 ⟨rfl, hb1⟩; replace B0 := Lib.hid (B0.out.trans (hb1.mono B0.out.size)); clear hb1))
    go_ret
    exact ⟨rfl, B0.out⟩
  have VA := Lib.hid (atS_no (x := x) (by omega))
  have VB := Lib.hid (atS_no (x := x + 1) (by omega))
  have b1 : (x == 63) = false := by simp [e1]
  have b2 : (x == -1) = false := by simp [e2]
  obtain ⟨hx1, hx2⟩ := hx
  by_cases h0 : x < 0
  · have hx3 : x < -1 := by omega
    have hx4 : -9223372036854775808 ≤ x + 1 := by omega
    have hx5 : x + 1 ≤ 9223372036854775807 := by omega
    clear hr e1 e2 e3
    go_enter Try.func6, Try.ntmps6
    go_wp2_with (first
      | (go_at_call 7; (with_reducible refine (at_val VA.out _).mono ?_); rintro e w1 ⟨rfl, hb1⟩; replace B0 := Lib.hid (B0.out.trans (hb1.mono B0.out.size)); clear hb1)
      | (go_at_call 7; (with_reducible refine (at_val VB.out _).mono ?_); rintro e w1 ⟨rfl, hb1⟩; replace B0 := Lib.hid (B0.out.trans (hb1.mono B0.out.size)); clear hb1)
      | (go_at_call 9; (with_reducible refine (awake_any _).mono ?_); rintro e w1 ⟨rfl, hb1⟩; replace B0 := Lib.hid (B0.out.trans (hb1.mono B0.out.size)); clear hb1))
    go_ret
    exact ⟨rfl, B0.out⟩
  · have h1 : 62 < x := by omega
    have hx3 : x < 9223372036854775807 := by omega
    clear hr e1 e2 e3
    go_enter Try.func6, Try.ntmps6
    go_wp2_with (first
      | (go_at_call 7; (with_reducible refine (at_val VA.out _).mono ?_); rintro e w1 ⟨rfl, hb1⟩; replace B0 := Lib.hid (B0.out.trans (hb1.mono B0.out.size)); clear hb1)
      | (go_at_call 7; (with_reducible refine (at_val VB.out _).mono ?_); rintro e w1 ⟨rfl, hb1⟩; replace B0 := Lib.hid (B0.out.trans (hb1.mono B0.out.size)); clear hb1)
      | (go_at_call 9; (with_reducible refine (awake_any _).mono ?_); rintro e w1 ⟨rfl, hb1⟩; replace B0 := Lib.hid (B0.out.trans (hb1.mono B0.out.size)); clear hb1))
    go_ret
    exact ⟨rfl, B0.out⟩

set_option maxHeartbeats 8000000 in
theorem zway_in (k : Nat) (hk : k < 63) (w : World) : Calls Try.prog 6 #[.int .i64 k] w fun e w' => e = .returned (.bool true) ∧ Below w.heap.size w w' := by
  have B0 := Lib.hid (Below.refl w.heap.size w)
  have h0 : ¬ ((k : Int) < 0) := by omega
  have h1 : ¬ ((62 : Int) < (k : Int)) := by omega
  have VA := Lib.hid (atS_yes (k := k) (by omega))
  have VB := Lib.hid (show atS ((k : Int) + 1) = ((za (k + 1) : Nat) : Int) from atS_yes (k := k + 1) (by omega))
  have hza := za_lt k (by omega)
  have hzb := za_lt (k + 1) (by omega)
  obtain ⟨w1, w2, w3, w4, w5, w6⟩ := za_way k hk
  generalize za k = a at *
  generalize za (k + 1) = b at *
  have q1 : ((a : Int)).tdiv 8 = ((a / 8 : Nat) : Int) := by rw [Int.tdiv_eq_ediv_of_nonneg (by omega)]; omega
  have q2 : ((a : Int)).tmod 8 = ((a % 8 : Nat) : Int) := by rw [Int.tmod_eq_emod_of_nonneg (by omega)]; omega
  have q3 : ((b : Int)).tdiv 8 = ((b / 8 : Nat) : Int) := by rw [Int.tdiv_eq_ediv_of_nonneg (by omega)]; omega
  have q4 : ((b : Int)).tmod 8 = ((b % 8 : Nat) : Int) := by rw [Int.tmod_eq_emod_of_nonneg (by omega)]; omega
  have l1 : a / 8 < 8 := by omega
  have l2 : a % 8 < 8 := by omega
  have l3 : b / 8 < 8 := by omega
  have l4 : b % 8 < 8 := by omega
  have HA : Hid (a = 8 * (a / 8) + a % 8) := by show _ = _; omega
  generalize a / 8 = ra at *
  generalize a % 8 = ca at *
  generalize b / 8 = rb at *
  generalize b % 8 = cb at *
  have ht : ca * 8 + ra < 64 := by omega
  have VT := Lib.hid (show placeS ((ca : Int) * 8 + (ra : Int)) = ((zq (ca * 8 + ra) : Nat) : Int) from placeS_yes ht)
  have hT := zq_lt _ ht
  have VC := Lib.hid (show atS ((zq (ca * 8 + ra) : Nat) : Int) = (((ca * 8 + ra : Nat) : Nat) : Int) by rw [atS_yes hT, za_zq _ ht])
  generalize zq (ca * 8 + ra) = t at *
  obtain ⟨c, hc⟩ : ∃ c, c = ca * 8 + ra := ⟨_, rfl⟩
  rw [← hc] at VC
  have q5 : ((c : Int)).tdiv 8 = (ca : Int) := by rw [Int.tdiv_eq_ediv_of_nonneg (by omega)]; omega
  have q6 : ((c : Int)).tmod 8 = (ra : Int) := by rw [Int.tmod_eq_emod_of_nonneg (by omega)]; omega
  have hc64 : c < 64 := by omega
  have q7 : ((ca : Int) + (ra : Int) == (ra : Int) + (ca : Int)) = true := by simp; omega
  have AR := Lib.hid (apart_le ra rb (by omega) (by omega) w1 w2)
  have AC := Lib.hid (apart_le ca cb (by omega) (by omega) w3 w4)
  have n1 : ((ra : Int) + (ca : Int)) ≤ (rb : Int) + (cb : Int) := by omega
  have n2 : ((rb : Int) + (cb : Int)) ≤ (ra : Int) + (ca : Int) + 1 := by omega
  clear hc
  go_enter Try.func6, Try.ntmps6
  go_wp2_with (first
    | (go_at_call 7; (with_reducible refine (at_val VA.out _).mono ?_); rintro e w1 ⟨rfl, hb1⟩; replace B0 := Lib.hid (B0.out.trans (hb1.mono B0.out.size)); clear hb1)
    | (go_at_call 7; (with_reducible refine (at_val VB.out _).mono ?_); rintro e w1 ⟨rfl, hb1⟩; replace B0 := Lib.hid (B0.out.trans (hb1.mono B0.out.size)); clear hb1)
    | (go_at_call 7; (with_reducible refine (at_val VC.out _).mono ?_); rintro e w1 ⟨rfl, hb1⟩; replace B0 := Lib.hid (B0.out.trans (hb1.mono B0.out.size)); clear hb1)
    | (go_at_call 8; (with_reducible refine (place_val VT.out _).mono ?_); rintro e w1 ⟨rfl, hb1⟩; replace B0 := Lib.hid (B0.out.trans (hb1.mono B0.out.size)); clear hb1)
    | (go_at_call 17; (with_reducible refine (AR.out _).mono ?_); rintro e w1 ⟨⟨d1, rfl, hd1⟩, rfl⟩)
    | (go_at_call 17; (with_reducible refine (AC.out _).mono ?_); rintro e w1 ⟨⟨d2, rfl, hd2⟩, rfl⟩)
    | (go_at_call 9; (with_reducible refine (awake_any _).mono ?_); rintro e w1 ⟨rfl, hb1⟩; replace B0 := Lib.hid (B0.out.trans (hb1.mono B0.out.size)); clear hb1))
  go_ret
  exact ⟨rfl, B0.out⟩
theorem zway_any (x : Int) (hx : -9223372036854775808 ≤ x ∧ x ≤ 9223372036854775807) (w : World) : Calls Try.prog 6 #[.int .i64 x] w fun e w' => e = .returned (.bool true) ∧ Below w.heap.size w w' := by
  by_cases hr : 0 ≤ x ∧ x ≤ 62
  · obtain ⟨k, rfl⟩ : ∃ k : Nat, x = (k : Int) := ⟨x.toNat, by omega⟩
    exact zway_in k (by omega) w
  · exact zway_out x hx w hr
end Go.Proofs.Ytljcibljlpclfaa
