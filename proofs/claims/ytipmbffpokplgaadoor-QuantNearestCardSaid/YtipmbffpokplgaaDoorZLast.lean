/- Contracts of Last, and of the document's Before, Place, At. -/
import Derived.Test.YtipmbffpokplgaaDoorZTo
namespace Go.Proofs.YtipmbffpokplgaaDoor
open Go.RowKit Go.Lib
set_option linter.unusedVariables false
set_option maxRecDepth 100000
theorem before_any (a b : Nat) (ha : a < 64) (hb : b < 64) (w : World) : Calls Tryd.prog 37 #[.int .i64 a, .int .i64 b] w fun e w' => e = .returned (.bool (befB a b)) ∧ w = w' := by
  have q1 : ((a : Int)).tdiv 8 = ((a / 8 : Nat) : Int) := by rw [Int.tdiv_eq_ediv_of_nonneg (by omega)]; omega
  have q2 : ((a : Int)).tmod 8 = ((a % 8 : Nat) : Int) := by rw [Int.tmod_eq_emod_of_nonneg (by omega)]; omega
  have q3 : ((b : Int)).tdiv 8 = ((b / 8 : Nat) : Int) := by rw [Int.tdiv_eq_ediv_of_nonneg (by omega)]; omega
  have q4 : ((b : Int)).tmod 8 = ((b % 8 : Nat) : Int) := by rw [Int.tmod_eq_emod_of_nonneg (by omega)]; omega
  have l1 : a / 8 < 8 := by omega
  have l2 : a % 8 < 8 := by omega
  have l3 : b / 8 < 8 := by omega
  have l4 : b % 8 < 8 := by omega
  have HF : Hid (befB a b = if a / 8 + a % 8 ≠ b / 8 + b % 8 then decide (a / 8 + a % 8 < b / 8 + b % 8) else if (a / 8 + a % 8) % 2 = 1 then decide (a / 8 < b / 8) else decide (b / 8 < a / 8)) := rfl
  generalize befB a b = z at *
  generalize a / 8 = ra at *
  generalize a % 8 = ca at *
  generalize b / 8 = rb at *
  generalize b % 8 = cb at *
  have p : ((ra : Int) + (ca : Int)).tmod 2 = (((ra + ca) % 2 : Nat) : Int) := by rw [Int.tmod_eq_emod_of_nonneg (by omega)]; omega
  go_enter Tryd.func37, Tryd.ntmps37
  by_cases h1 : ra + ca = rb + cb
  · have e1 : ((ra : Int) + (ca : Int) != (rb : Int) + (cb : Int)) = false := by simp; omega
    rcases Nat.mod_two_eq_zero_or_one (ra + ca) with hp | hp
    · rw [hp] at p
      have hf := Lib.hid (show z = decide (rb < ra) by rw [HF.out, if_neg (by omega), if_neg (by omega)])
      clear HF hp
      go_wp2
      go_ret
      rw [hf.out]
      exact ⟨rfl, rfl⟩
    · rw [hp] at p
      have hf := Lib.hid (show z = decide (ra < rb) by rw [HF.out, if_neg (by omega), if_pos (by omega)])
      clear HF hp
      go_wp2
      go_ret
      rw [hf.out]
      exact ⟨rfl, rfl⟩
  · have e1 : ((ra : Int) + (ca : Int) != (rb : Int) + (cb : Int)) = true := by simp; omega
    have hf := Lib.hid (show z = decide ((ra : Int) + (ca : Int) < (rb : Int) + (cb : Int)) by rw [HF.out, if_pos (by omega)]; apply Bool.eq_iff_iff.2; simp; omega)
    clear HF
    go_wp2
    go_ret
    rw [hf.out]
    exact ⟨rfl, rfl⟩

set_option maxHeartbeats 1000000 in
theorem rplace_any (a : Nat) (ha : a < 64) (w : World) : Calls Tryd.prog 33 #[.int .i64 a] w fun e w' => e = .returned (.int .i64 ((zq a : Nat) : Int)) ∧ w = w' := by
  have HF := Lib.hid (befN_all a ha)
  go_enter Tryd.func33, Tryd.ntmps33
  go_wp2
  go_loopw [3, 4] (fun n i wr => ∃ (k : Nat), k ≤ 64 ∧ i = .int .i64 k ∧ n = .int .i64 ((befN a k : Nat) : Int) ∧ w = wr) (fun _ i _ => 64 - (RowKit.intOf i).toNat)
  case atStart => exact ⟨0, by omega, rfl, rfl, rfl⟩
  case round =>
    obtain ⟨k, hk, rfl, rfl, hw⟩ := hrel
    subst hw
    by_cases hlt : k < 64
    · have hc := before_any k a hlt ha w
      have hle := befN_le a k
      have HN : Hid (befN a (k + 1) = if befB k a then befN a k + 1 else befN a k) := rfl
      generalize befN a k = n at *
      cases hb : befB k a with
      | true =>
        rw [hb] at hc
        have HN2 : Hid (befN a (k + 1) = n + 1) := by show _ = _; rw [HN.out, hb, if_pos rfl]
        go_wp2_with (go_at_call 37; (with_reducible refine hc.mono ?_); rintro e w1 ⟨rfl, rfl⟩)
        go_roundw
        case rel => exact ⟨k + 1, by omega, by go_num, by rw [HN2.out]; simp, trivial⟩
        case measure => simp [RowKit.intOf]; omega
      | false =>
        rw [hb] at hc
        have HN2 : Hid (befN a (k + 1) = n) := by show _ = _; rw [HN.out, hb]; rfl
        go_wp2_with (go_at_call 37; (with_reducible refine hc.mono ?_); rintro e w1 ⟨rfl, rfl⟩)
        go_roundw
        case rel => exact ⟨k + 1, by omega, by go_num, by rw [HN2.out], trivial⟩
        case measure => simp [RowKit.intOf]; omega
    · obtain rfl : k = 64 := by omega
      rw [HF.out]
      go_wp2
      go_ret
      exact ⟨rfl, rfl⟩

set_option maxHeartbeats 1000000 in
theorem rat_any (n : Nat) (hn : n < 64) (w : World) : Calls Tryd.prog 23 #[.int .i64 n] w fun e w' => e = .returned (.int .i64 ((za n : Nat) : Int)) ∧ w = w' := by
  have hz := za_lt n hn
  have HQ := Lib.hid (zq_za n hn)
  have HI : Hid (∀ k, k < 64 → zq k = n → k = za n) := fun k hk e => by rw [← e, za_zq k hk]
  generalize za n = z at *
  go_enter Tryd.func23, Tryd.ntmps23
  go_wp2
  go_loopw [3] (fun i wr => ∃ (k : Nat), k ≤ z ∧ i = .int .i64 k ∧ w = wr) (fun i _ => 64 - (RowKit.intOf i).toNat)
  case atStart => exact ⟨0, by omega, rfl, rfl⟩
  case round =>
    obtain ⟨k, hk, rfl, hw⟩ := hrel
    subst hw
    have hlt : k < 64 := by omega
    have hc := rplace_any k hlt w
    have HK := Lib.hid (HI.out k hlt)
    have hql := zq_lt k hlt
    by_cases hkz : k = z
    · subst hkz
      rw [HQ.out] at hc
      go_wp2_with (go_at_call 33; (with_reducible refine hc.mono ?_); rintro e w1 ⟨rfl, rfl⟩)
      go_ret
      exact ⟨rfl, rfl⟩
    · have hne : ((zq k : Nat) : Int) ≠ (n : Int) := fun e => hkz (HK.out (by omega))
      have hb : (((zq k : Nat) : Int) == (n : Int)) = false := by simpa using hne
      clear hne
      generalize zq k = q at *
      go_wp2_with (go_at_call 33; (with_reducible refine hc.mono ?_); rintro e w1 ⟨rfl, rfl⟩)
      go_roundw
      case rel => exact ⟨k + 1, by omega, by go_num, trivial⟩
      case measure => simp [RowKit.intOf]; omega
end Go.Proofs.YtipmbffpokplgaaDoor
