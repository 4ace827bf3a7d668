/- Contracts of Last, and of the document's Before, Place, At. -/
import Derived.Test.YtljcibljlpclfaaZTo
namespace Go.Proofs.Ytljcibljlpclfaa
open Go.RowKit Go.Lib
set_option linter.unusedVariables false
set_option maxRecDepth 100000
set_option maxHeartbeats 1000000 in
theorem last_any (l : List Int) (hl : l.length = 64) (w : World) : Calls Try.prog 16 #[.agg (ia l)] w fun e w' => e = .returned (.int .i64 (lastN (perm za l) 64)) ∧ Below w.heap.size w w' := by
  obtain ⟨w1, hw1⟩ : ∃ w1, w1 = w.alloc (.cells (ia l) 26) := ⟨_, rfl⟩
  have H0 : Hid (Blk w1 w.heap.size (ia l)) := by rw [hw1]; exact Blk.new w _ _
  have HB : Hid (Below w.heap.size w w1) := by rw [hw1]; exact (Below.refl _ w).alloc (Nat.le_refl _) _
  have HS := Lib.hid (sizeB hl)
  go_enter Try.func16, Try.ntmps16
  go_wp2_with (first
    | (rw [← hw1]; (with_reducible refine wpList_loadB _ rfl 26 (.tmp 1) rfl _ Try.underlying26 rfl w.heap.size rfl (ia l) H0.out HS.out ?_))
    | (go_at_call 13; (with_reducible refine (to_any l hl _).mono ?_); rintro e w2 ⟨rfl, hb2⟩))
  replace hb2 : Below w1.heap.size w1 w2 := by rw [hw1]; simpa using hb2
  have KB := Lib.hid (HB.out.trans (hb2.mono HB.out.size))
  have HP := Lib.hid (perm_len za l)
  clear hb2 hw1 H0 HB HS w1
  generalize hp : perm za l = p at *
  have HQ := Lib.hid hp
  clear hp
  go_loopw [3, 8] (fun v i wr => ∃ (k : Nat), k ≤ 64 ∧ i = .int .i64 k ∧ v = .int .i64 (lastN p k) ∧ wr = w2) (fun _ i _ => 64 - (RowKit.intOf i).toNat)
  case atStart => exact ⟨0, by omega, rfl, rfl, rfl⟩
  case round =>
    obtain ⟨k, hk, rfl, rfl, hw⟩ := hrel
    subst hw
    by_cases hlt : k < 64
    · have HX := Lib.hid (ia_at (l := p) (j := k) (by rw [HP.out]; exact hlt))
      have HL : Hid (lastN p (k + 1) = if p.getD k 0 = 0 then lastN p k else (k : Int)) := rfl
      generalize p.getD k 0 = x at *
      by_cases hx : x = 0
      · have hb : (x != 0) = false := by simp [hx]
        have HL2 : Hid (lastN p (k + 1) = lastN p k) := by show _ = _; rw [HL.out, if_pos hx]
        clear hx
        go_wp2_with (first
          | ((with_reducible refine wpList_indexA _ rfl 26 (.tmp 7) (.tmp 8) rfl 64 3 .i64 Try.underlying26 Try.underlying3 sizeI (ia p) rfl k rfl hlt _ HX.out ?_)))
        go_roundw
        case rel => exact ⟨k + 1, by omega, by go_num, by rw [HL2.out], trivial⟩
        case measure => simp [RowKit.intOf]; omega
      · have hb : (x != 0) = true := by simp [hx]
        have HL2 : Hid (lastN p (k + 1) = (k : Int)) := by show _ = _; rw [HL.out, if_neg hx]
        clear hx
        go_wp2_with (first
          | ((with_reducible refine wpList_indexA _ rfl 26 (.tmp 7) (.tmp 8) rfl 64 3 .i64 Try.underlying26 Try.underlying3 sizeI (ia p) rfl k rfl hlt _ HX.out ?_)))
        go_roundw
        case rel => exact ⟨k + 1, by omega, by go_num, by rw [HL2.out], trivial⟩
        case measure => simp [RowKit.intOf]; omega
    · obtain rfl : k = 64 := by omega
      go_wp2
      go_ret
      rw [HQ.out]
      exact ⟨rfl, KB.out⟩

theorem before_any (a b : Nat) (ha : a < 64) (hb : b < 64) (w : World) : Calls Try.prog 20 #[.int .i64 a, .int .i64 b] w fun e w' => e = .returned (.bool (befB a b)) ∧ w = w' := by
  have q1 : ((a : Int)).tdiv 8 = ((a / 8 : Nat) : Int) := by rw [Int.tdiv_eq_ediv_of_nonneg (by omega)]; omega
  have q2 : ((a : Int)).tmod 8 = ((a % 8 : Nat) : Int) := by rw [Int.tmod_eq_emod_of_nonneg (by omega)]; omega
  have q3 : ((b : Int)).tdiv 8 = ((b / 8 : Nat) : Int) := by rw [Int.tdiv_eq_ediv_of_nonneg (by omega)]; omega
  have q4 : ((b : Int)).tmod 8 = ((b % 8 : Nat) : Int) := by rw [Int.tmod_eq_emod_of_nonneg (by omega)]; omega
  have l1 : a / 8 < 8 := by omega
  have l2 : a % 8 < 8 := by omega
  have l3 : b / 8 < 8 := by omega
  have l4 : b % 8 < 8 := by omega
  have HF : Hid (befB a b = if a / 8 + a % 8 ≠ b / 8 + b % 8 then decide (a / 8 + a % 8 < b / 8 + b % 8) else if (a / 8 + a % 8) % 2 = 1 then decide (a / 8 < b / 8) else decide (b / 8 < a / 8)) := rfl
  generalize befB a b = z at *
  generalize a / 8 = ra at *
  generalize a % 8 = ca at *
  generalize b / 8 = rb at *
  generalize b % 8 = cb at *
  have p : ((ra : Int) + (ca : Int)).tmod 2 = (((ra + ca) % 2 : Nat) : Int) := by rw [Int.tmod_eq_emod_of_nonneg (by omega)]; omega
  go_enter Try.func20, Try.ntmps20
  by_cases h1 : ra + ca = rb + cb
  · have e1 : ((ra : Int) + (ca : Int) != (rb : Int) + (cb : Int)) = false := by simp; omega
    rcases Nat.mod_two_eq_zero_or_one (ra + ca) with hp | hp
    · rw [hp] at p
      have hf := Lib.hid (show z = decide (rb < ra) by rw [HF.out, if_neg (by omega), if_neg (by omega)])
      clear HF hp
      go_wp2
      go_ret
      rw [hf.out]
      exact ⟨rfl, rfl⟩
    · rw [hp] at p
      have hf := Lib.hid (show z = decide (ra < rb) by rw [HF.out, if_neg (by omega), if_pos (by omega)])
      clear HF hp
      go_wp2
      go_ret
      rw [hf.out]
      exact ⟨rfl, rfl⟩
  · have e1 : ((ra : Int) + (ca : Int) != (rb : Int) + (cb : Int)) = true := by simp; omega
    have hf := Lib.hid (show z = decide ((ra : Int) + (ca : Int) < (rb : Int) + (cb : Int)) by rw [HF.out, if_pos (by omega)]; apply Bool.eq_iff_iff.2; simp; omega)
    clear HF
    go_wp2
    go_ret
    rw [hf.out]
    exact ⟨rfl, rfl⟩

set_option maxHeartbeats 1000000 in
theorem rplace_any (a : Nat) (ha : a < 64) (w : World) : Calls Try.prog 11 #[.int .i64 a] w fun e w' => e = .returned (.int .i64 ((zq a : Nat) : Int)) ∧ w = w' := by
  have HF := Lib.hid (befN_all a ha)
  go_enter Try.func11, Try.ntmps11
  go_wp2
  go_loopw [3, 4] (fun n i wr => ∃ (k : Nat), k ≤ 64 ∧ i = .int .i64 k ∧ n = .int .i64 ((befN a k : Nat) : Int) ∧ w = wr) (fun _ i _ => 64 - (RowKit.intOf i).toNat)
  case atStart => exact ⟨0, by omega, rfl, rfl, rfl⟩
  case round =>
    obtain ⟨k, hk, rfl, rfl, hw⟩ := hrel
    subst hw
    by_cases hlt : k < 64
    · have hc := before_any k a hlt ha w
      have hle := befN_le a k
      have HN : Hid (befN a (k + 1) = if befB k a then befN a k + 1 else befN a k) := rfl
      generalize befN a k = n at *
      cases hb : befB k a with
      | true =>
        rw [hb] at hc
        have HN2 : Hid (befN a (k + 1) = n + 1) := by show _ = _; rw [HN.out, hb, if_pos rfl]
        go_wp2_with (go_at_call 20; (with_reducible refine hc.mono ?_); rintro e w1 ⟨rfl, rfl⟩)
        go_roundw
        case rel => exact ⟨k + 1, by omega, by go_num, by rw [HN2.out]; simp, trivial⟩
        case measure => simp [RowKit.intOf]; omega
      | false =>
        rw [hb] at hc
        have HN2 : Hid (befN a (k + 1) = n) := by show _ = _; rw [HN.out, hb]; rfl
        go_wp2_with (go_at_call 20; (with_reducible refine hc.mono ?_); rintro e w1 ⟨rfl, rfl⟩)
        go_roundw
        case rel => exact ⟨k + 1, by omega, by go_num, by rw [HN2.out], trivial⟩
        case measure => simp [RowKit.intOf]; omega
    · obtain rfl : k = 64 := by omega
      rw [HF.out]
      go_wp2
      go_ret
      exact ⟨rfl, rfl⟩

set_option maxHeartbeats 1000000 in
theorem rat_any (n : Nat) (hn : n < 64) (w : World) : Calls Try.prog 10 #[.int .i64 n] w fun e w' => e = .returned (.int .i64 ((za n : Nat) : Int)) ∧ w = w' := by
  have hz := za_lt n hn
  have HQ := Lib.hid (zq_za n hn)
  have HI : Hid (∀ k, k < 64 → zq k = n → k = za n) := fun k hk e => by rw [← e, za_zq k hk]
  generalize za n = z at *
  go_enter Try.func10, Try.ntmps10
  go_wp2
  go_loopw [3] (fun i wr => ∃ (k : Nat), k ≤ z ∧ i = .int .i64 k ∧ w = wr) (fun i _ => 64 - (RowKit.intOf i).toNat)
  case atStart => exact ⟨0, by omega, rfl, rfl⟩
  case round =>
    obtain ⟨k, hk, rfl, hw⟩ := hrel
    subst hw
    have hlt : k < 64 := by omega
    have hc := rplace_any k hlt w
    have HK := Lib.hid (HI.out k hlt)
    have hql := zq_lt k hlt
    by_cases hkz : k = z
    · subst hkz
      rw [HQ.out] at hc
      go_wp2_with (go_at_call 11; (with_reducible refine hc.mono ?_); rintro e w1 ⟨rfl, rfl⟩)
      go_ret
      exact ⟨rfl, rfl⟩
    · have hne : ((zq k : Nat) : Int) ≠ (n : Int) := fun e => hkz (HK.out (by omega))
      have hb : (((zq k : Nat) : Int) == (n : Int)) = false := by simpa using hne
      clear hne
      generalize zq k = q at *
      go_wp2_with (go_at_call 11; (with_reducible refine hc.mono ?_); rintro e w1 ⟨rfl, rfl⟩)
      go_roundw
      case rel => exact ⟨k + 1, by omega, by go_num, trivial⟩
      case measure => simp [RowKit.intOf]; omega
end Go.Proofs.Ytljcibljlpclfaa
