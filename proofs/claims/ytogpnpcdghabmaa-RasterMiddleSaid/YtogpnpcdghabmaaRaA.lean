/- Contracts of raster's small functions: areSides, isWithin, view.has, the document's Size. -/
import Derived.Test.YtogpnpcdghabmaaArr
import Derived.Test.YtogpnpcdghabmaaRasP
namespace Go.Proofs.Ytogpnpcdghabmaa
open Go.RowKit Go.Lib
set_option linter.unusedVariables false
set_option maxRecDepth 100000
/-- A side. -/
def sd (x : Int) : Bool := decide (1 ≤ x) && decide (x ≤ 4096)
theorem sd_yes {x : Int} (h : sd x = true) : 1 ≤ x ∧ x ≤ 4096 := by unfold sd at h; simpa using h
theorem sd_no {x : Int} (h : sd x = false) : x < 1 ∨ 4096 < x := by
  unfold sd at h
  rcases Int.lt_or_le x 1 with h1 | h1
  · exact .inl h1
  · rcases Int.lt_or_le 4096 x with h2 | h2
    · exact .inr h2
    · rw [decide_eq_true h1, decide_eq_true h2] at h; cases h
theorem sd_of {x : Int} (h1 : 1 ≤ x) (h2 : x ≤ 4096) : sd x = true := by unfold sd; rw [decide_eq_true h1, decide_eq_true h2]; rfl
/-- Sides alone. -/
def sds (l : List Int) : Bool := l.all sd
theorem sds_at {l : List Int} {a : Nat} (h : a < l.length) (hn : sd (l.getD a 0) = false) : sds l = false := by
  unfold sds
  rw [List.all_eq_false]
  refine ⟨l.getD a 0, ?_, by rw [hn]; simp⟩
  rw [List.getD_eq_getElem?_getD, List.getElem?_eq_getElem h]
  exact List.getElem_mem h
theorem sds_all {l : List Int} (h : ∀ i, i < l.length → sd (l.getD i 0) = true) : sds l = true := by
  unfold sds
  rw [List.all_eq_true]
  intro x hx
  obtain ⟨i, hi, rfl⟩ := List.mem_iff_getElem.1 hx
  have := h i hi
  rwa [List.getD_eq_getElem?_getD, List.getElem?_eq_getElem hi] at this
set_option maxHeartbeats 1000000 in
theorem areSides_any (l : List Int) (A : Option Addr) (n c : Nat) (w : World) (hn : n = l.length) (hl : l.length ≤ 1000) (hr : Ri w A l) :
    Calls Try.prog 26 #[.slice A n c] w fun e w' => e = .returned (.bool (sds l)) ∧ w = w' := by
  subst hn
  have HRR := Lib.hid hr
  clear hr
  go_enter Try.func26, Try.ntmps26
  go_wp2
  go_loopw [7] (fun i wr => ∃ a : Nat, a ≤ l.length ∧ i = .int .i64 a ∧ wr = w ∧ Hid (∀ i, i < a → sd (l.getD i 0) = true)) (fun i _ => l.length - (RowKit.intOf i).toNat)
  case atStart => exact ⟨0, Nat.zero_le _, rfl, rfl, fun i hi => absurd hi (Nat.not_lt_zero _)⟩
  case round =>
    obtain ⟨a, ha, rfl, rfl, HS⟩ := hrel
    by_cases hlt : a < l.length
    · obtain ⟨b, o, rfl, hc⟩ := HRR.out.resolve_left (fun e => by rw [e] at hlt; simp at hlt)
      have h0 := hc a hlt
      have hla : (a : Int) < (l.length : Int) := by omega
      have HNo := Lib.hid (fun h => sds_at (l := l) (a := a) hlt h)
      have HYes : Hid (sd (l.getD a 0) = true → ∀ i, i < a + 1 → sd (l.getD i 0) = true) := fun h i hi => by
        rcases Nat.lt_or_ge i a with h1 | h1
        · exact HS.out i h1
        · obtain rfl : i = a := by omega
          exact h
      clear hc
      generalize l.getD a 0 = x at *
      cases hs : sd x with
      | false =>
        rcases sd_no hs with h1 | h1
        · have hd : decide (x < 1) = true := decide_eq_true h1
          go_wp2
          go_ret
          exact ⟨by rw [HNo.out hs]; rfl, rfl⟩
        · have hd : decide (x < 1) = false := decide_eq_false (by omega)
          have hd2 : decide (x > 4096) = true := decide_eq_true (by omega)
          go_wp2
          go_ret
          exact ⟨by rw [HNo.out hs]; rfl, rfl⟩
      | true =>
        obtain ⟨h1, h2⟩ := sd_yes hs
        have hd : decide (x < 1) = false := decide_eq_false (by omega)
        have hd2 : decide (x > 4096) = false := decide_eq_false (by omega)
        go_wp2
        go_roundw
        case rel => exact ⟨a + 1, by omega, by go_num, trivial, HYes.out hs⟩
        case measure => simp [RowKit.intOf]; omega
    · obtain rfl : a = l.length := by omega
      have HE := Lib.hid (sds_all HS.out)
      go_wp2
      go_ret
      exact ⟨by rw [HE.out]; rfl, rfl⟩
theorem isWithin_any (a b x y : Int) (w : World) : Calls Try.prog 27 #[.int .i64 a, .int .i64 b, .int .i64 x, .int .i64 y] w fun e w' => e = .returned (.bool (decide (a ≤ x) && decide (b ≤ y))) ∧ w = w' := by
  cases h1 : decide (a ≤ x) with
  | true =>
    go_enter Try.func27, Try.ntmps27
    go_wp2
    go_ret
    simp
  | false =>
    go_enter Try.func27, Try.ntmps27
    go_wp2
    go_ret
    simp
theorem rSize_any (a : Int) (w : World) : Calls Try.prog 13 #[.int .i64 a] w fun e w' => e = .returned (.bool (sd a)) ∧ w = w' := by
  have HS : Hid (sd a = (decide (1 ≤ a) && decide (a ≤ 4096))) := rfl
  generalize sd a = q at *
  cases h1 : decide (a ≥ 1) with
  | true =>
    have h2 : decide (1 ≤ a) = true := h1
    go_enter Try.func13, Try.ntmps13
    go_wp2
    go_ret
    exact ⟨by rw [HS.out, h2]; rfl, rfl⟩
  | false =>
    have h2 : decide (1 ≤ a) = false := h1
    go_enter Try.func13, Try.ntmps13
    go_wp2
    go_ret
    exact ⟨by rw [HS.out, h2]; rfl, rfl⟩
end Go.Proofs.Ytogpnpcdghabmaa
