/- Contract of the document's Counts. -/
import Derived.Test.YtanihbflgolciaaMemI
namespace Go.Proofs.Ytanihbflgolciaa
open Go.RowKit Go.Lib
set_option linter.unusedVariables false
set_option maxRecDepth 100000

/-- Symbol counts that may be. -/
def cntB (l : List Int) : Bool := decide (l.length ≤ 256) && l.all fun x => decide (0 ≤ x) && decide (x ≤ 1099511627776)
theorem cntB_no {l : List Int} {k : Nat} (hk : k < l.length) (h : l.getD k 0 < 0 ∨ 1099511627776 < l.getD k 0) : cntB l = false := by
  have hm : l.getD k 0 ∈ l := by
    rw [List.getD_eq_getElem?_getD, List.getElem?_eq_getElem hk]
    exact List.getElem_mem hk
  cases hb : cntB l with
  | false => rfl
  | true =>
    unfold cntB at hb
    rw [Bool.and_eq_true, List.all_eq_true] at hb
    have := hb.2 _ hm
    rw [Bool.and_eq_true, decide_eq_true_eq, decide_eq_true_eq] at this
    omega
theorem cntB_yes {l : List Int} (hl : l.length ≤ 256) (h : ∀ j, j < l.length → 0 ≤ l.getD j 0 ∧ l.getD j 0 ≤ 1099511627776) : cntB l = true := by
  unfold cntB
  rw [Bool.and_eq_true, List.all_eq_true, decide_eq_true_eq]
  refine ⟨hl, fun x hx => ?_⟩
  obtain ⟨k, hk, rfl⟩ := List.mem_iff_getElem.1 hx
  have := h k hk
  rw [List.getD_eq_getElem?_getD, List.getElem?_eq_getElem hk] at this
  rw [Bool.and_eq_true, decide_eq_true_eq, decide_eq_true_eq]
  exact this
theorem cntB_long {l : List Int} (hl : 256 < l.length) : cntB l = false := by
  unfold cntB
  rw [Bool.and_eq_false_iff]
  exact .inl (decide_eq_false (by omega))

theorem rCnt_any (l : List Int) (A : Option Addr) (c : Nat) (w : World) (hr : Ri w A l) (hl : l.length ≤ 100000) :
    Calls Try.prog 20 #[.slice A l.length c] w fun e w' => e = .returned (.bool (cntB l)) ∧ w' = w := by
  go_enter Try.func20, Try.ntmps20
  by_cases h256 : 256 < l.length
  · have hf := Lib.hid (cntB_long h256)
    go_wp2
    go_ret
    rw [hf.out]
    exact ⟨rfl, rfl⟩
  · go_wp2
    go_loopw [3] (fun i wr => ∃ (k : Nat), k ≤ l.length ∧ i = .int .i64 k ∧ Hid (∀ j, j < k → 0 ≤ l.getD j 0 ∧ l.getD j 0 ≤ 1099511627776) ∧ wr = w) (fun i _ => l.length - (RowKit.intOf i).toNat)
    case atStart => exact ⟨0, Nat.zero_le _, rfl, (show Hid _ from fun j hj => absurd hj (Nat.not_lt_zero _)), rfl⟩
    case round =>
      obtain ⟨k, hk, rfl, HA, hw⟩ := hrel
      subst hw
      by_cases hlt : k < l.length
      · obtain ⟨b, o, hAb, hc⟩ : ∃ b o, A = some ⟨b, o, none⟩ ∧ ∀ i, i < l.length → wr.cell? ⟨b, o + i, none⟩ = some (.int .i64 (l.getD i 0)) := by
          rcases hr with h | h
          · rw [h] at hlt; simp at hlt
          · exact h
        subst hAb
        have e1 := hc k hlt
        generalize hx : l.getD k 0 = x at *
        have HX := Lib.hid hx
        clear hx hc
        by_cases h0 : x < 0
        · have hf := Lib.hid (cntB_no hlt (.inl (by rw [HX.out]; exact h0)))
          go_wp2
          go_ret
          rw [hf.out]
          exact ⟨rfl, rfl⟩
        · by_cases h1 : 1099511627776 < x
          · have hf := Lib.hid (cntB_no hlt (.inr (by rw [HX.out]; exact h1)))
            go_wp2
            go_ret
            rw [hf.out]
            exact ⟨rfl, rfl⟩
          · go_wp2
            go_roundw
            case rel =>
              refine ⟨k + 1, by omega, by go_num, (show Hid _ from fun j hj => ?_), trivial⟩
              by_cases hjk : j = k
              · subst hjk
                rw [HX.out]
                omega
              · exact HA.out j (by omega)
            case measure => simp [RowKit.intOf]; omega
      · obtain rfl : k = l.length := by omega
        have hf := Lib.hid (cntB_yes (by omega) HA.out)
        go_wp2
        go_ret
        rw [hf.out]
        exact ⟨rfl, rfl⟩
end Go.Proofs.Ytanihbflgolciaa
