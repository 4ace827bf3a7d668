/- A number's bytes, got again, plainly; signed numbers there and back. -/
import Derived.Test.YtdjpdpdaaahmiaaTurned
import Derived.Test.YtdjpdpdaaahmiaaRPut
namespace Go.Proofs.Ytdjpdpdaaahmiaa
open Go.RowKit
set_option linter.unusedVariables false

theorem bt_mid (a b c : List UInt8) (j : Nat) (h : j < b.length) : bt (a ++ b ++ c) (a.length + j) = bt b j := by
  unfold bt
  rw [List.getD_eq_getElem?_getD, List.getD_eq_getElem?_getD, List.append_assoc, List.getElem?_append_right (by omega), Nat.add_sub_cancel_left, List.getElem?_append_left h]
theorem bt_rev (l : List UInt8) (j : Nat) (h : j < l.length) : bt l.reverse j = bt l (l.length - 1 - j) := by
  unfold bt
  rw [List.getD_eq_getElem?_getD, List.getD_eq_getElem?_getD, List.getElem?_reverse h]
theorem bt_le (n : Int) : ∀ (k j : Nat), j < k → bt (leL n k) j = n / 256 ^ j % 256 := by
  intro k
  induction k with
  | zero => intro j h; omega
  | succ k ih =>
    intro j h
    unfold leL bt
    rw [List.getD_eq_getElem?_getD]
    by_cases hj : j < k
    · rw [List.getElem?_append_left (by rw [leL_len]; exact hj)]
      have := ih j hj
      unfold bt at this
      rw [List.getD_eq_getElem?_getD] at this
      exact this
    · obtain rfl : j = k := by omega
      rw [List.getElem?_append_right (by rw [leL_len]; exact Nat.le_refl _), leL_len, Nat.sub_self]
      exact byI_val n j
theorem putL_len {n s o : Int} (h : putOk n s o = true) : (putL n s o).length = s.toNat := by
  unfold putL
  rw [h]
  simp only [if_true]
  split
  · exact leL_len _ _
  · rw [List.length_reverse, leL_len]
theorem putOk_parts {n s o : Int} (h : putOk n s o = true) : okSize s ∧ (o = 1 ∨ o = 2) ∧ 0 ≤ n ∧ n < topI s := by
  unfold putOk at h
  exact of_decide_eq_true h
theorem put_turned {n s o : Int} (h : putOk n s o = true) : putOk n s (3 - o) = true ∧ ∀ j, j < s.toNat → bt (putL n s o) j = bt (putL n s (3 - o)) (s.toNat - 1 - j) := by
  obtain ⟨h1, h2, h3, h4⟩ := putOk_parts h
  rcases h2 with rfl | rfl
  · have h' : putOk n s 2 = true := putOk_yes h1 (.inr rfl) h3 h4
    refine ⟨h', fun j hj => ?_⟩
    rw [show (3 : Int) - 1 = 2 from rfl, putL_yes1 h, putL_yes2 h', bt_rev _ _ (by rw [leL_len]; omega), leL_len]
    congr 1; omega
  · have h' : putOk n s 1 = true := putOk_yes h1 (.inl rfl) h3 h4
    refine ⟨h', fun j hj => ?_⟩
    rw [show (3 : Int) - 2 = 1 from rfl, putL_yes2 h, putL_yes1 h', bt_rev _ _ (by rw [leL_len]; omega), leL_len]
theorem gV_put {n s o : Int} (a c : List UInt8) (h : putOk n s o = true) : gV (a ++ putL n s o ++ c) a.length s o = n := by
  have hl := putL_len h
  obtain ⟨h1, h2, h3, h4⟩ := putOk_parts h
  have hb : ∀ j, j < s.toNat → bt (a ++ putL n s o ++ c) (a.length + j) = if o = 1 then n / 256 ^ j % 256 else n / 256 ^ (s.toNat - 1 - j) % 256 := by
    intro j hj
    rw [bt_mid _ _ _ _ (by omega)]
    rcases h2 with rfl | rfl
    · rw [putL_yes1 h, bt_le _ _ _ hj]; rfl
    · rw [putL_yes2 h, bt_rev _ _ (by rw [leL_len]; exact hj), leL_len, bt_le _ _ _ (by omega)]; rfl
  rcases h1 with rfl | rfl | rfl
  · have b0 := hb 0 (by decide)
    simp at b0
    have h4' : n < 256 := h4
    unfold gV
    rcases h2 with rfl | rfl <;> simp at b0 ⊢ <;> rw [b0] <;> omega
  · have b0 := hb 0 (by decide)
    have b1 := hb 1 (by decide)
    simp at b0 b1
    have h4' : n < 65536 := h4
    unfold gV
    rcases h2 with rfl | rfl <;> simp at b0 b1 ⊢ <;> rw [b0, b1] <;> omega
  · have b0 := hb 0 (by decide)
    have b1 := hb 1 (by decide)
    have b2 := hb 2 (by decide)
    have b3 := hb 3 (by decide)
    simp at b0 b1 b2 b3
    have h4' : n < 4294967296 := h4
    unfold gV
    rcases h2 with rfl | rfl <;> simp at b0 b1 b2 b3 ⊢ <;> rw [b0, b1, b2, b3] <;> omega
theorem get_put {n s o : Int} (a c : List UInt8) (h : putOk n s o = true) : getP (a ++ putL n s o ++ c) (a.length : Int) s o = (n, true) := by
  have hl := putL_len h
  obtain ⟨h1, h2, h3, h4⟩ := putOk_parts h
  have hs : 0 < s := by unfold okSize at h1; omega
  rw [getP_yes h1 h2 (by simp only [List.length_append]; omega), gV_put a c h]
theorem get_beyond {n s o : Int} (h : putOk n s o = true) : getP (putL n s o) 1 s o = (0, false) := by
  have hl := putL_len h
  obtain ⟨h1, h2, h3, h4⟩ := putOk_parts h
  have hs : 0 < s := by unfold okSize at h1; omega
  exact getP_no (by omega)
theorem sgd_pln {n s : Int} (h : (sgd n s).2 = true) : pln (sgd n s).1 s = (n, true) := by
  by_cases h0 : n < 0 ∨ topI s ≤ n
  · rw [sgd_no h0] at h; cases h
  have hs : okSize s := by
    by_cases hs : okSize s
    · exact hs
    · have := topI_zero hs; omega
  unfold sgd
  rw [if_neg h0]
  rcases hs with rfl | rfl | rfl <;> simp only [topI] at * <;> simp at * <;> split <;> unfold pln <;> simp [topI] <;> split <;> simp <;> first | omega | (split <;> simp <;> omega)
theorem pln_sgd {n s : Int} (h : (pln n s).2 = true) : sgd (pln n s).1 s = (n, true) := by
  by_cases h0 : n < - (topI s / 2) ∨ topI s / 2 ≤ n
  · rw [pln_no h0] at h; cases h
  have hs : okSize s := by
    by_cases hs : okSize s
    · exact hs
    · have := topI_zero hs; omega
  unfold pln
  rw [if_neg h0]
  rcases hs with rfl | rfl | rfl <;> simp only [topI] at * <;> simp at * <;> split <;> unfold sgd <;> simp [topI] <;> split <;> simp <;> first | omega | (split <;> simp <;> omega)
end Go.Proofs.Ytdjpdpdaaahmiaa
