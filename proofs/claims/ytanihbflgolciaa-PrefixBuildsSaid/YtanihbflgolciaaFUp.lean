/- container/heap's up over a forest; Init. -/
import Derived.Test.YtanihbflgolciaaFDown
namespace Go.Proofs.Ytanihbflgolciaa
open Go.RowKit Go.Lib Go.Sort
set_option linter.unusedVariables false
set_option maxRecDepth 100000

theorem siftUp_stop0 (d : Array (Int × Value)) : siftUp ltw 0 d = d := by unfold siftUp; rw [dif_pos rfl]
theorem siftUp_stop {j : Nat} {d : Array (Int × Value)} (h : j ≠ 0) (hl : ltw d[j]! d[(j - 1) / 2]! = false) : siftUp ltw j d = d := by unfold siftUp; rw [dif_neg h, if_neg (by rw [hl]; decide)]
theorem siftUp_go {j : Nat} {d : Array (Int × Value)} (h : j ≠ 0) (hl : ltw d[j]! d[(j - 1) / 2]! = true) : siftUp ltw j d = siftUp ltw ((j - 1) / 2) (swp d ((j - 1) / 2) j) := by
  conv => lhs; unfold siftUp
  rw [dif_neg h, if_pos hl]

set_option maxHeartbeats 2000000 in
theorem fUp_any (p g c : Nat) (d : Array (Int × Value)) (j0 : Nat) (w : World) (h : Fo w p g c d) (hj0 : j0 < d.size) (hc : c ≤ 9223372036854775807) (hd : d.size ≤ 100000) :
    Calls Try.prog 50 #[.iface 75 (.pointer (some ⟨p, 0, none⟩)), .int .i64 j0] w fun e w' => e = .returned (.tuple #[]) ∧ Fo w' p g c (siftUp ltw j0 d) ∧ Chg (fun k => k = g) w w' ∧ w'.heap.size = w.heap.size := by
  have nl := nil_less
  have ns := nil_swap
  have H := Lib.hid h
  clear h
  go_enter Try.func50, Try.ntmps50
  go_wp2
  go_loopw [1] (fun j wr => ∃ (r : Nat) (dr : Array (Int × Value)), r < dr.size ∧ j = .int .i64 r ∧ dr.size ≤ 100000 ∧ Hid (siftUp ltw r dr = siftUp ltw j0 d) ∧ Hid (Fo wr p g c dr) ∧ Hid (Chg (fun k => k = g) w wr) ∧ wr.heap.size = w.heap.size) (fun j _ => (RowKit.intOf j).toNat)
  case atStart => exact ⟨j0, d, hj0, rfl, hd, rfl, H, Chg.refl _ _, rfl⟩
  case round =>
    clear H
    obtain ⟨r, dr, hr, rfl, hsz, HE, HF, HC, hws⟩ := hrel
    have ev := HF.out.var
    have mL := meth_less ev
    have hz : ¬ (2 : Int) = 0 := by decide
    have hz2 : ((2 : Int) == 0) = false := by decide
    by_cases h0 : r = 0
    · subst h0
      rw [siftUp_stop0] at HE
      have hq : ((0 : Int) - 1).tdiv 2 = 0 := by decide
      go_wp2
      go_end0
      exact ⟨rfl, HE.out ▸ HF.out, HC.out, hws⟩
    · obtain ⟨i, hi⟩ : ∃ i, i = (r - 1) / 2 := ⟨_, rfl⟩
      have hir : i < r := by omega
      have hq : ((r : Int) - 1).tdiv 2 = (i : Int) := by
        rw [show (r : Int) - 1 = ((r - 1 : Nat) : Int) by omega, Int.tdiv_eq_ediv_of_nonneg (by omega)]
        omega
      have hne : ((i : Int) == (r : Int)) = false := by rw [beq_eq_false_iff_ne]; omega
      have HI := Lib.hid hi
      clear hi
      have hnr : (0 : Int) < r := by omega
      cases hb : ltw dr[r]! dr[i]! with
      | true =>
        have HE2 : Hid (siftUp ltw i (swp dr i r) = siftUp ltw j0 d) := by show _ = _; rw [← HE.out, siftUp_go h0 (by rw [← HI.out]; exact hb), ← HI.out]
        have C1 : Hid (∀ w2, Fo w2 p g c dr → Calls Try.prog 88 #[.slice (some ⟨g, 0, none⟩) dr.size c, .int .i64 (r : Int), .int .i64 (i : Int)] w2 fun e w' => e = .returned (.bool true) ∧ Fo w' p g c dr ∧ Chg (fun k => k = g) w2 w' ∧ w'.heap.size = w2.heap.size) := fun w2 h2 => (fLess_at h2 (i := r) (j := i) hr (by omega) hc rfl rfl).mono fun e w' h => ⟨h.1.trans (by rw [hb]), h.2⟩
        have CS : Hid (∀ w2, Fo w2 p g c dr → Calls Try.prog 89 #[.slice (some ⟨g, 0, none⟩) dr.size c, .int .i64 (i : Int), .int .i64 (r : Int)] w2 fun e w' => e = .returned (.tuple #[]) ∧ Fo w' p g c (swp dr i r) ∧ Chg (fun k => k = g) w2 w' ∧ w'.heap.size = w2.heap.size) := fun w2 h2 => fSwap_at h2 (i := i) (j := r) (by omega) hr hc rfl rfl
        clear hb HE
        go_wp2_with (first
          | ((with_reducible refine (C1.out _ HF.out).mono ?_)
             rintro e w2 ⟨rfl, hF, hC, hS⟩
             have HF1 := Lib.hid hF
             have HC1 := Lib.hid (HC.out.then hC)
             have hs1 : w2.heap.size = w.heap.size := hS.trans hws
             have mS1 := meth_swap hF.var
             clear hF hC hS)
          | ((with_reducible refine (CS.out _ HF1.out).mono ?_)
             rintro e w9 ⟨rfl, hF, hC, hS⟩
             have HF9 := Lib.hid hF
             have HC9 := Lib.hid (HC1.out.then hC)
             have hs9 : w9.heap.size = w.heap.size := hS.trans hs1
             clear hF hC hS))
        go_roundw
        case rel => exact ⟨i, swp dr i r, by rw [size_swp]; omega, by go_num, by rw [size_swp]; exact hsz, HE2, HF9, HC9, hs9⟩
        case measure => simp [RowKit.intOf]; omega
      | false =>
        have HE2 : Hid (dr = siftUp ltw j0 d) := by show _ = _; rw [← HE.out, siftUp_stop h0 (by rw [← HI.out]; exact hb)]
        have C1 : Hid (∀ w2, Fo w2 p g c dr → Calls Try.prog 88 #[.slice (some ⟨g, 0, none⟩) dr.size c, .int .i64 (r : Int), .int .i64 (i : Int)] w2 fun e w' => e = .returned (.bool false) ∧ Fo w' p g c dr ∧ Chg (fun k => k = g) w2 w' ∧ w'.heap.size = w2.heap.size) := fun w2 h2 => (fLess_at h2 (i := r) (j := i) hr (by omega) hc rfl rfl).mono fun e w' h => ⟨h.1.trans (by rw [hb]), h.2⟩
        clear hb HE
        go_wp2_with (first
          | ((with_reducible refine (C1.out _ HF.out).mono ?_)
             rintro e w2 ⟨rfl, hF, hC, hS⟩
             have HF1 := Lib.hid hF
             have HC1 := Lib.hid (HC.out.then hC)
             have hs1 : w2.heap.size = w.heap.size := hS.trans hws
             clear hF hC hS))
        go_end0
        exact ⟨rfl, HE2.out ▸ HF1.out, HC1.out, hs1⟩
end Go.Proofs.Ytanihbflgolciaa
