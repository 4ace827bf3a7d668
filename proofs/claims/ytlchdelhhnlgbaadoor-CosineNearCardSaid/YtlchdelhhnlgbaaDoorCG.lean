/- Contracts: bounds of a block (isWithin, May, samples), a block of one number (flat), the document's Factor and rounded. -/
import Derived.Test.YtlchdelhhnlgbaaDoorCF
namespace Go.Proofs.YtlchdelhhnlgbaaDoor
open Go.RowKit Go.Lib
set_option linter.unusedVariables false
set_option maxRecDepth 100000
theorem clo_any (x : Int) (w : World) : Calls Tryd.prog 26 #[.int .i64 x] w fun e w' => e = .returned (.bool (!(decide (-32768 ≤ x) && decide (x ≤ 32768)))) ∧ w = w' := by
  by_cases h1 : x < -32768
  · have HF : Hid ((!(decide (-32768 ≤ x) && decide (x ≤ 32768))) = true) := by show _ = _; simp; omega
    go_enter Tryd.func26, Tryd.ntmps26
    go_wp2
    go_ret
    rw [HF.out]
    exact ⟨rfl, rfl⟩
  · have HF : Hid ((!decide (x ≤ 32768)) = decide (32768 < x)) := by show _ = _; apply Bool.eq_iff_iff.2; simp
    go_enter Tryd.func26, Tryd.ntmps26
    go_wp2
    go_ret
    rw [HF.out]
    exact ⟨rfl, rfl⟩
theorem index_any (l : List Int) (hl : l.length = 64) (g : Nat) (w : World) (hg : Blk w g (ia l)) :
    Calls Tryd.prog 27 #[.slice (some ⟨g, 0, none⟩) 64 64, .func (Fn.func 26) #[] #[]] w fun e w' => (∃ r : Int, decide (0 ≤ r) = (!wiB l (-32768) 32768) ∧ e = .returned (.int .i64 r)) ∧ w = w' := by
  have HC := Lib.hid hg
  have HL := Lib.hid hl
  clear hg hl
  go_enter Tryd.func27, Tryd.ntmps27
  go_wp2
  go_loop [8] (fun i => ∃ k : Nat, k ≤ 64 ∧ i = .int .i64 k ∧ Hid (∀ j, j < k → (-32768) ≤ l.getD j 0 ∧ l.getD j 0 ≤ 32768)) (fun i => 64 - (intOf i).toNat)
  case atStart => exact ⟨0, by omega, rfl, (show Hid _ from fun j hj => by omega)⟩
  case round =>
    obtain ⟨k, hk, rfl, HN⟩ := hrel
    by_cases hk4 : k < 64
    · have hcell := HC.out.cell (ia_at (l := l) (j := k) (by rw [HL.out]; exact hk4))
      have HX : Hid (∀ y, l.getD k 0 = y → True) := fun _ _ => trivial
      cases hy : (decide ((-32768) ≤ l.getD k 0) && decide (l.getD k 0 ≤ 32768)) with
      | false =>
        have HY : Hid (wiB l (-32768) 32768 = false) := by
          show _ = _
          refine wiB_no (k := k) (by rw [HL.out]; exact hk4) ?_
          simp only [Bool.and_eq_false_iff, decide_eq_false_iff_not] at hy
          omega
        have hc := clo_any (l.getD k 0) w
        rw [hy] at hc
        clear HN hy HX
        generalize l.getD k 0 = x at *
        go_wp2_with ((with_reducible refine hc.mono ?_); rintro e w' ⟨rfl, rfl⟩)
        go_ret
        exact ⟨⟨_, by rw [HY.out]; simp, rfl⟩, rfl⟩
      | true =>
        have HY := Lib.hid hy
        have hc := clo_any (l.getD k 0) w
        rw [hy] at hc
        clear hy HX
        generalize hgx : l.getD k 0 = x at *
        have HGX := Lib.hid hgx
        clear hgx
        go_wp2_with ((with_reducible refine hc.mono ?_); rintro e w' ⟨rfl, rfl⟩)
        go_round
        case rel =>
          refine ⟨k + 1, by omega, by go_num, (show Hid _ from fun j hj => ?_)⟩
          by_cases hjk : j = k
          · subst hjk
            rw [HGX.out]
            have := HY.out
            simp only [Bool.and_eq_true, decide_eq_true_eq] at this
            exact this
          · exact HN.out j (by omega)
        case measure => simp [intOf]; omega
    · obtain rfl : k = 64 := by omega
      have HY : Hid (wiB l (-32768) 32768 = true) := wiB_of fun j hj => HN.out j (by rw [HL.out] at hj; exact hj)
      go_wp2
      go_ret
      exact ⟨⟨_, by rw [HY.out]; rfl, rfl⟩, rfl⟩
theorem contains_any (l : List Int) (hl : l.length = 64) (g : Nat) (w : World) (hg : Blk w g (ia l)) :
    Calls Tryd.prog 25 #[.slice (some ⟨g, 0, none⟩) 64 64, .func (Fn.func 26) #[] #[]] w fun e w' => e = .returned (.bool (!wiB l (-32768) 32768)) ∧ w = w' := by
  have HK := Lib.hid (index_any l hl g w hg)
  clear hg hl
  go_enter Tryd.func25, Tryd.ntmps25
  go_wp2_with (go_at_call 27; (with_reducible refine HK.out.mono ?_); rintro e w' ⟨⟨r, hr, rfl⟩, rfl⟩; have HR := Lib.hid hr; clear hr)
  go_ret
  exact ⟨by rw [← HR.out]; rfl, rfl⟩
theorem within_any (l : List Int) (hl : l.length = 64) (w : World) : Calls Tryd.prog 22 #[.agg (ia l)] w fun e w' => e = .returned (.bool (wiB l (-32768) 32768)) ∧ Below w.heap.size w w' := by
  obtain ⟨w1, hw1⟩ : ∃ w1, w1 = w.alloc (.cells (ia l) 26) := ⟨_, rfl⟩
  have H0 : Hid (Blk w1 w.heap.size (ia l)) := by rw [hw1]; exact Blk.new w _ _
  have HB : Hid (Below w.heap.size w w1) := by rw [hw1]; exact (Below.refl _ w).alloc (Nat.le_refl _) _
  have HK := Lib.hid (contains_any l hl w.heap.size w1 H0.out)
  clear H0
  go_enter Tryd.func22, Tryd.ntmps22
  go_wp2_with (go_at_call 25; rw [← hw1]; (with_reducible refine HK.out.mono ?_); rintro e w' ⟨rfl, rfl⟩)
  go_ret
  exact ⟨by simp, by rw [← hw1]; exact HB.out⟩
set_option maxHeartbeats 2000000 in
theorem may_any (l : List Int) (hl : l.length = 64) (w : World) : Calls Tryd.prog 12 #[.agg (ia l)] w fun e w' => e = .returned (.bool (wiB l (-32768) (32768))) ∧ Below w.heap.size w w' := by
  obtain ⟨w1, hw1⟩ : ∃ w1, w1 = w.alloc (.cells (ia l) 26) := ⟨_, rfl⟩
  have H0 : Hid (Blk w1 w.heap.size (ia l)) := by rw [hw1]; exact Blk.new w _ _
  have HB : Hid (Below w.heap.size w w1) := by rw [hw1]; exact (Below.refl _ w).alloc (Nat.le_refl _) _
  have HL := Lib.hid hl
  clear hl
  go_enter Tryd.func12, Tryd.ntmps12
  go_wp2
  rw [← hw1]
  clear hw1
  go_loopw [3] (fun i wr => ∃ k : Nat, k ≤ 64 ∧ i = .int .i64 k ∧ wr = w1 ∧ Hid (∀ j, j < k → (-32768) ≤ l.getD j 0 ∧ l.getD j 0 ≤ 32768)) (fun i _ => 64 - (RowKit.intOf i).toNat)
  case atStart => exact ⟨0, by omega, rfl, rfl, (show Hid _ from fun j hj => by omega)⟩
  case round =>
    obtain ⟨k, hk, rfl, hw, HN⟩ := hrel
    subst hw
    by_cases hk4 : k < 64
    · have hcell := H0.out.cell (ia_at (l := l) (j := k) (by rw [HL.out]; exact hk4))
      by_cases h1 : l.getD k 0 < -32768
      · have HY := Lib.hid (wiB_no (l := l) (a := -32768) (b := 32768) (k := k) (by rw [HL.out]; exact hk4) (.inl h1))
        clear HN
        generalize l.getD k 0 = x at *
        go_wp2
        go_ret
        rw [HY.out]
        exact ⟨rfl, HB.out⟩
      · by_cases h2 : 32768 < l.getD k 0
        · have HY := Lib.hid (wiB_no (l := l) (a := -32768) (b := 32768) (k := k) (by rw [HL.out]; exact hk4) (.inr h2))
          clear HN
          generalize l.getD k 0 = x at *
          go_wp2
          go_ret
          rw [HY.out]
          exact ⟨rfl, HB.out⟩
        · have HX : Hid ((-32768) ≤ l.getD k 0 ∧ l.getD k 0 ≤ 32768) := by show _ ∧ _; omega
          have HNN : Hid (∀ j, j < k + 1 → (-32768) ≤ l.getD j 0 ∧ l.getD j 0 ≤ 32768) := fun j hj => by
            by_cases hjk : j = k
            · subst hjk; exact HX.out
            · exact HN.out j (by omega)
          clear HN HX
          generalize hgx : l.getD k 0 = x at *
          clear hgx
          go_wp2
          go_roundw
          case rel => exact ⟨k + 1, by omega, by go_num, trivial, HNN⟩
          case measure => simp [RowKit.intOf]; omega
    · obtain rfl : k = 64 := by omega
      have HY : Hid (wiB l (-32768) (32768) = true) := wiB_of fun j hj => HN.out j (by rw [HL.out] at hj; exact hj)
      go_wp2
      go_ret
      rw [HY.out]
      exact ⟨rfl, HB.out⟩
set_option maxHeartbeats 2000000 in
theorem samp_any (l : List Int) (hl : l.length = 64) (w : World) : Calls Tryd.prog 15 #[.agg (ia l)] w fun e w' => e = .returned (.bool (wiB l (-128) (127))) ∧ Below w.heap.size w w' := by
  obtain ⟨w1, hw1⟩ : ∃ w1, w1 = w.alloc (.cells (ia l) 26) := ⟨_, rfl⟩
  have H0 : Hid (Blk w1 w.heap.size (ia l)) := by rw [hw1]; exact Blk.new w _ _
  have HB : Hid (Below w.heap.size w w1) := by rw [hw1]; exact (Below.refl _ w).alloc (Nat.le_refl _) _
  have HL := Lib.hid hl
  clear hl
  go_enter Tryd.func15, Tryd.ntmps15
  go_wp2
  rw [← hw1]
  clear hw1
  go_loopw [3] (fun i wr => ∃ k : Nat, k ≤ 64 ∧ i = .int .i64 k ∧ wr = w1 ∧ Hid (∀ j, j < k → (-128) ≤ l.getD j 0 ∧ l.getD j 0 ≤ 127)) (fun i _ => 64 - (RowKit.intOf i).toNat)
  case atStart => exact ⟨0, by omega, rfl, rfl, (show Hid _ from fun j hj => by omega)⟩
  case round =>
    obtain ⟨k, hk, rfl, hw, HN⟩ := hrel
    subst hw
    by_cases hk4 : k < 64
    · have hcell := H0.out.cell (ia_at (l := l) (j := k) (by rw [HL.out]; exact hk4))
      by_cases h1 : l.getD k 0 < -128
      · have HY := Lib.hid (wiB_no (l := l) (a := -128) (b := 127) (k := k) (by rw [HL.out]; exact hk4) (.inl h1))
        clear HN
        generalize l.getD k 0 = x at *
        go_wp2
        go_ret
        rw [HY.out]
        exact ⟨rfl, HB.out⟩
      · by_cases h2 : 127 < l.getD k 0
        · have HY := Lib.hid (wiB_no (l := l) (a := -128) (b := 127) (k := k) (by rw [HL.out]; exact hk4) (.inr h2))
          clear HN
          generalize l.getD k 0 = x at *
          go_wp2
          go_ret
          rw [HY.out]
          exact ⟨rfl, HB.out⟩
        · have HX : Hid ((-128) ≤ l.getD k 0 ∧ l.getD k 0 ≤ 127) := by show _ ∧ _; omega
          have HNN : Hid (∀ j, j < k + 1 → (-128) ≤ l.getD j 0 ∧ l.getD j 0 ≤ 127) := fun j hj => by
            by_cases hjk : j = k
            · subst hjk; exact HX.out
            · exact HN.out j (by omega)
          clear HN HX
          generalize hgx : l.getD k 0 = x at *
          clear hgx
          go_wp2
          go_roundw
          case rel => exact ⟨k + 1, by omega, by go_num, trivial, HNN⟩
          case measure => simp [RowKit.intOf]; omega
    · obtain rfl : k = 64 := by omega
      have HY : Hid (wiB l (-128) (127) = true) := wiB_of fun j hj => HN.out j (by rw [HL.out] at hj; exact hj)
      go_wp2
      go_ret
      rw [HY.out]
      exact ⟨rfl, HB.out⟩
def flatL (n : Int) : List Int := mapB fun _ => n
theorem flatL_len (n : Int) : (flatL n).length = 64 := mapB_len _
set_option maxHeartbeats 1000000 in
theorem flat_any (n : Int) (w : World) : Calls Tryd.prog 17 #[.int .i64 n] w fun e w' => e = .returned (.agg (ia (flatL n))) ∧ Below w.heap.size w w' := by
  obtain ⟨w1, hw1, hb0, hb1, hB⟩ := two_blk w (ia zeros) (ia zeros) 26 26
  have HZ := Lib.hid zeroB
  have K0 := Lib.hid hb0
  have K1 := Lib.hid hb1
  have KB := Lib.hid hB
  clear hb0 hb1 hB
  go_enter Tryd.func17, Tryd.ntmps17
  go_wp2_with (first
    | (with_reducible refine wpList_allocZ _ rfl 26 rfl (ia zeros) HZ.out ?_))
  rw [← hw1]
  clear hw1
  go_loopw [4] (fun i wr => ∃ (k : Nat), k ≤ 64 ∧ i = .int .i64 k ∧ Hid (Blk wr w.heap.size (ia zeros)) ∧ Hid (Blk wr (w.heap.size + 1) (ia (partK (fun _ => n) k))) ∧ Hid (Below w.heap.size w wr)) (fun i _ => 64 - (RowKit.intOf i).toNat)
  case atStart => exact ⟨0, by omega, rfl, K0, (show Hid _ from by show Blk _ _ _; rw [partK_zero]; exact K1.out), KB⟩
  case round =>
    clear K0 K1 KB
    obtain ⟨k, hk, rfl, K0, K1, KB⟩ := hrel
    by_cases hlt : k < 64
    · have HN := Lib.hid (partK_next (fun _ => n) hlt)
      have HP := Lib.hid (partK_len (fun _ => n) k)
      have hd := K1.out.cell (ia_at (j := k) (by rw [HP.out]; exact hlt))
      have hf := K1.out.frozen k
      generalize (partK (fun _ => n) k).getD k 0 = o at *
      go_wp2
      go_roundw
      case rel => exact ⟨k + 1, by omega, by go_num, K0.out.other (by simp) _, (show Hid _ from by show Blk _ _ _; rw [← HN.out]; exact K1.out.set_int k n), KB.out.setCell (p := ⟨w.heap.size + 1, k, none⟩) (by simp) _⟩
      case measure => simp [RowKit.intOf]; omega
    · obtain rfl : k = 64 := by omega
      have HA : Hid (partK (fun _ => n) 64 = flatL n) := partK_all _
      rw [HA.out] at K1
      have HS := Lib.hid (sizeB (flatL_len n))
      have HE : Hid ((ia zeros).size = (ia (flatL n)).size) := same_size zeros_len (flatL_len n)
      have HO := Lib.hid (one_ia (flatL n))
      clear HA
      go_wp2_with (first
        | (with_reducible refine wpList_loadB _ rfl 26 (.tmp 3) rfl _ Tryd.underlying26 rfl (w.heap.size + 1) rfl (ia (flatL n)) K1.out HS.out ?_)
        | ((with_reducible refine wpList_storeB _ rfl 26 (.tmp 2) (.tmp 12) rfl w.heap.size rfl (ia zeros) K0.out (ia (flatL n)) rfl HS.out HE.out HO.out ?_)
           intro w3 hb3 hc3 hs3))
      refine bodyPost_ret (results_cell rfl _ _ _ Tryd.underlying26 rfl w.heap.size (ia (flatL n)) rfl (fun j v hv => hb3.cell hv) HS.out) rfl ?_
      exact ⟨rfl, KB.out.trans (hc3.below KB.out.size (fun i e => by omega))⟩

/-- The document's rounding. -/
theorem rrnd_any (s : Int) (h1 : -4611686018427387904 ≤ s) (h2 : s ≤ 4611686018427387904) (w : World) : Calls Tryd.prog 21 #[.int .i64 s] w fun e w' => e = .returned (.int .i64 (rd s)) ∧ w = w' := by
  have HF : Hid (rd s = (s + 2147483648) / 4294967296) := rfl
  have m1 := Int.mul_tdiv_add_tmod (s + 2147483648) 4294967296
  generalize hn : s + 2147483648 = n at *
  have hz : ((4294967296 : Int) == 0) = false := by rfl
  by_cases h : 0 ≤ n
  · have e1 : n.tdiv 4294967296 = n / 4294967296 := Int.tdiv_eq_ediv_of_nonneg h
    generalize hG : n.tdiv 4294967296 = G at *
    have g1 : 0 ≤ G := by omega
    have g2 : G ≤ n := by omega
    rw [← e1] at HF
    clear e1 m1
    go_enter Tryd.func21, Tryd.ntmps21
    go_wp2
    go_ret
    exact ⟨ret_i HF.out.symm, rfl⟩
  · have h' : n < 0 := by omega
    have b1 := Int.tmod_lt_of_pos n (b := 4294967296) (by omega)
    have b2 : n.tmod 4294967296 ≤ 0 := by
      have := Int.neg_tmod (-n) 4294967296
      rw [Int.neg_neg] at this
      have h0 := Int.tmod_nonneg (a := -n) 4294967296 (by omega)
      omega
    have b3 : -4294967296 < n.tmod 4294967296 := by
      have := Int.neg_tmod (-n) 4294967296
      rw [Int.neg_neg] at this
      have h0 := Int.tmod_lt_of_pos (-n) (b := 4294967296) (by omega)
      omega
    by_cases hr : n.tmod 4294967296 = 0
    · generalize hG : n.tdiv 4294967296 = G at *
      have e1 : G = n / 4294967296 := by omega
      have g1 : -9000000000000000000 ≤ G := by omega
      have g2 : G ≤ 0 := by omega
      rw [← e1] at HF
      have hrr : (n.tmod 4294967296 == 0) = true := by simp [hr]
      clear e1 m1 b1 b2 b3
      go_enter Tryd.func21, Tryd.ntmps21
      go_wp2
      go_ret
      exact ⟨ret_i HF.out.symm, rfl⟩
    · generalize hG : n.tdiv 4294967296 = G at *
      generalize hR : n.tmod 4294967296 = R at *
      have e1 : G - 1 = n / 4294967296 := by omega
      have g1 : -9000000000000000000 ≤ G := by omega
      have g2 : G ≤ 0 := by omega
      rw [← e1] at HF
      have hrr : (R == 0) = false := by simp [hr]
      clear e1 m1 b1 b2 b3
      go_enter Tryd.func21, Tryd.ntmps21
      go_wp2
      go_ret
      exact ⟨ret_i HF.out.symm, rfl⟩
end Go.Proofs.YtlchdelhhnlgbaaDoor
