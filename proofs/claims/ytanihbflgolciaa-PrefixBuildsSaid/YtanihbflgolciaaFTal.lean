/- Contract of prefix.tally. -/
import Derived.Test.YtanihbflgolciaaBlk
import Derived.Test.YtanihbflgolciaaPCnt
namespace Go.Proofs.Ytanihbflgolciaa
open Go.RowKit Go.Lib
set_option linter.unusedVariables false
set_option maxRecDepth 100000

def zeroL (n : Nat) : List Int := List.replicate n 0
/-- The count of each symbol there is. -/
def talS (l : List Int) : List Int := if cntB l then l ++ zeroL (256 - l.length) else zeroL 256
theorem cntB_len {l : List Int} (h : cntB l = true) : l.length ≤ 256 := by
  unfold cntB at h
  rw [Bool.and_eq_true] at h
  exact of_decide_eq_true h.1
theorem cntB_in {l : List Int} (h : cntB l = true) : ∀ j, j < l.length → 0 ≤ l.getD j 0 ∧ l.getD j 0 ≤ 1099511627776 := by
  intro j hj
  by_cases hb : l.getD j 0 < 0 ∨ 1099511627776 < l.getD j 0
  · rw [cntB_no hj hb] at h; cases h
  · omega
theorem talS_len (l : List Int) : (talS l).length = 256 := by
  unfold talS zeroL
  split
  · rename_i h
    have := cntB_len h
    simp; omega
  · simp
theorem talS_at {l : List Int} (h : cntB l = true) (j : Nat) : (talS l).getD j 0 = l.getD j 0 := by
  unfold talS zeroL
  rw [if_pos h]
  by_cases hj : j < l.length
  · rw [List.getD_eq_getElem?_getD, List.getD_eq_getElem?_getD, List.getElem?_append_left hj]
  · rw [List.getD_eq_getElem?_getD, List.getD_eq_getElem?_getD, List.getElem?_append_right (by omega), List.getElem?_eq_none (l := l) (by omega), List.getElem?_replicate]
    split <;> rfl
theorem talS_in (l : List Int) : ∀ j, 0 ≤ (talS l).getD j 0 ∧ (talS l).getD j 0 ≤ 1099511627776 := by
  intro j
  by_cases h : cntB l = true
  · rw [talS_at h]
    by_cases hj : j < l.length
    · exact cntB_in h j hj
    · rw [List.getD_eq_getElem?_getD, List.getElem?_eq_none (by omega)]; simp
  · unfold talS zeroL
    rw [if_neg h, List.getD_eq_getElem?_getD, List.getElem?_replicate]
    split <;> simp
theorem ia_one (l : List Int) : ∀ v ∈ (ia l).toList, v.oneCell' = true := by
  intro v hv
  exact iv_one l v (by simpa [ia] using hv)
theorem info256 : (Try.prog.info? 55).map (fun i => i.zero) = some (some (.agg (ia (zeroL 256)))) := by kernel_rfl
theorem size256 (l : List Int) (h : l.length = 256) : (Try.prog.info? 55).map (·.size) = some (ia l).size := by rw [ia_size, h]; kernel_rfl

set_option maxHeartbeats 2000000 in
theorem fTal_any (l : List Int) (A : Option Addr) (c : Nat) (w : World) (hr : Ri w A l) (hl : l.length ≤ 100000) :
    Calls Try.prog 25 #[.slice A l.length c] w fun e w' => e = .returned (.tuple #[.agg (ia (talS l)), .bool (cntB l)]) ∧ Below w.heap.size w w' := by
  obtain ⟨Z, hZ⟩ : ∃ Z, Z = ia (zeroL 256) := ⟨_, rfl⟩
  have HZ : Hid ((Try.prog.info? 55).map (fun i => i.zero) = some (some (.agg Z))) := by show _ = _; rw [hZ]; exact info256
  have HZE := Lib.hid hZ
  have HZS : Hid ((Try.prog.info? 55).map (·.size) = some Z.size) := by show _ = _; rw [hZ]; exact size256 _ (by simp [zeroL])
  have HZ1 : Hid (∀ v ∈ Z.toList, v.oneCell' = true) := by show ∀ v ∈ Z.toList, _; rw [hZ]; exact ia_one _
  have HW := Lib.hid (((Below.refl w.heap.size w).alloc (Nat.le_refl _) (.cells Z 55)).alloc (by simp) (.cells Z 55))
  have HB0 := Lib.hid ((Blk.new w Z 55).alloc (.cells Z 55))
  have HB1 : Hid (Blk ((w.alloc (.cells Z 55)).alloc (.cells Z 55)) (w.heap.size + 1) Z) := by
    have := Blk.new (w.alloc (.cells Z 55)) Z 55
    simp only [World.size_alloc] at this
    exact this
  have HR := Lib.hid hr
  clear hZ hr
  go_enter Try.func25, Try.ntmps25
  by_cases h256 : 256 < l.length
  · have hno := Lib.hid (cntB_long h256)
    have hts : Hid (talS l = zeroL 256) := by show talS l = _; unfold talS; rw [hno.out]; rfl
    go_wp2_with (first
      | (with_reducible refine wpList_allocZ _ rfl 55 rfl Z HZ.out ?_)
      | (with_reducible refine wpList_loadB _ rfl 55 (.tmp 4) rfl _ Try.underlying55 rfl (w.heap.size + 1) rfl Z HB1.out HZS.out ?_)
      | ((with_reducible refine wpList_storeB _ rfl 55 (.tmp 2) (.tmp 10) rfl w.heap.size rfl Z HB0.out Z rfl HZS.out rfl HZ1.out ?_)
         intro w2 hb2 hc2 hs2
         have HB2 := Lib.hid hb2
         have HW2 := Lib.hid (hc2.below (B := w.heap.size) HW.out.size (fun i hi => Nat.le_of_eq hi.symm))
         clear hb2 hc2))
    (try simp only [Exit.inBlock, Exit.then])
    refine bodyPost_ret (results_cell_tmp rfl _ _ _ Try.underlying55 rfl w.heap.size Z (.bool false) rfl rfl (fun j v hv => HB2.out.cell hv) HZS.out) rfl ?_
    rw [hts.out, hno.out, ← HZE.out]
    exact ⟨rfl, HW.out.trans HW2.out⟩
  · have HW1 := HW
    go_wp2_with (first
      | (with_reducible refine wpList_allocZ _ rfl 55 rfl Z HZ.out ?_))
    obtain ⟨w1, hw1⟩ : ∃ w1, w1 = (w.alloc (.cells Z 55)).alloc (.cells Z 55) := ⟨_, rfl⟩
    rw [← hw1] at HW HB0 HB1 ⊢
    clear HW1 hw1 HZ
    have hr1 := HR.out.below HW.out
    have HR1 := Lib.hid hr1
    clear hr1
    go_loopw [13] (fun i wr => ∃ (k : Nat), k ≤ l.length ∧ i = .int .i64 k ∧ Hid (∀ j, j < k → 0 ≤ l.getD j 0 ∧ l.getD j 0 ≤ 1099511627776) ∧ wr = w1) (fun i _ => l.length - (RowKit.intOf i).toNat)
    case atStart => exact ⟨0, Nat.zero_le _, rfl, (show Hid _ from fun j hj => absurd hj (Nat.not_lt_zero _)), rfl⟩
    case round =>
      obtain ⟨k, hk, rfl, HC, hw⟩ := hrel
      subst hw
      by_cases hlt : k < l.length
      · obtain ⟨b, o, hAb, hc⟩ : ∃ b o, A = some ⟨b, o, none⟩ ∧ ∀ i, i < l.length → wr.cell? ⟨b, o + i, none⟩ = some (.int .i64 (l.getD i 0)) := by
          rcases HR1.out with h | h
          · rw [h] at hlt; simp at hlt
          · exact h
        subst hAb
        have e1 := hc k hlt
        clear hc
        by_cases hbad : l.getD k 0 < 0 ∨ 1099511627776 < l.getD k 0
        · have hno := Lib.hid (cntB_no hlt hbad)
          have hts : Hid (talS l = zeroL 256) := by show talS l = _; unfold talS; rw [hno.out]; rfl
          generalize l.getD k 0 = x at *
          rcases hbad with hbad | hbad
          all_goals
            go_wp2_with (first
              | (with_reducible refine wpList_loadB _ rfl 55 (.tmp 4) rfl _ Try.underlying55 rfl (w.heap.size + 1) rfl Z HB1.out HZS.out ?_)
              | ((with_reducible refine wpList_storeB _ rfl 55 (.tmp 2) (.tmp 23) rfl w.heap.size rfl Z HB0.out Z rfl HZS.out rfl HZ1.out ?_)
                 intro w2 hb2 hc2 hs2
                 have HB2 := Lib.hid hb2
                 have HW2 := Lib.hid (hc2.below (B := w.heap.size) HW.out.size (fun i hi => Nat.le_of_eq hi.symm))
                 clear hb2 hc2))
            (try simp only [Exit.inBlock, Exit.then])
            refine bodyPost_ret (results_cell_tmp rfl _ _ _ Try.underlying55 rfl w.heap.size Z (.bool false) rfl rfl (fun j v hv => HB2.out.cell hv) HZS.out) rfl ?_
            rw [hts.out, hno.out, ← HZE.out]
            exact ⟨rfl, HW.out.trans HW2.out⟩
        · generalize hx : l.getD k 0 = x at *
          have HX := Lib.hid hx
          have hx0 : 0 ≤ x := by omega
          have hx1 : x ≤ 1099511627776 := by omega
          clear hx hbad
          go_wp2
          go_roundw
          case rel =>
            refine ⟨k + 1, by omega, by go_num, (show Hid _ from fun j hj => ?_), trivial⟩
            by_cases hjk : j = k
            · subst hjk
              rw [HX.out]
              omega
            · exact HC.out j (by omega)
          case measure => simp [RowKit.intOf]; omega
      · obtain rfl : k = l.length := by omega
        have hyes := Lib.hid (cntB_yes (by omega) HC.out)
        have hts : Hid (talS l = l ++ (zeroL 256).drop l.length) := by
          show talS l = _
          unfold talS zeroL
          rw [hyes.out, if_pos rfl, List.drop_replicate]
        have HBz : Hid (Blk wr (w.heap.size + 1) (ia (zeroL 256))) := by show Blk _ _ _; rw [← HZE.out]; exact HB1.out
        have hln : (l ++ (zeroL 256).drop l.length).length = 256 := by rw [← hts.out]; exact talS_len l
        have HS3 := Lib.hid (size256 _ hln)
        go_wp2_with (first
          | ((with_reducible refine wpList_copyA _ rfl (.tmp 25) (.tmp 26) rfl (w.heap.size + 1) 256 256 (zeroL 256) rfl (by simp [zeroL]) HBz.out A l.length c l rfl rfl HR1.out (by omega) ?_)
             intro w3 hb3 hc3 hs3
             have HB3 := Lib.hid hb3
             have HW3 := Lib.hid (hc3.below (B := w.heap.size) HW.out.size (fun i hi => by rw [hi]; omega))
             have HB03 := Lib.hid (HB0.out.chg hc3 (by omega))
             clear hb3 hc3)
          | (with_reducible refine wpList_loadB _ rfl 55 (.tmp 4) rfl _ Try.underlying55 rfl (w.heap.size + 1) rfl _ HB3.out HS3.out ?_)
          | ((with_reducible refine wpList_storeB _ rfl 55 (.tmp 2) (.tmp 28) rfl w.heap.size rfl Z HB03.out _ rfl HS3.out (by rw [ia_size, hln, HZE.out, ia_size]; simp [zeroL]) (ia_one _) ?_)
             intro w2 hb2 hc2 hs2
             have HB2 := Lib.hid hb2
             have HW2 := Lib.hid (hc2.below (B := w.heap.size) (by have := HW.out.size; omega) (fun i hi => Nat.le_of_eq hi.symm))
             clear hb2 hc2))
        (try simp only [Exit.inBlock, Exit.then])
        refine bodyPost_ret (results_cell_tmp rfl _ _ _ Try.underlying55 rfl w.heap.size (ia (l ++ (zeroL 256).drop l.length)) (.bool true) rfl rfl (fun j v hv => HB2.out.cell hv) HS3.out) rfl ?_
        rw [hts.out, hyes.out]
        exact ⟨rfl, (HW.out.trans HW3.out).trans HW2.out⟩
end Go.Proofs.Ytanihbflgolciaa
