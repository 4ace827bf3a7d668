/- The law PrefixReads: it returns true, whatever table and bytes; its walk by the contracts of what it calls. -/
import Derived.Test.YtkkkonmbbdhdhaaGreatDoorDoorM
namespace Go.Proofs.YtkkkonmbbdhdhaaGreatDoor
open Go.RowKit Go.Lib
set_option linter.unusedVariables false
set_option maxRecDepth 100000
theorem left_at (q : Nat) (d : List UInt8) (k m : Nat) (w : World) (h : Rdr w q d k) (hd : d.length ≤ 100000000) (hk : k ≤ 8 * d.length) (hm : 8 * d.length - k = m) :
    Calls Tryz.prog 11 #[.pointer (some ⟨q, 0, none⟩)] w fun e w' => e = .returned (.int .i64 (m : Int)) ∧ Below w.heap.size w w' := by
  refine (left_any q d k w h hd hk).mono ?_
  rintro e w' ⟨rfl, n, rfl⟩
  refine ⟨?_, below_drewN w n⟩
  rw [show ((d.length : Int) * 8 - k) = (m : Int) by omega]
theorem nxt_le {cs l s : List Int} (h : MayP cs l) (hs : Bit s) : (nxtS cs l s).2 ≤ s.length := by
  rcases Nat.eq_zero_or_pos (nxtS cs l s).2 with h0 | h0
  · rw [h0]; exact Nat.zero_le _
  · obtain ⟨j, _, h1, h2⟩ := next_some h hs h0
    generalize (cds (lensOf cs 16)).getD j (0, 0) = p at h1 h2
    rw [h2]
    exact h1.1
set_option maxHeartbeats 4000000 in
theorem prd_yes (cs l : List Int) (A A2 : Option Addr) (c c2 : Nat) (bb : List UInt8) (w : World) (hcs : cs.length = 16) (hr : Ri w A l) (hw : Env w) (hr2 : Rd w A2 bb) (hcap : bb.length ≤ c2) (hA2 : A2 = none → c2 = 0)
    (hl : l.length ≤ 256) (hbl : bb.length ≤ 200) (hmb : mayB cs l = true) :
    Calls Tryz.prog 3 #[.agg (hx cs (.slice A l.length c)), .slice A2 bb.length c2] w fun e w' => e = .returned (.bool true) ∧ Below w.heap.size w w' := by
  have HX := Lib.hid (hx_hv hcs (.slice A l.length c))
  have hX17 := hx17 hcs (.slice A l.length c)
  generalize hx cs (.slice A l.length c) = X at *
  have HMB := Lib.hid hmb
  have HM := Lib.hid (mayB_iff.1 hmb)
  have HW := Lib.hid ((Below.refl w.heap.size w).alloc (Nat.le_refl _) (.cells X 25))
  have HBL := Lib.hid (Blk.new w X 25)
  have HX17 := Lib.hid hX17
  have HSZ : Hid ((Tryz.prog.info? 25).map (·.size) = some X.size) := by show _ = _; rw [hX17]; kernel_rfl
  have HR := Lib.hid (hr.below HW.out)
  have HR2 := Lib.hid (hr2.below HW.out)
  have HE := Lib.hid (hw.below HW.out)
  have e16 := HX.out.syms
  have d1 : decide ((256 : Int) < (l.length : Int)) = false := by rw [decide_eq_false_iff_not]; omega
  have d2 : decide ((200 : Int) < (bb.length : Int)) = false := by rw [decide_eq_false_iff_not]; omega
  clear hr hr2 hw hX17 hmb hcs
  go_enter Tryz.func3, Tryz.ntmps3
  go_wp2_with (with_reducible refine wpList_loadB _ rfl 25 (.tmp 2) rfl _ Tryz.underlying25 rfl w.heap.size rfl X HBL.out HSZ.out ?_)
  (with_reducible refine (fNew_yes X cs l A c _ HX.out HR.out (by omega) HMB.out HX17.out).mono ?_); rintro e w1 ⟨b, rfl, hb1, ht1, h1⟩
  have HT := Lib.hid ht1
  have HB1 := Lib.hid (HBL.out.below h1)
  have HRi := Lib.hid (HR.out.below h1)
  have HR21 := Lib.hid (HR2.out.below h1)
  have HE1 := Lib.hid (HE.out.below h1)
  have HW1 := Lib.hid (below_le HW.out h1 HW.out.size)
  clear ht1 h1 HR HR2 HE HW hb1
  go_wp2_with fail
  (with_reducible refine (newA_any bb A2 c2 _ HE1.out HR21.out hcap hA2 (by omega)).mono ?_); rintro e w2 ⟨q, A3, c3, rfl, hrd2, hq2, hA3, h2⟩
  have HD2 := Lib.hid hrd2
  have HR22 := Lib.hid (HR21.out.below h2)
  have H12 := Lib.hid h2
  have hq3 := hrd2.lt
  clear hrd2 h2 HR21 HE1 hA3
  go_wp2_with fail
  (with_reducible refine (rBits_any bb A2 c2 _ HR22.out hcap (by omega)).mono ?_); rintro e w3 ⟨u3, rfl, ho3, h3⟩
  obtain ⟨D, hD⟩ : ∃ D, D = ustF false (bb.take (dat bb)) := ⟨_, rfl⟩
  have hDl : D.length ≤ 1000 := by
    have h4 := bare_len false (bb.take (dat bb))
    have h5 : (bb.take (dat bb)).length ≤ bb.length := by rw [List.length_take]; omega
    rw [hD, ust_data]
    omega
  rw [← ust_data, ← hD] at ho3
  rw [← hD] at HD2
  obtain ⟨A4, c4, rfl, hc4, _, hr4, hb4, _⟩ := ho3.open
  have HD3 := Lib.hid (HD2.out.below h3)
  have H13 := Lib.hid (below_le H12.out h3 H12.out.size)
  have HI3 := Lib.hid hr4
  have hof : Hid (Off A4 q) := fun b' o s e => by have := (hb4 b' o s e).1; omega
  have HC4 := Lib.hid hc4
  clear ho3 h3 HD2 HR22 hr4 hb4 hD hc4 H12 hq3
  go_wp2_with fail
  go_loopg [10] (8 * D.length + 1) (fun gm v wr => ∃ (k : Nat) (S : List Int) (Bk : Option Addr) (ck : Nat), v = .slice Bk S.length ck ∧ k ≤ 8 * D.length ∧ 8 * D.length + 1 ≤ k + gm ∧ Hid (S = (bitsOf D).drop k) ∧ S.length ≤ ck ∧ Hid (Ri wr Bk S) ∧ Hid (Off Bk q) ∧ Hid (RdrA wr q A3 c3 D k) ∧ Hid (Below w1.heap.size w1 wr))
  case atStart => exact ⟨0, bitsOf D, A4, c4, by rw [bitsOf_len], by omega, by omega, (show Hid _ from by show _ = _; rw [List.drop_zero]), HC4.out, HI3, hof, HD3, H13⟩
  case round =>
    obtain ⟨k, S, Bk, ck, rfl, hk, hg, HS, hck, HI, HO, HRd, HBw⟩ := hrel
    clear HD3 HI3 hof H13
    have hSl : S.length = 8 * D.length - k := by rw [HS.out, List.length_drop, bitsOf_len]
    have hSb : Bit S := by rw [HS.out]; exact (bitsOf_bit D).drop k
    have HBLr := Lib.hid (HB1.out.below HBw.out)
    have hn := rNext_any X cs l A c Bk ck S wr HX.out HM.out (HRi.out.below HBw.out) (by omega) HX17.out HI.out hSb (by omega)
    have hle := nxt_le HM.out hSb
    have ht := fun W hT hR => fTake_any b q A3 c3 cs l D k W hT hR (by omega) hk
    rw [← HS.out] at ht
    obtain ⟨⟨y, n⟩, hyn⟩ : ∃ p, nxtS cs l S = p := ⟨_, rfl⟩
    rw [hyn] at hn hle ht
    simp only at hn hle ht
    have hsl : ∀ W, (Instr.slice 23 (.slice Bk S.length ck) (some (.int .i64 (n : Int))) none none).run Tryz.prog W = .ok (.slice (winA Bk ck n) (S.length - n) (ck - n)) W := fun W => run_winI_l Bk S.length ck n n rfl hle W
    obtain ⟨m, hm⟩ : ∃ m, S.length - n = m := ⟨_, rfl⟩
    rw [hm] at hsl
    have HSL := Lib.hid hSl
    have HTK := Lib.hid ht
    have hmm : m = 8 * D.length - (k + n) := by omega
    have HMM := Lib.hid hmm
    have hkn : k + n ≤ 8 * D.length := by omega
    have hSm : (S.drop n).length = m := by rw [List.length_drop]; exact hm
    have HSM := Lib.hid hSm
    have hmc : m ≤ ck - n := by omega
    clear hyn hSb hSl hm ht hmm hSm
    rcases Nat.eq_zero_or_pos n with h0 | h0
    · subst h0
      obtain rfl : S.length = m := by have := HSM.out; rw [List.drop_zero] at this; exact this
      have dn : decide (0 < 0) = false := rfl
      rw [dn] at HTK
      go_wp2_with (with_reducible refine wpList_loadB _ rfl 25 (.tmp 2) rfl _ Tryz.underlying25 rfl w.heap.size rfl X HBLr.out HSZ.out ?_)
      (with_reducible refine hn.mono ?_); rintro e wa ⟨rfl, ha⟩
      have HRa := Lib.hid (HRd.out.below ha)
      have HBa := Lib.hid (below_le HBw.out ha HBw.out.size)
      clear ha hn HRd
      go_wp2_with fail
      (with_reducible refine (HTK.out _ (HT.out.below HBa.out) HRa.out).mono ?_); rintro e wb ⟨rfl, hrb, hcb⟩
      have HRb := Lib.hid hrb
      have HBb := Lib.hid (HBa.out.trans (hcb.below (B := w1.heap.size) HBa.out.size (fun i e => by omega)))
      clear hrb hcb HRa HBa
      go_wp2_with fail
      (with_reducible refine (left_at q D (k + 0) S.length _ HRb.out.rdr (by omega) hkn (by have := HMM.out; omega)).mono ?_); rintro e wc ⟨rfl, hc⟩
      have HBc := Lib.hid (below_le HBb.out hc HBb.out.size)
      clear hc
      go_wp2_with fail
      (with_reducible refine (fTake_nor b _).mono ?_); rintro e wd ⟨rfl, rfl⟩
      go_wp2_with fail
      (with_reducible refine (awake_any _).mono ?_); rintro e we ⟨rfl, he⟩
      go_wp2
      go_ret
      have hz := HBc.out.size
      exact ⟨rfl, below_le HW1.out (HBc.out.trans (he.mono hz)) HW1.out.size⟩
    · have dn : decide (0 < n) = true := decide_eq_true h0
      have dz : decide ((0 : Int) < (n : Int)) = true := decide_eq_true (by omega)
      have dq : ((n : Int) == 0) = false := by rw [beq_eq_false_iff_ne]; omega
      rw [dn] at HTK
      clear dn
      go_wp2_with (with_reducible refine wpList_loadB _ rfl 25 (.tmp 2) rfl _ Tryz.underlying25 rfl w.heap.size rfl X HBLr.out HSZ.out ?_)
      (with_reducible refine hn.mono ?_); rintro e wa ⟨rfl, ha⟩
      have HRa := Lib.hid (HRd.out.below ha)
      have HIa := Lib.hid (HI.out.below ha)
      have HBa := Lib.hid (below_le HBw.out ha HBw.out.size)
      clear ha hn HRd HI
      go_wp2_with fail
      (with_reducible refine (HTK.out _ (HT.out.below HBa.out) HRa.out).mono ?_); rintro e wb ⟨rfl, hrb, hcb⟩
      have HRb := Lib.hid hrb
      have HIb := Lib.hid ((HIa.out.chg hcb HO.out).rest ck n hck)
      have HOb := Lib.hid (HO.out.win ck n)
      have HBb := Lib.hid (HBa.out.trans (hcb.below (B := w1.heap.size) HBa.out.size (fun i e => by omega)))
      clear hrb hcb HRa HBa HIa
      go_wp2_with fail
      (with_reducible refine (left_at q D (k + n) m _ HRb.out.rdr (by omega) hkn (by have := HMM.out; omega)).mono ?_); rintro e wc ⟨rfl, hc⟩
      have HBc := Lib.hid (below_le HBb.out hc HBb.out.size)
      have HRc := Lib.hid (HRb.out.below hc)
      have HIc := Lib.hid (HIb.out.below hc)
      clear hc
      go_wp2
      go_roundg (gk - 1)
      case measure => omega
      case rel => exact ⟨k + n, S.drop n, winA Bk ck n, ck - n, by rw [HSM.out], hkn, by omega, (show Hid _ from by show _ = _; rw [HS.out, List.drop_drop]), by rw [HSM.out]; exact hmc, HIc, HOb, HRc, HBc⟩
set_option maxHeartbeats 4000000 in
theorem prd_any (cs l : List Int) (A A2 : Option Addr) (c c2 : Nat) (bb : List UInt8) (w : World) (hcs : cs.length = 16) (hr : Ri w A l) (hw : Env w) (hr2 : Rd w A2 bb) (hcap : bb.length ≤ c2) (hA2 : A2 = none → c2 = 0) :
    Calls Tryz.prog 3 #[.agg (hx cs (.slice A l.length c)), .slice A2 bb.length c2] w fun e w' => e = .returned (.bool true) ∧ Below w.heap.size w w' := by
  have HW := Lib.hid ((Below.refl w.heap.size w).alloc (Nat.le_refl _) (.cells (hx cs (.slice A l.length c)) 25))
  have HX := Lib.hid (hx_hv hcs (.slice A l.length c))
  have e16 := HX.out.syms
  by_cases h1 : 256 < l.length
  · have d1 : decide ((256 : Int) < (l.length : Int)) = true := by rw [decide_eq_true_iff]; omega
    generalize hx cs (.slice A l.length c) = X at *
    go_enter Tryz.func3, Tryz.ntmps3
    go_wp2_with fail
    (with_reducible refine (awake_any _).mono ?_); rintro e we ⟨rfl, he⟩
    go_wp2
    go_ret
    exact ⟨rfl, below_le HW.out he HW.out.size⟩
  · by_cases h2 : 200 < bb.length
    · have d1 : decide ((256 : Int) < (l.length : Int)) = false := by rw [decide_eq_false_iff_not]; omega
      have d2 : decide ((200 : Int) < (bb.length : Int)) = true := by rw [decide_eq_true_iff]; omega
      generalize hx cs (.slice A l.length c) = X at *
      go_enter Tryz.func3, Tryz.ntmps3
      go_wp2_with fail
      (with_reducible refine (awake_any _).mono ?_); rintro e we ⟨rfl, he⟩
      go_wp2
      go_ret
      exact ⟨rfl, below_le HW.out he HW.out.size⟩
    · cases hmb : mayB cs l with
      | true => exact prd_yes cs l A A2 c c2 bb w hcs hr hw hr2 hcap hA2 (by omega) (by omega) hmb
      | false =>
        have d1 : decide ((256 : Int) < (l.length : Int)) = false := by rw [decide_eq_false_iff_not]; omega
        have d2 : decide ((200 : Int) < (bb.length : Int)) = false := by rw [decide_eq_false_iff_not]; omega
        have hX17 := hx17 hcs (.slice A l.length c)
        generalize hx cs (.slice A l.length c) = X at *
        have HMB := Lib.hid hmb
        have HBL := Lib.hid (Blk.new w X 25)
        have HX17 := Lib.hid hX17
        have HSZ : Hid ((Tryz.prog.info? 25).map (·.size) = some X.size) := by show _ = _; rw [hX17]; kernel_rfl
        have HR := Lib.hid (hr.below HW.out)
        have HR2 := Lib.hid (hr2.below HW.out)
        have HE := Lib.hid (hw.below HW.out)
        clear hr hr2 hw hX17 hmb hcs
        go_enter Tryz.func3, Tryz.ntmps3
        go_wp2_with (with_reducible refine wpList_loadB _ rfl 25 (.tmp 2) rfl _ Tryz.underlying25 rfl w.heap.size rfl X HBL.out HSZ.out ?_)
        (with_reducible refine (fNew_no X cs l A c _ HX.out HR.out (by omega) HMB.out HX17.out).mono ?_); rintro e w1 ⟨rfl, h1⟩
        have HW1 := Lib.hid (below_le HW.out h1 HW.out.size)
        have HE1 := Lib.hid (HE.out.below h1)
        have HR21 := Lib.hid (HR2.out.below h1)
        clear h1
        go_wp2_with fail
        (with_reducible refine (newA_any bb A2 c2 _ HE1.out HR21.out hcap hA2 (by omega)).mono ?_); rintro e w2 ⟨q, A3, c3, rfl, hrd2, hq2, hA3, h2⟩
        have HW2 := Lib.hid (below_le HW1.out h2 HW1.out.size)
        clear h2 hrd2 hA3
        go_wp2_with fail
        (with_reducible refine (fTake_nil (.pointer (some ⟨q, 0, none⟩)) ⟨_, rfl⟩ _).mono ?_); rintro e wd ⟨rfl, rfl⟩
        go_wp2_with fail
        (with_reducible refine (awake_any _).mono ?_); rintro e we ⟨rfl, he⟩
        go_wp2
        go_ret
        exact ⟨rfl, below_le HW2.out he HW2.out.size⟩
end Go.Proofs.YtkkkonmbbdhdhaaGreatDoor
