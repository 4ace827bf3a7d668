/- Contract of the document's Cost. -/
import Derived.Test.YtanihbflgolciaaFCost
namespace Go.Proofs.Ytanihbflgolciaa
open Go.RowKit Go.Lib
set_option linter.unusedVariables false
set_option maxRecDepth 100000

theorem costB_out {cs l t : List Int} (hm : mayB cs l = true) (h : cntB t = true) (ho : okN cs l t t.length) : costB cs l t = costN cs l t t.length := by
  unfold costB
  rw [hm, h, okB_true ho]
  rfl
theorem costB_not {cs l t : List Int} {k : Nat} (hk : k < t.length) (h0 : 0 < t.getD k 0) (h1 : (codeAt cs l k).2 = 0) : costB cs l t = -1 := by
  unfold costB
  have : okB cs l t t.length = false := okB_false fun ho => by
    have := ho k hk
    omega
  rw [this]
  simp
theorem cnt_all {t : List Int} (h : cntB t = true) : ∀ j, 0 ≤ t.getD j 0 ∧ t.getD j 0 ≤ 1099511627776 := by
  intro j
  by_cases hj : j < t.length
  · exact cntB_in h j hj
  · rw [List.getD_eq_getElem?_getD, List.getElem?_eq_none (by omega)]; simp

set_option maxHeartbeats 2000000 in
theorem rCost_any (X : Array Value) (cs : List Int) (l : List Int) (A : Option Addr) (c : Nat) (t : List Int) (B : Option Addr) (d : Nat) (w : World) (hX : Hv X cs (.slice A l.length c)) (hr : Ri w A l) (hl : l.length ≤ 300) (hx17 : X.size = 17) (ht : Ri w B t) (htl : t.length ≤ 100000) :
    Calls Try.prog 13 #[.agg X, .slice B t.length d] w fun e w' => e = .returned (.int .i64 (costB cs l t)) ∧ Below w.heap.size w w' := by
  have HX := Lib.hid hX
  have HR := Lib.hid hr
  have HT := Lib.hid ht
  have HW := Lib.hid ((Below.refl w.heap.size w).alloc (Nat.le_refl _) (.cells X 25))
  have HBL := Lib.hid (Blk.new w X 25)
  have HSZ : Hid ((Try.prog.info? 25).map (·.size) = some X.size) := by show _ = _; rw [hx17]; kernel_rfl
  have HM := Lib.hid (rMay_any X cs l A c (w.alloc (.cells X 25)) hX (hr.below HW.out) hl)
  clear hX hr hx17 ht
  go_enter Try.func13, Try.ntmps13
  cases hm : mayB cs l with
  | false =>
    have hc : Hid (costB cs l t = -1) := by show _ = _; unfold costB; rw [hm]; rfl
    rw [hm] at HM
    clear hm
    go_wp2_with (first
      | (with_reducible refine wpList_loadB _ rfl 25 (.tmp 2) rfl _ Try.underlying25 rfl w.heap.size rfl X HBL.out HSZ.out ?_)
      | ((go_at_call 8; refine HM.out.mono ?_)
         rintro e w2 ⟨rfl, hb2⟩
         have HB2 := Lib.hid (below_le HW.out hb2 HW.out.size)
         clear hb2))
    go_ret
    rw [hc.out]
    exact ⟨rfl, HB2.out⟩
  | true =>
    have HMM := Lib.hid hm
    rw [hm] at HM
    clear hm
    cases hcb : cntB t with
    | false =>
      have hc : Hid (costB cs l t = -1) := by show _ = _; unfold costB; rw [hcb]; simp
      have HC : Hid (∀ w1, Below w.heap.size w w1 → Calls Try.prog 20 #[.slice B t.length d] w1 fun e w' => e = .returned (.bool (cntB t)) ∧ w1 = w') := fun w1 h1 => (rCnt_any t B d w1 (HT.out.below h1) htl).mono fun _ _ h => ⟨h.1, h.2.symm⟩
      rw [hcb] at HC
      clear hcb
      go_wp2_with (first
        | (with_reducible refine wpList_loadB _ rfl 25 (.tmp 2) rfl _ Try.underlying25 rfl w.heap.size rfl X HBL.out HSZ.out ?_)
        | ((go_at_call 8; refine HM.out.mono ?_)
           rintro e w2 ⟨rfl, hb2⟩
           have HB2 := Lib.hid (below_le HW.out hb2 HW.out.size)
           clear hb2)
        | ((go_at_call 20; refine (HC.out _ HB2.out).mono ?_)
           rintro e w3 ⟨rfl, rfl⟩))
      go_ret
      rw [hc.out]
      exact ⟨rfl, HB2.out⟩
    | true =>
      have HCB := Lib.hid hcb
      have HC : Hid (∀ w1, Below w.heap.size w w1 → Calls Try.prog 20 #[.slice B t.length d] w1 fun e w' => e = .returned (.bool (cntB t)) ∧ w1 = w') := fun w1 h1 => (rCnt_any t B d w1 (HT.out.below h1) htl).mono fun _ _ h => ⟨h.1, h.2.symm⟩
      rw [hcb] at HC
      clear hcb
      go_wp2_with (first
        | (with_reducible refine wpList_loadB _ rfl 25 (.tmp 2) rfl _ Try.underlying25 rfl w.heap.size rfl X HBL.out HSZ.out ?_)
        | ((go_at_call 8; refine HM.out.mono ?_)
           rintro e w2 ⟨rfl, hb2⟩
           have HB2 := Lib.hid (below_le HW.out hb2 HW.out.size)
           have HBL2 := Lib.hid (HBL.out.below hb2)
           clear hb2)
        | ((go_at_call 20; refine (HC.out _ HB2.out).mono ?_)
           rintro e w3 ⟨rfl, rfl⟩))
      have hcl := cntB_len HCB.out
      go_loopw [5, 6] (fun s i wr => ∃ (k : Nat), k ≤ t.length ∧ i = .int .i64 k ∧ s = .int .i64 (costN cs l t k) ∧ Hid (okN cs l t k) ∧ Hid (Below w2.heap.size w2 wr)) (fun _ i _ => t.length - (RowKit.intOf i).toNat)
      case atStart => exact ⟨0, Nat.zero_le _, rfl, rfl, (show Hid _ from fun j hj => absurd hj (Nat.not_lt_zero _)), Below.refl _ _⟩
      case round =>
        obtain ⟨k, hk, rfl, rfl, HOK, HBk⟩ := hrel
        have HBw := Lib.hid (below_le HB2.out HBk.out HB2.out.size)
        have hrng := costN_rng (cs := cs) (l := l) (cnt_all HCB.out) k
        by_cases hlt : k < t.length
        · have hx := cnt_all HCB.out k
          have hp := len_code cs l k
          have HCo := Lib.hid (rCode_any X cs l A c k wr HX.out (HR.out.below HBw.out) hl)
          have HBLk := Lib.hid (HBL2.out.below HBk.out)
          obtain ⟨b, o, hAb, hc⟩ : ∃ b o, B = some ⟨b, o, none⟩ ∧ ∀ i, i < t.length → w.cell? ⟨b, o + i, none⟩ = some (.int .i64 (t.getD i 0)) := by
            rcases HT.out with h | h
            · rw [h] at hlt; simp at hlt
            · exact h
          subst hAb
          have HE := Lib.hid (hc k hlt)
          clear hc
          obtain ⟨x, hxx⟩ : ∃ x, x = t.getD k 0 := ⟨_, rfl⟩
          rw [← hxx] at HE hx
          have HXX := Lib.hid hxx
          obtain ⟨p, hpp⟩ : ∃ p, p = codeAt cs l k := ⟨_, rfl⟩
          rw [← hpp] at HCo hp
          have HPP := Lib.hid hpp
          clear hxx hpp
          obtain ⟨p1, p2⟩ := p
          simp only at hp HCo
          have h3 : (0 : Int) ≤ x * (p2 : Int) := Int.mul_nonneg hx.1 (by omega)
          have h4 : x * (p2 : Int) ≤ 1099511627776 * 16 := Int.mul_le_mul hx.2 (by omega) (by omega) (by omega)
          have hstep : Hid (costN cs l t (k + 1) = costN cs l t k + x * (p2 : Int)) := by show costN cs l t (k + 1) = _; rw [costN, ← HPP.out, ← HXX.out]
          generalize costN cs l t k = S at *
          generalize hG : x * (p2 : Int) = G at *
          by_cases hbad : 0 < x ∧ p2 = 0
          · obtain ⟨hx0, rfl⟩ := hbad
            have hc : Hid (costB cs l t = -1) := by
              show _ = _
              refine costB_not (k := k) hlt ?_ ?_
              · rw [← HXX.out]; exact hx0
              · rw [← HPP.out]
            go_wp2_with (first
              | (with_reducible refine wpList_loadB _ rfl 25 (.tmp 2) rfl _ Try.underlying25 rfl w.heap.size rfl X HBLk.out HSZ.out ?_)
              | ((go_at_call 10; refine HCo.out.mono ?_)
                 rintro e w6 ⟨rfl, hb6⟩
                 have HB6 := Lib.hid (below_le HBw.out hb6 HBw.out.size)
                 have e6 := cell_later ((HB6.out.alloc HB6.out.size (.cells #[.int .i64 p1, .int .i64 0] 33))) HE.out
                 clear hb6))
            go_ret
            rw [hc.out]
            exact ⟨rfl, HB6.out.alloc HB6.out.size _⟩
          · have hok : Hid (okN cs l t (k + 1)) := by
              show okN cs l t (k + 1)
              intro s hs
              by_cases hsk : s = k
              · subst hsk
                rw [← HXX.out, ← HPP.out]
                simp only
                omega
              · exact HOK.out s (by omega)
            have hcase : x = 0 ∨ (0 < x ∧ 0 < p2) := by omega
            clear hbad
            have hG0 : Hid (x = 0 → G = 0) := by show x = 0 → G = 0; intro h; rw [← hG, h, Int.zero_mul]
            rcases hcase with hx0 | ⟨hx0, hp0⟩
            · have hgx : decide (x > 0) = false := decide_eq_false (by omega)
              go_wp2_with (first
                | (with_reducible refine wpList_loadB _ rfl 25 (.tmp 2) rfl _ Try.underlying25 rfl w.heap.size rfl X HBLk.out HSZ.out ?_)
                | ((go_at_call 10; refine HCo.out.mono ?_)
                   rintro e w6 ⟨rfl, hb6⟩
                   have HB6 := Lib.hid (below_le HBk.out hb6 HBk.out.size)
                   have e6 := cell_later ((below_le HBw.out hb6 HBw.out.size).alloc (by have := HBw.out.size; have := hb6.size; omega) (.cells #[.int .i64 p1, .int .i64 (p2 : Int)] 33)) HE.out
                   clear hb6))
              go_quiet (fail)
              go_wp2
              go_roundw
              case rel => exact ⟨k + 1, by omega, by go_num, by rw [hstep.out, hG0.out hx0, Int.add_zero], hok, dN (HB6.out.alloc HB6.out.size _) _⟩
              case measure => simp [RowKit.intOf]; omega
            · have hp2 : ((p2 : Int) == 0) = false := by rw [beq_eq_false_iff_ne]; omega
              go_wp2_with (first
                | (with_reducible refine wpList_loadB _ rfl 25 (.tmp 2) rfl _ Try.underlying25 rfl w.heap.size rfl X HBLk.out HSZ.out ?_)
                | ((go_at_call 10; refine HCo.out.mono ?_)
                   rintro e w6 ⟨rfl, hb6⟩
                   have HB6 := Lib.hid (below_le HBk.out hb6 HBk.out.size)
                   have e6 := cell_later ((below_le HBw.out hb6 HBw.out.size).alloc (by have := HBw.out.size; have := hb6.size; omega) (.cells #[.int .i64 p1, .int .i64 (p2 : Int)] 33)) HE.out
                   clear hb6))
              go_quiet (fail)
              go_wp2
              go_roundw
              case rel => exact ⟨k + 1, by omega, by go_num, by rw [hstep.out], hok, dN (HB6.out.alloc HB6.out.size _) _⟩
              case measure => simp [RowKit.intOf]; omega
        · obtain rfl : k = t.length := by omega
          have hc : Hid (costB cs l t = costN cs l t t.length) := costB_out HMM.out HCB.out HOK.out
          go_wp2
          go_ret
          rw [hc.out]
          exact ⟨rfl, HBw.out⟩
end Go.Proofs.Ytanihbflgolciaa
