/- Contract of prefix.Cost. -/
import Derived.Test.YtanihbflgolciaaFTal
import Derived.Test.YtanihbflgolciaaFNew
namespace Go.Proofs.Ytanihbflgolciaa
open Go.RowKit Go.Lib
set_option linter.unusedVariables false
set_option maxRecDepth 100000

/-- What the first k symbols cost. -/
noncomputable def costN (cs l t : List Int) : Nat → Int
  | 0 => 0
  | k + 1 => costN cs l t k + t.getD k 0 * ((codeAt cs l k).2 : Int)
/-- Each of the first k symbols that is counted has a code. -/
def okN (cs l t : List Int) (k : Nat) : Prop := ∀ s, s < k → t.getD s 0 ≤ 0 ∨ 0 < (codeAt cs l s).2
noncomputable def okB (cs l t : List Int) (k : Nat) : Bool := @decide (okN cs l t k) (Classical.propDecidable _)
theorem okB_true {cs l t : List Int} {k : Nat} (h : okN cs l t k) : okB cs l t k = true := by unfold okB; exact @decide_eq_true _ (Classical.propDecidable _) h
theorem okB_false {cs l t : List Int} {k : Nat} (h : ¬ okN cs l t k) : okB cs l t k = false := by unfold okB; exact @decide_eq_false _ (Classical.propDecidable _) h
theorem okB_iff {cs l t : List Int} {k : Nat} : okB cs l t k = true ↔ okN cs l t k := by unfold okB; exact @decide_eq_true_iff _ (Classical.propDecidable _)
/-- The cost of a specification for symbol counts, or -1. -/
noncomputable def costB (cs l t : List Int) : Int := if mayB cs l && (cntB t && okB cs l t t.length) then costN cs l t t.length else -1
theorem len_code (cs l : List Int) (s : Int) : (codeAt cs l s).2 ≤ 16 := by
  unfold codeAt
  split
  · rename_i h
    exact (cds_small (mayB_iff.1 h) _).2.2
  · simp
theorem costN_rng {cs l t : List Int} (h : ∀ j, 0 ≤ t.getD j 0 ∧ t.getD j 0 ≤ 1099511627776) : ∀ k, 0 ≤ costN cs l t k ∧ costN cs l t k ≤ 17592186044416 * k
  | 0 => by simp [costN]
  | k + 1 => by
    have ih := costN_rng (cs := cs) (l := l) h k
    have h1 := h k
    have h2 := len_code cs l k
    rw [costN]
    have h3 : (0 : Int) ≤ t.getD k 0 * ((codeAt cs l k).2 : Int) := Int.mul_nonneg h1.1 (by omega)
    have h4 : t.getD k 0 * ((codeAt cs l k).2 : Int) ≤ 1099511627776 * 16 := Int.mul_le_mul h1.2 (by omega) (by omega) (by omega)
    omega
theorem costN_tal {cs l t : List Int} (h : cntB t = true) : ∀ k, costN cs l (talS t) k = costN cs l t k
  | 0 => rfl
  | k + 1 => by rw [costN, costN, costN_tal h k, talS_at h]
theorem costN_more {cs l t : List Int} : ∀ n, costN cs l t (t.length + n) = costN cs l t t.length
  | 0 => rfl
  | n + 1 => by
    rw [← Nat.add_assoc, costN, costN_more n, List.getD_eq_getElem?_getD, List.getElem?_eq_none (by omega)]
    simp
theorem okN_tal {cs l t : List Int} (h : cntB t = true) : okN cs l (talS t) 256 ↔ okN cs l t t.length := by
  have h1 := cntB_len h
  constructor
  · intro hk s hs
    have := hk s (by omega)
    rwa [talS_at h] at this
  · intro hk s hs
    rw [talS_at h]
    by_cases hsl : s < t.length
    · exact hk s hsl
    · left
      rw [List.getD_eq_getElem?_getD, List.getElem?_eq_none (by omega)]
      simp
theorem costB_tal {cs l t : List Int} (hm : mayB cs l = true) (h : cntB t = true) (ho : okN cs l (talS t) 256) : costB cs l t = costN cs l (talS t) 256 := by
  unfold costB
  rw [hm, h, okB_true ((okN_tal h).1 ho), costN_tal h]
  have h1 := cntB_len h
  have := costN_more (cs := cs) (l := l) (t := t) (256 - t.length)
  rw [show t.length + (256 - t.length) = 256 by omega] at this
  rw [this]
  rfl
theorem costB_no {cs l t : List Int} {k : Nat} (h : cntB t = true) (hk : k < 256) (h0 : 0 < (talS t).getD k 0) (h1 : (codeAt cs l k).2 = 0) : costB cs l t = -1 := by
  unfold costB
  have : okB cs l t t.length = false := okB_false fun ho => by
    have := (okN_tal h).2 ho k hk
    omega
  rw [this]
  simp

set_option maxHeartbeats 2000000 in
theorem fCost_any (X : Array Value) (cs : List Int) (l : List Int) (A : Option Addr) (c : Nat) (t : List Int) (B : Option Addr) (d : Nat) (w : World) (hX : Hv X cs (.slice A l.length c)) (hr : Ri w A l) (hl : l.length ≤ 100000) (hx17 : X.size = 17) (ht : Ri w B t) (htl : t.length ≤ 100000) :
    Calls Try.prog 12 #[.agg X, .slice B t.length d] w fun e w' => e = .returned (.int .i64 (costB cs l t)) ∧ Below w.heap.size w w' := by
  have HX := Lib.hid hX
  have HX17 := Lib.hid hx17
  have HR := Lib.hid hr
  have HT := Lib.hid ht
  have HW := Lib.hid ((Below.refl w.heap.size w).alloc (Nat.le_refl _) (.cells X 25))
  have HBL := Lib.hid (Blk.new w X 25)
  have HSZ : Hid ((Try.prog.info? 25).map (·.size) = some X.size) := by show _ = _; rw [hx17]; kernel_rfl
  obtain ⟨Z, hZ⟩ : ∃ Z, Z = ia (zeroL 256) := ⟨_, rfl⟩
  have HZ : Hid ((Try.prog.info? 55).map (fun i => i.zero) = some (some (.agg Z))) := by show _ = _; rw [hZ]; exact info256
  have HZS : Hid (Z.size = 256) := by show _ = _; rw [hZ, ia_size]; simp [zeroL]
  clear hZ hX hr hx17 ht
  obtain ⟨T, hT⟩ : ∃ T, T = talS t := ⟨_, rfl⟩
  have HTT := Lib.hid hT
  have hTl : T.length = 256 := by rw [hT]; exact talS_len t
  have HTS := Lib.hid (size256 T hTl)
  have htr := talS_in t
  rw [← hT] at htr
  have HTR := Lib.hid htr
  have HTal := Lib.hid (fun w1 (h1 : Ri w1 B t) => fTal_any t B d w1 h1 htl)
  rw [← hT] at HTal
  clear hT htr
  go_enter Try.func12, Try.ntmps12
  cases hm : mayB cs l with
  | false =>
    have HN := Lib.hid (fNew_no X cs l A c (w.alloc (.cells X 25)) HX.out (HR.out.below HW.out) hl hm HX17.out)
    have hc : Hid (costB cs l t = -1) := by show _ = _; unfold costB; rw [hm]; rfl
    clear hm
    go_wp2_with (first
      | (with_reducible refine wpList_loadB _ rfl 25 (.tmp 2) rfl _ Try.underlying25 rfl w.heap.size rfl X HBL.out HSZ.out ?_)
      | ((go_at_call 7; refine HN.out.mono ?_)
         rintro e w2 ⟨rfl, hb2⟩
         have HB2 := Lib.hid (below_le HW.out hb2 HW.out.size)
         clear hb2)
      | ((go_at_call 25; refine (HTal.out w2 (HT.out.below HB2.out)).mono ?_)
         rintro e w3 ⟨rfl, hb3⟩
         have HB3 := Lib.hid (below_le HB2.out hb3 HB2.out.size)
         have HZ3 := Lib.hid (Blk.new w3 Z 55)
         have HZ4 := Lib.hid (HB3.out.alloc HB3.out.size (.cells Z 55))
         clear hb3)
      | (with_reducible refine wpList_allocZ _ rfl 55 rfl Z HZ.out ?_)
      | ((with_reducible refine wpList_storeB _ rfl 55 (.tmp 7) (.tmp 22) rfl w3.heap.size rfl Z HZ3.out (ia T) rfl HTS.out (by rw [HZS.out, ia_size, hTl]) (ia_one _) ?_)
         intro w4 hb4 hc4 hs4
         have HB4 := Lib.hid (HZ4.out.trans (hc4.below (B := w.heap.size) HZ4.out.size (fun i hi => by have := HB3.out.size; omega)))
         clear hb4 hc4))
    go_ret
    rw [hc.out]
    exact ⟨rfl, HB4.out⟩
  | true =>
    have HMM := Lib.hid hm
    have HN := Lib.hid (fNew_yes X cs l A c (w.alloc (.cells X 25)) HX.out (HR.out.below HW.out) hl hm HX17.out)
    clear hm
    cases hcb : cntB t with
    | false =>
      have hc : Hid (costB cs l t = -1) := by show _ = _; unfold costB; rw [hcb]; simp
      rw [hcb] at HTal
      clear hcb
      go_wp2_with (first
      | (with_reducible refine wpList_loadB _ rfl 25 (.tmp 2) rfl _ Try.underlying25 rfl w.heap.size rfl X HBL.out HSZ.out ?_)
      | ((go_at_call 7; refine HN.out.mono ?_)
         rintro e w2 ⟨b, rfl, hbb, htb, hb2⟩
         have HTb := Lib.hid htb
         have HB2 := Lib.hid (below_le HW.out hb2 HW.out.size)
         clear hb2 htb hbb)
      | ((go_at_call 25; refine (HTal.out w2 (HT.out.below HB2.out)).mono ?_)
         rintro e w3 ⟨rfl, hb3⟩
         have HTb3 := Lib.hid (HTb.out.below hb3)
         have HB3 := Lib.hid (below_le HB2.out hb3 HB2.out.size)
         have HZ3 := Lib.hid (Blk.new w3 Z 55)
         have HZ4 := Lib.hid ((Below.refl w3.heap.size w3).alloc (Nat.le_refl _) (.cells Z 55))
         clear hb3 HTb)
      | (with_reducible refine wpList_allocZ _ rfl 55 rfl Z HZ.out ?_)
      | ((with_reducible refine wpList_storeB _ rfl 55 (.tmp 7) (.tmp 22) rfl w3.heap.size rfl Z HZ3.out (ia T) rfl HTS.out (by rw [HZS.out, ia_size, hTl]) (ia_one _) ?_)
         intro w4 hb4 hc4 hs4
         have HB34 := Lib.hid (HZ4.out.trans (hc4.below (B := w3.heap.size) HZ4.out.size (fun i hi => Nat.le_of_eq hi.symm)))
         have HB4 := Lib.hid (below_le HB3.out HB34.out HB3.out.size)
         have HBT := Lib.hid hb4
         have HTb4 := Lib.hid (HTb3.out.below HB34.out)
         clear hb4 hc4))
      go_ret
      rw [hc.out]
      exact ⟨rfl, HB4.out⟩
    | true =>
      have HCB := Lib.hid hcb
      rw [hcb] at HTal
      clear hcb
      go_wp2_with (first
      | (with_reducible refine wpList_loadB _ rfl 25 (.tmp 2) rfl _ Try.underlying25 rfl w.heap.size rfl X HBL.out HSZ.out ?_)
      | ((go_at_call 7; refine HN.out.mono ?_)
         rintro e w2 ⟨b, rfl, hbb, htb, hb2⟩
         have HTb := Lib.hid htb
         have HB2 := Lib.hid (below_le HW.out hb2 HW.out.size)
         clear hb2 htb hbb)
      | ((go_at_call 25; refine (HTal.out w2 (HT.out.below HB2.out)).mono ?_)
         rintro e w3 ⟨rfl, hb3⟩
         have HTb3 := Lib.hid (HTb.out.below hb3)
         have HB3 := Lib.hid (below_le HB2.out hb3 HB2.out.size)
         have HZ3 := Lib.hid (Blk.new w3 Z 55)
         have HZ4 := Lib.hid ((Below.refl w3.heap.size w3).alloc (Nat.le_refl _) (.cells Z 55))
         clear hb3 HTb)
      | (with_reducible refine wpList_allocZ _ rfl 55 rfl Z HZ.out ?_)
      | ((with_reducible refine wpList_storeB _ rfl 55 (.tmp 7) (.tmp 22) rfl w3.heap.size rfl Z HZ3.out (ia T) rfl HTS.out (by rw [HZS.out, ia_size, hTl]) (ia_one _) ?_)
         intro w4 hb4 hc4 hs4
         have HB34 := Lib.hid (HZ4.out.trans (hc4.below (B := w3.heap.size) HZ4.out.size (fun i hi => Nat.le_of_eq hi.symm)))
         have HB4 := Lib.hid (below_le HB3.out HB34.out HB3.out.size)
         have HBT := Lib.hid hb4
         have HTb4 := Lib.hid (HTb3.out.below HB34.out)
         clear hb4 hc4)
        | (with_reducible refine wpList_loadB _ rfl 55 (.tmp 7) rfl _ Try.underlying55 rfl w3.heap.size rfl (ia T) HBT.out HTS.out ?_))
      go_loopw [9, 31] (fun s i wr => ∃ (k : Nat), k ≤ 256 ∧ i = .int .i64 k ∧ s = .int .i64 (costN cs l T k) ∧ Hid (okN cs l T k) ∧ Hid (Below w4.heap.size w4 wr)) (fun _ i _ => 256 - (RowKit.intOf i).toNat)
      case atStart => exact ⟨0, Nat.zero_le _, rfl, rfl, (show Hid _ from fun j hj => absurd hj (Nat.not_lt_zero _)), Below.refl _ _⟩
      case round =>
        obtain ⟨k, hk, rfl, rfl, HOK, HBk⟩ := hrel
        have HBw := Lib.hid (below_le HB4.out HBk.out HB4.out.size)
        have hrng := costN_rng (cs := cs) (l := l) HTR.out k
        by_cases hlt : k < 256
        · have e1 := ia_at (l := T) (j := k) (by omega)
          have hx := HTR.out k
          have hp := len_code cs l k
          have HC := Lib.hid (fCode_any b cs l k wr (HTb4.out.below HBk.out) (by omega) (by omega))
          obtain ⟨x, hxx⟩ : ∃ x, x = T.getD k 0 := ⟨_, rfl⟩
          rw [← hxx] at e1 hx
          have HXX := Lib.hid hxx
          obtain ⟨p, hpp⟩ : ∃ p, p = codeAt cs l k := ⟨_, rfl⟩
          rw [← hpp] at HC hp
          have HPP := Lib.hid hpp
          clear hxx hpp
          obtain ⟨p1, p2⟩ := p
          simp only at hp HC
          have h3 : (0 : Int) ≤ x * (p2 : Int) := Int.mul_nonneg hx.1 (by omega)
          have h4 : x * (p2 : Int) ≤ 1099511627776 * 16 := Int.mul_le_mul hx.2 (by omega) (by omega) (by omega)
          have hstep : Hid (costN cs l T (k + 1) = costN cs l T k + x * (p2 : Int)) := by show costN cs l T (k + 1) = _; rw [costN, ← HPP.out, ← HXX.out]
          generalize costN cs l T k = S at *
          generalize hG : x * (p2 : Int) = G at *
          by_cases hbad : 0 < x ∧ p2 = 0
          · obtain ⟨hx0, rfl⟩ := hbad
            have hc : Hid (costB cs l t = -1) := by
              show _ = _
              refine costB_no (k := k) HCB.out hlt ?_ ?_
              · rw [← HTT.out, ← HXX.out]; exact hx0
              · rw [← HPP.out]
            go_wp2_with (first
              | (with_reducible refine wpList_indexA _ rfl 55 (.tmp 30) (.tmp 31) rfl 256 3 .i64 Try.underlying55 Try.underlying3 (by kernel_rfl) (ia T) rfl k rfl hlt _ e1 ?_)
              | ((go_at_call 9; refine HC.out.mono ?_)
                 rintro e w6 ⟨rfl, hb6⟩
                 have HB6 := Lib.hid (below_le HBw.out hb6 HBw.out.size)
                 clear hb6))
            go_ret
            rw [hc.out]
            refine ⟨rfl, ?_⟩
            exact HB6.out.alloc HB6.out.size _
          · have hok : Hid (okN cs l T (k + 1)) := by
              show okN cs l T (k + 1)
              intro s hs
              by_cases hsk : s = k
              · subst hsk
                rw [← HXX.out, ← HPP.out]
                simp only
                omega
              · exact HOK.out s (by omega)
            have hcase : x = 0 ∨ (0 < x ∧ 0 < p2) := by omega
            clear hbad
            rcases hcase with hx0 | ⟨hx0, hp0⟩
            · have hgx : decide (x > 0) = false := decide_eq_false (by omega)
              have hG0 : Hid (G = 0) := by show G = 0; rw [← hG, hx0, Int.zero_mul]
              generalize decide (0 < p2) = bb at *
              go_wp2_with (first
                | (with_reducible refine wpList_indexA _ rfl 55 (.tmp 30) (.tmp 31) rfl 256 3 .i64 Try.underlying55 Try.underlying3 (by kernel_rfl) (ia T) rfl k rfl hlt _ e1 ?_)
                | ((go_at_call 9; refine HC.out.mono ?_)
                   rintro e w6 ⟨rfl, hb6⟩
                   have HB6 := Lib.hid (below_le HBk.out hb6 HBk.out.size)
                   clear hb6))
              go_roundw
              case rel => exact ⟨k + 1, by omega, by go_num, by rw [hstep.out, hG0.out, Int.add_zero], hok, HB6.out.alloc HB6.out.size _⟩
              case measure => simp [RowKit.intOf]; omega
            · rw [decide_eq_true hp0] at HC
              go_wp2_with (first
                | (with_reducible refine wpList_indexA _ rfl 55 (.tmp 30) (.tmp 31) rfl 256 3 .i64 Try.underlying55 Try.underlying3 (by kernel_rfl) (ia T) rfl k rfl hlt _ e1 ?_)
                | ((go_at_call 9; refine HC.out.mono ?_)
                   rintro e w6 ⟨rfl, hb6⟩
                   have HB6 := Lib.hid (below_le HBk.out hb6 HBk.out.size)
                   clear hb6))
              go_roundw
              case rel => exact ⟨k + 1, by omega, by go_num, by rw [hstep.out], hok, HB6.out.alloc HB6.out.size _⟩
              case measure => simp [RowKit.intOf]; omega
        · obtain rfl : k = 256 := by omega
          have hc : Hid (costB cs l t = costN cs l T 256) := by show _ = _; rw [HTT.out]; exact costB_tal HMM.out HCB.out (by rw [← HTT.out]; exact HOK.out)
          go_wp2
          go_ret
          rw [hc.out]
          exact ⟨rfl, HBw.out⟩
end Go.Proofs.Ytanihbflgolciaa
