/- BsM: the texts Bst in one. -/
import Derived.Test.YtcjdjoklnhbcoaaFLN
import Derived.Test.YtcjdjoklnhbcoaaAwk6
import Derived.Test.YtcjdjoklnhbcoaaTelA
import Derived.Test.YtcjdjoklnhbcoaaDrw
/- The walk of PrefixBest. -/
namespace Go.Proofs.Ytcjdjoklnhbcoaa
open Go.RowKit Go.Lib
set_option linter.unusedVariables false
set_option maxRecDepth 100000
/-- What is built, as the law needs it. -/
theorem fBuild_best (t : List Int) (B : Option Addr) (d : Nat) (hl : t.length ≤ 100000) (hc : cntB t = true) (h1 : 1 ≤ (posS (talS t) 256).length) (W : World) (hr : Ri W B t) :
    Calls Try.prog 18 #[.slice B t.length d] W fun e w' => ∃ (A' : Option Addr) (k c' : Nat) (cs l : List Int), e = .returned (.tuple #[.agg (hx cs (.slice A' k c')), .int .i64 0]) ∧ Hid (cs.length = 16) ∧ Hid (k = l.length) ∧ k ≤ 256 ∧ Hid (Ri w' A' l) ∧ mayB cs l = true ∧ 0 < costB cs l t ∧ Hid (∀ cs' l', costB cs' l' t < 0 ∨ costB cs l t ≤ costB cs' l' t) ∧ Below W.heap.size W w' := by
  refine (fBuild_all t B d W hr hl hc h1).mono ?_
  rintro e w' ⟨A', c', dp, rfl, hri, hD, hb⟩
  obtain ⟨b1, b2, b3⟩ := build_best hc h1 hD
  refine ⟨A', _, c', _, syI (srtS (talS t)), rfl, ?_, ?_, ?_, hri, b1, b2, b3, hb⟩
  · show _ = _
    rw [incL_len]; simp [zeroL]
  · show _ = _
    rw [List.length_map]
  · rw [srtS_len]; exact posS_max _ _
/-- What stands in memory behind Build. -/
structure BS (w : World) (g : Nat) (cs l t cs2 l2 : List Int) (A B A2 : Option Addr) (n c k c2 : Nat) (W : World) : Prop where
  o : Blk W g (hx cs2 (.slice A2 k c2))
  ro : Ri W A2 l2
  h : Blk W w.heap.size (hx cs (.slice A n c))
  rh : Ri W A l
  tt : Ri W B t
  be : Below w.heap.size w W
section
variable {w : World} {g : Nat} {cs l t cs2 l2 : List Int} {A B A2 : Option Addr} {n c k c2 : Nat}
theorem BS.call {W W' : World} (h : BS w g cs l t cs2 l2 A B A2 n c k c2 W) (hb : Below W.heap.size W W') : BS w g cs l t cs2 l2 A B A2 n c k c2 W' :=
  ⟨h.o.below hb, h.ro.below hb, h.h.below hb, h.rh.below hb, h.tt.below hb, h.be.trans (hb.mono h.be.size)⟩
theorem BS.drew {W : World} (h : BS w g cs l t cs2 l2 A B A2 n c k c2 W) : BS w g cs l t cs2 l2 A B A2 n c k c2 W.drew := h.call (Below.refl _ _).drew
end
set_option maxHeartbeats 4000000 in
theorem best_any (t cs l : List Int) (B A : Option Addr) (d c : Nat) (w : World) (hcs : cs.length = 16) (hr : Ri w A l) (ht : Ri w B t) :
    Calls Try.prog 5 #[.slice B t.length d, .agg (hx cs (.slice A l.length c))] w fun e w' => e = .returned (.bool true) ∧ Below w.heap.size w w' := by
  obtain ⟨n, hn⟩ : ∃ n, n = l.length := ⟨_, rfl⟩
  obtain ⟨m, hm⟩ : ∃ m, m = t.length := ⟨_, rfl⟩
  have HBN : t.length ≤ 100000 → (cntB t = false ∨ posS (talS t) 256 = []) → Hid (∀ W, Ri W B t → Calls Try.prog 18 #[.slice B m d] W fun e w' => e = .returned (.tuple #[.agg (hx (zeroL 16) (.slice none 0 0)), .int .i64 1]) ∧ Below W.heap.size W w') := fun h1 h2 W h3 => by
    rw [hm]; exact fBuild_no t B d W h3 h1 h2
  have HBY : t.length ≤ 100000 → cntB t = true → 1 ≤ (posS (talS t) 256).length → Hid (∀ W, Ri W B t → Calls Try.prog 18 #[.slice B m d] W fun e w' => ∃ (A' : Option Addr) (k c' : Nat) (cs l : List Int), e = .returned (.tuple #[.agg (hx cs (.slice A' k c')), .int .i64 0]) ∧ Hid (cs.length = 16) ∧ Hid (k = l.length) ∧ k ≤ 256 ∧ Hid (Ri w' A' l) ∧ mayB cs l = true ∧ 0 < costB cs l t ∧ Hid (∀ cs' l', costB cs' l' t < 0 ∨ costB cs l t ≤ costB cs' l' t) ∧ Below W.heap.size W w') := fun h1 h2 h3 W h4 => by
    rw [hm]; exact fBuild_best t B d h1 h2 h3 W h4
  rw [← hn, ← hm]
  obtain ⟨w1, hw1⟩ : ∃ w1, w1 = w.alloc (.cells (hx cs (.slice A n c)) 25) := ⟨_, rfl⟩
  have HW0 : Hid (Below w.heap.size w w1) := by rw [hw1]; exact (Below.refl w.heap.size w).alloc (Nat.le_refl _) _
  have HK0 : Hid (Blk w1 w.heap.size (hx cs (.slice A n c))) := by rw [hw1]; exact Blk.new w _ _
  have HR0 := Lib.hid (hr.below HW0.out)
  have HT0 := Lib.hid (ht.below HW0.out)
  have e16 := HK0.out.cell (j := 16) (v := .slice A n c) (by have := hx_last cs (.slice A n c); rwa [hcs] at this)
  rw [hw1] at e16
  have HN := Lib.hid hn
  have HM := Lib.hid hm
  have HCS := Lib.hid hcs
  have HAL := Lib.hid awake_any
  obtain ⟨Y, hY⟩ : ∃ Y, Y = hx (zeroL 16) (.slice none 0 0) := ⟨_, rfl⟩
  have HY : Hid ((Try.prog.info? 25).map (fun i => i.zero) = some (some (.agg Y))) := by show _ = _; rw [hY]; exact infoH
  have HYZ : Hid (Y.size = 17) := by show _ = _; rw [hY, hx_size]; rfl
  clear hr ht hn hm hcs hY
  have hx0 : (hx (zeroL 16) (.slice none 0 0)).size = 17 := by rw [hx_size]; simp [zeroL]
  go_enter Try.func5, Try.ntmps5
  by_cases hm3 : 256 < m
  · have hm' : (256 : Int) < (m : Int) := by omega
    clear HBN HBY
    go_wp2_with (first
      | ((with_reducible refine (HAL.out _).mono ?_)
         rintro e w2 ⟨rfl, hb2⟩))
    go_ret
    rw [← hw1] at hb2
    exact ⟨rfl, below_le HW0.out hb2 HW0.out.size⟩
  have hm' : ¬ (256 : Int) < (m : Int) := by omega
  by_cases hn3 : 256 < n
  · have hn' : (256 : Int) < (n : Int) := by omega
    clear HBN HBY
    go_wp2_with (first
      | ((with_reducible refine (HAL.out _).mono ?_)
         rintro e w2 ⟨rfl, hb2⟩))
    go_ret
    rw [← hw1] at hb2
    exact ⟨rfl, below_le HW0.out hb2 HW0.out.size⟩
  have hn' : ¬ (256 : Int) < (n : Int) := by omega
  by_cases hb : cntB t = false ∨ posS (talS t) 256 = []
  · have HB := HBN (by have := HM.out; omega) hb
    clear HBN HBY hb
    have HG1 := Lib.hid (hx_one (zeroL 16) none 0 0)
    generalize hx (zeroL 16) (.slice none 0 0) = G at *
    go_wp2_with (first
      | (rw [← hw1]; go_at_call 18; refine (HB.out _ HT0.out).mono ?_; rintro e w2 ⟨rfl, hb2⟩; have HB2 := Lib.hid (HW0.out.trans (hb2.mono HW0.out.size)); have HB3 := Lib.hid (HB2.out.alloc HB2.out.size (.cells Y 25)); have HK2 := Lib.hid (Blk.new w2 Y 25); clear hb2)
      | (with_reducible refine wpList_allocZ _ rfl 25 rfl Y HY.out ?_)
      | ((with_reducible refine wpList_storeB _ rfl 25 (.tmp 5) (.tmp 22) rfl w2.heap.size rfl Y HK2.out G rfl (sizeH hx0) (HYZ.out.trans hx0.symm) HG1.out ?_)
         intro w6 hb6 hc6 hs6
         have HB6 := Lib.hid (HB3.out.trans (hc6.below HB3.out.size (fun i e => by have := HB2.out.size; omega)))
         clear hb6 hc6 hs6)
      | (go_at_call 6
         (with_reducible refine (HAL.out _).mono ?_)
         rintro e w7 ⟨rfl, hb7⟩))
    go_ret
    exact ⟨rfl, HB6.out.trans (hb7.mono HB6.out.size)⟩
  · have hcb : cntB t = true := by
      cases h : cntB t with
      | true => rfl
      | false => exact absurd (.inl h) hb
    have hps : 1 ≤ (posS (talS t) 256).length := by
      cases h : posS (talS t) 256 with
      | nil => exact absurd (.inr h) hb
      | cons a r => simp
    have HB := HBY (by have := HM.out; omega) hcb hps
    clear HBN HBY hb hcb hps
    go_upto_region 6 with (first
      | (rw [← hw1]; go_at_call 18; refine (HB.out _ HT0.out).mono ?_; rintro e w2 ⟨A2, k, c2, cs2, l2, rfl, HC2, HK2L, hk256, HR2, hmay, hpos, HBEST, hb2⟩; have HB2 := Lib.hid (HW0.out.trans (hb2.mono HW0.out.size)); have HB3 := Lib.hid (HB2.out.alloc HB2.out.size (.cells Y 25)); have HK2 := Lib.hid (Blk.new w2 Y 25); have hx2 : (hx cs2 (.slice A2 k c2)).size = 17 := (by rw [hx_size, HC2.out]); have HKK : Hid (Blk w2 w.heap.size (hx cs (.slice A n c)) ∧ Ri w2 A l ∧ Ri w2 B t) := ⟨HK0.out.below hb2, HR0.out.below hb2, HT0.out.below hb2⟩; have HG1 := Lib.hid (hx_one cs2 A2 k c2); have HX2 := Lib.hid hx2; clear hb2 hx2)
      | (with_reducible refine wpList_allocZ _ rfl 25 rfl Y HY.out ?_)
      | ((with_reducible refine wpList_storeB _ rfl 25 (.tmp 5) (.tmp 22) rfl w2.heap.size rfl Y HK2.out (hx cs2 (.slice A2 k c2)) rfl (sizeH HX2.out) (HYZ.out.trans HX2.out.symm) HG1.out ?_)
         intro w6 hb6 hc6 hs6
         have hbe : Below w2.heap.size w2 w6 := ((Below.refl w2.heap.size w2).alloc (Nat.le_refl _) (.cells Y 25)).trans (hc6.below (by simp) (fun i e => Nat.le_of_eq e.symm))
         have HS6 : Hid (BS w w2.heap.size cs l t cs2 l2 A B A2 n c k c2 w6) := ⟨hb6, HR2.out.below hbe, HKK.out.1.below hbe, HKK.out.2.1.below hbe, HKK.out.2.2.below hbe, HB2.out.trans (hbe.mono HB2.out.size)⟩
         clear hb6 hc6 hs6 hbe))
    have HFC : Hid (∀ W, BS w w2.heap.size cs l t cs2 l2 A B A2 n c k c2 W → Calls Try.prog 12 #[.agg (hx cs2 (.slice A2 k c2)), .slice B m d] W fun e w' => e = .returned (.int .i64 (costB cs2 l2 t)) ∧ Below W.heap.size W w') := fun W h => by
      have h9 : k = l2.length := HK2L.out
      have := fCost_any (hx cs2 (.slice A2 l2.length c2)) cs2 l2 A2 c2 t B d W (hx_hv HC2.out _) h.ro (by omega) (by rw [hx_size, HC2.out]) h.tt (by have := HM.out; omega)
      rw [← h9, ← HM.out] at this
      exact this
    have HFD : Hid (∀ W, BS w w2.heap.size cs l t cs2 l2 A B A2 n c k c2 W → Calls Try.prog 12 #[.agg (hx cs (.slice A n c)), .slice B m d] W fun e w' => e = .returned (.int .i64 (costB cs l t)) ∧ Below W.heap.size W w') := fun W h => by
      have := fCost_any (hx cs (.slice A l.length c)) cs l A c t B d W (hx_hv HCS.out _) h.rh (by have := HN.out; omega) (by rw [hx_size, HCS.out]) h.tt (by have := HM.out; omega)
      rw [← HN.out, ← HM.out] at this
      exact this
    have HFM : Hid (∀ W, BS w w2.heap.size cs l t cs2 l2 A B A2 n c k c2 W → Calls Try.prog 11 #[.agg (hx cs2 (.slice A2 k c2))] W fun e w' => e = .returned (.bool true) ∧ Below W.heap.size W w') := fun W h => by
      have h9 : k = l2.length := HK2L.out
      have := fMay_any (hx cs2 (.slice A2 l2.length c2)) cs2 l2 A2 c2 W (hx_hv HC2.out _) h.ro (by omega)
      rw [← h9, hmay] at this
      exact this
    have hbc := HBEST.out cs l
    clear HBEST HB hmay HB2 HB3 HK2 HKK HG1 HY HYZ hx0 HW0 HK0 HR0 HT0 e16 hw1
    generalize costB cs2 l2 t = best at *
    generalize costB cs l t = cost at *
    have HSZ : Hid ((Try.prog.info? 25).map (·.size) = some (hx cs2 (.slice A2 k c2)).size) := sizeH HX2.out
    generalize w2.heap.size = g at *
    refine wp_region_seq (BS w g cs l t cs2 l2 A B A2 n c k c2) (by kernel_rfl) (by kernel_rfl) (by kernel_rfl) HS6.out.drew ?_
    repeat (
      first
        | (refine seq_off (by rfl) ?_)
        | (refine seq_load 25 (.tmp 5) _ (.agg (hx cs2 (.slice A2 k c2))) (by rfl) rfl rfl (fun W hS => ld_h HC2.out hS.o) ?_)
        | (refine seq_load 25 (.tmp 3) _ (.agg (hx cs (.slice A n c))) (by rfl) rfl rfl (fun W hS => ld_h HCS.out hS.h) ?_)
        | (refine seq_callF 12 _ _ [.agg (hx cs2 (.slice A2 k c2)), .slice B m d] (by rfl) rfl (enters_of Try.func12 (by kernel_rfl) rfl) rfl (fun W hS => (HFC.out W hS).mono fun e w' h => ⟨h.1, hS.call h.2⟩) ?_)
        | (refine seq_callF 12 _ _ [.agg (hx cs (.slice A n c)), .slice B m d] (by rfl) rfl (enters_of Try.func12 (by kernel_rfl) rfl) rfl (fun W hS => (HFD.out W hS).mono fun e w' h => ⟨h.1, hS.call h.2⟩) ?_)
        | (apply seq_val (by rfl)
           focus (intro W hS; go_simp; try with_reducible rfl))
      simp only [Act.put, List.setIfInBounds_toArray, List.set_cons_zero, List.set_cons_succ])
    refine seq_nil fun W hS => ?_
    have K := Lib.hid hS
    clear hS HS6 HFC HFD
    have hd1 : decide (0 < best) = true := decide_eq_true hpos
    by_cases hcost : cost < 0
    · have hd2 : decide (cost < 0) = true := decide_eq_true hcost
      clear hbc
      go_wp2_with (first
        | (with_reducible refine wpList_loadB _ rfl 25 (.tmp 5) rfl _ Try.underlying25 rfl g rfl _ K.out.o HSZ.out ?_)
        | (go_at_call 11; (with_reducible refine (HFM.out _ K.out).mono ?_); rintro e wA ⟨rfl, hk⟩; have K9 := Lib.hid (K.out.call hk); clear hk)
        | (go_at_call 6; (with_reducible refine (HAL.out _).mono ?_); rintro e wD ⟨rfl, hb⟩; replace K9 := Lib.hid (K9.out.call hb); clear hb))
      go_ret
      exact ⟨rfl, K9.out.be⟩
    · have hd2 : decide (cost < 0) = false := decide_eq_false hcost
      have hle : best ≤ cost := by omega
      have hd3 : decide (best ≤ cost) = true := decide_eq_true hle
      clear hbc
      go_wp2_with (first
        | (with_reducible refine wpList_loadB _ rfl 25 (.tmp 5) rfl _ Try.underlying25 rfl g rfl _ K.out.o HSZ.out ?_)
        | (go_at_call 11; (with_reducible refine (HFM.out _ K.out).mono ?_); rintro e wA ⟨rfl, hk⟩; have K9 := Lib.hid (K.out.call hk); clear hk)
        | (go_at_call 6; (with_reducible refine (HAL.out _).mono ?_); rintro e wD ⟨rfl, hb⟩; replace K9 := Lib.hid (K9.out.call hb); clear hb))
      go_ret
      exact ⟨rfl, K9.out.be⟩
end Go.Proofs.Ytcjdjoklnhbcoaa
