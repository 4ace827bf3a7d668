/- The examples (awake). -/
import Derived.Test.YtlchdelhhnlgbaaDoorCK
namespace Go.Proofs.YtlchdelhhnlgbaaDoor
open Go.RowKit Go.Lib
set_option linter.unusedVariables false
set_option maxRecDepth 100000
def oneL (n : Int) : List Int := n :: List.replicate 63 0
theorem oneL_len (n : Int) : (oneL n).length = 64 := by simp [oneL]
theorem ex1 : fwL (flatL 100) = oneL 800 := by decide +kernel
theorem ex2 : ivL (oneL 800) = flatL 100 := by decide +kernel
theorem ex3 : (fwL (oneL 127)).getD 0 0 = 16 ∧ (fwL (oneL 127)).getD 1 0 = 22 ∧ (fwL (oneL 127)).getD 9 0 = 31 := by decide +kernel
theorem ex4 : fcI 0 7 = 23170 ∧ fcI 1 0 = 32138 ∧ fcI 1 7 = -32138 ∧ fcI 4 1 = -23170 ∧ fcI 2 2 = -12540 := by decide +kernel
theorem ex5 : wiB (flatL 100) (-32768) 32768 = true ∧ wiB (oneL 800) (-32768) 32768 = true ∧ wiB (oneL 127) (-32768) 32768 = true := by decide +kernel
theorem Kn.nil (w : World) : Kn w [] w := ⟨fun _ _ h => (by cases h), Below.refl _ _⟩
set_option maxHeartbeats 8000000 in
theorem awake_any (w : World) (he : Env w) : Calls Tryd.prog 9 #[] w fun e w' => e = .returned (.bool true) ∧ Below w.heap.size w w' := by
  have HZ := Lib.hid zeroB
  have HFL : Hid (∀ W, Calls Tryd.prog 17 #[.int .i64 100] W fun e w' => e = .returned (.agg (ia (flatL 100))) ∧ Below W.heap.size W w') := flat_any 100
  have H1 : Hid (∀ W, Env W → Calls Tryd.prog 10 #[.agg (ia (flatL 100))] W fun e w' => e = .returned (.tuple #[.agg (ia (oneL 800)), .int .i64 0]) ∧ Below W.heap.size W w') := fun W hW => by
    have := Forward_yes (flatL 100) (flatL_len _) ex5.1 W hW
    rwa [fw_is, ex1] at this
  have H2 : Hid (∀ W, Env W → Calls Tryd.prog 11 #[.agg (ia (oneL 800))] W fun e w' => e = .returned (.tuple #[.agg (ia (flatL 100)), .int .i64 0]) ∧ Below W.heap.size W w') := fun W hW => by
    have := Inverse_yes (oneL 800) (oneL_len _) ex5.2.1 W hW
    rwa [iv_is, ex2] at this
  have H3 : Hid (∀ W, Env W → Calls Tryd.prog 10 #[.agg (ia (oneL 127))] W fun e w' => e = .returned (.tuple #[.agg (ia (fwL (oneL 127))), .int .i64 0]) ∧ Below W.heap.size W w') := fun W hW => by
    have := Forward_yes (oneL 127) (oneL_len _) ex5.2.2 W hW
    rwa [fw_is] at this
  have HLF := Lib.hid (flatL_len 100)
  have HL3 := Lib.hid (fwL_len (oneL 127))
  have HX := Lib.hid ex3
  generalize flatL 100 = f at *
  generalize fwL (oneL 127) = c at *
  have HFA := Lib.hid factor_any
  have HE := Lib.hid he
  have K0 := Lib.hid (Kn.nil w)
  have HSO := Lib.hid (sizeB (oneL_len 800))
  have HEO : Hid ((ia zeros).size = (ia (oneL 800)).size) := same_size zeros_len (oneL_len _)
  have HOO := Lib.hid (one_ia (oneL 800))
  have HSF := Lib.hid (sizeB HLF.out)
  have HEF : Hid ((ia zeros).size = (ia f).size) := same_size zeros_len HLF.out
  have HOF := Lib.hid (one_ia f)
  have HSC := Lib.hid (sizeB HL3.out)
  have HEC : Hid ((ia zeros).size = (ia c).size) := same_size zeros_len HL3.out
  have HOC := Lib.hid (one_ia c)
  clear he
  go_enter Tryd.func9, Tryd.ntmps9
  go_upto_region 4 with (first
    | (go_at_call 17; (with_reducible refine (HFL.out _).mono ?_); rintro e w2 ⟨rfl, hb2⟩; have K2 := Lib.hid (K0.out.call hb2); clear hb2)
    | (go_at_call 10; (with_reducible refine (H1.out _ (HE.out.below K2.out.be)).mono ?_); rintro e w3 ⟨rfl, hb3⟩; have HB3 := Lib.hid hb3; clear hb3)
    | (with_reducible refine wpList_allocZ _ rfl 26 rfl (ia zeros) HZ.out ?_)
    | ((with_reducible refine wpList_storeB _ rfl 26 (.tmp 1) (.tmp 10) rfl w3.heap.size rfl (ia zeros) (Blk.new w3 (ia zeros) 26) (ia (oneL 800)) rfl HSO.out HEO.out HOO.out ?_)
       intro v3 hb3 hc3 hs3; have K3 := Lib.hid (K2.out.push HB3.out hc3 hb3); clear hb3 hc3 hs3)
    | (go_at_call 11; (refine (H2.out _ (HE.out.below K3.out.be)).mono ?_); rintro e w4 ⟨rfl, hb4⟩; have HB4 := Lib.hid hb4; clear hb4)
    | ((with_reducible refine wpList_storeB _ rfl 26 (.tmp 3) (.tmp 15) rfl w4.heap.size rfl (ia zeros) (Blk.new w4 (ia zeros) 26) (ia f) rfl HSF.out HEF.out HOF.out ?_)
       intro v4 hb4 hc4 hs4; have K4 := Lib.hid (K3.out.push HB4.out hc4 hb4); clear hb4 hc4 hs4)
    | (go_at_call 10; (refine (H3.out _ (HE.out.below K4.out.be)).mono ?_); rintro e w5 ⟨rfl, hb5⟩; have HB5 := Lib.hid hb5; clear hb5)
    | ((with_reducible refine wpList_storeB _ rfl 26 (.tmp 5) (.tmp 20) rfl w5.heap.size rfl (ia zeros) (Blk.new w5 (ia zeros) 26) (ia c) rfl HSC.out HEC.out HOC.out ?_)
       intro v5 hb5 hc5 hs5; have K5 := Lib.hid (K4.out.push HB5.out hc5 hb5); clear hb5 hc5 hs5))
  have KK : Hid (Kn w [(w3.heap.size, oneL 800), (w4.heap.size, f), (w5.heap.size, c)] v5) := K5.out
  clear K0 K2 K3 K4 K5 HB3 HB4 HB5 H1 H2 H3 HZ HSO HEO HOO HSF HEF HOF HSC HEC HOC
  generalize w3.heap.size = g3 at *
  generalize w4.heap.size = g4 at *
  generalize w5.heap.size = g5 at *
  have hG : ∀ W o x y l m, (eqGuard o 26 x y (.agg (ia l)) (.agg (ia m))).run Tryd.prog W = .ok () W := fun W o x y l m => run_eqGuard_agg W o 26 x y _ _ (by kernel_rfl)
  have hG8 : ∀ W o x y l, (eqGuard o 26 x y (.agg (ia l)) (.agg #[.int .i64 800, .int .i64 0, .int .i64 0, .int .i64 0, .int .i64 0, .int .i64 0, .int .i64 0, .int .i64 0, .int .i64 0, .int .i64 0, .int .i64 0, .int .i64 0, .int .i64 0, .int .i64 0, .int .i64 0, .int .i64 0, .int .i64 0, .int .i64 0, .int .i64 0, .int .i64 0, .int .i64 0, .int .i64 0, .int .i64 0, .int .i64 0, .int .i64 0, .int .i64 0, .int .i64 0, .int .i64 0, .int .i64 0, .int .i64 0, .int .i64 0, .int .i64 0, .int .i64 0, .int .i64 0, .int .i64 0, .int .i64 0, .int .i64 0, .int .i64 0, .int .i64 0, .int .i64 0, .int .i64 0, .int .i64 0, .int .i64 0, .int .i64 0, .int .i64 0, .int .i64 0, .int .i64 0, .int .i64 0, .int .i64 0, .int .i64 0, .int .i64 0, .int .i64 0, .int .i64 0, .int .i64 0, .int .i64 0, .int .i64 0, .int .i64 0, .int .i64 0, .int .i64 0, .int .i64 0, .int .i64 0, .int .i64 0, .int .i64 0, .int .i64 0])).run Tryd.prog W = .ok () W := fun W o x y l => hG W o x y l (oneL 800)
  have hE8 : ∀ W, (Op.equalIn 10000 26 (.agg (ia (oneL 800))) (.agg #[.int .i64 800, .int .i64 0, .int .i64 0, .int .i64 0, .int .i64 0, .int .i64 0, .int .i64 0, .int .i64 0, .int .i64 0, .int .i64 0, .int .i64 0, .int .i64 0, .int .i64 0, .int .i64 0, .int .i64 0, .int .i64 0, .int .i64 0, .int .i64 0, .int .i64 0, .int .i64 0, .int .i64 0, .int .i64 0, .int .i64 0, .int .i64 0, .int .i64 0, .int .i64 0, .int .i64 0, .int .i64 0, .int .i64 0, .int .i64 0, .int .i64 0, .int .i64 0, .int .i64 0, .int .i64 0, .int .i64 0, .int .i64 0, .int .i64 0, .int .i64 0, .int .i64 0, .int .i64 0, .int .i64 0, .int .i64 0, .int .i64 0, .int .i64 0, .int .i64 0, .int .i64 0, .int .i64 0, .int .i64 0, .int .i64 0, .int .i64 0, .int .i64 0, .int .i64 0, .int .i64 0, .int .i64 0, .int .i64 0, .int .i64 0, .int .i64 0, .int .i64 0, .int .i64 0, .int .i64 0, .int .i64 0, .int .i64 0, .int .i64 0, .int .i64 0])).run Tryd.prog W = .ok true W := fun W => eqs64 (oneL_len 800)
  have hEf : ∀ W, (Op.equalIn 10000 26 (.agg (ia f)) (.agg (ia f))).run Tryd.prog W = .ok true W := fun W => eqs64 HLF.out
  have hc0 : ∀ W, Kn w [(g3, oneL 800), (g4, f), (g5, c)] W → W.cell? ⟨g5, 0, none⟩ = some (.int .i64 16) := fun W hS => hS.cell 2 rfl (by rw [HL3.out]; omega) HX.out.1
  have hc1 : ∀ W, Kn w [(g3, oneL 800), (g4, f), (g5, c)] W → W.cell? ⟨g5, 1, none⟩ = some (.int .i64 22) := fun W hS => hS.cell 2 rfl (by rw [HL3.out]; omega) HX.out.2.1
  have hc9 : ∀ W, Kn w [(g3, oneL 800), (g4, f), (g5, c)] W → W.cell? ⟨g5, 9, none⟩ = some (.int .i64 31) := fun W hS => hS.cell 2 rfl (by rw [HL3.out]; omega) HX.out.2.2
  have HC0 := Lib.hid hc0
  have HC1 := Lib.hid hc1
  have HC9 := Lib.hid hc9
  clear hc0 hc1 hc9
  obtain ⟨x1, x2, x3, x4, x5⟩ := ex4
  have F1 : Hid (∀ W, Env W → Calls Tryd.prog 7 #[.int .i64 0, .int .i64 7] W fun e w' => e = .returned (.int .i64 23170) ∧ W = w') := fun W hW => by have := factor_any 0 7 W hW; rwa [x1] at this
  have F2 : Hid (∀ W, Env W → Calls Tryd.prog 7 #[.int .i64 1, .int .i64 0] W fun e w' => e = .returned (.int .i64 32138) ∧ W = w') := fun W hW => by have := factor_any 1 0 W hW; rwa [x2] at this
  have F3 : Hid (∀ W, Env W → Calls Tryd.prog 7 #[.int .i64 1, .int .i64 7] W fun e w' => e = .returned (.int .i64 (-32138)) ∧ W = w') := fun W hW => by have := factor_any 1 7 W hW; rwa [x3] at this
  have F4 : Hid (∀ W, Env W → Calls Tryd.prog 7 #[.int .i64 4, .int .i64 1] W fun e w' => e = .returned (.int .i64 (-23170)) ∧ W = w') := fun W hW => by have := factor_any 4 1 W hW; rwa [x4] at this
  have F5 : Hid (∀ W, Env W → Calls Tryd.prog 7 #[.int .i64 2, .int .i64 2] W fun e w' => e = .returned (.int .i64 (-12540)) ∧ W = w') := fun W hW => by have := factor_any 2 2 W hW; rwa [x5] at this
  clear x1 x2 x3 x4 x5 HFA
  refine wp_region_seq (Kn w [(g3, oneL 800), (g4, f), (g5, c)]) (by kernel_rfl) (by kernel_rfl) (by kernel_rfl) KK.out.drew ?_
  repeat (
    first
      | (refine seq_off (by rfl) ?_)
      | (refine seq_load 26 (.tmp 1) _ (.agg (ia (oneL 800))) (by rfl) rfl rfl (fun W hS => hS.ld 0 rfl (oneL_len 800)) ?_)
      | (refine seq_load 26 (.tmp 3) _ (.agg (ia f)) (by rfl) rfl rfl (fun W hS => hS.ld 1 rfl HLF.out) ?_)
      | (refine seq_callF 7 _ _ [.int .i64 0, .int .i64 7] (by rfl) rfl (enters_of Tryd.func7 (by kernel_rfl) rfl) rfl (fun W hS => (F1.out W (HE.out.below hS.be)).mono fun e w' h => ⟨h.1, h.2 ▸ hS⟩) ?_)
      | (refine seq_callF 7 _ _ [.int .i64 1, .int .i64 0] (by rfl) rfl (enters_of Tryd.func7 (by kernel_rfl) rfl) rfl (fun W hS => (F2.out W (HE.out.below hS.be)).mono fun e w' h => ⟨h.1, h.2 ▸ hS⟩) ?_)
      | (refine seq_callF 7 _ _ [.int .i64 1, .int .i64 7] (by rfl) rfl (enters_of Tryd.func7 (by kernel_rfl) rfl) rfl (fun W hS => (F3.out W (HE.out.below hS.be)).mono fun e w' h => ⟨h.1, h.2 ▸ hS⟩) ?_)
      | (refine seq_callF 7 _ _ [.int .i64 4, .int .i64 1] (by rfl) rfl (enters_of Tryd.func7 (by kernel_rfl) rfl) rfl (fun W hS => (F4.out W (HE.out.below hS.be)).mono fun e w' h => ⟨h.1, h.2 ▸ hS⟩) ?_)
      | (refine seq_callF 7 _ _ [.int .i64 2, .int .i64 2] (by rfl) rfl (enters_of Tryd.func7 (by kernel_rfl) rfl) rfl (fun W hS => (F5.out W (HE.out.below hS.be)).mono fun e w' h => ⟨h.1, h.2 ▸ hS⟩) ?_)
      | (refine seq_callF 17 _ _ [.int .i64 100] (by rfl) rfl (enters_of Tryd.func17 (by kernel_rfl) rfl) rfl (fun W hS => (HFL.out W).mono fun e w' h => ⟨h.1, hS.call h.2⟩) ?_)
      | (apply seq_val (by rfl)
         focus (intro W hS; have e0 := HC0.out W hS; have e1 := HC1.out W hS; have e9 := HC9.out W hS; clear hS; go_simp; try with_reducible rfl; done))
    simp only [Act.put, List.setIfInBounds_toArray, List.set_cons_zero, List.set_cons_succ])
  refine seq_nil fun W hS => ?_
  go_wp2
  go_ret
  exact ⟨rfl, hS.be⟩
end Go.Proofs.YtlchdelhhnlgbaaDoor
