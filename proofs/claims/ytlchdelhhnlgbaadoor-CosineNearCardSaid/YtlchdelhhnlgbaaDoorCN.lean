/- The walk of CosineDoes. -/
import Derived.Test.YtlchdelhhnlgbaaDoorCO
namespace Go.Proofs.YtlchdelhhnlgbaaDoor
open Go.RowKit Go.Lib
set_option linter.unusedVariables false
set_option maxRecDepth 100000
theorem Kn.one (w : World) (l : List Int) (T : TypeId) : ∃ w1, w1 = w.alloc (.cells (ia l) T) ∧ Kn w [(w.heap.size, l)] w1 := ⟨_, rfl, (Kn.nil w).new l T⟩
set_option maxHeartbeats 16000000 in
theorem cd_core (b d m : List Int) (hb : b.length = 64) (hd : d.length = 64) (hm : m.length = 64) (er : Int) (m1 : Bool) (w : World) (he : Env w)
    (HD : ∀ W, Env W → Calls Tryd.prog 10 #[.agg (ia b)] W fun e w' => e = .returned (.tuple #[.agg (ia d), .int .i64 er]) ∧ Below W.heap.size W w')
    (HM : ∀ W, Env W → Calls Tryd.prog 11 #[.agg (ia b)] W fun e w' => e = .returned (.tuple #[.agg (ia m), .int .i64 er]) ∧ Below W.heap.size W w')
    (h1 : wiB b (-32768) 32768 = m1)
    (cs : (m1 = true ∧ er = 0 ∧ (∀ W, Calls Tryd.prog 13 #[.agg (ia b)] W fun e w' => e = .returned (.agg (ia d)) ∧ Below W.heap.size W w') ∧ (∀ W, Calls Tryd.prog 14 #[.agg (ia b)] W fun e w' => e = .returned (.agg (ia m)) ∧ Below W.heap.size W w')) ∨ (m1 = false ∧ er = 1 ∧ d = zeros ∧ m = zeros)) :
    Calls Tryd.prog 4 #[.agg (ia b)] w fun e w' => e = .returned (.bool true) ∧ Below w.heap.size w w' := by
  have HZ := Lib.hid zeroB
  have HSZ := Lib.hid (sizeB zeros_len)
  have HSB := Lib.hid (sizeB hb)
  have HSD := Lib.hid (sizeB hd)
  have HSM := Lib.hid (sizeB hm)
  have HED : Hid ((ia zeros).size = (ia d).size) := same_size zeros_len hd
  have HEM : Hid ((ia zeros).size = (ia m).size) := same_size zeros_len hm
  have HOD := Lib.hid (one_ia d)
  have HOM := Lib.hid (one_ia m)
  have HW1 := Lib.hid (may_any b hb)
  rw [h1] at HW1
  have HDV := Lib.hid HD
  have HMU := Lib.hid HM
  have HL : Hid (b.length = 64 ∧ d.length = 64 ∧ m.length = 64) := ⟨hb, hd, hm⟩
  have HAW := Lib.hid awake_any
  have HEN := Lib.hid he
  clear HD HM h1 he hb hd hm
  obtain ⟨w1, hw1, hK⟩ := Kn.one w b 26
  have K1 := Lib.hid hK
  clear hK
  go_enter Tryd.func4, Tryd.ntmps4
  go_upto_region 3 with (first
    | (rw [← hw1]; (with_reducible refine wpList_loadB _ rfl 26 (.tmp 1) rfl _ Tryd.underlying26 rfl w.heap.size rfl (ia b) (K1.out.get 0 rfl) HSB.out ?_))
    | (go_at_call 10; (try rw [← hw1]); (with_reducible refine (HDV.out _ (HEN.out.below K1.out.be)).mono ?_); rintro e w2 ⟨rfl, hb2⟩; replace hb2 : Below w1.heap.size w1 w2 := (by rw [hw1]; simpa [← hw1] using hb2); have HB2 := Lib.hid hb2; clear hb2)
    | (with_reducible refine wpList_allocZ _ rfl 26 rfl (ia zeros) HZ.out ?_)
    | ((with_reducible refine wpList_storeB _ rfl 26 (.tmp 3) (.tmp 10) rfl w2.heap.size rfl (ia zeros) (Blk.new w2 (ia zeros) 26) (ia d) rfl HSD.out HED.out HOD.out ?_)
       intro v2 hb3 hc3 hs3; have K2 := Lib.hid (K1.out.push HB2.out hc3 hb3); clear hb3 hc3 hs3)
    | (with_reducible refine wpList_loadB _ rfl 26 (.tmp 1) rfl _ Tryd.underlying26 rfl w.heap.size rfl (ia b) (K2.out.get 0 rfl) HSB.out ?_)
    | (go_at_call 11; (with_reducible refine (HMU.out _ (HEN.out.below K2.out.be)).mono ?_); rintro e w3 ⟨rfl, hb3⟩; have HB3 := Lib.hid hb3; clear hb3)
    | ((with_reducible refine wpList_storeB _ rfl 26 (.tmp 5) (.tmp 15) rfl w3.heap.size rfl (ia zeros) (Blk.new w3 (ia zeros) 26) (ia m) rfl HSM.out HEM.out HOM.out ?_)
       intro v3 hb4 hc4 hs4; have K3 := Lib.hid (K2.out.push HB3.out hc4 hb4); clear hb4 hc4 hs4))
  have K : Hid (Kn w [(w.heap.size, b), (w2.heap.size, d), (w3.heap.size, m)] v3) := K3.out
  generalize w2.heap.size = Cc at *
  generalize w3.heap.size = Dd at *
  clear K1 K2 K3 HB2 HB3 HDV HMU HSD HSM HED HEM HOD HOM hw1 HZ
  have hG : ∀ W o x y l m, (eqGuard o 26 x y (.agg (ia l)) (.agg (ia m))).run Tryd.prog W = .ok () W := fun W o x y l m => run_eqGuard_agg W o 26 x y _ _ (by kernel_rfl)
  have hGZ : ∀ W o x y l, (eqGuard o 26 x y (.agg (ia l)) (.agg #[.int .i64 0, .int .i64 0, .int .i64 0, .int .i64 0, .int .i64 0, .int .i64 0, .int .i64 0, .int .i64 0, .int .i64 0, .int .i64 0, .int .i64 0, .int .i64 0, .int .i64 0, .int .i64 0, .int .i64 0, .int .i64 0, .int .i64 0, .int .i64 0, .int .i64 0, .int .i64 0, .int .i64 0, .int .i64 0, .int .i64 0, .int .i64 0, .int .i64 0, .int .i64 0, .int .i64 0, .int .i64 0, .int .i64 0, .int .i64 0, .int .i64 0, .int .i64 0, .int .i64 0, .int .i64 0, .int .i64 0, .int .i64 0, .int .i64 0, .int .i64 0, .int .i64 0, .int .i64 0, .int .i64 0, .int .i64 0, .int .i64 0, .int .i64 0, .int .i64 0, .int .i64 0, .int .i64 0, .int .i64 0, .int .i64 0, .int .i64 0, .int .i64 0, .int .i64 0, .int .i64 0, .int .i64 0, .int .i64 0, .int .i64 0, .int .i64 0, .int .i64 0, .int .i64 0, .int .i64 0, .int .i64 0, .int .i64 0, .int .i64 0, .int .i64 0])).run Tryd.prog W = .ok () W := fun W o x y l => hG W o x y l zeros
  have hE1 : ∀ W, (Op.equalIn 10000 26 (.agg (ia d)) (.agg (ia d))).run Tryd.prog W = .ok true W := fun W => eqs64 HL.out.2.1
  have hE2 : ∀ W, (Op.equalIn 10000 26 (.agg (ia m)) (.agg (ia m))).run Tryd.prog W = .ok true W := fun W => eqs64 HL.out.2.2
  have hE3 : ∀ W, (Op.equalIn 10000 26 (.agg (ia zeros)) (.agg #[.int .i64 0, .int .i64 0, .int .i64 0, .int .i64 0, .int .i64 0, .int .i64 0, .int .i64 0, .int .i64 0, .int .i64 0, .int .i64 0, .int .i64 0, .int .i64 0, .int .i64 0, .int .i64 0, .int .i64 0, .int .i64 0, .int .i64 0, .int .i64 0, .int .i64 0, .int .i64 0, .int .i64 0, .int .i64 0, .int .i64 0, .int .i64 0, .int .i64 0, .int .i64 0, .int .i64 0, .int .i64 0, .int .i64 0, .int .i64 0, .int .i64 0, .int .i64 0, .int .i64 0, .int .i64 0, .int .i64 0, .int .i64 0, .int .i64 0, .int .i64 0, .int .i64 0, .int .i64 0, .int .i64 0, .int .i64 0, .int .i64 0, .int .i64 0, .int .i64 0, .int .i64 0, .int .i64 0, .int .i64 0, .int .i64 0, .int .i64 0, .int .i64 0, .int .i64 0, .int .i64 0, .int .i64 0, .int .i64 0, .int .i64 0, .int .i64 0, .int .i64 0, .int .i64 0, .int .i64 0, .int .i64 0, .int .i64 0, .int .i64 0, .int .i64 0])).run Tryd.prog W = .ok true W := fun W => eqs64 zeros_len
  rcases cs with ⟨rfl, rfl, hrd, hrm⟩ | ⟨rfl, rfl, rfl, rfl⟩
  · have HRD := Lib.hid hrd
    have HRM := Lib.hid hrm
    clear hrd hrm
    go_upto_region 5 with (first
      | (with_reducible refine wpList_loadB _ rfl 26 (.tmp 1) rfl _ Tryd.underlying26 rfl w.heap.size rfl (ia b) (K.out.get 0 rfl) HSB.out ?_)
      | (go_at_call 12; (with_reducible refine (HW1.out _).mono ?_); rintro e w7 ⟨rfl, hb7⟩; replace K := Lib.hid (K.out.call hb7); clear hb7))
    refine wp_region_seq (Kn w [(w.heap.size, b), (Cc, d), (Dd, m)]) (by kernel_rfl) (by kernel_rfl) (by kernel_rfl) K.out.drew ?_
    repeat (
      first
        | (refine seq_off (by rfl) ?_)
        | (refine seq_load 26 (.tmp 1) _ (.agg (ia b)) (by rfl) rfl rfl (fun W hS => hS.ld 0 rfl HL.out.1) ?_)
        | (refine seq_load 26 (.tmp 3) _ (.agg (ia d)) (by rfl) rfl rfl (fun W hS => hS.ld 1 rfl HL.out.2.1) ?_)
        | (refine seq_load 26 (.tmp 5) _ (.agg (ia m)) (by rfl) rfl rfl (fun W hS => hS.ld 2 rfl HL.out.2.2) ?_)
        | (refine seq_callF 13 _ _ [.agg (ia b)] (by rfl) rfl (enters_of Tryd.func13 (by kernel_rfl) rfl) rfl (fun W hS => (HRD.out W).mono fun e w' h => ⟨h.1, hS.call h.2⟩) ?_)
        | (refine seq_callF 14 _ _ [.agg (ia b)] (by rfl) rfl (enters_of Tryd.func14 (by kernel_rfl) rfl) rfl (fun W hS => (HRM.out W).mono fun e w' h => ⟨h.1, hS.call h.2⟩) ?_)
        | (refine seq_callF 9 _ _ [] (by rfl) rfl (enters_of Tryd.func9 (by kernel_rfl) rfl) rfl (fun W hS => (HAW.out W (HEN.out.below hS.be)).mono fun e w' h => ⟨h.1, hS.call h.2⟩) ?_)
        | (apply seq_val (by rfl)
           focus (intro W hS; go_simp; try with_reducible rfl; done))
      simp only [Act.put, List.setIfInBounds_toArray, List.set_cons_zero, List.set_cons_succ])
    refine seq_nil fun W hS => ?_
    go_wp2
    go_ret
    exact ⟨rfl, hS.be⟩
  · go_wp2_with (first
      | (with_reducible refine wpList_loadB _ rfl 26 (.tmp 1) rfl _ Tryd.underlying26 rfl w.heap.size rfl (ia b) (K.out.get 0 rfl) HSB.out ?_)
      | (with_reducible refine wpList_loadB _ rfl 26 (.tmp 3) rfl _ Tryd.underlying26 rfl Cc rfl (ia zeros) (K.out.get 1 rfl) HSZ.out ?_)
      | (refine wpList_open (by rfl) (wpList_loadB _ rfl 26 (.tmp 5) rfl _ Tryd.underlying26 rfl Dd rfl (ia zeros) (K.out.get 2 rfl) HSZ.out ?_))
      | (go_at_call 12; (with_reducible refine (HW1.out _).mono ?_); rintro e w7 ⟨rfl, hb7⟩; replace K := Lib.hid (K.out.call hb7); clear hb7)
      | (go_at_call 9; (with_reducible refine (HAW.out _ (HEN.out.below K.out.be)).mono ?_); rintro e w9 ⟨rfl, hb9⟩; replace K := Lib.hid (K.out.call hb9); clear hb9))
    go_ret
    exact ⟨rfl, K.out.be⟩
theorem cdoes_any (b : List Int) (hb : b.length = 64) (w : World) (he : Env w) :
    Calls Tryd.prog 4 #[.agg (ia b)] w fun e w' => e = .returned (.bool true) ∧ Below w.heap.size w w' := by
  cases h1 : wiB b (-32768) 32768 with
  | false => exact cd_core b zeros zeros hb zeros_len zeros_len 1 false w he (fun W _ => Forward_no b hb h1 W) (fun W _ => Inverse_no b hb h1 W) h1 (.inr ⟨rfl, rfl, rfl, rfl⟩)
  | true => exact cd_core b (fwL b) (ivL b) hb (fwL_len b) (ivL_len b) 0 true w he (fun W hW => by have := Forward_yes b hb h1 W hW; rwa [fw_is] at this) (fun W hW => by have := Inverse_yes b hb h1 W hW; rwa [iv_is] at this) h1 (.inl ⟨rfl, rfl, rForward_any b hb h1, rInverse_any b hb h1⟩)
end Go.Proofs.YtlchdelhhnlgbaaDoor
