/- The walk of QuantDoes. -/
import Derived.Test.YtipmbffpokplgaaDoorQU
namespace Go.Proofs.YtipmbffpokplgaaDoor
open Go.RowKit Go.Lib
set_option linter.unusedVariables false
set_option maxRecDepth 100000
/-- Four blocks of the law's own. -/
structure K4 (w : World) (C D : Nat) (b q d m : List Int) (W : World) : Prop where
  b : Blk W w.heap.size (ia b)
  q : Blk W (w.heap.size + 1) (ia q)
  d : Blk W C (ia d)
  m : Blk W D (ia m)
  be : Below w.heap.size w W
theorem K4.call {w : World} {C D : Nat} {b q d m : List Int} {W W' : World} (h : K4 w C D b q d m W) (hb : Below W.heap.size W W') : K4 w C D b q d m W' :=
  ⟨h.b.below hb, h.q.below hb, h.d.below hb, h.m.below hb, h.be.trans (hb.mono h.be.size)⟩
theorem K4.drew {w : World} {C D : Nat} {b q d m : List Int} {W : World} (h : K4 w C D b q d m W) : K4 w C D b q d m W.drew := ⟨h.b, h.q, h.d, h.m, h.be.drew⟩
set_option maxHeartbeats 16000000 in
theorem qd_core (b q d m : List Int) (hb : b.length = 64) (hq : q.length = 64) (hd : d.length = 64) (hm : m.length = 64) (er : Int) (m1 m2 : Bool) (w : World) (he : Env w)
    (HD : ∀ W, Calls Tryd.prog 14 #[.agg (ia b), .agg (ia q)] W fun e w' => e = .returned (.tuple #[.agg (ia d), .int .i64 er]) ∧ Below W.heap.size W w')
    (HM : ∀ W, Calls Tryd.prog 15 #[.agg (ia b), .agg (ia q)] W fun e w' => e = .returned (.tuple #[.agg (ia m), .int .i64 er]) ∧ Below W.heap.size W w')
    (h1 : wiB q 1 255 = m1) (h2 : wiB b (-1048576) 1048576 = m2)
    (cs : (m1 = true ∧ m2 = true ∧ er = 0 ∧ (∀ W, Calls Tryd.prog 16 #[.agg (ia b), .agg (ia q)] W fun e w' => e = .returned (.agg (ia d)) ∧ Below W.heap.size W w') ∧ (∀ W, Calls Tryd.prog 17 #[.agg (ia b), .agg (ia q)] W fun e w' => e = .returned (.agg (ia m)) ∧ Below W.heap.size W w')) ∨ ((m1 = false ∨ m1 = true ∧ m2 = false) ∧ er = 1 ∧ d = zeros ∧ m = zeros)) :
    Calls Tryd.prog 4 #[.agg (ia b), .agg (ia q)] w fun e w' => e = .returned (.bool true) ∧ Below w.heap.size w w' := by
  have HZ := Lib.hid zeroB
  have HSZ := Lib.hid (sizeB zeros_len)
  have HSB := Lib.hid (sizeB hb)
  have HSQ := Lib.hid (sizeB hq)
  have HSD := Lib.hid (sizeB hd)
  have HSM := Lib.hid (sizeB hm)
  have HED : Hid ((ia zeros).size = (ia d).size) := same_size zeros_len hd
  have HEM : Hid ((ia zeros).size = (ia m).size) := same_size zeros_len hm
  have HOD := Lib.hid (one_ia d)
  have HOM := Lib.hid (one_ia m)
  have HW1 := Lib.hid (rwi_any q hq 1 255)
  have HW2 := Lib.hid (rwi_any b hb (-1048576) 1048576)
  rw [h1] at HW1
  rw [h2] at HW2
  have HDV := Lib.hid HD
  have HMU := Lib.hid HM
  have HL : Hid (b.length = 64 ∧ q.length = 64 ∧ d.length = 64 ∧ m.length = 64) := ⟨hb, hq, hd, hm⟩
  have HAW := Lib.hid awake_any
  have HEN := Lib.hid he
  clear HD HM h1 h2 he hb hq hd hm
  obtain ⟨w1, hw1, hb0, hb1, hB⟩ := two_blk w (ia b) (ia q) 23 23
  have H0 := Lib.hid hb0
  have H1 := Lib.hid hb1
  have B0 := Lib.hid hB
  clear hb0 hb1 hB
  go_enter Tryd.func4, Tryd.ntmps4
  go_upto_region 3 with (first
    | (rw [← hw1]; (with_reducible refine wpList_loadB _ rfl 23 (.tmp 2) rfl _ Tryd.underlying23 rfl w.heap.size rfl (ia b) H0.out HSB.out ?_))
    | (with_reducible refine wpList_loadB _ rfl 23 (.tmp 3) rfl _ Tryd.underlying23 rfl (w.heap.size + 1) rfl (ia q) H1.out HSQ.out ?_)
    | (go_at_call 14; (with_reducible refine (HDV.out _).mono ?_); rintro e w2 ⟨rfl, hb2⟩
       replace hb2 : Below w1.heap.size w1 w2 := (by rw [hw1]; simpa using hb2)
       have P2 := Lib.hid ((H0.out.below hb2).alloc (.cells (ia zeros) 23)); have Q2 := Lib.hid ((H1.out.below hb2).alloc (.cells (ia zeros) 23)); have N2 := Lib.hid (Blk.new w2 (ia zeros) 23)
       have z2 := Lib.hid (Nat.le_trans B0.out.size hb2.size); have y2 := Lib.hid (H1.out.below hb2).lt
       have B2 := Lib.hid ((B0.out.trans (hb2.mono B0.out.size)).alloc z2.out (.cells (ia zeros) 23)); clear hb2)
    | (with_reducible refine wpList_allocZ _ rfl 23 rfl (ia zeros) HZ.out ?_)
    | ((with_reducible refine wpList_storeB _ rfl 23 (.tmp 5) (.tmp 13) rfl w2.heap.size rfl (ia zeros) N2.out (ia d) rfl HSD.out HED.out HOD.out ?_)
       intro w4 hb4 hc4 hs4; have P4 := Lib.hid (P2.out.chg hc4 (fun e => by have := y2.out; omega)); have Q4 := Lib.hid (Q2.out.chg hc4 (fun e => by have := y2.out; omega)); have N4 := Lib.hid hb4; have B4 := Lib.hid (B2.out.trans (hc4.below B2.out.size (fun i e => by have := z2.out; omega))); clear hb4 hc4 hs4)
    | (with_reducible refine wpList_loadB _ rfl 23 (.tmp 2) rfl _ Tryd.underlying23 rfl w.heap.size rfl (ia b) P4.out HSB.out ?_)
    | (with_reducible refine wpList_loadB _ rfl 23 (.tmp 3) rfl _ Tryd.underlying23 rfl (w.heap.size + 1) rfl (ia q) Q4.out HSQ.out ?_)
    | (go_at_call 15; (with_reducible refine (HMU.out _).mono ?_); rintro e w5 ⟨rfl, hb5⟩
       have P5 := Lib.hid ((P4.out.below hb5).alloc (.cells (ia zeros) 23)); have Q5 := Lib.hid ((Q4.out.below hb5).alloc (.cells (ia zeros) 23)); have N5 := Lib.hid ((N4.out.below hb5).alloc (.cells (ia zeros) 23)); have M5 := Lib.hid (Blk.new w5 (ia zeros) 23)
       have z5 := Lib.hid (Nat.le_trans B4.out.size hb5.size); have y5 := Lib.hid (Q4.out.below hb5).lt; have x5 := Lib.hid (N4.out.below hb5).lt
       have B5 := Lib.hid ((B4.out.trans (hb5.mono B4.out.size)).alloc z5.out (.cells (ia zeros) 23)); clear hb5)
    | ((with_reducible refine wpList_storeB _ rfl 23 (.tmp 7) (.tmp 19) rfl w5.heap.size rfl (ia zeros) M5.out (ia m) rfl HSM.out HEM.out HOM.out ?_)
       intro w6 hb6 hc6 hs6; have K : Hid (K4 w w2.heap.size w5.heap.size b q d m w6) := ⟨P5.out.chg hc6 (fun e => by have := y5.out; omega), Q5.out.chg hc6 (fun e => by have := y5.out; omega), N5.out.chg hc6 (fun e => by have := x5.out; omega), hb6, B5.out.trans (hc6.below B5.out.size (fun i e => by have := z5.out; omega))⟩; clear hb6 hc6 hs6))
  generalize w2.heap.size = Cc at *
  generalize w5.heap.size = Dd at *
  clear P2 Q2 N2 z2 y2 B2 P4 Q4 N4 B4 P5 Q5 N5 M5 z5 y5 x5 B5 HDV HMU HSD HSM HED HEM HOD HOM H0 H1 B0 hw1 HZ
  have hG : ∀ W o x y l m, (eqGuard o 23 x y (.agg (ia l)) (.agg (ia m))).run Tryd.prog W = .ok () W := fun W o x y l m => run_eqGuard_agg W o 23 x y _ _ (by kernel_rfl)
  have hGZ : ∀ W o x y l, (eqGuard o 23 x y (.agg (ia l)) (.agg #[.int .i64 0, .int .i64 0, .int .i64 0, .int .i64 0, .int .i64 0, .int .i64 0, .int .i64 0, .int .i64 0, .int .i64 0, .int .i64 0, .int .i64 0, .int .i64 0, .int .i64 0, .int .i64 0, .int .i64 0, .int .i64 0, .int .i64 0, .int .i64 0, .int .i64 0, .int .i64 0, .int .i64 0, .int .i64 0, .int .i64 0, .int .i64 0, .int .i64 0, .int .i64 0, .int .i64 0, .int .i64 0, .int .i64 0, .int .i64 0, .int .i64 0, .int .i64 0, .int .i64 0, .int .i64 0, .int .i64 0, .int .i64 0, .int .i64 0, .int .i64 0, .int .i64 0, .int .i64 0, .int .i64 0, .int .i64 0, .int .i64 0, .int .i64 0, .int .i64 0, .int .i64 0, .int .i64 0, .int .i64 0, .int .i64 0, .int .i64 0, .int .i64 0, .int .i64 0, .int .i64 0, .int .i64 0, .int .i64 0, .int .i64 0, .int .i64 0, .int .i64 0, .int .i64 0, .int .i64 0, .int .i64 0, .int .i64 0, .int .i64 0, .int .i64 0])).run Tryd.prog W = .ok () W := fun W o x y l => run_eqGuard_agg W o 23 x y _ _ (by kernel_rfl)
  have hE1 : ∀ W, (Op.equalIn 10000 23 (.agg (ia d)) (.agg (ia d))).run Tryd.prog W = .ok true W := fun W => eqs64 HL.out.2.2.1
  have hE2 : ∀ W, (Op.equalIn 10000 23 (.agg (ia m)) (.agg (ia m))).run Tryd.prog W = .ok true W := fun W => eqs64 HL.out.2.2.2
  have hE3 : ∀ W, (Op.equalIn 10000 23 (.agg (ia zeros)) (.agg #[.int .i64 0, .int .i64 0, .int .i64 0, .int .i64 0, .int .i64 0, .int .i64 0, .int .i64 0, .int .i64 0, .int .i64 0, .int .i64 0, .int .i64 0, .int .i64 0, .int .i64 0, .int .i64 0, .int .i64 0, .int .i64 0, .int .i64 0, .int .i64 0, .int .i64 0, .int .i64 0, .int .i64 0, .int .i64 0, .int .i64 0, .int .i64 0, .int .i64 0, .int .i64 0, .int .i64 0, .int .i64 0, .int .i64 0, .int .i64 0, .int .i64 0, .int .i64 0, .int .i64 0, .int .i64 0, .int .i64 0, .int .i64 0, .int .i64 0, .int .i64 0, .int .i64 0, .int .i64 0, .int .i64 0, .int .i64 0, .int .i64 0, .int .i64 0, .int .i64 0, .int .i64 0, .int .i64 0, .int .i64 0, .int .i64 0, .int .i64 0, .int .i64 0, .int .i64 0, .int .i64 0, .int .i64 0, .int .i64 0, .int .i64 0, .int .i64 0, .int .i64 0, .int .i64 0, .int .i64 0, .int .i64 0, .int .i64 0, .int .i64 0, .int .i64 0])).run Tryd.prog W = .ok true W := fun W => eqs64 zeros_len
  rcases cs with ⟨rfl, rfl, rfl, hrd, hrm⟩ | ⟨hcs, rfl, rfl, rfl⟩
  · have HRD := Lib.hid hrd
    have HRM := Lib.hid hrm
    clear hrd hrm
    go_upto_region 5 with (first
      | (with_reducible refine wpList_loadB _ rfl 23 (.tmp 3) rfl _ Tryd.underlying23 rfl (w.heap.size + 1) rfl (ia q) K.out.q HSQ.out ?_)
      | (refine wpList_open (by rfl) (wpList_loadB _ rfl 23 (.tmp 2) rfl _ Tryd.underlying23 rfl w.heap.size rfl (ia b) K.out.b HSB.out ?_))
      | (go_at_call 7; (with_reducible refine (HW1.out _).mono ?_); rintro e w7 ⟨rfl, hb7⟩; replace K := Lib.hid (K.out.call hb7); clear hb7)
      | (go_at_call 7; (with_reducible refine (HW2.out _).mono ?_); rintro e w8 ⟨rfl, hb8⟩; replace K := Lib.hid (K.out.call hb8); clear hb8))
    refine wp_region_seq (K4 w Cc Dd b q d m) (by kernel_rfl) (by kernel_rfl) (by kernel_rfl) K.out.drew ?_
    repeat (
      first
        | (refine seq_off (by rfl) ?_)
        | (refine seq_load 23 (.tmp 2) _ (.agg (ia b)) (by rfl) rfl rfl (fun W hS => hS.b.ld HL.out.1) ?_)
        | (refine seq_load 23 (.tmp 3) _ (.agg (ia q)) (by rfl) rfl rfl (fun W hS => hS.q.ld HL.out.2.1) ?_)
        | (refine seq_load 23 (.tmp 5) _ (.agg (ia d)) (by rfl) rfl rfl (fun W hS => hS.d.ld HL.out.2.2.1) ?_)
        | (refine seq_load 23 (.tmp 7) _ (.agg (ia m)) (by rfl) rfl rfl (fun W hS => hS.m.ld HL.out.2.2.2) ?_)
        | (refine seq_callF 16 _ _ [.agg (ia b), .agg (ia q)] (by rfl) rfl (enters_of Tryd.func16 (by kernel_rfl) rfl) rfl (fun W hS => (HRD.out W).mono fun e w' h => ⟨h.1, hS.call h.2⟩) ?_)
        | (refine seq_callF 17 _ _ [.agg (ia b), .agg (ia q)] (by rfl) rfl (enters_of Tryd.func17 (by kernel_rfl) rfl) rfl (fun W hS => (HRM.out W).mono fun e w' h => ⟨h.1, hS.call h.2⟩) ?_)
        | (refine seq_callF 12 _ _ [] (by rfl) rfl (enters_of Tryd.func12 (by kernel_rfl) rfl) rfl (fun W hS => (HAW.out W (HEN.out.below hS.be)).mono fun e w' h => ⟨h.1, hS.call h.2⟩) ?_)
        | (apply seq_val (by rfl)
           focus (intro W hS; go_simp; try with_reducible rfl))
      simp only [Act.put, List.setIfInBounds_toArray, List.set_cons_zero, List.set_cons_succ])
    refine seq_nil fun W hS => ?_
    go_wp2
    go_ret
    exact ⟨rfl, hS.be⟩
  · rcases hcs with rfl | ⟨rfl, rfl⟩
    all_goals
      go_wp2_with (first
        | (with_reducible refine wpList_loadB _ rfl 23 (.tmp 3) rfl _ Tryd.underlying23 rfl (w.heap.size + 1) rfl (ia q) K.out.q HSQ.out ?_)
        | (refine wpList_open (by rfl) (wpList_loadB _ rfl 23 (.tmp 2) rfl _ Tryd.underlying23 rfl w.heap.size rfl (ia b) K.out.b HSB.out ?_))
        | (with_reducible refine wpList_loadB _ rfl 23 (.tmp 5) rfl _ Tryd.underlying23 rfl Cc rfl (ia zeros) K.out.d HSZ.out ?_)
        | (refine wpList_open (by rfl) (wpList_loadB _ rfl 23 (.tmp 7) rfl _ Tryd.underlying23 rfl Dd rfl (ia zeros) K.out.m HSZ.out ?_))
        | (go_at_call 7; (with_reducible refine (HW1.out _).mono ?_); rintro e w7 ⟨rfl, hb7⟩; replace K := Lib.hid (K.out.call hb7); clear hb7)
        | (go_at_call 7; (with_reducible refine (HW2.out _).mono ?_); rintro e w8 ⟨rfl, hb8⟩; replace K := Lib.hid (K.out.call hb8); clear hb8)
        | (go_at_call 12; (with_reducible refine (HAW.out _ (HEN.out.below K.out.be)).mono ?_); rintro e w9 ⟨rfl, hb9⟩; replace K := Lib.hid (K.out.call hb9); clear hb9))
      go_ret
      exact ⟨rfl, K.out.be⟩
theorem qd_any (b q : List Int) (hb : b.length = 64) (hq : q.length = 64) (w : World) (he : Env w) :
    Calls Tryd.prog 4 #[.agg (ia b), .agg (ia q)] w fun e w' => e = .returned (.bool true) ∧ Below w.heap.size w w' := by
  cases h1 : wiB q 1 255 with
  | false => exact qd_core b q zeros zeros hb hq zeros_len zeros_len 1 false (wiB b (-1048576) 1048576) w he (div_no b q hb hq (fun h => by rw [h1] at h; cases h)) (mul_no b q hb hq (fun h => by rw [h1] at h; cases h)) h1 rfl (.inr ⟨.inl rfl, rfl, rfl, rfl⟩)
  | true =>
    cases h2 : wiB b (-1048576) 1048576 with
    | false => exact qd_core b q zeros zeros hb hq zeros_len zeros_len 1 true false w he (div_no b q hb hq (fun _ => h2)) (mul_no b q hb hq (fun _ => h2)) h1 h2 (.inr ⟨.inr ⟨rfl, rfl⟩, rfl, rfl, rfl⟩)
    | true => exact qd_core b q (dvL b q) (mlL b q) hb hq (mapB_len _) (mapB_len _) 0 true true w he (div_yes b q hb hq h1 h2) (mul_yes b q hb hq h1 h2) h1 h2 (.inl ⟨rfl, rfl, rfl, rdiv_any b q hb hq h1 h2, rmul_any b q hb hq h1 h2⟩)
end Go.Proofs.YtipmbffpokplgaaDoor
