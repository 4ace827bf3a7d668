/- The law ColourBack. -/
import Derived.Test.YtefdimkiijmjbaaColI
import Derived.Test.YtefdimkiijmjbaaKb
namespace Go.Proofs.Ytefdimkiijmjbaa
open Go.RowKit Go.Lib
set_option linter.unusedVariables false
set_option maxRecDepth 100000
set_option maxHeartbeats 8000000 in
theorem cBack_any (r g b : Int) (w : World) (r0 : 0 ≤ r) (r1 : r ≤ 255) (g0 : 0 ≤ g) (g1 : g ≤ 255) (b0 : 0 ≤ b) (b1 : b ≤ 255) :
    Calls Try.prog 5 #[.int .u8 r, .int .u8 g, .int .u8 b] w fun e w' => e = .returned (.bool true) ∧ Below w.heap.size w w' := by
  have HL := Lib.hid (fun W => lLuma_at r g b _ _ _ W rfl)
  have HP := Lib.hid (fun W => lPaint_at (luY r g b) (luB r g b) (luR r g b) _ _ _ W rfl)
  have HOK := back_ok r g b r0 r1 g0 g1 b0 b1
  have i0 := luY_rng r g b
  have i1 := luB_rng r g b
  have i2 := luR_rng r g b
  have j0 := paR_rng (luY r g b) (luB r g b) (luR r g b)
  have j1 := paG_rng (luY r g b) (luB r g b) (luR r g b)
  have j2 := paB_rng (luY r g b) (luB r g b) (luR r g b)
  unfold BackOk Near at HOK
  generalize paR (luY r g b) (luB r g b) (luR r g b) = y0 at *
  generalize paG (luY r g b) (luB r g b) (luR r g b) = y1 at *
  generalize paB (luY r g b) (luB r g b) (luR r g b) = y2 at *
  generalize luY r g b = x0 at *
  generalize luB r g b = x1 at *
  generalize luR r g b = x2 at *
  have HG : Hid (∀ W, Calls Try.prog 9 #[.int .i64 r, .int .i64 r, .int .i64 r] W fun e w' => e = .returned (.agg #[.int .i64 r, .int .i64 128, .int .i64 128]) ∧ Below W.heap.size W w') := fun W => lLuma_at r r r r 128 128 W (by unfold lu3; obtain ⟨a1, a2, a3⟩ := lu_grey r0 r1; rw [a1, a2, a3])
  have HH : Hid (∀ W, Calls Try.prog 11 #[.int .i64 r, .int .i64 128, .int .i64 128] W fun e w' => e = .returned (.agg #[.int .i64 r, .int .i64 r, .int .i64 r]) ∧ Below W.heap.size W w') := fun W => lPaint_at r 128 128 r r r W (by unfold pa3; obtain ⟨a1, a2, a3⟩ := pa_grey r0 r1; rw [a1, a2, a3])
  have q1 : ∀ W, (Op.equalIn 10000 23 (.agg #[.int .i64 r, .int .i64 128, .int .i64 128]) (.agg #[.int .i64 r, .int .i64 128, .int .i64 128])).run Try.prog W = .ok true W := fun W => eqvs W r 128 128
  have q2 : ∀ W, (Op.equalIn 10000 23 (.agg #[.int .i64 r, .int .i64 r, .int .i64 r]) (.agg #[.int .i64 r, .int .i64 r, .int .i64 r])).run Try.prog W = .ok true W := fun W => eqvs W r r r
  have HZ := Lib.hid zero3
  have HS1 := Lib.hid (size3 x0 x1 x2)
  have HS2 := Lib.hid (size3 y0 y1 y2)
  have HS3 := Lib.hid (size3 r g b)
  have H1 := Lib.hid (one_ia [x0, x1, x2])
  have H2 := Lib.hid (one_ia [y0, y1, y2])
  have H3 := Lib.hid (one_ia [r, g, b])
  have HQ : Hid (∀ k, k < 3 → (0 ≤ [x0, x1, x2].getD k 0 ∧ [x0, x1, x2].getD k 0 ≤ 255) ∧ (0 ≤ [y0, y1, y2].getD k 0 ∧ [y0, y1, y2].getD k 0 ≤ 255) ∧ (0 ≤ [r, g, b].getD k 0 ∧ [r, g, b].getD k 0 ≤ 255) ∧ [y0, y1, y2].getD k 0 - [r, g, b].getD k 0 ≤ 1 ∧ [r, g, b].getD k 0 - [y0, y1, y2].getD k 0 ≤ 1) := by
    intro k hk
    obtain ⟨⟨a1, a2⟩, ⟨a3, a4⟩, a5, a6⟩ := HOK
    rcases k with _ | _ | _ | k
    · exact ⟨i0, j0, ⟨r0, r1⟩, a1, a2⟩
    · exact ⟨i1, j1, ⟨g0, g1⟩, a3, a4⟩
    · exact ⟨i2, j2, ⟨b0, b1⟩, a5, a6⟩
    · omega
  clear HOK i0 i1 i2 j0 j1 j2
  go_enter Try.func5, Try.ntmps5
  go_upto_region 2 with (first
    | (go_at_call 9; (with_reducible refine (HL.out _).mono ?_); rintro e w1 ⟨rfl, h1⟩; have K1 := Lib.hid ((Kb.refl w).call h1); clear h1)
    | (with_reducible refine wpList_allocZ _ rfl 23 rfl (ia [0, 0, 0]) HZ.out ?_)
    | ((refine wpList_storeB _ rfl 23 (.tmp 7) (.tmp 18) rfl w1.heap.size rfl (ia [0, 0, 0]) (Blk.new w1 _ _) (ia [x0, x1, x2]) (by rfl) HS1.out (by rfl) H1.out ?_)
       intro w2 hb2 hc2 hz2; have K2 := Lib.hid (K1.out.push hc2 hb2); clear hb2 hc2 hz2))
  have e0 := K2.out.cell 0 (k := 0) rfl (by show _ < 3; omega) rfl
  have e1 := K2.out.cell 0 (k := 1) rfl (by show _ < 3; omega) rfl
  have e2 := K2.out.cell 0 (k := 2) rfl (by show _ < 3; omega) rfl
  clear K1
  go_upto_region 3 with (first
    | (go_at_call 11; (with_reducible refine (HP.out _).mono ?_); rintro e w3 ⟨rfl, h3⟩; have K3 := Lib.hid (K2.out.call h3); clear h3 K2 e0 e1 e2)
    | (with_reducible refine wpList_allocZ _ rfl 23 rfl (ia [0, 0, 0]) HZ.out ?_)
    | ((refine wpList_storeB _ rfl 23 (.tmp 8) (.tmp 25) rfl w3.heap.size rfl (ia [0, 0, 0]) (Blk.new w3 _ _) (ia [y0, y1, y2]) (by rfl) HS2.out (by rfl) H2.out ?_)
       intro w4 hb4 hc4 hz4; have K4 := Lib.hid (K3.out.push hc4 hb4); clear hb4 hc4 hz4))
  clear K3
  go_upto_region 4 with (first
    | (with_reducible refine wpList_allocZ _ rfl 23 rfl (ia [0, 0, 0]) HZ.out ?_)
    | ((refine wpList_storeB _ rfl 23 (.tmp 9) (.tmp 32) rfl w4.heap.size rfl (ia [0, 0, 0]) (Blk.new w4 _ _) (ia [r, g, b]) (by rfl) HS3.out (by rfl) H3.out ?_)
       intro w5 hb5 hc5 hz5; have K5 := Lib.hid (K4.out.push hc5 hb5); clear hb5 hc5 hz5))
  clear K4
  generalize w1.heap.size = a1 at *
  generalize w3.heap.size = a2 at *
  generalize w4.heap.size = a3 at *
  go_wp2_with fail
  go_loopw [10] (fun i wr => ∃ k : Nat, k ≤ 3 ∧ i = .int .i64 k ∧ Hid (Kb w ([] ++ [(a1, [x0, x1, x2])] ++ [(a2, [y0, y1, y2])] ++ [(a3, [r, g, b])]) wr)) (fun i _ => 3 - (RowKit.intOf i).toNat)
  case atStart => exact ⟨0, Nat.zero_le _, rfl, K5⟩
  case round =>
    clear K5
    obtain ⟨k, hk, rfl, K⟩ := hrel
    by_cases hlt : k < 3
    · obtain ⟨⟨p0, p1⟩, ⟨p2, p3⟩, ⟨p4, p5⟩, p6, p7⟩ := HQ.out k hlt
      have HE : Hid (∀ W, Kb w ([] ++ [(a1, [x0, x1, x2])] ++ [(a2, [y0, y1, y2])] ++ [(a3, [r, g, b])]) W → W.cell? ⟨a1, k, none⟩ = some (.int .i64 ([x0, x1, x2].getD k 0)) ∧ W.cell? ⟨a2, k, none⟩ = some (.int .i64 ([y0, y1, y2].getD k 0)) ∧ W.cell? ⟨a3, k, none⟩ = some (.int .i64 ([r, g, b].getD k 0))) :=
        fun W h => ⟨h.cell 0 rfl (by simpa using hlt) rfl, h.cell 1 rfl (by simpa using hlt) rfl, h.cell 2 rfl (by simpa using hlt) rfl⟩
      generalize [x0, x1, x2].getD k 0 = X at *
      generalize [y0, y1, y2].getD k 0 = Y at *
      generalize [r, g, b].getD k 0 = Z at *
      have hk1 : (k : Int) < 3 := by omega
      have t1 : decide (X < 0) = false := by rw [decide_eq_false_iff_not]; omega
      have t2 : decide (255 < X) = false := by rw [decide_eq_false_iff_not]; omega
      have t3 : decide (Y < 0) = false := by rw [decide_eq_false_iff_not]; omega
      have t4 : decide (255 < Y) = false := by rw [decide_eq_false_iff_not]; omega
      have u1 : IntKind.i64.wrap (Y - Z) = Y - Z := IntWalk.i64_in _ (by omega)
      have u2 : IntKind.i64.wrap (Z - Y) = Z - Y := IntWalk.i64_in _ (by omega)
      go_wp2
      refine wp_region_seq (Kb w ([] ++ [(a1, [x0, x1, x2])] ++ [(a2, [y0, y1, y2])] ++ [(a3, [r, g, b])])) (by kernel_rfl) (by kernel_rfl) (by kernel_rfl) K.out.drew ?_
      repeat (
        first
          | (apply seq_val (by rfl)
             focus (intro W hS; have e0 := (HE.out W hS).1; have e1 := (HE.out W hS).2.1; have e2 := (HE.out W hS).2.2; go_simp; (try with_reducible rfl); done))
        simp only [Act.put, List.setIfInBounds_toArray, List.set_cons_zero, List.set_cons_succ])
      refine seq_nil fun W hS => ?_
      have KW := Lib.hid hS
      clear hS
      go_wp2
      go_roundw
      case rel => exact ⟨k + 1, by omega, by go_num, KW⟩
      case measure => simp [RowKit.intOf]; omega
    · have B5 := K.out.be
      clear K HQ
      go_wp2_with fail
      (with_reducible refine (HG.out _).mono ?_); rintro e w6 ⟨rfl, h6⟩
      have B6 := B5.trans (h6.mono B5.size)
      clear h6 B5
      go_wp2_with fail
      (with_reducible refine (HH.out _).mono ?_); rintro e w7 ⟨rfl, h7⟩
      have B7 := B6.trans (h7.mono B6.size)
      clear h7 B6
      go_wp2_with fail
      (with_reducible refine (awake_any _).mono ?_); rintro e w8 ⟨rfl, h8⟩
      have B8 := B7.trans (h8.mono B7.size)
      go_wp2
      go_ret
      exact ⟨rfl, B8⟩
end Go.Proofs.Ytefdimkiijmjbaa
