/- The law RasterTells (written by tools/gen_raS.py). -/
import Derived.Test.YtogpnpcdghabmaaRaR
import Derived.Deep.Cut
import Derived.Deep.DeepCutAuto
namespace Go.Proofs.Ytogpnpcdghabmaa
open Go.RowKit Go.Lib
set_option linter.unusedVariables false
set_option maxRecDepth 100000
theorem sizeU8 (w : World) : (sizeOf 5).run Try.prog w = .ok 1 w := by
  obtain ⟨i0, hi, hz0, hz1, hz2⟩ := info_parts Try.info5
  simp [sizeOf, typeInfo, hi, hz1]
/-- The zero colours are the same. -/
theorem eq_zeroA (w : World) : (Op.equalIn 10000 27 (.agg #[.int .u8 0, .int .u8 0, .int .u8 0]) (.agg #[.int .u8 0, .int .u8 0, .int .u8 0])).run Try.prog w = .ok true w := by
  have he := Try.underlying5
  have ht := Try.underlying27
  have pe : ∀ d, (Op.equalIn (d + 1) 5 (.int .u8 0) (.int .u8 0)).run Try.prog w = .ok true w := fun d => by
    have := run_equalIn_int (P := Try.prog) w d 5 .u8 .u8 0 0 he
    simpa using this
  have px0 : (part 5 #[.int .u8 0, .int .u8 0, .int .u8 0] 0).run Try.prog w = .ok (.int .u8 0) w := by simp [part, isAgg, run_underlying he]
  have px1 : (part 5 #[.int .u8 0, .int .u8 0, .int .u8 0] 1).run Try.prog w = .ok (.int .u8 0) w := by simp [part, isAgg, run_underlying he]
  have px2 : (part 5 #[.int .u8 0, .int .u8 0, .int .u8 0] 2).run Try.prog w = .ok (.int .u8 0) w := by simp [part, isAgg, run_underlying he]
  have pe9 := pe 9998
  show (Op.equalIn (9998 + 2) _ _ _).run _ _ = _
  rw [Op.equalIn]
  simp only [Sem.run_bind, run_underlying ht, Result.andThen_ok, sizeU8, Std.Legacy.Range.forIn_eq_forIn_range', Std.Legacy.Range.size, Nat.sub_zero, Nat.add_sub_cancel, Nat.div_one]
  simp [List.range', px0, px1, px2, pe9, Sem.run_bind]
/-- The size that fits, or why not. -/
theorem fit_all (a b c d : Int) : ∃ p q e : Int, (∀ w, Calls Try.prog 12 #[.int .i64 a, .int .i64 b, .int .i64 c, .int .i64 d] w fun e' w' => e' = .returned (.tuple #[.int .i64 p, .int .i64 q, .int .i64 e]) ∧ Below w.heap.size w w') ∧
    (sd4 a b c d = true → e = 0 ∧ ∀ w, Calls Try.prog 14 #[.int .i64 a, .int .i64 b, .int .i64 c, .int .i64 d] w fun e' w' => e' = .returned (.tuple #[.int .i64 p, .int .i64 q]) ∧ Below w.heap.size w w') ∧ (sd4 a b c d = false → p = 0 ∧ q = 0 ∧ e = 1) := by
  cases h : sd4 a b c d with
  | false => exact ⟨0, 0, 1, fun w => fit_no a b c d w h, (fun e => by cases e), fun _ => ⟨rfl, rfl, rfl⟩⟩
  | true =>
    unfold sd4 at h
    simp only [Bool.and_eq_true] at h
    obtain ⟨⟨⟨h1, h2⟩, h3⟩, h4⟩ := h
    have q1 := sd_yes h1
    have q2 := sd_yes h2
    have q3 := sd_yes h3
    have q4 := sd_yes h4
    obtain ⟨a', rfl⟩ : ∃ k : Nat, a = (k : Int) := ⟨a.toNat, by omega⟩
    obtain ⟨b', rfl⟩ : ∃ k : Nat, b = (k : Int) := ⟨b.toNat, by omega⟩
    obtain ⟨c', rfl⟩ : ∃ k : Nat, c = (k : Int) := ⟨c.toNat, by omega⟩
    obtain ⟨d', rfl⟩ : ∃ k : Nat, d = (k : Int) := ⟨d.toNat, by omega⟩
    exact ⟨_, _, 0, fun w => fit_yes a' b' c' d' w (by omega) (by omega) (by omega) (by omega) (by omega) (by omega) (by omega) (by omega), fun _ => ⟨rfl, fun w => rFit_yes a' b' c' d' w (by omega) (by omega) (by omega) (by omega) (by omega) (by omega) (by omega) (by omega)⟩, (fun e => by cases e)⟩
/-- The colour of a place, or none. -/
theorem at_all (l : List UInt8) (W H x y : Int) (A : Option Addr) (n c : Nat) (hn : n = l.length) (hnc : n ≤ c) (hcm : c ≤ maxLen) : ∃ z0 z1 z2 : Int, (∀ w, Rd w A l → Calls Try.prog 9 #[ra W H (.slice A n c), .int .i64 x, .int .i64 y] w fun e w' => e = .returned (.tuple #[.agg #[.int .u8 z0, .int .u8 z1, .int .u8 z2], .bool (may9 W H n && has9 W H x y)]) ∧ Below w.heap.size w w') ∧
    (0 ≤ z0 ∧ z0 ≤ 255 ∧ 0 ≤ z1 ∧ z1 ≤ 255 ∧ 0 ≤ z2 ∧ z2 ≤ 255) ∧ ((may9 W H n && has9 W H x y) = false → z0 = 0 ∧ z1 = 0 ∧ z2 = 0) ∧
    ((may9 W H n && has9 W H x y) = true → (∀ w, Rd w A l → Calls Try.prog 11 #[ra W H (.slice A n c), .int .i64 x, .int .i64 y, .int .i64 0] w fun e w' => e = .returned (.int .i64 z0) ∧ Below w.heap.size w w') ∧
      (∀ w, Rd w A l → Calls Try.prog 11 #[ra W H (.slice A n c), .int .i64 x, .int .i64 y, .int .i64 1] w fun e w' => e = .returned (.int .i64 z1) ∧ Below w.heap.size w w') ∧
      (∀ w, Rd w A l → Calls Try.prog 11 #[ra W H (.slice A n c), .int .i64 x, .int .i64 y, .int .i64 2] w fun e w' => e = .returned (.int .i64 z2) ∧ Below w.heap.size w w')) := by
  cases h : (may9 W H n && has9 W H x y) with
  | false => exact ⟨0, 0, 0, fun w hr => at_no W H A n c x y w h, by decide, fun _ => ⟨rfl, rfl, rfl⟩, fun e => by cases e⟩
  | true =>
    subst hn
    rw [Bool.and_eq_true] at h
    obtain ⟨a, b, rfl, rfl, hp⟩ := pc_of h.1
    obtain ⟨h1, h2, h3, h4⟩ := has_yes h.2
    obtain ⟨x', rfl⟩ : ∃ k : Nat, x = (k : Int) := ⟨x.toNat, by omega⟩
    obtain ⟨y', rfl⟩ : ∃ k : Nat, y = (k : Int) := ⟨y.toNat, by omega⟩
    have r0 := pb_rng l (at3 a x' y' 0)
    have r1 := pb_rng l (at3 a x' y' 1)
    have r2 := pb_rng l (at3 a x' y' 2)
    refine ⟨_, _, _, fun w hr => at_yes l a b hp A l.length c rfl hnc hcm w hr x' y' (by omega) (by omega), ⟨r0.1, r0.2, r1.1, r1.2, r2.1, r2.2⟩, (fun e => by cases e), fun _ => ⟨fun w hr => ?_, fun w hr => ?_, fun w hr => ?_⟩⟩
    · exact byte_any l a b hp A l.length c rfl w hr x' y' 0 (by omega) (by omega) (by omega)
    · exact byte_any l a b hp A l.length c rfl w hr x' y' 1 (by omega) (by omega) (by omega)
    · exact byte_any l a b hp A l.length c rfl w hr x' y' 2 (by omega) (by omega) (by omega)
set_option maxHeartbeats 8000000 in
theorem tells_any (l : List UInt8) (W H x y wide high : Int) (A : Option Addr) (n c : Nat) (hn : n = l.length) (hnc : n ≤ c) (hcm : c ≤ maxLen) (w : World) (hr : Rd w A l) :
    Calls Try.prog 3 #[.agg #[.int .i64 W, .int .i64 H, .slice A n c], .int .i64 x, .int .i64 y, .int .i64 wide, .int .i64 high] w fun e w' => e = .returned (.bool true) ∧ Below w.heap.size w w' := by
  have K0 := Lib.hid ((Kc.refl w).new #[.int .i64 W, .int .i64 H, .slice A n c] 24 w.heap.size rfl)
  by_cases hlen : 3000 < n
  · have hd : decide ((n : Int) > 3000) = true := decide_eq_true (by omega)
    clear hlen hr hn hnc hcm
    go_enter Try.func3, Try.ntmps3
    go_wp2_with fail
    (with_reducible refine (awake_any _).mono ?_); rintro e w1 ⟨rfl, h1⟩
    go_wp2
    go_ret
    exact ⟨rfl, (K0.out.call h1).be⟩
  · have hd : decide ((n : Int) > 3000) = false := decide_eq_false (by omega)
    have HMR := Lib.hid (fun W' => rMay_any W H A n c W')
    have HMY := Lib.hid (fun W' => may_any W H A n c W')
    obtain ⟨z0, z1, z2, hat, hzr, hz0, hzb⟩ := at_all l W H x y A n c hn hnc hcm
    obtain ⟨fp, fq, fe, hfit, hf1, hf0⟩ := fit_all W H wide high
    have HAT := Lib.hid hat
    have HZR := Lib.hid hzr
    have HZ0 := Lib.hid hz0
    have HZB := Lib.hid hzb
    have HFT := Lib.hid hfit
    have HF1 := Lib.hid hf1
    have HF0 := Lib.hid hf0
    have HTH : Hid ((may9 W H n && has9 W H x y) = (may9 W H n && (decide (x ≥ 0) && (decide (y ≥ 0) && (decide (x < W) && decide (y < H)))))) := by
      show _ = _
      unfold has9
      cases may9 W H n <;> cases hx0 : decide (0 ≤ x) <;> cases hx1 : decide (x < W) <;> cases hy0 : decide (0 ≤ y) <;> cases hy1 : decide (y < H) <;> simp_all
    have HS4 : Hid (sd4 W H wide high = (sd W && (sd H && (sd wide && sd high)))) := by
      show _ = _
      unfold sd4
      rw [Bool.and_assoc, Bool.and_assoc]
    have HZW := Lib.hid (fun W' => rSize_any W W')
    have HZH := Lib.hid (fun W' => rSize_any H W')
    have HZI := Lib.hid (fun W' => rSize_any wide W')
    have HZG := Lib.hid (fun W' => rSize_any high W')
    have HR := Lib.hid hr
    have HE := Lib.hid ent_byte
    generalize hth : (may9 W H n && has9 W H x y) = TH at *
    clear hat hzr hz0 hzb hfit hf1 hf0 hr hn hnc hcm hlen hth
    generalize may9 W H n = M at *
    generalize sd4 W H wide high = S4 at *
    unfold ra at *
    go_enter Try.func3, Try.ntmps3
    go_wp2_with fail
    (with_reducible refine (HMR.out _).mono ?_); rintro e w1 ⟨rfl, h1⟩
    have K1 := Lib.hid (K0.out.call h1)
    clear K0 h1
    have e0 := K1.out.cell 0 0 rfl rfl
    have e1 := K1.out.cell 0 1 rfl rfl
    have e2 := K1.out.cell 0 2 rfl rfl
    go_wp2_with fail
    (with_reducible refine (HAT.out _ (HR.out.below K1.out.be)).mono ?_); rintro e w2 ⟨rfl, h2⟩
    clear e0 e1 e2
    have K2 := Lib.hid ((K1.out.call h2).new #[.int .u8 z0, .int .u8 z1, .int .u8 z2] 27 w2.heap.size rfl)
    clear K1 h2
    have e0 := K2.out.cell 0 0 rfl rfl
    have e1 := K2.out.cell 0 1 rfl rfl
    have e2 := K2.out.cell 0 2 rfl rfl
    have d0 := K2.out.cell 1 0 rfl rfl
    have d1 := K2.out.cell 1 1 rfl rfl
    have d2 := K2.out.cell 1 2 rfl rfl
    go_upto_region 5 with fail
    generalize w2.alloc (.cells #[.int .u8 z0, .int .u8 z1, .int .u8 z2] 27) = w3 at *
    go_cut [11, 14] (fun s11 s14 wx => s11 = .bool M ∧ s14 = .bool TH ∧ wx = w3)
    case first => as_aux_lemma =>
      clear HAT HZR HZ0 HZB HFT HF1 HF0 HS4 HZW HZH HZI HZG HR HE K2 d0 d1 d2 e2 HMR HMY
      cases hm : M with
      | false =>
        rw [hm] at HTH
        go_wp2_with fail
        go_meet
        exact ⟨by rw [hm], by rw [HTH.out]; rfl, rfl⟩
      | true =>
        cases k0 : decide (x ≥ 0) with
        | false =>
          rw [hm, k0] at HTH
          go_wp2_with fail
          go_meet
          exact ⟨by rw [hm], by rw [HTH.out]; rfl, rfl⟩
        | true =>
          cases k1 : decide (y ≥ 0) with
          | false =>
            rw [hm, k0, k1] at HTH
            go_wp2_with fail
            go_meet
            exact ⟨by rw [hm], by rw [HTH.out]; rfl, rfl⟩
          | true =>
            cases k2 : decide (x < W) with
            | false =>
              rw [hm, k0, k1, k2] at HTH
              go_wp2_with fail
              go_meet
              exact ⟨by rw [hm], by rw [HTH.out]; rfl, rfl⟩
            | true =>
              cases k3 : decide (y < H) with
              | false =>
                rw [hm, k0, k1, k2, k3] at HTH
                go_wp2_with fail
                go_meet
                exact ⟨by rw [hm], by rw [HTH.out]; rfl, rfl⟩
              | true =>
                rw [hm, k0, k1, k2, k3] at HTH
                go_wp2_with fail
                go_meet
                exact ⟨by rw [hm], by rw [HTH.out]; rfl, rfl⟩
    case rest =>
      (obtain ⟨rfl, rfl, hh⟩ := hcut; subst wc)
      cases TH with
      | true =>
        obtain ⟨HY0, HY1, HY2⟩ := HZB.out rfl
        have HY0 := Lib.hid HY0
        have HY1 := Lib.hid HY1
        have HY2 := Lib.hid HY2
        clear HZ0 HZB HTH
        go_wp2_with fail
        (with_reducible refine (HMY.out _).mono ?_); rintro e w4 ⟨rfl, h4⟩
        have K0 := Lib.hid (K2.out.call h4)
        clear K2 h4 e0 e1 e2 d0 d1 d2
        go_wp2_with fail
        have j0 : IntKind.i64.wrap z0 = z0 := IntWalk.i64_in _ (by have := HZR.out; omega)
        have j1 : IntKind.i64.wrap z1 = z1 := IntWalk.i64_in _ (by have := HZR.out; omega)
        have j2 : IntKind.i64.wrap z2 = z2 := IntWalk.i64_in _ (by have := HZR.out; omega)
        refine wp_loop_rounds 4 ?_
        rw [rounds_succ]
        go_wp2
        refine wp_region_seq (fun W' => Kc w [(w.heap.size, #[.int .i64 W, .int .i64 H, .slice A n c]), (w2.heap.size, #[.int .u8 z0, .int .u8 z1, .int .u8 z2])] W') (by kernel_rfl) (by kernel_rfl) (by kernel_rfl) (K0.out.drew) ?_
        clear K0
        repeat (
          first
            | (refine seq_call (v := .int .i64 z0) (f := 11) (args := #[.agg #[.int .i64 W, .int .i64 H, .slice A n c], .int .i64 x, .int .i64 y, .int .i64 0]) (by rfl) ?_ ?_ ?_
               focus (intro U; have eg : ∀ args w, (callFunc 11 args).run Try.prog w = .ok (.enter 11 args) w := HE.out; unfold execOp; simp [resolve, invoke, go_sem, eg]; done)
               focus (intro U hS; exact (HY0.out U (HR.out.below hS.be)).mono fun e w' h => ⟨h.1, hS.call h.2⟩))
            | (apply seq_val (by rfl); focus (intro U hS; have e0 := hS.cell 0 0 rfl rfl; have e1 := hS.cell 0 1 rfl rfl; have e2 := hS.cell 0 2 rfl rfl; have d0 := hS.cell 1 0 rfl rfl; have d1 := hS.cell 1 1 rfl rfl; have d2 := hS.cell 1 2 rfl rfl; go_simp; (try with_reducible rfl); done))
          simp only [Act.put, List.setIfInBounds_toArray, List.set_cons_zero, List.set_cons_succ])
        intro U0 hS0
        have K1 := Lib.hid hS0
        clear hS0
        go_wp2
        rw [rounds_succ]
        go_wp2
        refine wp_region_seq (fun W' => Kc w [(w.heap.size, #[.int .i64 W, .int .i64 H, .slice A n c]), (w2.heap.size, #[.int .u8 z0, .int .u8 z1, .int .u8 z2])] W') (by kernel_rfl) (by kernel_rfl) (by kernel_rfl) (K1.out.drew) ?_
        clear K1
        repeat (
          first
            | (refine seq_call (v := .int .i64 z1) (f := 11) (args := #[.agg #[.int .i64 W, .int .i64 H, .slice A n c], .int .i64 x, .int .i64 y, .int .i64 1]) (by rfl) ?_ ?_ ?_
               focus (intro U; have eg : ∀ args w, (callFunc 11 args).run Try.prog w = .ok (.enter 11 args) w := HE.out; unfold execOp; simp [resolve, invoke, go_sem, eg]; done)
               focus (intro U hS; exact (HY1.out U (HR.out.below hS.be)).mono fun e w' h => ⟨h.1, hS.call h.2⟩))
            | (apply seq_val (by rfl); focus (intro U hS; have e0 := hS.cell 0 0 rfl rfl; have e1 := hS.cell 0 1 rfl rfl; have e2 := hS.cell 0 2 rfl rfl; have d0 := hS.cell 1 0 rfl rfl; have d1 := hS.cell 1 1 rfl rfl; have d2 := hS.cell 1 2 rfl rfl; go_simp; (try with_reducible rfl); done))
          simp only [Act.put, List.setIfInBounds_toArray, List.set_cons_zero, List.set_cons_succ])
        intro U1 hS1
        have K2 := Lib.hid hS1
        clear hS1
        go_wp2
        rw [rounds_succ]
        go_wp2
        refine wp_region_seq (fun W' => Kc w [(w.heap.size, #[.int .i64 W, .int .i64 H, .slice A n c]), (w2.heap.size, #[.int .u8 z0, .int .u8 z1, .int .u8 z2])] W') (by kernel_rfl) (by kernel_rfl) (by kernel_rfl) (K2.out.drew) ?_
        clear K2
        repeat (
          first
            | (refine seq_call (v := .int .i64 z2) (f := 11) (args := #[.agg #[.int .i64 W, .int .i64 H, .slice A n c], .int .i64 x, .int .i64 y, .int .i64 2]) (by rfl) ?_ ?_ ?_
               focus (intro U; have eg : ∀ args w, (callFunc 11 args).run Try.prog w = .ok (.enter 11 args) w := HE.out; unfold execOp; simp [resolve, invoke, go_sem, eg]; done)
               focus (intro U hS; exact (HY2.out U (HR.out.below hS.be)).mono fun e w' h => ⟨h.1, hS.call h.2⟩))
            | (apply seq_val (by rfl); focus (intro U hS; have e0 := hS.cell 0 0 rfl rfl; have e1 := hS.cell 0 1 rfl rfl; have e2 := hS.cell 0 2 rfl rfl; have d0 := hS.cell 1 0 rfl rfl; have d1 := hS.cell 1 1 rfl rfl; have d2 := hS.cell 1 2 rfl rfl; go_simp; (try with_reducible rfl); done))
          simp only [Act.put, List.setIfInBounds_toArray, List.set_cons_zero, List.set_cons_succ])
        intro U2 hS2
        have K3 := Lib.hid hS2
        clear hS2
        go_wp2
        rw [rounds_succ]
        have e0 := K3.out.cell 0 0 rfl rfl
        have e1 := K3.out.cell 0 1 rfl rfl
        go_wp2_with fail
        (with_reducible refine (HFT.out _).mono ?_); rintro e w5 ⟨rfl, h5⟩
        have K5 := Lib.hid (K3.out.call h5)
        clear K3 h5 e0 e1
        have e0 := K5.out.cell 0 0 rfl rfl
        have e1 := K5.out.cell 0 1 rfl rfl
        go_upto_region 14 with fail
        go_cut [121] (fun c wx => c = .bool (!S4) ∧ wx = w5)
        case first => as_aux_lemma =>
          clear HFT HF1 HF0 HR HE K5 HZR
          cases k0 : sd W with
          | false =>
            rw [k0] at HS4
            rw [k0] at HZW
            go_wp2_with (first
              | (go_at_call 13; first
                 | ((with_reducible refine (HZW.out _).mono ?_); rintro e w6 ⟨rfl, rfl⟩)))
            go_meet
            exact ⟨by rw [HS4.out]; rfl, rfl⟩
          | true =>
            cases k1 : sd H with
            | false =>
              rw [k0, k1] at HS4
              rw [k0] at HZW
              rw [k1] at HZH
              go_wp2_with (first
                | (go_at_call 13; first
                   | ((with_reducible refine (HZW.out _).mono ?_); rintro e w6 ⟨rfl, rfl⟩)
                   | ((with_reducible refine (HZH.out _).mono ?_); rintro e w6 ⟨rfl, rfl⟩)))
              go_meet
              exact ⟨by rw [HS4.out]; rfl, rfl⟩
            | true =>
              cases k2 : sd wide with
              | false =>
                rw [k0, k1, k2] at HS4
                rw [k0] at HZW
                rw [k1] at HZH
                rw [k2] at HZI
                go_wp2_with (first
                  | (go_at_call 13; first
                     | ((with_reducible refine (HZW.out _).mono ?_); rintro e w6 ⟨rfl, rfl⟩)
                     | ((with_reducible refine (HZH.out _).mono ?_); rintro e w6 ⟨rfl, rfl⟩)
                     | ((with_reducible refine (HZI.out _).mono ?_); rintro e w6 ⟨rfl, rfl⟩)))
                go_meet
                exact ⟨by rw [HS4.out]; rfl, rfl⟩
              | true =>
                cases k3 : sd high with
                | false =>
                  rw [k0, k1, k2, k3] at HS4
                  rw [k0] at HZW
                  rw [k1] at HZH
                  rw [k2] at HZI
                  rw [k3] at HZG
                  go_wp2_with (first
                    | (go_at_call 13; first
                       | ((with_reducible refine (HZW.out _).mono ?_); rintro e w6 ⟨rfl, rfl⟩)
                       | ((with_reducible refine (HZH.out _).mono ?_); rintro e w6 ⟨rfl, rfl⟩)
                       | ((with_reducible refine (HZI.out _).mono ?_); rintro e w6 ⟨rfl, rfl⟩)
                       | ((with_reducible refine (HZG.out _).mono ?_); rintro e w6 ⟨rfl, rfl⟩)))
                  go_meet
                  exact ⟨by rw [HS4.out]; rfl, rfl⟩
                | true =>
                  rw [k0, k1, k2, k3] at HS4
                  rw [k0] at HZW
                  rw [k1] at HZH
                  rw [k2] at HZI
                  rw [k3] at HZG
                  go_wp2_with (first
                    | (go_at_call 13; first
                       | ((with_reducible refine (HZW.out _).mono ?_); rintro e w6 ⟨rfl, rfl⟩)
                       | ((with_reducible refine (HZH.out _).mono ?_); rintro e w6 ⟨rfl, rfl⟩)
                       | ((with_reducible refine (HZI.out _).mono ?_); rintro e w6 ⟨rfl, rfl⟩)
                       | ((with_reducible refine (HZG.out _).mono ?_); rintro e w6 ⟨rfl, rfl⟩)))
                  go_meet
                  exact ⟨by rw [HS4.out]; rfl, rfl⟩
        case rest =>
          (obtain ⟨rfl, hh⟩ := hcut; subst wc)
          cases S4 with
          | false =>
            obtain ⟨rfl, rfl, rfl⟩ := HF0.out rfl
            clear HF1 HF0
            go_wp2_with fail
            (with_reducible refine (awake_any _).mono ?_); rintro e w6 ⟨rfl, h6⟩
            have K6 := Lib.hid (K5.out.call h6)
            go_wp2
            go_ret
            exact ⟨rfl, K6.out.be⟩
          | true =>
            obtain ⟨rfl, hrf⟩ := HF1.out rfl
            have HRF := Lib.hid hrf
            clear HF1 HF0 hrf
            go_wp2_with fail
            (with_reducible refine (HRF.out _).mono ?_); rintro e w6 ⟨rfl, h6⟩
            have K6 := Lib.hid (K5.out.call h6)
            clear K5 h6 e0 e1
            go_wp2_with fail
            (with_reducible refine (awake_any _).mono ?_); rintro e w7 ⟨rfl, h7⟩
            have K7 := Lib.hid (K6.out.call h7)
            go_wp2
            go_ret
            exact ⟨rfl, K7.out.be⟩
      | false =>
        obtain ⟨rfl, rfl, rfl⟩ := HZ0.out rfl
        have q1 := eq_zeroA
        clear HZ0 HZB HTH
        go_wp2_with fail
        (with_reducible refine (HMY.out _).mono ?_); rintro e w4 ⟨rfl, h4⟩
        have K3 := Lib.hid (K2.out.call h4)
        clear K2 h4 e0 e1 e2 d0 d1 d2
        have d0 := K3.out.cell 1 0 rfl rfl
        have d1 := K3.out.cell 1 1 rfl rfl
        have d2 := K3.out.cell 1 2 rfl rfl
        have e0 := K3.out.cell 0 0 rfl rfl
        have e1 := K3.out.cell 0 1 rfl rfl
        go_wp2_with fail
        refine wp_loop_rounds 1 ?_
        rw [rounds_succ]
        go_wp2_with fail
        (with_reducible refine (HFT.out _).mono ?_); rintro e w5 ⟨rfl, h5⟩
        have K5 := Lib.hid (K3.out.call h5)
        clear K3 h5 e0 e1
        have e0 := K5.out.cell 0 0 rfl rfl
        have e1 := K5.out.cell 0 1 rfl rfl
        go_upto_region 14 with fail
        go_cut [121] (fun c wx => c = .bool (!S4) ∧ wx = w5)
        case first => as_aux_lemma =>
          clear HFT HF1 HF0 HR HE K5 HZR
          cases k0 : sd W with
          | false =>
            rw [k0] at HS4
            rw [k0] at HZW
            go_wp2_with (first
              | (go_at_call 13; first
                 | ((with_reducible refine (HZW.out _).mono ?_); rintro e w6 ⟨rfl, rfl⟩)))
            go_meet
            exact ⟨by rw [HS4.out]; rfl, rfl⟩
          | true =>
            cases k1 : sd H with
            | false =>
              rw [k0, k1] at HS4
              rw [k0] at HZW
              rw [k1] at HZH
              go_wp2_with (first
                | (go_at_call 13; first
                   | ((with_reducible refine (HZW.out _).mono ?_); rintro e w6 ⟨rfl, rfl⟩)
                   | ((with_reducible refine (HZH.out _).mono ?_); rintro e w6 ⟨rfl, rfl⟩)))
              go_meet
              exact ⟨by rw [HS4.out]; rfl, rfl⟩
            | true =>
              cases k2 : sd wide with
              | false =>
                rw [k0, k1, k2] at HS4
                rw [k0] at HZW
                rw [k1] at HZH
                rw [k2] at HZI
                go_wp2_with (first
                  | (go_at_call 13; first
                     | ((with_reducible refine (HZW.out _).mono ?_); rintro e w6 ⟨rfl, rfl⟩)
                     | ((with_reducible refine (HZH.out _).mono ?_); rintro e w6 ⟨rfl, rfl⟩)
                     | ((with_reducible refine (HZI.out _).mono ?_); rintro e w6 ⟨rfl, rfl⟩)))
                go_meet
                exact ⟨by rw [HS4.out]; rfl, rfl⟩
              | true =>
                cases k3 : sd high with
                | false =>
                  rw [k0, k1, k2, k3] at HS4
                  rw [k0] at HZW
                  rw [k1] at HZH
                  rw [k2] at HZI
                  rw [k3] at HZG
                  go_wp2_with (first
                    | (go_at_call 13; first
                       | ((with_reducible refine (HZW.out _).mono ?_); rintro e w6 ⟨rfl, rfl⟩)
                       | ((with_reducible refine (HZH.out _).mono ?_); rintro e w6 ⟨rfl, rfl⟩)
                       | ((with_reducible refine (HZI.out _).mono ?_); rintro e w6 ⟨rfl, rfl⟩)
                       | ((with_reducible refine (HZG.out _).mono ?_); rintro e w6 ⟨rfl, rfl⟩)))
                  go_meet
                  exact ⟨by rw [HS4.out]; rfl, rfl⟩
                | true =>
                  rw [k0, k1, k2, k3] at HS4
                  rw [k0] at HZW
                  rw [k1] at HZH
                  rw [k2] at HZI
                  rw [k3] at HZG
                  go_wp2_with (first
                    | (go_at_call 13; first
                       | ((with_reducible refine (HZW.out _).mono ?_); rintro e w6 ⟨rfl, rfl⟩)
                       | ((with_reducible refine (HZH.out _).mono ?_); rintro e w6 ⟨rfl, rfl⟩)
                       | ((with_reducible refine (HZI.out _).mono ?_); rintro e w6 ⟨rfl, rfl⟩)
                       | ((with_reducible refine (HZG.out _).mono ?_); rintro e w6 ⟨rfl, rfl⟩)))
                  go_meet
                  exact ⟨by rw [HS4.out]; rfl, rfl⟩
        case rest =>
          (obtain ⟨rfl, hh⟩ := hcut; subst wc)
          cases S4 with
          | false =>
            obtain ⟨rfl, rfl, rfl⟩ := HF0.out rfl
            clear HF1 HF0
            go_wp2_with fail
            (with_reducible refine (awake_any _).mono ?_); rintro e w6 ⟨rfl, h6⟩
            have K6 := Lib.hid (K5.out.call h6)
            go_wp2
            go_ret
            exact ⟨rfl, K6.out.be⟩
          | true =>
            obtain ⟨rfl, hrf⟩ := HF1.out rfl
            have HRF := Lib.hid hrf
            clear HF1 HF0 hrf
            go_wp2_with fail
            (with_reducible refine (HRF.out _).mono ?_); rintro e w6 ⟨rfl, h6⟩
            have K6 := Lib.hid (K5.out.call h6)
            clear K5 h6 e0 e1
            go_wp2_with fail
            (with_reducible refine (awake_any _).mono ?_); rintro e w7 ⟨rfl, h7⟩
            have K7 := Lib.hid (K6.out.call h7)
            go_wp2
            go_ret
            exact ⟨rfl, K7.out.be⟩
end Go.Proofs.Ytogpnpcdghabmaa
