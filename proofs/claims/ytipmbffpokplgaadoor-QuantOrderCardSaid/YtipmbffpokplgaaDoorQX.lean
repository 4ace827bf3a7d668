/- The walk of QuantOrder. -/
import Derived.Test.YtipmbffpokplgaaDoorQS
namespace Go.Proofs.YtipmbffpokplgaaDoor
open Go.RowKit Go.Lib
set_option linter.unusedVariables false
set_option maxRecDepth 100000
def qoL (h g3 g4 g5 : Nat) (q b m s t : List Int) : List (Nat × List Int) := [(h, q), (h + 1, b), (h + 1 + 1, m), (g3, s), (g4, t), (g5, q)]
set_option maxHeartbeats 16000000 in
theorem qo_main (q b more : List Int) (hq : q.length = 64) (hb : b.length = 64) (hm : more.length = 64) (wm : ∀ i, i < 64 → -9223372036854775808 ≤ more.getD i 0 ∧ more.getD i 0 ≤ 9223372036854775807) (k j : Int) (h1 : wiB q 1 255 = true) (hk1 : 1 ≤ k) (hkj : k ≤ j) (hj : j ≤ 100) (w : World) (he : Env w) :
    Calls Tryd.prog 6 #[.agg (ia q), .agg (ia b), .agg (ia more), .int .i64 k, .int .i64 j] w fun e w' => e = .returned (.bool true) ∧ Below w.heap.size w w' := by
  have HZ := Lib.hid zeroB
  have HSQ := Lib.hid (sizeB hq)
  have HSB := Lib.hid (sizeB hb)
  have HMA := Lib.hid (may_any q hq)
  rw [h1] at HMA
  have hs : (scL q k).length = 64 := mapB_len _
  have ht : (scL q j).length = 64 := mapB_len _
  have HS1 := Lib.hid (scl_yes q hq h1 k hk1 (by omega))
  have HS2 := Lib.hid (scl_yes q hq h1 j (by omega) hj)
  have HS3 := Lib.hid (scL_fifty hq h1 ▸ scl_yes q hq h1 50 (by omega) (by omega))
  have HMS := Lib.hid (may_any (scL q k) hs)
  rw [scL_ok q k] at HMS
  have HMT := Lib.hid (may_any (scL q j) ht)
  rw [scL_ok q j] at HMT
  have HLE : Hid (∀ i, i < 64 → (scL q j).getD i 0 ≤ (scL q k).getD i 0) := by
    show ∀ i, _
    intro i hi
    have := (wiB_at h1 (k := i) (by omega)).1
    rw [scL, scL, mapB_at _ hi, mapB_at _ hi]
    exact sc_mono (by omega) (pc_bnd (k := j) (by omega) hj).1 (pc_anti hk1 hkj hj)
  have DY := Lib.hid (fun (l : List Int) (hl : l.length = 64) (hy : wiB l (-1048576) 1048576 = true) => div_yes l q hl hq h1 hy)
  have DN := Lib.hid (fun (l : List Int) (hl : l.length = 64) (hy : wiB l (-1048576) 1048576 = false) => div_no l q hl hq (fun _ => hy))
  have HMO : Hid (∀ l m : List Int, l.length = 64 → m.length = 64 → (∀ i, i < 64 → l.getD i 0 ≤ m.getD i 0) → ∀ i, i < 64 → (dvL l q).getD i 0 ≤ (dvL m q).getD i 0) := by
    show ∀ l m : List Int, _
    intro l m _ _ hlm i hi
    rw [dvL, dvL, mapB_at _ hi, mapB_at _ hi]
    exact qo_mono (wiB_at h1 (k := i) (by omega)).1 (hlm i hi)
  generalize scL q k = s at *
  generalize scL q j = t at *
  have HSS := Lib.hid (sizeB hs)
  have HST := Lib.hid (sizeB ht)
  have HES : Hid ((ia zeros).size = (ia s).size) := same_size zeros_len hs
  have HET : Hid ((ia zeros).size = (ia t).size) := same_size zeros_len ht
  have HEQ : Hid ((ia zeros).size = (ia q).size) := same_size zeros_len hq
  have HOS := Lib.hid (one_ia s)
  have HOT := Lib.hid (one_ia t)
  have HOQ := Lib.hid (one_ia q)
  have HLL : Hid ((q.length = 64 ∧ b.length = 64 ∧ more.length = 64) ∧ s.length = 64 ∧ t.length = 64) := ⟨⟨hq, hb, hm⟩, hs, ht⟩
  have HWM := Lib.hid wm
  have HAW := Lib.hid awake_any
  have HEN := Lib.hid he
  have d1 : decide (k < 1) = false := decide_eq_false (by omega)
  have d2 : decide (j < k) = false := decide_eq_false (by omega)
  have d3 : decide (100 < j) = false := decide_eq_false (by omega)
  have hG : ∀ W o x y l m, (eqGuard o 23 x y (.agg (ia l)) (.agg (ia m))).run Tryd.prog W = .ok () W := fun W o x y l m => run_eqGuard_agg W o 23 x y _ _ (by kernel_rfl)
  have hE1 : ∀ W, (Op.equalIn 10000 23 (.agg (ia q)) (.agg (ia q))).run Tryd.prog W = .ok true W := fun W => eqs64 HLL.out.1.1
  clear he hq hb hm h1 hs ht hk1 hkj hj wm
  obtain ⟨w1, hw1, hK⟩ := three_kn w q b more 23
  have K := Lib.hid hK
  clear hK
  go_enter Tryd.func6, Tryd.ntmps6
  go_wp2_with (first
    | (with_reducible refine wpList_allocZ _ rfl 23 rfl (ia zeros) HZ.out ?_)
    | (rw [← hw1]; (with_reducible refine wpList_loadB _ rfl 23 (.tmp 5) rfl _ Tryd.underlying23 rfl w.heap.size rfl (ia q) (K.out.get 0 rfl) HSQ.out ?_))
    | (go_at_call 10; (with_reducible refine (HMA.out _).mono ?_); rintro e w2 ⟨rfl, hb2⟩; replace hb2 : Below w1.heap.size w1 w2 := (by rw [hw1]; simpa using hb2); have K2 := Lib.hid (K.out.call hb2); clear hb2)
    | ((with_reducible refine wpList_loadB _ rfl 23 (.tmp 5) rfl _ Tryd.underlying23 rfl w.heap.size rfl (ia q) (K2.out.get 0 rfl) HSQ.out ?_))
    | (go_at_call 9; (with_reducible refine (HS1.out _).mono ?_); rintro e w3 ⟨rfl, hb3⟩
       have Hb3 := Lib.hid hb3
       clear hb3)
    | ((with_reducible refine wpList_storeB _ rfl 23 (.tmp 11) (.tmp 44) rfl w3.heap.size rfl (ia zeros) (Blk.new w3 (ia zeros) 23) (ia s) rfl HSS.out HES.out HOS.out ?_)
       intro v3 hb3 hc3 hs3; have K3 := Lib.hid (K2.out.push Hb3.out hc3 hb3); clear hb3 hc3 hs3)
    | ((with_reducible refine wpList_loadB _ rfl 23 (.tmp 5) rfl _ Tryd.underlying23 rfl w.heap.size rfl (ia q) (K3.out.get 0 rfl) HSQ.out ?_))
    | (go_at_call 9; (with_reducible refine (HS2.out _).mono ?_); rintro e w4 ⟨rfl, hb4⟩
       have Hb4 := Lib.hid hb4
       clear hb4)
    | ((with_reducible refine wpList_storeB _ rfl 23 (.tmp 13) (.tmp 50) rfl w4.heap.size rfl (ia zeros) (Blk.new w4 (ia zeros) 23) (ia t) rfl HST.out HET.out HOT.out ?_)
       intro v4 hb4 hc4 hs4; have K4 := Lib.hid (K3.out.push Hb4.out hc4 hb4); clear hb4 hc4 hs4)
    | ((with_reducible refine wpList_loadB _ rfl 23 (.tmp 5) rfl _ Tryd.underlying23 rfl w.heap.size rfl (ia q) (K4.out.get 0 rfl) HSQ.out ?_))
    | (go_at_call 9; (with_reducible refine (HS3.out _).mono ?_); rintro e w5 ⟨rfl, hb5⟩
       have Hb5 := Lib.hid hb5
       clear hb5)
    | ((with_reducible refine wpList_storeB _ rfl 23 (.tmp 15) (.tmp 55) rfl w5.heap.size rfl (ia zeros) (Blk.new w5 (ia zeros) 23) (ia q) rfl HSQ.out HEQ.out HOQ.out ?_)
       intro v5 hb5 hc5 hs5; have K5 := Lib.hid (K4.out.push Hb5.out hc5 hb5); clear hb5 hc5 hs5)
    | (refine wpList_open (by rfl) (wpList_loadB _ rfl 23 (.tmp 15) rfl _ Tryd.underlying23 rfl w5.heap.size rfl (ia q) (K5.out.get 5 rfl) HSQ.out ?_))
    | (refine wpList_open (by rfl) (wpList_loadB _ rfl 23 (.tmp 5) rfl _ Tryd.underlying23 rfl w.heap.size rfl (ia q) (K5.out.get 0 rfl) HSQ.out ?_))
    | (refine wpList_open (by rfl) (wpList_loadB _ rfl 23 (.tmp 11) rfl _ Tryd.underlying23 rfl w3.heap.size rfl (ia s) (K5.out.get 3 rfl) HSS.out ?_))
    | (go_at_call 10; (with_reducible refine (HMS.out _).mono ?_); rintro e w6 ⟨rfl, hb6⟩; have K6 := Lib.hid (K5.out.call hb6); clear hb6)
    | (refine wpList_open (by rfl) (wpList_loadB _ rfl 23 (.tmp 13) rfl _ Tryd.underlying23 rfl w4.heap.size rfl (ia t) (K6.out.get 4 rfl) HST.out ?_))
    | (go_at_call 10; (with_reducible refine (HMT.out _).mono ?_); rintro e w7 ⟨rfl, hb7⟩; have K7 := Lib.hid (K6.out.call hb7); clear hb7))
  have F3 : Hid (w.heap.size + 1 + 1 < w3.heap.size) := Nat.lt_of_lt_of_le (K2.out.fresh (w.heap.size + 1 + 1, more) (by simp)) Hb3.out.size
  have F4 : Hid (w.heap.size + 1 + 1 < w4.heap.size) := Nat.lt_of_lt_of_le (K3.out.fresh (w.heap.size + 1 + 1, more) (by simp)) Hb4.out.size
  have F5 : Hid (w.heap.size + 1 + 1 < w5.heap.size) := Nat.lt_of_lt_of_le (K4.out.fresh (w.heap.size + 1 + 1, more) (by simp)) Hb5.out.size
  have KK : Hid (Kn w (qoL w.heap.size w3.heap.size w4.heap.size w5.heap.size q b more s t) w7) := K7.out
  clear K K2 K3 K4 K5 K6 K7 Hb3 Hb4 Hb5 HS1 HS2 HS3 HMS HMT HMA hw1 hE1 hG
  generalize w3.heap.size = g3 at *
  generalize w4.heap.size = g4 at *
  generalize w5.heap.size = g5 at *
  go_loopw [17] (fun i wr => ∃ (n : Nat), n ≤ 64 ∧ i = .int .i64 n ∧ Hid (Kn w (qoL w.heap.size g3 g4 g5 q b (mxP more b n) s t) wr)) (fun i _ => 64 - (RowKit.intOf i).toNat)
  case atStart => exact ⟨0, by omega, rfl, (show Hid _ from by show Kn _ _ _; rw [mxP_zero b HLL.out.1.2.2]; exact KK.out)⟩
  case round =>
    clear KK
    obtain ⟨n, hn, rfl, KK⟩ := hrel
    by_cases hlt : n < 64
    · have E1 : Hid (∀ W, Kn w (qoL w.heap.size g3 g4 g5 q b (mxP more b n) s t) W → W.cell? ⟨g4, n, none⟩ = some (.int .i64 (t.getD n 0))) := fun W hS => hS.cell 4 rfl (by rw [HLL.out.2.2]; exact hlt) rfl
      have E2 : Hid (∀ W, Kn w (qoL w.heap.size g3 g4 g5 q b (mxP more b n) s t) W → W.cell? ⟨g3, n, none⟩ = some (.int .i64 (s.getD n 0))) := fun W hS => hS.cell 3 rfl (by rw [HLL.out.2.1]; exact hlt) rfl
      have E3 : Hid (∀ W, Kn w (qoL w.heap.size g3 g4 g5 q b (mxP more b n) s t) W → W.cell? ⟨w.heap.size + 1 + 1, n, none⟩ = some (.int .i64 (more.getD n 0))) := fun W hS => hS.cell 2 rfl (by rw [mxP_len]; exact hlt) (mxP_at more b hlt)
      have E4 : Hid (∀ W, Kn w (qoL w.heap.size g3 g4 g5 q b (mxP more b n) s t) W → W.cell? ⟨w.heap.size + 1, n, none⟩ = some (.int .i64 (b.getD n 0))) := fun W hS => hS.cell 1 rfl (by rw [HLL.out.1.2.1]; exact hlt) rfl
      have d4 : decide (s.getD n 0 < t.getD n 0) = false := decide_eq_false (by have := HLE.out n hlt; omega)
      have HN := Lib.hid (mxP_next more b hlt)
      have HS : Hid (∀ W v, Kn w (qoL w.heap.size g3 g4 g5 q b (mxP more b n) s t) W → Kn w (qoL w.heap.size g3 g4 g5 q b ((mxP more b n).set n v) s t) (W.setCell ⟨w.heap.size + 1 + 1, n, none⟩ (.int .i64 v))) := fun W v hK =>
        hK.setN (n := 2) (g := w.heap.size + 1 + 1) (l := mxP more b n) rfl (fun j p hj hne => by
          have a3 := F3.out
          have a4 := F4.out
          have a5 := F5.out
          match j, hj, hne with
          | 0, hj, _ => injection hj with hj; subst hj; show _ ≠ _; simp only; omega
          | 1, hj, _ => injection hj with hj; subst hj; show _ ≠ _; simp only; omega
          | 2, _, hne => exact absurd rfl hne
          | 3, hj, _ => injection hj with hj; subst hj; show _ ≠ _; simp only; omega
          | 4, hj, _ => injection hj with hj; subst hj; show _ ≠ _; simp only; omega
          | 5, hj, _ => injection hj with hj; subst hj; show _ ≠ _; simp only; omega
          | j + 6, hj, _ => simp [qoL] at hj) (by omega) n v
      have HFZ : Hid (∀ W, Kn w (qoL w.heap.size g3 g4 g5 q b (mxP more b n) s t) W → W.frozen? ⟨w.heap.size + 1 + 1, n, none⟩ = false) := fun W hK => (hK.get 2 rfl).frozen n
      generalize t.getD n 0 = tx at *
      generalize s.getD n 0 = sx at *
      generalize more.getD n 0 = mx at *
      generalize b.getD n 0 = bx at *
      have hk0 : 0 ≤ (n : Int) := by omega
      have hk1 : (n : Int) < 64 := by omega
      go_upto_region 11 with fail
      refine wp_region_seq (Kn w (qoL w.heap.size g3 g4 g5 q b (mxP more b n) s t)) (by kernel_rfl) (by kernel_rfl) (by kernel_rfl) KK.out.drew ?_
      repeat (
        first
          | (refine seq_off (by rfl) ?_)
          | (apply seq_val (by rfl)
             focus (intro W hS; have e1 := E1.out W hS; have e2 := E2.out W hS; go_simp; try with_reducible rfl; done))
        simp only [Act.put, List.setIfInBounds_toArray, List.set_cons_zero, List.set_cons_succ])
      refine seq_nil fun W hS => ?_
      replace KK := Lib.hid hS
      clear hS
      have e3 := E3.out W KK.out
      have e4 := E4.out W KK.out
      have f3 := HFZ.out W KK.out
      by_cases hxy : mx < bx
      · have HV : Hid (max mx bx = bx) := by show _ = _; omega
        rw [HV.out] at HN
        have dxy : decide (mx < bx) = true := decide_eq_true hxy
        go_wp2
        go_still_tail 9, (by kernel_rfl)
        repeat still_step
        change wpList _ _ _ _ _ (World.drew _)
        go_wp2
        go_roundw
        case rel => exact ⟨n + 1, by omega, by go_num, (show Hid _ from by show Kn _ _ _; rw [← HN.out]; first | exact (HS.out W _ KK.out).drew | exact (HS.out W _ KK.out).drewN _)⟩
        case measure => simp [RowKit.intOf]; omega
      · have HV : Hid (max mx bx = mx) := by show _ = _; omega
        rw [HV.out] at HN
        have dxy : decide (mx < bx) = false := decide_eq_false hxy
        go_wp2
        go_still_tail 9, (by kernel_rfl)
        repeat still_step
        change wpList _ _ _ _ _ (World.drew _)
        go_wp2
        go_roundw
        case rel => exact ⟨n + 1, by omega, by go_num, (show Hid _ from by show Kn _ _ _; rw [← HN.out]; first | exact (HS.out W _ KK.out).drew | exact (HS.out W _ KK.out).drewN _)⟩
        case measure => simp [RowKit.intOf]; omega
    · obtain rfl : n = 64 := by omega
      have HGE : Hid (∀ i, i < 64 → b.getD i 0 ≤ (mxP more b 64).getD i 0) := fun i hi => mxP_ge more b hi
      have HLM := Lib.hid (mxP_len more b 64)
      clear HLE HWM
      generalize mxP more b 64 = mm at *
      obtain ⟨x, e1, HX, HD1, C1⟩ : ∃ x e1, x.length = 64 ∧ (∀ W, Calls Tryd.prog 14 #[.agg (ia b), .agg (ia q)] W fun e w' => e = .returned (.tuple #[.agg (ia x), .int .i64 e1]) ∧ Below W.heap.size W w') ∧ ((e1 = 0 ∧ x = dvL b q) ∨ e1 = 1) := by
        cases hw : wiB b (-1048576) 1048576 with
        | true => exact ⟨_, 0, mapB_len _, DY.out b HLL.out.1.2.1 hw, .inl ⟨rfl, rfl⟩⟩
        | false => exact ⟨_, 1, zeros_len, DN.out b HLL.out.1.2.1 hw, .inr rfl⟩
      obtain ⟨y, e2, HY, HD2, C2⟩ : ∃ y e2, y.length = 64 ∧ (∀ W, Calls Tryd.prog 14 #[.agg (ia mm), .agg (ia q)] W fun e w' => e = .returned (.tuple #[.agg (ia y), .int .i64 e2]) ∧ Below W.heap.size W w') ∧ ((e2 = 0 ∧ y = dvL mm q) ∨ e2 = 1) := by
        cases hw : wiB mm (-1048576) 1048576 with
        | true => exact ⟨_, 0, mapB_len _, DY.out mm HLM.out hw, .inl ⟨rfl, rfl⟩⟩
        | false => exact ⟨_, 1, zeros_len, DN.out mm HLM.out hw, .inr rfl⟩
      have HXL := Lib.hid HX
      have HYL := Lib.hid HY
      have HSX := Lib.hid (sizeB HX)
      have HSY := Lib.hid (sizeB HY)
      have HEX : Hid ((ia zeros).size = (ia x).size) := same_size zeros_len HX
      have HEY : Hid ((ia zeros).size = (ia y).size) := same_size zeros_len HY
      have HOX := Lib.hid (one_ia x)
      have HOY := Lib.hid (one_ia y)
      have HDX := Lib.hid HD1
      have HDYY := Lib.hid HD2
      have HSM := Lib.hid (sizeB HLM.out)
      clear DY DN HX HY HD1 HD2
      go_wp2_with (first
        | (with_reducible refine wpList_loadB _ rfl 23 (.tmp 6) rfl _ Tryd.underlying23 rfl (w.heap.size + 1) rfl (ia b) (KK.out.get 1 rfl) HSB.out ?_)
        | (with_reducible refine wpList_loadB _ rfl 23 (.tmp 5) rfl _ Tryd.underlying23 rfl w.heap.size rfl (ia q) (KK.out.get 0 rfl) HSQ.out ?_)
        | (go_at_call 14; (with_reducible refine (HDX.out _).mono ?_); rintro e w8 ⟨rfl, hb8⟩; have Hb8 := Lib.hid hb8; clear hb8)
        | (with_reducible refine wpList_allocZ _ rfl 23 rfl (ia zeros) HZ.out ?_)
        | ((with_reducible refine wpList_storeB _ rfl 23 (.tmp 18) (.tmp 106) rfl w8.heap.size rfl (ia zeros) (Blk.new w8 (ia zeros) 23) (ia x) rfl HSX.out HEX.out HOX.out ?_)
           intro v8 hb8 hc8 hs8; have K8 := Lib.hid (KK.out.push Hb8.out hc8 hb8); clear hb8 hc8 hs8)
        | (with_reducible refine wpList_loadB _ rfl 23 (.tmp 7) rfl _ Tryd.underlying23 rfl (w.heap.size + 1 + 1) rfl (ia mm) (K8.out.get 2 rfl) HSM.out ?_)
        | (with_reducible refine wpList_loadB _ rfl 23 (.tmp 5) rfl _ Tryd.underlying23 rfl w.heap.size rfl (ia q) (K8.out.get 0 rfl) HSQ.out ?_)
        | (go_at_call 14; (with_reducible refine (HDYY.out _).mono ?_); rintro e w9 ⟨rfl, hb9⟩; have Hb9 := Lib.hid hb9; clear hb9)
        | ((with_reducible refine wpList_storeB _ rfl 23 (.tmp 20) (.tmp 112) rfl w9.heap.size rfl (ia zeros) (Blk.new w9 (ia zeros) 23) (ia y) rfl HSY.out HEY.out HOY.out ?_)
           intro v9 hb9 hc9 hs9; have K9 := Lib.hid (K8.out.push Hb9.out hc9 hb9); clear hb9 hc9 hs9))
      clear KK K8 Hb8 Hb9 HDX HDYY HSX HSY HEX HEY HOX HOY HSM
      generalize w8.heap.size = g8 at *
      generalize w9.heap.size = g9 at *
      have G8 : Hid ((qoL w.heap.size g3 g4 g5 q b mm s t ++ [(g8, x)] ++ [(g9, y)])[6]? = some (g8, x)) := rfl
      have G9 : Hid ((qoL w.heap.size g3 g4 g5 q b mm s t ++ [(g8, x)] ++ [(g9, y)])[7]? = some (g9, y)) := rfl
      generalize (qoL w.heap.size g3 g4 g5 q b mm s t ++ [(g8, x)] ++ [(g9, y)]) = L9 at *
      rcases C1 with ⟨rfl, hx1⟩ | rfl
      · rcases C2 with ⟨rfl, hy1⟩ | rfl
        · have HXY : Hid (∀ i, i < 64 → x.getD i 0 ≤ y.getD i 0) := by
            show ∀ i, _
            rw [hx1, hy1]
            exact HMO.out b mm HLL.out.1.2.1 HLM.out HGE.out
          clear hx1 hy1 HMO HGE
          go_loopw [22] (fun i wr => ∃ (n : Nat), n ≤ 64 ∧ i = .int .i64 n ∧ Hid (Kn w L9 wr)) (fun i _ => 64 - (RowKit.intOf i).toNat)
          case atStart => exact ⟨0, by omega, rfl, K9⟩
          case round =>
            clear K9
            obtain ⟨n, hn, rfl, K9⟩ := hrel
            by_cases hlt : n < 64
            · have E1 : Hid (∀ W, Kn w L9 W → W.cell? ⟨g9, n, none⟩ = some (.int .i64 (y.getD n 0))) := fun W hS => hS.cell 7 G9.out (by rw [HYL.out]; exact hlt) rfl
              have E2 : Hid (∀ W, Kn w L9 W → W.cell? ⟨g8, n, none⟩ = some (.int .i64 (x.getD n 0))) := fun W hS => hS.cell 6 G8.out (by rw [HXL.out]; exact hlt) rfl
              have d4 : decide (y.getD n 0 < x.getD n 0) = false := decide_eq_false (by have := HXY.out n hlt; omega)
              generalize y.getD n 0 = yx at *
              generalize x.getD n 0 = xx at *
              have hk0 : 0 ≤ (n : Int) := by omega
              have hk1 : (n : Int) < 64 := by omega
              go_upto_region 19 with fail
              refine wp_region_seq (Kn w L9) (by kernel_rfl) (by kernel_rfl) (by kernel_rfl) K9.out.drew ?_
              repeat (
                first
                  | (refine seq_off (by rfl) ?_)
                  | (apply seq_val (by rfl)
                     focus (intro W hS; have e1 := E1.out W hS; have e2 := E2.out W hS; go_simp; try with_reducible rfl; done))
                simp only [Act.put, List.setIfInBounds_toArray, List.set_cons_zero, List.set_cons_succ])
              refine seq_nil fun W hS => ?_
              replace K9 := Lib.hid hS
              clear hS
              go_wp2
              go_roundw
              case rel => exact ⟨n + 1, by omega, by go_num, K9⟩
              case measure => simp [RowKit.intOf]; omega
            · obtain rfl : n = 64 := by omega
              go_wp2_with (go_at_call 12; (with_reducible refine (HAW.out _ (HEN.out.below K9.out.be)).mono ?_); rintro e wA ⟨rfl, hbA⟩; have KA := Lib.hid (K9.out.call hbA); clear hbA)
              go_ret
              exact ⟨rfl, KA.out.be⟩
        · go_loopw [22] (fun i wr => i = .int .i64 0 ∧ Hid (Kn w L9 wr)) (fun i _ => 0)
          case atStart => exact ⟨rfl, K9⟩
          case round =>
            clear K9
            obtain ⟨rfl, K9⟩ := hrel
            go_wp2_with (go_at_call 12; (with_reducible refine (HAW.out _ (HEN.out.below K9.out.be)).mono ?_); rintro e wA ⟨rfl, hbA⟩; have KA := Lib.hid (K9.out.call hbA); clear hbA)
            go_ret
            exact ⟨rfl, KA.out.be⟩
      · go_loopw [22] (fun i wr => i = .int .i64 0 ∧ Hid (Kn w L9 wr)) (fun i _ => 0)
        case atStart => exact ⟨rfl, K9⟩
        case round =>
          clear K9
          obtain ⟨rfl, K9⟩ := hrel
          go_wp2_with (go_at_call 12; (with_reducible refine (HAW.out _ (HEN.out.below K9.out.be)).mono ?_); rintro e wA ⟨rfl, hbA⟩; have KA := Lib.hid (K9.out.call hbA); clear hbA)
          go_ret
          exact ⟨rfl, KA.out.be⟩
theorem qo_any (q b more : List Int) (hq : q.length = 64) (hb : b.length = 64) (hm : more.length = 64) (wm : ∀ i, i < 64 → (Lit.int .i64 (more.getD i 0)).wf = true) (k j : Int) (w : World) (he : Env w) :
    Calls Tryd.prog 6 #[.agg (ia q), .agg (ia b), .agg (ia more), .int .i64 k, .int .i64 j] w fun e w' => e = .returned (.bool true) ∧ Below w.heap.size w w' := by
  cases h1 : wiB q 1 255 with
  | false => exact qo_none q b more hq k j (.inl h1) w he
  | true =>
    by_cases c1 : k < 1
    · exact qo_none q b more hq k j (.inr (.inl ⟨h1, c1⟩)) w he
    · by_cases c2 : j < k
      · exact qo_none q b more hq k j (.inr (.inr (.inl ⟨h1, by omega, c2⟩))) w he
      · by_cases c3 : 100 < j
        · exact qo_none q b more hq k j (.inr (.inr (.inr ⟨h1, by omega, by omega, c3⟩))) w he
        · exact qo_main q b more hq hb hm (fun i hi => by simpa [Lit.wf, IntKind.min, IntKind.max, IntKind.signed, IntKind.bits] using wm i hi) k j h1 (by omega) (by omega) (by omega) w he
end Go.Proofs.YtipmbffpokplgaaDoor
