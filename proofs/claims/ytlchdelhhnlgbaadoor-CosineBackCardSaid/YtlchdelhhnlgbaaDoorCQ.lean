/- The walk of CosineBack. -/
import Derived.Test.YtlchdelhhnlgbaaDoorCN
namespace Go.Proofs.YtlchdelhhnlgbaaDoor
open Go.RowKit Go.Lib
set_option linter.unusedVariables false
set_option maxRecDepth 100000
/-- Turned about the diagonal; so far. -/
def trnL (b : List Int) : List Int := mapB fun q => bf b (tr q)
def trnP (b : List Int) (k : Nat) : List Int := (List.range 64).map fun q => if tr q < k then bf b (tr q) else 0
theorem trnL_len (b : List Int) : (trnL b).length = 64 := mapB_len _
theorem trnP_len (b : List Int) (k : Nat) : (trnP b k).length = 64 := map64_len _
theorem trnP_zero (b : List Int) : trnP b 0 = zeros := by
  unfold trnP
  rw [map64_ext (g' := fun _ => 0) fun p _ => if_neg (Nat.not_lt_zero _)]
  decide +kernel
theorem trnP_next (b : List Int) {k : Nat} (hk : k < 64) : (trnP b k).set (tr k) (bf b k) = trnP b (k + 1) := by
  refine map64_set (tr_lt hk) (by rw [tr_tr hk, if_pos (by omega)]) fun p hp hne => ?_
  have : tr p ≠ k := fun e => hne (by rw [← e, tr_tr hp])
  by_cases h2 : tr p < k
  · rw [if_pos h2, if_pos (by omega)]
  · rw [if_neg h2, if_neg (by omega)]
theorem trnP_all (b : List Int) : trnP b 64 = trnL b := map64_ext fun p hp => if_pos (tr_lt hp)
theorem trnL_wi {b : List Int} (hb : b.length = 64) {x y : Int} (h : wiB b x y = true) : wiB (trnL b) x y = true := wiB_of fun k hk => by
  rw [trnL_len] at hk
  unfold trnL
  rw [mapB_at _ hk]
  exact wiB_at h (by rw [hb]; exact tr_lt hk)
theorem fwL_at (b : List Int) {q : Nat} (hq : q < 64) : (fwL b).getD q 0 = rd (fS (bf b) q) := mapB_at _ hq
theorem fwL_wi {b : List Int} (hb : b.length = 64) (h : wiB b (-128) 127 = true) : wiB (fwL b) (-32768) 32768 = true := wiB_of fun k hk => by
  rw [fwL_len] at hk
  rw [fwL_at b hk]
  have := c_bnd (b := bf b) (fun p hp => wiB_at h (by omega)) hk
  omega
theorem fw_trn {b : List Int} {k : Nat} (hk : k < 64) : (fwL (trnL b)).getD (tr k) 0 = (fwL b).getD k 0 := by
  rw [fwL_at _ (tr_lt hk), fwL_at _ hk]
  congr 1
  refine turned (b := bf b) (t := bf (trnL b)) (fun p hp => ?_) hk
  unfold bf trnL
  rw [mapB_at _ (tr_lt hp)]
  unfold bf
  rw [tr_tr hp]
theorem fw_flat {n : Int} (h1 : -128 ≤ n) (h2 : n ≤ 127) : fwL (flatL n) = oneL (8 * n) := by
  refine ext64 (fwL_len _) (oneL_len _) fun k hk => ?_
  rw [fwL_at _ hk]
  have e : fS (bf (flatL n)) k = fS (fun _ => n) k := sm_congr 64 fun p hp => by
    show bf (flatL n) p * _ = n * _
    unfold bf flatL
    rw [mapB_at _ hp]
  rw [e, flat_c h1 h2 hk]
  unfold oneL
  match k with
  | 0 => rfl
  | k + 1 =>
    rw [if_neg (by omega), List.getD_cons_succ]
    rw [List.getD_eq_getElem?_getD, List.getElem?_replicate]
    split <;> rfl
theorem flat_wi {n : Int} (h1 : -128 ≤ n) (h2 : n ≤ 127) : wiB (flatL n) (-32768) 32768 = true := wiB_of fun k hk => by
  rw [flatL_len] at hk
  unfold flatL
  rw [mapB_at _ hk]
  omega
theorem back_at {b : List Int} (h : ∀ p, p < 64 → -128 ≤ bf b p ∧ bf b p ≤ 127) {p : Nat} (hp : p < 64) : b.getD p 0 - 4 ≤ (ivL (fwL b)).getD p 0 ∧ (ivL (fwL b)).getD p 0 ≤ b.getD p 0 + 4 := by
  unfold ivL
  rw [mapB_at _ hp]
  exact back_c (b := bf b) (c := bf (fwL b)) h (fun q hq => fwL_at b hq) hp
set_option maxHeartbeats 32000000 in
theorem cback_yes (b : List Int) (hb : b.length = 64) (h1 : wiB b (-128) 127 = true) (n : Int) (hn1 : -128 ≤ n) (hn2 : n ≤ 127) (w : World) (he : Env w) :
    Calls Tryd.prog 6 #[.agg (ia b), .int .i64 n] w fun e w' => e = .returned (.bool true) ∧ Below w.heap.size w w' := by
  have HBB : Hid (∀ p, p < 64 → -128 ≤ bf b p ∧ bf b p ≤ 127) := fun p hp => wiB_at h1 (by omega)
  have HB2 : Hid (∀ p, p < 64 → -128 ≤ b.getD p 0 ∧ b.getD p 0 ≤ 127) := HBB
  have HBK : Hid (∀ p, p < 64 → b.getD p 0 - 4 ≤ (ivL (fwL b)).getD p 0 ∧ (ivL (fwL b)).getD p 0 ≤ b.getD p 0 + 4) := fun p hp => back_at HBB.out hp
  have HTR : Hid (∀ k, k < 64 → (fwL (trnL b)).getD (tr k) 0 = (fwL b).getD k 0) := fun k hk => fw_trn hk
  have HZ := Lib.hid zeroB
  have HSA := Lib.hid (samp_any b hb)
  rw [h1] at HSA
  have F1 : Hid (∀ W, Env W → Calls Tryd.prog 10 #[.agg (ia b)] W fun e w' => e = .returned (.tuple #[.agg (ia (fwL b)), .int .i64 0]) ∧ Below W.heap.size W w') := fun W hW => by
    have := Forward_yes b hb (wiB_mono h1 (by omega) (by omega)) W hW
    rwa [fw_is] at this
  have F2 : Hid (∀ W, Env W → Calls Tryd.prog 11 #[.agg (ia (fwL b))] W fun e w' => e = .returned (.tuple #[.agg (ia (ivL (fwL b))), .int .i64 0]) ∧ Below W.heap.size W w') := fun W hW => by
    have := Inverse_yes (fwL b) (fwL_len b) (fwL_wi hb h1) W hW
    rwa [iv_is] at this
  have F3 : Hid (∀ W, Env W → Calls Tryd.prog 10 #[.agg (ia (trnL b))] W fun e w' => e = .returned (.tuple #[.agg (ia (fwL (trnL b))), .int .i64 0]) ∧ Below W.heap.size W w') := fun W hW => by
    have := Forward_yes (trnL b) (trnL_len b) (trnL_wi hb (wiB_mono h1 (by omega) (by omega))) W hW
    rwa [fw_is] at this
  have F4 : Hid (∀ W, Env W → Calls Tryd.prog 10 #[.agg (ia (flatL n))] W fun e w' => e = .returned (.tuple #[.agg (ia (oneL (8 * n))), .int .i64 0]) ∧ Below W.heap.size W w') := fun W hW => by
    have := Forward_yes (flatL n) (flatL_len n) (flat_wi hn1 hn2) W hW
    rwa [fw_is, fw_flat hn1 hn2] at this
  have HFL := Lib.hid (flat_any n)
  have HLF := Lib.hid (flatL_len n)
  have HL := Lib.hid hb
  have HLC := Lib.hid (fwL_len b)
  have HLK := Lib.hid (ivL_len (fwL b))
  have HLT := Lib.hid (trnL_len b)
  have HLD := Lib.hid (fwL_len (trnL b))
  have HPX := Lib.hid (trnP_len b)
  have HPN : Hid (∀ k, k < 64 → (trnP b k).set (tr k) (b.getD k 0) = trnP b (k + 1)) := fun k hk => trnP_next b hk
  have HPA := Lib.hid (trnP_all b)
  have HPZ := Lib.hid (trnP_zero b)
  have HAW := Lib.hid awake_any
  have HEN := Lib.hid he
  clear hb h1 he HBB
  generalize ivL (fwL b) = bk at *
  generalize fwL (trnL b) = dd at *
  generalize fwL b = cc at *
  generalize trnL b = tt at *
  generalize flatL n = ff at *
  generalize eN : 8 * n = N at *
  generalize hPP : trnP b = PP at *
  clear hPP
  have HSB := Lib.hid (sizeB HL.out)
  have HSC := Lib.hid (sizeB HLC.out)
  have HEC : Hid ((ia zeros).size = (ia cc).size) := same_size zeros_len HLC.out
  have HOC := Lib.hid (one_ia cc)
  have HSK := Lib.hid (sizeB HLK.out)
  have HEK : Hid ((ia zeros).size = (ia bk).size) := same_size zeros_len HLK.out
  have HOK := Lib.hid (one_ia bk)
  have HST := Lib.hid (sizeB HLT.out)
  have HSD := Lib.hid (sizeB HLD.out)
  have HED : Hid ((ia zeros).size = (ia dd).size) := same_size zeros_len HLD.out
  have HOD := Lib.hid (one_ia dd)
  have HSO := Lib.hid (sizeB (oneL_len N))
  have HEO : Hid ((ia zeros).size = (ia (oneL N)).size) := same_size zeros_len (oneL_len N)
  have HOO := Lib.hid (one_ia (oneL N))
  obtain ⟨w1, hw1, hK⟩ := Kn.one w b 26
  have K1 := Lib.hid hK
  clear hK
  go_enter Tryd.func6, Tryd.ntmps6
  go_upto_region 6 with (first
    | (rw [← hw1]; (with_reducible refine wpList_loadB _ rfl 26 (.tmp 2) rfl _ Tryd.underlying26 rfl w.heap.size rfl (ia b) (K1.out.get 0 rfl) HSB.out ?_))
    | (go_at_call 15; (try rw [← hw1]); (with_reducible refine (HSA.out _).mono ?_); rintro e w2 ⟨rfl, hb2⟩; replace hb2 : Below w1.heap.size w1 w2 := (by rw [hw1]; simpa [← hw1] using hb2); have K2 := Lib.hid (K1.out.call hb2); clear hb2)
    | (with_reducible refine wpList_loadB _ rfl 26 (.tmp 2) rfl _ Tryd.underlying26 rfl w.heap.size rfl (ia b) (K2.out.get 0 rfl) HSB.out ?_)
    | (go_at_call 10; (with_reducible refine (F1.out _ (HEN.out.below K2.out.be)).mono ?_); rintro e w3 ⟨rfl, hb3⟩; have HB3 := Lib.hid hb3; clear hb3)
    | ((with_reducible refine wpList_storeB _ rfl 26 (.tmp 5) (.tmp 31) rfl w3.heap.size rfl (ia zeros) (Blk.new w3 (ia zeros) 26) (ia cc) rfl HSC.out HEC.out HOC.out ?_)
       intro v3 hb4 hc4 hs4; have K3 := Lib.hid (K2.out.push HB3.out hc4 hb4); clear hb4 hc4 hs4)
    | (with_reducible refine wpList_loadB _ rfl 26 (.tmp 5) rfl _ Tryd.underlying26 rfl w3.heap.size rfl (ia cc) (K3.out.get 1 rfl) HSC.out ?_)
    | (go_at_call 11; (with_reducible refine (F2.out _ (HEN.out.below K3.out.be)).mono ?_); rintro e w4 ⟨rfl, hb4⟩; have HB4 := Lib.hid hb4; clear hb4)
    | ((with_reducible refine wpList_storeB _ rfl 26 (.tmp 7) (.tmp 36) rfl w4.heap.size rfl (ia zeros) (Blk.new w4 (ia zeros) 26) (ia bk) rfl HSK.out HEK.out HOK.out ?_)
       intro v4 hb5 hc5 hs5; have K4 := Lib.hid (K3.out.push HB4.out hc5 hb5); have K5 := Lib.hid (K4.out.new zeros 26); clear hb5 hc5 hs5)
    | (with_reducible refine wpList_allocZ _ rfl 26 rfl (ia zeros) HZ.out ?_))
  have HF : Hid (∀ p ∈ [(w.heap.size, b), (w3.heap.size, cc), (w4.heap.size, bk)], p.1 < v4.heap.size) := K4.out.fresh
  have K : Hid (Kn w ([(w.heap.size, b), (w3.heap.size, cc), (w4.heap.size, bk)] ++ [(v4.heap.size, PP 0)]) (v4.alloc (.cells (ia zeros) 26))) := by
    show Kn _ _ _
    rw [HPZ.out]
    exact K5.out
  generalize w3.heap.size = g3 at *
  generalize w4.heap.size = g4 at *
  generalize v4.heap.size = g5 at *
  obtain ⟨v5, hv5⟩ : ∃ v5, v5 = v4.alloc (.cells (ia zeros) 26) := ⟨_, rfl⟩
  go_upto_region 7 with fail
  rw [← hv5] at K ⊢
  clear hv5 K1 K2 K3 K4 K5 HB3 HB4 hw1 HSA F1 F2 HSC HEC HOC HSK HEK HOK HPZ
  go_loopw [10] (fun i wr => ∃ (k : Nat), k ≤ 64 ∧ i = .int .i64 k ∧ Hid (Kn w ([(w.heap.size, b), (g3, cc), (g4, bk)] ++ [(g5, PP k)]) wr)) (fun i _ => 64 - (RowKit.intOf i).toNat)
  case atStart => exact ⟨0, by omega, rfl, K⟩
  case round =>
    clear K
    rename World => wo
    obtain ⟨k, hk, rfl, K⟩ := hrel
    by_cases hlt : k < 64
    · have HN := Lib.hid (HPN.out k hlt)
      have hj : tr k < 64 := tr_lt hlt
      obtain ⟨R, hR⟩ : ∃ R, (k : Int).tmod 8 = R := ⟨_, rfl⟩
      obtain ⟨D, hD⟩ : ∃ D, (k : Int).tdiv 8 = D := ⟨_, rfl⟩
      have hR2 : R = ((k % 8 : Nat) : Int) := by rw [← hR, Int.tmod_eq_emod_of_nonneg (by omega)]; omega
      have hD2 : D = ((k / 8 : Nat) : Int) := by rw [← hD, Int.tdiv_eq_ediv_of_nonneg (by omega)]; omega
      have eJ : R * 8 + D = (tr k : Int) := by unfold tr; omega
      have b1 : 0 ≤ R ∧ R ≤ 7 ∧ 0 ≤ D ∧ D ≤ 7 := by omega
      have e0 := K.out.cell 0 rfl (k := k) (by rw [HL.out]; exact hlt) rfl
      have e1 := K.out.cell 3 rfl (k := tr k) (by rw [HPX.out]; exact hj) rfl
      have f1 := (K.out.get 3 rfl).frozen (tr k)
      have hJ3 : (tr k : Int) < 64 := by omega
      generalize tr k = J at *
      generalize (PP k).getD J 0 = o at *
      generalize b.getD k 0 = x at *
      obtain ⟨b1, b2, b3, b4⟩ := b1
      clear hR2 hD2 hj
      go_wp2
      refine ⟨⟨k + 1, by omega, by go_num, (show Hid _ from by
        show Kn _ _ _
        rw [← HN.out]
        exact K.out.set (L := [(w.heap.size, b), (g3, cc), (g4, bk)]) HF.out (Nat.le_of_lt (HF.out (w.heap.size, b) (by simp))) J x)⟩, by simp [RowKit.intOf]; omega⟩
    · obtain rfl : k = 64 := by omega
      rw [HPA.out] at K
      go_upto_region 14 with (first
        | (with_reducible refine wpList_loadB _ rfl 26 (.tmp 9) rfl _ Tryd.underlying26 rfl g5 rfl (ia tt) (K.out.get 3 rfl) HST.out ?_)
        | (go_at_call 10; (with_reducible refine (F3.out _ (HEN.out.below K.out.be)).mono ?_); rintro e w6 ⟨rfl, hb6⟩; have HB6 := Lib.hid hb6; clear hb6)
        | (with_reducible refine wpList_allocZ _ rfl 26 rfl (ia zeros) HZ.out ?_)
        | ((with_reducible refine wpList_storeB _ rfl 26 (.tmp 11) (.tmp 55) rfl w6.heap.size rfl (ia zeros) (Blk.new w6 (ia zeros) 26) (ia dd) rfl HSD.out HED.out HOD.out ?_)
           intro v6 hb7 hc7 hs7; have K6 := Lib.hid (K.out.push HB6.out hc7 hb7); clear hb7 hc7 hs7)
        | (go_at_call 17; (with_reducible refine (HFL.out _).mono ?_); rintro e w7 ⟨rfl, hb8⟩; have K7 := Lib.hid (K6.out.call hb8); clear hb8)
        | (go_at_call 10; (with_reducible refine (F4.out _ (HEN.out.below K7.out.be)).mono ?_); rintro e w8 ⟨rfl, hb9⟩; have HB8 := Lib.hid hb9; clear hb9)
        | ((with_reducible refine wpList_storeB _ rfl 26 (.tmp 13) (.tmp 61) rfl w8.heap.size rfl (ia zeros) (Blk.new w8 (ia zeros) 26) (ia (oneL N)) rfl HSO.out HEO.out HOO.out ?_)
           intro v8 hb10 hc10 hs10; have K8 := Lib.hid (K7.out.push HB8.out hc10 hb10)
           have hG : ∀ W o x y l m, (eqGuard o 26 x y (.agg (ia l)) (.agg (ia m))).run Tryd.prog W = .ok () W := fun W o x y l m => run_eqGuard_agg W o 26 x y _ _ (by kernel_rfl)
           have hG8 : ∀ W o x y l, (eqGuard o 26 x y (.agg (ia l)) (.agg #[.int .i64 N, .int .i64 0, .int .i64 0, .int .i64 0, .int .i64 0, .int .i64 0, .int .i64 0, .int .i64 0, .int .i64 0, .int .i64 0, .int .i64 0, .int .i64 0, .int .i64 0, .int .i64 0, .int .i64 0, .int .i64 0, .int .i64 0, .int .i64 0, .int .i64 0, .int .i64 0, .int .i64 0, .int .i64 0, .int .i64 0, .int .i64 0, .int .i64 0, .int .i64 0, .int .i64 0, .int .i64 0, .int .i64 0, .int .i64 0, .int .i64 0, .int .i64 0, .int .i64 0, .int .i64 0, .int .i64 0, .int .i64 0, .int .i64 0, .int .i64 0, .int .i64 0, .int .i64 0, .int .i64 0, .int .i64 0, .int .i64 0, .int .i64 0, .int .i64 0, .int .i64 0, .int .i64 0, .int .i64 0, .int .i64 0, .int .i64 0, .int .i64 0, .int .i64 0, .int .i64 0, .int .i64 0, .int .i64 0, .int .i64 0, .int .i64 0, .int .i64 0, .int .i64 0, .int .i64 0, .int .i64 0, .int .i64 0, .int .i64 0, .int .i64 0])).run Tryd.prog W = .ok () W := fun W o x y l => hG W o x y l (oneL N)
           have hE8 : ∀ W, (Op.equalIn 10000 26 (.agg (ia (oneL N))) (.agg #[.int .i64 N, .int .i64 0, .int .i64 0, .int .i64 0, .int .i64 0, .int .i64 0, .int .i64 0, .int .i64 0, .int .i64 0, .int .i64 0, .int .i64 0, .int .i64 0, .int .i64 0, .int .i64 0, .int .i64 0, .int .i64 0, .int .i64 0, .int .i64 0, .int .i64 0, .int .i64 0, .int .i64 0, .int .i64 0, .int .i64 0, .int .i64 0, .int .i64 0, .int .i64 0, .int .i64 0, .int .i64 0, .int .i64 0, .int .i64 0, .int .i64 0, .int .i64 0, .int .i64 0, .int .i64 0, .int .i64 0, .int .i64 0, .int .i64 0, .int .i64 0, .int .i64 0, .int .i64 0, .int .i64 0, .int .i64 0, .int .i64 0, .int .i64 0, .int .i64 0, .int .i64 0, .int .i64 0, .int .i64 0, .int .i64 0, .int .i64 0, .int .i64 0, .int .i64 0, .int .i64 0, .int .i64 0, .int .i64 0, .int .i64 0, .int .i64 0, .int .i64 0, .int .i64 0, .int .i64 0, .int .i64 0, .int .i64 0, .int .i64 0, .int .i64 0])).run Tryd.prog W = .ok true W := fun W => eqs64 (oneL_len N)
           clear hb10 hc10 hs10)
        | (refine wpList_open (by rfl) (wpList_loadB _ rfl 26 (.tmp 13) rfl _ Tryd.underlying26 rfl w8.heap.size rfl (ia (oneL N)) (K8.out.get 5 rfl) HSO.out ?_)))
      have KK : Hid (Kn w [(w.heap.size, b), (g3, cc), (g4, bk), (g5, tt), (w6.heap.size, dd), (w8.heap.size, oneL N)] v8) := K8.out
      generalize w6.heap.size = g6 at *
      generalize w8.heap.size = g8 at *
      clear K K6 K7 K8 HB6 HB8 F3 F4 HST HSD HED HOD HSO HEO HOO HFL HZ
      clear hG hG8 hE8 HSB HPX HPN HPA HF
      go_upto_region 15 with fail
      go_loopw [15] (fun i wr => ∃ (k : Nat), k ≤ 64 ∧ i = .int .i64 k ∧ Hid (Kn w [(w.heap.size, b), (g3, cc), (g4, bk), (g5, tt), (g6, dd), (g8, oneL N)] wr)) (fun i _ => 64 - (RowKit.intOf i).toNat)
      case atStart => exact ⟨0, by omega, rfl, KK⟩
      case round =>
        clear KK
        rename World => wq
        obtain ⟨k, hk, rfl, K⟩ := hrel
        by_cases hlt2 : k < 64
        · have hj : tr k < 64 := tr_lt hlt2
          obtain ⟨R, hR⟩ : ∃ R, (k : Int).tmod 8 = R := ⟨_, rfl⟩
          obtain ⟨D, hD⟩ : ∃ D, (k : Int).tdiv 8 = D := ⟨_, rfl⟩
          have hR2 : R = ((k % 8 : Nat) : Int) := by rw [← hR, Int.tmod_eq_emod_of_nonneg (by omega)]; omega
          have hD2 : D = ((k / 8 : Nat) : Int) := by rw [← hD, Int.tdiv_eq_ediv_of_nonneg (by omega)]; omega
          have eJ : R * 8 + D = (tr k : Int) := by unfold tr; omega
          have b1 : 0 ≤ R ∧ R ≤ 7 ∧ 0 ≤ D ∧ D ≤ 7 := by omega
          have E1 : Hid (∀ W, Kn w [(w.heap.size, b), (g3, cc), (g4, bk), (g5, tt), (g6, dd), (g8, oneL N)] W → W.cell? ⟨g4, k, none⟩ = some (.int .i64 (bk.getD k 0))) := fun W hS => hS.cell 2 rfl (by rw [HLK.out]; exact hlt2) rfl
          have E2 : Hid (∀ W, Kn w [(w.heap.size, b), (g3, cc), (g4, bk), (g5, tt), (g6, dd), (g8, oneL N)] W → W.cell? ⟨w.heap.size, k, none⟩ = some (.int .i64 (b.getD k 0))) := fun W hS => hS.cell 0 rfl (by rw [HL.out]; exact hlt2) rfl
          have E3 : Hid (∀ W, Kn w [(w.heap.size, b), (g3, cc), (g4, bk), (g5, tt), (g6, dd), (g8, oneL N)] W → W.cell? ⟨g6, tr k, none⟩ = some (.int .i64 (cc.getD k 0))) := fun W hS => hS.cell 4 rfl (by rw [HLD.out]; exact hj) (HTR.out k hlt2)
          have E4 : Hid (∀ W, Kn w [(w.heap.size, b), (g3, cc), (g4, bk), (g5, tt), (g6, dd), (g8, oneL N)] W → W.cell? ⟨g3, k, none⟩ = some (.int .i64 (cc.getD k 0))) := fun W hS => hS.cell 1 rfl (by rw [HLC.out]; exact hlt2) rfl
          have hbk := HBK.out k hlt2
          have hx := HB2.out k hlt2
          have hJ3 : (tr k : Int) < 64 := by omega
          generalize tr k = J at *
          generalize bk.getD k 0 = kv at *
          generalize cc.getD k 0 = z at *
          generalize b.getD k 0 = x at *
          obtain ⟨b1, b2, b3, b4⟩ := b1
          have d1 : decide (kv < x - 4) = false := decide_eq_false (by omega)
          have d2 : decide (x + 4 < kv) = false := decide_eq_false (by omega)
          have w1 : IntKind.i64.wrap (x - 4) = x - 4 := wr64 (by omega) (by omega)
          have w2 : IntKind.i64.wrap (x + 4) = x + 4 := wr64 (by omega) (by omega)
          have w3 : IntKind.i64.wrap (R * 8) = R * 8 := wr64 (by omega) (by omega)
          have w4 : IntKind.i64.wrap (J : Int) = (J : Int) := wr64 (by omega) (by omega)
          have w5 : IntKind.i64.wrap D = D := wr64 (by omega) (by omega)
          have hk64 : (k : Int) < 64 := by omega
          have hk0 : (0 : Int) ≤ k := by omega
          have hJ0 : (0 : Int) ≤ J := by omega
          clear hR2 hD2 hj hbk hx
          go_upto_region 17 with fail
          refine wp_region_seq (Kn w [(w.heap.size, b), (g3, cc), (g4, bk), (g5, tt), (g6, dd), (g8, oneL N)]) (by kernel_rfl) (by kernel_rfl) (by kernel_rfl) K.out.drew ?_
          repeat (
            first
              | (refine seq_off (by rfl) ?_)
              | (apply seq_val (by rfl)
                 focus (intro W hS; have e1 := E1.out W hS; have e2 := E2.out W hS; have e3 := E3.out W hS; have e4 := E4.out W hS; clear hS; go_simp; try with_reducible rfl; done))
            simp only [Act.put, List.setIfInBounds_toArray, List.set_cons_zero, List.set_cons_succ])
          refine seq_nil fun W hS => ?_
          have K2 := Lib.hid hS
          clear hS K E1 E2 E3 E4
          go_wp2
          go_roundw
          case rel => exact ⟨k + 1, by omega, by go_num, K2⟩
          case measure => simp [RowKit.intOf]; omega
        · obtain rfl : k = 64 := by omega
          go_wp2_with (first
            | (go_at_call 9; (with_reducible refine (HAW.out _ (HEN.out.below K.out.be)).mono ?_); rintro e w9 ⟨rfl, hb9⟩; have K9 := Lib.hid (K.out.call hb9); clear hb9))
          go_ret
          exact ⟨rfl, K9.out.be⟩
theorem cback_any (b : List Int) (hb : b.length = 64) (n : Int) (w : World) (he : Env w) :
    Calls Tryd.prog 6 #[.agg (ia b), .int .i64 n] w fun e w' => e = .returned (.bool true) ∧ Below w.heap.size w w' := by
  by_cases hy : wiB b (-128) 127 = true ∧ -128 ≤ n ∧ n ≤ 127
  · exact cback_yes b hb hy.1 n hy.2.1 hy.2.2 w he
  · have HSB := Lib.hid (sizeB hb)
    have HSA := Lib.hid (samp_any b hb)
    have HAW := Lib.hid awake_any
    have HEN := Lib.hid he
    obtain ⟨w1, hw1, hK⟩ := Kn.one w b 26
    have K1 := Lib.hid hK
    have hn : wiB b (-128) 127 = false ∨ (wiB b (-128) 127 = true ∧ n < -128) ∨ (wiB b (-128) 127 = true ∧ ¬ n < -128 ∧ 127 < n) := by
      cases h : wiB b (-128) 127 with
      | false => exact .inl rfl
      | true =>
        by_cases h2 : n < -128
        · exact .inr (.inl ⟨rfl, h2⟩)
        · exact .inr (.inr ⟨rfl, h2, by simp [h] at hy; omega⟩)
    clear hb he hK hy
    rcases hn with h1 | ⟨h1, h2⟩ | ⟨h1, h2, h3⟩
    all_goals
      rw [h1] at HSA
      clear h1
      go_enter Tryd.func6, Tryd.ntmps6
      go_wp2_with (first
        | (rw [← hw1]; (with_reducible refine wpList_loadB _ rfl 26 (.tmp 2) rfl _ Tryd.underlying26 rfl w.heap.size rfl (ia b) (K1.out.get 0 rfl) HSB.out ?_))
        | (go_at_call 15; (try rw [← hw1]); (with_reducible refine (HSA.out _).mono ?_); rintro e w2 ⟨rfl, hb2⟩; replace hb2 : Below w1.heap.size w1 w2 := (by rw [hw1]; simpa [← hw1] using hb2); have K2 := Lib.hid (K1.out.call hb2); clear hb2)
        | (go_at_call 9; (with_reducible refine (HAW.out _ (HEN.out.below K2.out.be)).mono ?_); rintro e w9 ⟨rfl, hb9⟩; have K9 := Lib.hid (K2.out.call hb9); clear hb9))
      go_ret
      exact ⟨rfl, K9.out.be⟩
end Go.Proofs.YtlchdelhhnlgbaaDoor
