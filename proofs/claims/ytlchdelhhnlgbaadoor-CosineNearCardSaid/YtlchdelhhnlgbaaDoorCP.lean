/- The walk of CosineNear. -/
import Derived.Test.YtlchdelhhnlgbaaDoorCHf
namespace Go.Proofs.YtlchdelhhnlgbaaDoor
open Go.RowKit Go.Lib
set_option linter.unusedVariables false
set_option maxRecDepth 100000
def nT (b : List Int) (v u y x : Nat) : Int := b.getD (8 * y + x) 0 * (hp u x).2 * (hp v y).2
def lT (b : List Int) (v u y x : Nat) : Int := nT b v u y x * (hp u x).1 * (hp v y).1
def gT (b : List Int) (v u y x : Nat) : Int := nT b v u y x * ((hp u x).1 + 1) * ((hp v y).1 + 1)
def mnT (b : List Int) (v u y x : Nat) : Int := min (lT b v u y x) (gT b v u y x)
def mxT (b : List Int) (v u y x : Nat) : Int := max (lT b v u y x) (gT b v u y x)
theorem pm_le {x s B : Int} (h1 : -B ≤ x) (h2 : x ≤ B) (hs : s = 1 ∨ s = -1) : -B ≤ x * s ∧ x * s ≤ B := by rcases hs with rfl | rfl <;> omega
theorem T_eq (b : List Int) {v u y x : Nat} (hu : u < 8) (hx : x < 8) :
    bf b (8 * y + x) * hS (8 * v + u) (8 * y + x) * hL (8 * v + u) (8 * y + x) = lT b v u y x ∧ bf b (8 * y + x) * hS (8 * v + u) (8 * y + x) * hM (8 * v + u) (8 * y + x) = gT b v u y x := by
  unfold hS hL hM lT gT nT bf
  rw [show (8 * v + u) % 8 = u by omega, show (8 * y + x) % 8 = x by omega, show (8 * v + u) / 8 = v by omega, show (8 * y + x) / 8 = y by omega]
  constructor <;> simp only [Int.mul_assoc]
theorem lowS_is (b : List Int) {v u : Nat} (hu : u < 8) : sm (fun y => sm (fun x => mnT b v u y x) 8) 8 = lowS (bf b) (8 * v + u) := by
  unfold lowS
  rw [sm_64]
  refine sm_congr 8 fun y _ => sm_congr 8 fun x hx => ?_
  obtain ⟨h1, h2⟩ := T_eq b (v := v) (y := y) hu hx
  show mnT b v u y x = min _ _
  rw [h1, h2]; rfl
theorem highS_is (b : List Int) {v u : Nat} (hu : u < 8) : sm (fun y => sm (fun x => mxT b v u y x) 8) 8 = highS (bf b) (8 * v + u) := by
  unfold highS
  rw [sm_64]
  refine sm_congr 8 fun y _ => sm_congr 8 fun x hx => ?_
  obtain ⟨h1, h2⟩ := T_eq b (v := v) (y := y) hu hx
  show mxT b v u y x = max _ _
  rw [h1, h2]; rfl
set_option maxHeartbeats 32000000 in
theorem cnear_yes (b : List Int) (hb : b.length = 64) (h1 : wiB b (-128) 127 = true) (w : World) (he : Env w) :
    Calls Tryd.prog 5 #[.agg (ia b)] w fun e w' => e = .returned (.bool true) ∧ Below w.heap.size w w' := by
  have HBB : Hid (∀ p, p < 64 → -128 ≤ bf b p ∧ bf b p ≤ 127) := fun p hp => wiB_at h1 (by omega)
  have HNE : Hid (∀ q, q < 64 → 8 * rd (fS (bf b) q) * 100000000000000 ≤ 8 * highS (bf b) q + 5 * 100000000000000 ∧ 8 * lowS (bf b) q - 5 * 100000000000000 ≤ 8 * rd (fS (bf b) q) * 100000000000000) := fun q hq => near_c HBB.out hq
  have HCB : Hid (∀ q, q < 64 → -1024 ≤ rd (fS (bf b) q) ∧ rd (fS (bf b) q) ≤ 1023 ∧ (q = 0 → rd (fS (bf b) q) ≤ 1016) ∧ (0 < q → -1023 ≤ rd (fS (bf b) q))) := fun q hq => c_bnd HBB.out hq
  have HSB := Lib.hid (sizeB hb)
  have HSD := Lib.hid (sizeB (fwL_len b))
  have HED : Hid ((ia zeros).size = (ia (fwL b)).size) := same_size zeros_len (fwL_len b)
  have HOD := Lib.hid (one_ia (fwL b))
  have HZ := Lib.hid zeroB
  have HSA := Lib.hid (samp_any b hb)
  rw [h1] at HSA
  have HDV : Hid (∀ W, Env W → Calls Tryd.prog 10 #[.agg (ia b)] W fun e w' => e = .returned (.tuple #[.agg (ia (fwL b)), .int .i64 0]) ∧ Below W.heap.size W w') := fun W hW => by
    have := Forward_yes b hb (wiB_mono h1 (by omega) (by omega)) W hW
    rwa [fw_is] at this
  have HL : Hid (b.length = 64) := hb
  have HFL : Hid (∀ q, q < 64 → (fwL b).getD q 0 = rd (fS (bf b) q)) := fun q hq => mapB_at _ hq
  have HLL := Lib.hid (fwL_len b)
  have HAW := Lib.hid awake_any
  have HEN := Lib.hid he
  have HHF := Lib.hid half_any
  have HPB := Lib.hid hp_bnd
  have HTB : Hid (∀ v u y x, v < 8 → u < 8 → y < 8 → x < 8 → -128 ≤ b.getD (8 * y + x) 0 * (hp u x).2 ∧ b.getD (8 * y + x) 0 * (hp u x).2 ≤ 128 ∧ -128 ≤ nT b v u y x ∧ nT b v u y x ≤ 128 ∧ -627702656 ≤ nT b v u y x * (hp u x).1 ∧ nT b v u y x * (hp u x).1 ≤ 627702656 ∧ -627702656 ≤ nT b v u y x * ((hp u x).1 + 1) ∧ nT b v u y x * ((hp u x).1 + 1) ≤ 627702656 ∧ -3078208002730112 ≤ lT b v u y x ∧ lT b v u y x ≤ 3078208002730112 ∧ -3078208002730112 ≤ gT b v u y x ∧ gT b v u y x ≤ 3078208002730112) := fun v u y x hv hu hy hx => by
    have p1 := hp_bnd u hu x hx
    have p2 := hp_bnd v hv y hy
    have p3 := HBB.out (8 * y + x) (by omega)
    have a1 := pm_le (B := 128) (x := b.getD (8 * y + x) 0) (s := (hp u x).2) p3.1 (by have := p3.2; unfold bf at this; omega) p1.2.2
    have a2 : -128 ≤ nT b v u y x ∧ nT b v u y x ≤ 128 := pm_le a1.1 a1.2 p2.2.2
    have a3 := mul_le2 (B := 128) (C := 4903927) (y := (hp u x).1) a2.1 a2.2 (by omega) (by omega) (by omega)
    have a4 := mul_le2 (B := 128) (C := 4903927) (y := (hp u x).1 + 1) a2.1 a2.2 (by omega) (by omega) (by omega)
    have a5 : -(627702656 * 4903927) ≤ lT b v u y x ∧ lT b v u y x ≤ 627702656 * 4903927 := mul_le2 (B := 627702656) (C := 4903927) (by omega) (by omega) (by omega) (by omega) (by omega)
    have a6 : -(627702656 * 4903927) ≤ gT b v u y x ∧ gT b v u y x ≤ 627702656 * 4903927 := mul_le2 (B := 627702656) (C := 4903927) (by omega) (by omega) (by omega) (by omega) (by omega)
    omega
  have HMB : Hid (∀ v u y x, v < 8 → u < 8 → y < 8 → x < 8 → (-3078208002730112 ≤ mnT b v u y x ∧ mnT b v u y x ≤ 3078208002730112) ∧ -3078208002730112 ≤ mxT b v u y x ∧ mxT b v u y x ≤ 3078208002730112) := fun v u y x hv hu hy hx => by
    have := HTB.out v u y x hv hu hy hx
    unfold mnT mxT
    omega
  clear hb h1 he
  obtain ⟨w1, hw1, hK⟩ := Kn.one w b 26
  have K1 := Lib.hid hK
  clear hK
  go_enter Tryd.func5, Tryd.ntmps5
  go_upto_region 6 with (first
    | (rw [← hw1]; (with_reducible refine wpList_loadB _ rfl 26 (.tmp 1) rfl _ Tryd.underlying26 rfl w.heap.size rfl (ia b) (K1.out.get 0 rfl) HSB.out ?_))
    | (go_at_call 15; (try rw [← hw1]); (with_reducible refine (HSA.out _).mono ?_); rintro e w2 ⟨rfl, hb2⟩; replace hb2 : Below w1.heap.size w1 w2 := (by rw [hw1]; simpa [← hw1] using hb2); have K2 := Lib.hid (K1.out.call hb2); clear hb2)
    | (with_reducible refine wpList_loadB _ rfl 26 (.tmp 1) rfl _ Tryd.underlying26 rfl w.heap.size rfl (ia b) (K2.out.get 0 rfl) HSB.out ?_)
    | (go_at_call 10; (with_reducible refine (HDV.out _ (HEN.out.below K2.out.be)).mono ?_); rintro e w3 ⟨rfl, hb3⟩; have HB3 := Lib.hid hb3; clear hb3)
    | (with_reducible refine wpList_allocZ _ rfl 26 rfl (ia zeros) HZ.out ?_)
    | ((with_reducible refine wpList_storeB _ rfl 26 (.tmp 3) (.tmp 26) rfl w3.heap.size rfl (ia zeros) (Blk.new w3 (ia zeros) 26) (ia (fwL b)) rfl HSD.out HED.out HOD.out ?_)
       intro v3 hb4 hc4 hs4; have K3 := Lib.hid (K2.out.push HB3.out hc4 hb4); clear hb4 hc4 hs4))
  have K : Hid (Kn w [(w.heap.size, b), (w3.heap.size, fwL b)] v3) := K3.out
  generalize w3.heap.size = G at *
  clear K1 K2 K3 HB3 HDV HSA HSD HED HOD hw1 HZ HSB
  generalize hFW : fwL b = fb at *
  clear hFW
  go_upto_region 7 with fail
  go_loopw [5] (fun i wr => ∃ (v : Nat), v ≤ 8 ∧ i = .int .i64 v ∧ Hid (Kn w [(w.heap.size, b), (G, fb)] wr)) (fun i _ => 8 - (RowKit.intOf i).toNat)
  case atStart => exact ⟨0, by omega, rfl, K⟩
  case round =>
    clear K
    rename World => wo
    obtain ⟨v, hv, rfl, K⟩ := hrel
    by_cases hv8 : v < 8
    · go_wp2
      generalize decide ((v : Int) < 8) = bv
      go_loopw [6] (fun i wr => ∃ (u : Nat), u ≤ 8 ∧ i = .int .i64 u ∧ Hid (Kn w [(w.heap.size, b), (G, fb)] wr)) (fun i _ => 8 - (RowKit.intOf i).toNat)
      case atStart => exact ⟨0, by omega, rfl, K⟩
      case round =>
        clear K
        rename World => wi
        obtain ⟨u, hu, rfl, K⟩ := hrel
        by_cases hu8 : u < 8
        · go_wp2
          generalize decide ((u : Int) < 8) = bu
          go_loopw [9, 7, 8] (fun i lo hi wr => ∃ (y : Nat), y ≤ 8 ∧ i = .int .i64 y ∧ lo = .int .i64 (sm (fun y => sm (fun x => mnT b v u y x) 8) y) ∧ hi = .int .i64 (sm (fun y => sm (fun x => mxT b v u y x) 8) y) ∧ Hid (Kn w [(w.heap.size, b), (G, fb)] wr)) (fun i _ _ _ => 8 - (RowKit.intOf i).toNat)
          case atStart => exact ⟨0, by omega, rfl, rfl, rfl, K⟩
          case round =>
            clear K
            rename World => wa
            obtain ⟨y, hy, rfl, rfl, rfl, K⟩ := hrel
            by_cases hy8 : y < 8
            · have HA := sm_bnd (f := fun y => sm (fun x => mnT b v u y x) 8) (C := 24625664021840896) y (fun a ha => by
                have := sm_bnd (f := fun x => mnT b v u a x) (C := 3078208002730112) 8 (fun c hc => (HMB.out v u a c hv8 hu8 (by omega) hc).1)
                omega)
              have HB := sm_bnd (f := fun y => sm (fun x => mxT b v u y x) 8) (C := 24625664021840896) y (fun a ha => by
                have := sm_bnd (f := fun x => mxT b v u a x) (C := 3078208002730112) 8 (fun c hc => (HMB.out v u a c hv8 hu8 (by omega) hc).2)
                omega)
              have HAN : Hid (sm (fun y => sm (fun x => mnT b v u y x) 8) (y + 1) = sm (fun y => sm (fun x => mnT b v u y x) 8) y + sm (fun x => mnT b v u y x) 8) := rfl
              have HBN : Hid (sm (fun y => sm (fun x => mxT b v u y x) 8) (y + 1) = sm (fun y => sm (fun x => mxT b v u y x) 8) y + sm (fun x => mxT b v u y x) 8) := rfl
              generalize sm (fun y => sm (fun x => mnT b v u y x) 8) y = A at *
              generalize sm (fun y => sm (fun x => mxT b v u y x) 8) y = B at *
              have hA1 : -200000000000000000 ≤ A := by omega
              have hA2 : A ≤ 200000000000000000 := by omega
              have hB1 : -200000000000000000 ≤ B := by omega
              have hB2 : B ≤ 200000000000000000 := by omega
              clear HA HB
              go_wp2
              generalize decide ((y : Int) < 8) = by0
              go_loopw [10, 7, 8] (fun i lo hi wr => ∃ (x : Nat), x ≤ 8 ∧ i = .int .i64 x ∧ lo = .int .i64 (A + sm (fun x => mnT b v u y x) x) ∧ hi = .int .i64 (B + sm (fun x => mxT b v u y x) x) ∧ Hid (Kn w [(w.heap.size, b), (G, fb)] wr)) (fun i _ _ _ => 8 - (RowKit.intOf i).toNat)
              case atStart => exact ⟨0, by omega, rfl, by simp [sm], by simp [sm], K⟩
              case round =>
                clear K
                rename World => wc
                obtain ⟨x, hx, rfl, rfl, rfl, K⟩ := hrel
                by_cases hx8 : x < 8
                · have HC := sm_bnd (f := fun x => mnT b v u y x) (C := 3078208002730112) x (fun c hc => (HMB.out v u y c hv8 hu8 hy8 (by omega)).1)
                  have HD := sm_bnd (f := fun x => mxT b v u y x) (C := 3078208002730112) x (fun c hc => (HMB.out v u y c hv8 hu8 hy8 (by omega)).2)
                  have HCN : Hid (sm (fun x => mnT b v u y x) (x + 1) = sm (fun x => mnT b v u y x) x + min (lT b v u y x) (gT b v u y x)) := rfl
                  have HDN : Hid (sm (fun x => mxT b v u y x) (x + 1) = sm (fun x => mxT b v u y x) x + max (lT b v u y x) (gT b v u y x)) := rfl
                  have HN0 : Hid (nT b v u y x = b.getD (8 * y + x) 0 * (hp u x).2 * (hp v y).2) := rfl
                  have HL0 : Hid (lT b v u y x = nT b v u y x * (hp u x).1 * (hp v y).1) := rfl
                  have HG0 : Hid (gT b v u y x = nT b v u y x * ((hp u x).1 + 1) * ((hp v y).1 + 1)) := rfl
                  have htb := HTB.out v u y x hv8 hu8 hy8 hx8
                  have hp1 := HPB.out u hu8 x hx8
                  have hp2 := HPB.out v hv8 y hy8
                  have HH1 := Lib.hid (HHF.out u x hu8 hx8)
                  have HH2 := Lib.hid (HHF.out v y hv8 hy8)
                  obtain ⟨I, hI⟩ : ∃ I, I = 8 * y + x := ⟨_, rfl⟩
                  have eI : 8 * (y : Int) + (x : Int) = (I : Int) := by omega
                  have bI : (I : Int) < 64 := by omega
                  have HCI : Hid (∀ W, Kn w [(w.heap.size, b), (G, fb)] W → W.cell? ⟨w.heap.size, I, none⟩ = some (.int .i64 (b.getD I 0))) := fun W hS => hS.cell 0 rfl (by rw [HL.out]; omega) rfl
                  rw [← hI] at HN0 htb
                  clear hI
                  generalize sm (fun x => mnT b v u y x) x = E at *
                  generalize sm (fun x => mxT b v u y x) x = F at *
                  generalize lT b v u y x = L at *
                  generalize gT b v u y x = M at *
                  generalize nT b v u y x = n at *
                  generalize b.getD I 0 = X at *
                  generalize (hp u x).1 = P1 at *
                  generalize (hp u x).2 = S1 at *
                  generalize (hp v y).1 = P2 at *
                  generalize (hp v y).2 = S2 at *
                  generalize ep1 : P1 + 1 = Q1 at *
                  generalize ep2 : P2 + 1 = Q2 at *
                  generalize en1 : X * S1 = n1 at *
                  have en := HN0.out.symm
                  generalize el1 : n * P1 = l1 at *
                  have el := HL0.out.symm
                  generalize eg1 : n * Q1 = g1 at *
                  have eg := HG0.out.symm
                  obtain ⟨t1, t2, t3, t4, t5, t6, t7, t8, t9, t10, t11, t12⟩ := htb
                  obtain ⟨p1, p2, p3⟩ := hp1
                  obtain ⟨p4, p5, p6⟩ := hp2
                  obtain ⟨k1, k2⟩ := HC
                  obtain ⟨k3, k4⟩ := HD
                  clear HN0 HL0 HG0 p3 p6
                  by_cases hLM : L ≤ M
                  · have HV1 : Hid (min L M = L ∧ max L M = M) := by show _ ∧ _; omega
                    go_wp2_with (first
                      | (go_at_call 16; (with_reducible refine (HH1.out _).mono ?_); rintro e w5 ⟨rfl, hb5⟩; have K5 := Lib.hid (K.out.call hb5); clear hb5)
                      | (go_at_call 16; (with_reducible refine (HH2.out _).mono ?_); rintro e w6 ⟨rfl, hb6⟩; have K6 := Lib.hid (K5.out.call hb6); have e0 := HCI.out _ K6.out; clear hb6))
                    refine ⟨⟨x + 1, by omega, by go_num, ?_, ?_, K6⟩, by simp [RowKit.intOf]; omega⟩
                    · have := HV1.out.1
                      rw [HCN.out]
                      congr 1
                      first | omega | (split <;> omega)
                    · have := HV1.out.2
                      rw [HDN.out]
                      congr 1
                      first | omega | (split <;> omega)
                  · have hML : M < L := by omega
                    have HV1 : Hid (min L M = M ∧ max L M = L) := by show _ ∧ _; omega
                    go_wp2_with (first
                      | (go_at_call 16; (with_reducible refine (HH1.out _).mono ?_); rintro e w5 ⟨rfl, hb5⟩; have K5 := Lib.hid (K.out.call hb5); clear hb5)
                      | (go_at_call 16; (with_reducible refine (HH2.out _).mono ?_); rintro e w6 ⟨rfl, hb6⟩; have K6 := Lib.hid (K5.out.call hb6); have e0 := HCI.out _ K6.out; clear hb6))
                    refine ⟨⟨x + 1, by omega, by go_num, ?_, ?_, K6⟩, by simp [RowKit.intOf]; omega⟩
                    · have := HV1.out.1
                      rw [HCN.out]
                      congr 1
                      first | omega | (split <;> omega)
                    · have := HV1.out.2
                      rw [HDN.out]
                      congr 1
                      first | omega | (split <;> omega)
                · obtain rfl : x = 8 := by omega
                  rw [← HAN.out, ← HBN.out]
                  go_wp2
                  go_roundw
                  case rel => exact ⟨y + 1, by omega, by go_num, rfl, rfl, K⟩
                  case measure => simp [RowKit.intOf]; omega
            · obtain rfl : y = 8 := by omega
              have HA := sm_bnd (f := fun y => sm (fun x => mnT b v u y x) 8) (C := 24625664021840896) 8 (fun a ha => by
                have := sm_bnd (f := fun x => mnT b v u a x) (C := 3078208002730112) 8 (fun c hc => (HMB.out v u a c hv8 hu8 (by omega) hc).1)
                omega)
              have HB := sm_bnd (f := fun y => sm (fun x => mxT b v u y x) 8) (C := 24625664021840896) 8 (fun a ha => by
                have := sm_bnd (f := fun x => mxT b v u a x) (C := 3078208002730112) 8 (fun c hc => (HMB.out v u a c hv8 hu8 (by omega) hc).2)
                omega)
              rw [lowS_is b hu8] at HA ⊢
              rw [highS_is b hu8] at HB ⊢
              have hne := HNE.out (8 * v + u) (by omega)
              have hcb := HCB.out (8 * v + u) (by omega)
              have e0 := K.out.cell 1 rfl (k := 8 * v + u) (by rw [HLL.out]; omega) (HFL.out (8 * v + u) (by omega))
              obtain ⟨I, hI⟩ : ∃ I, I = 8 * v + u := ⟨_, rfl⟩
              have eI : 8 * (v : Int) + (u : Int) = (I : Int) := by omega
              have bI : (I : Int) < 64 := by omega
              rw [← hI] at hne hcb HA HB e0 ⊢
              generalize rd (fS (bf b) I) = c at *
              generalize lowS (bf b) I = Lo at *
              generalize highS (bf b) I = Hi at *
              obtain ⟨c1, c2, c3, c4⟩ := hcb
              obtain ⟨d1, d2⟩ := hne
              generalize ec8 : 8 * c = c8 at *
              generalize ec9 : c8 * 100000000000000 = c9 at *
              generalize eh8 : 8 * Hi = h8 at *
              generalize eh9 : h8 + 500000000000000 = h9 at *
              generalize el8 : 8 * Lo = l8 at *
              generalize el9 : l8 - 500000000000000 = l9 at *
              have f1 : c9 ≤ h9 := by omega
              have f2 : l9 ≤ c9 := by omega
              obtain ⟨b1, b2⟩ := HA
              obtain ⟨b3, b4⟩ := HB
              obtain ⟨SS, hSS⟩ : ∃ SS, SS = (u : Int) + (v : Int) := ⟨_, rfl⟩
              have eS : (u : Int) + (v : Int) = SS := hSS.symm
              by_cases hq : I = 0
              · have f3 : c ≤ 1016 := c3 hq
                have f4 : (SS == 0) = true := by simp; omega
                have f5 : SS ≤ 0 := by omega
                clear hSS hI c3 c4 d1 d2 hq
                go_wp2
                go_roundw
                case rel => exact ⟨u + 1, by omega, by go_num, K⟩
                case measure => simp [RowKit.intOf]; omega
              · have f3 : -1023 ≤ c := c4 (by omega)
                have f4 : (SS == 0) = false := by simp; omega
                have f5 : 0 < SS := by omega
                clear hSS hI c3 c4 d1 d2 hq
                go_wp2
                go_roundw
                case rel => exact ⟨u + 1, by omega, by go_num, K⟩
                case measure => simp [RowKit.intOf]; omega
        · obtain rfl : u = 8 := by omega
          go_wp2
          go_roundw
          case rel => exact ⟨v + 1, by omega, by go_num, K⟩
          case measure => simp [RowKit.intOf]; omega
    · obtain rfl : v = 8 := by omega
      go_wp2_with (first
        | (go_at_call 9; (with_reducible refine (HAW.out _ (HEN.out.below K.out.be)).mono ?_); rintro e w9 ⟨rfl, hb9⟩; have K9 := Lib.hid (K.out.call hb9); clear hb9))
      go_ret
      exact ⟨rfl, K9.out.be⟩
theorem cnear_any (b : List Int) (hb : b.length = 64) (w : World) (he : Env w) :
    Calls Tryd.prog 5 #[.agg (ia b)] w fun e w' => e = .returned (.bool true) ∧ Below w.heap.size w w' := by
  cases h1 : wiB b (-128) 127 with
  | true => exact cnear_yes b hb h1 w he
  | false =>
    have HSB := Lib.hid (sizeB hb)
    have HSA := Lib.hid (samp_any b hb)
    rw [h1] at HSA
    have HAW := Lib.hid awake_any
    have HEN := Lib.hid he
    clear hb h1 he
    obtain ⟨w1, hw1, hK⟩ := Kn.one w b 26
    have K1 := Lib.hid hK
    clear hK
    go_enter Tryd.func5, Tryd.ntmps5
    go_wp2_with (first
      | (rw [← hw1]; (with_reducible refine wpList_loadB _ rfl 26 (.tmp 1) rfl _ Tryd.underlying26 rfl w.heap.size rfl (ia b) (K1.out.get 0 rfl) HSB.out ?_))
      | (go_at_call 15; (try rw [← hw1]); (with_reducible refine (HSA.out _).mono ?_); rintro e w2 ⟨rfl, hb2⟩; replace hb2 : Below w1.heap.size w1 w2 := (by rw [hw1]; simpa [← hw1] using hb2); have K2 := Lib.hid (K1.out.call hb2); clear hb2)
      | (go_at_call 9; (with_reducible refine (HAW.out _ (HEN.out.below K2.out.be)).mono ?_); rintro e w9 ⟨rfl, hb9⟩; have K9 := Lib.hid (K2.out.call hb9); clear hb9))
    go_ret
    exact ⟨rfl, K9.out.be⟩
end Go.Proofs.YtlchdelhhnlgbaaDoor
