/- Contracts: the document's Forward and Inverse, by definition: four loops one in another (by a template). -/
import Derived.Test.YtlchdelhhnlgbaaDoorCL
namespace Go.Proofs.YtlchdelhhnlgbaaDoor
open Go.RowKit Go.Lib
set_option linter.unusedVariables false
set_option maxRecDepth 100000
/-- What stands in memory while the document's transforms run. -/
structure FS (w : World) (b L : List Int) (W : World) : Prop where
  b0 : Blk W w.heap.size (ia b)
  b1 : Blk W (w.heap.size + 1) (ia zeros)
  b2 : Blk W (w.heap.size + 1 + 1) (ia L)
  be : Below w.heap.size w W
theorem FS.drew {w W : World} {b L : List Int} (h : FS w b L W) : FS w b L W.drew := ⟨h.b0, h.b1, h.b2, h.be.drew⟩
theorem FS.call {w W W' : World} {b L : List Int} (h : FS w b L W) (hb : Below W.heap.size W W') : FS w b L W' := ⟨h.b0.below hb, h.b1.below hb, h.b2.below hb, h.be.trans (hb.mono h.be.size)⟩
theorem FS.set {w W : World} {b L : List Int} (h : FS w b L W) (k : Nat) (x : Int) : FS w b (L.set k x) (W.setCell ⟨w.heap.size + 1 + 1, k, none⟩ (.int .i64 x)) :=
  ⟨h.b0.other (by show w.heap.size ≠ w.heap.size + 1 + 1; omega) _, h.b1.other (by show w.heap.size + 1 ≠ w.heap.size + 1 + 1; omega) _, h.b2.set_int k x, h.be.setCell (p := ⟨w.heap.size + 1 + 1, k, none⟩) (by show w.heap.size ≤ w.heap.size + 1 + 1; omega) _⟩
theorem wr64 {a : Int} (h1 : -9000000000000000000 ≤ a) (h2 : a ≤ 9000000000000000000) : IntKind.i64.wrap a = a := by rw [IntKind.wrap_i64]; omega
/-- A term of Forward's sums. -/
def tmf (b : List Int) (i j a c : Nat) : Int := b.getD (8 * a + c) 0 * fcI (j : Int) (c : Int) * fcI (i : Int) (a : Int)
theorem tmf_sum (b : List Int) {i j : Nat} (hi : i < 8) (hj : j < 8) : sm (fun a => sm (fun c => tmf b i j a c) 8) 8 = fS (bf b) (8 * i + j) := by
  rw [fS_rows (bf b) i j hj]
  refine sm_congr 8 fun a ha => sm_congr 8 fun c hc => ?_
  unfold tmf
  rw [fcI_nat (by omega) (by omega), fcI_nat (by omega) (by omega)]; rfl
set_option maxHeartbeats 16000000 in
theorem rForward_any (b : List Int) (hb : b.length = 64) (h1 : wiB b (-32768) 32768 = true) (w : World) :
    Calls Tryd.prog 13 #[.agg (ia b)] w fun e w' => e = .returned (.agg (ia (fwL b))) ∧ Below w.heap.size w w' := by
  obtain ⟨w1, hw1, hb0, hb1, hb2, hB⟩ := tre_blk w (ia b) (ia zeros) (ia zeros) 26 26 26
  have HZ := Lib.hid zeroB
  have S0 : Hid (FS w b zeros w1) := ⟨hb0, hb1, hb2, hB⟩
  have HL := Lib.hid hb
  have HRF := Lib.hid rfac_any
  have HER := Lib.hid (enters_of Tryd.func8 (by kernel_rfl) rfl)
  have HP1 : Hid (∀ i, i < 64 → ∀ u x, -1053097984 ≤ b.getD i 0 * fcI u x ∧ b.getD i 0 * fcI u x ≤ 1053097984) := fun i hi u x => by
    have c1 := wiB_at h1 (k := i) (by omega)
    have c2 := fcI_bnd u x
    exact mul_le2 (B := 32768) (C := 32138) c1.1 c1.2 c2.1 c2.2 (by omega)
  have HP2 : Hid (∀ i j a c, a < 8 → c < 8 → -33844463009792 ≤ tmf b i j a c ∧ tmf b i j a c ≤ 33844463009792) := fun i j a c ha hc => by
    have c1 := HP1.out (8 * a + c) (by omega) (j : Int) (c : Int)
    have c2 := fcI_bnd (i : Int) (a : Int)
    exact mul_le2 (B := 1053097984) (C := 32138) c1.1 c1.2 c2.1 c2.2 (by omega)
  have HSM : Hid (∀ i j, i < 8 → j < 8 → sm (fun a => sm (fun c => tmf b i j a c) 8) 8 = fS (bf b) (8 * i + j)) := fun i j hi hj => tmf_sum b hi hj
  clear hb0 hb1 hb2 hB hb h1
  go_enter Tryd.func13, Tryd.ntmps13
  go_wp2_with (first
    | (with_reducible refine wpList_allocZ _ rfl 26 rfl (ia zeros) HZ.out ?_))
  rw [← hw1]
  clear hw1
  go_loopw [4] (fun vi wr => ∃ (i : Nat), i ≤ 8 ∧ vi = .int .i64 i ∧ Hid (FS w b (partK (fun q => rd (fS (bf b) q)) (8 * i)) wr)) (fun vi _ => 8 - (RowKit.intOf vi).toNat)
  case atStart => exact ⟨0, by omega, rfl, (show Hid _ from by show FS _ _ _ _; rw [Nat.mul_zero, partK_zero]; exact S0.out)⟩
  case round =>
    clear S0
    rename World => wo
    obtain ⟨i, hi, rfl, S⟩ := hrel
    by_cases hi8 : i < 8
    · go_wp2
      generalize decide ((i : Int) < 8) = b9
      go_loopw [5] (fun vj wr => ∃ (j : Nat), j ≤ 8 ∧ vj = .int .i64 j ∧ Hid (FS w b (partK (fun q => rd (fS (bf b) q)) (8 * i + j)) wr)) (fun vj _ => 8 - (RowKit.intOf vj).toNat)
      case atStart => exact ⟨0, by omega, rfl, S⟩
      case round =>
        clear S
        rename World => wi
        obtain ⟨j, hj, rfl, S⟩ := hrel
        by_cases hj8 : j < 8
        · go_wp2
          generalize decide ((j : Int) < 8) = b8
          go_loopw [7, 6] (fun va vs wr => ∃ (a : Nat), a ≤ 8 ∧ va = .int .i64 a ∧ vs = .int .i64 (sm (fun a => sm (fun c => tmf b i j a c) 8) a) ∧ Hid (FS w b (partK (fun q => rd (fS (bf b) q)) (8 * i + j)) wr)) (fun va _ _ => 8 - (RowKit.intOf va).toNat)
          case atStart => exact ⟨0, by omega, rfl, rfl, S⟩
          case round =>
            clear S
            rename World => wa
            obtain ⟨a, ha, rfl, rfl, S⟩ := hrel
            by_cases ha8 : a < 8
            · have HA := sm_bnd (f := fun a => sm (fun c => tmf b i j a c) 8) (C := 270755704078336) a (fun x hx => by
                have := sm_bnd (f := fun c => tmf b i j x c) (C := 33844463009792) 8 (fun y hy => HP2.out i j x y (by omega) (by omega))
                omega)
              have HAN : Hid (sm (fun a => sm (fun c => tmf b i j a c) 8) (a + 1) = sm (fun a => sm (fun c => tmf b i j a c) 8) a + sm (fun c => tmf b i j a c) 8) := rfl
              generalize sm (fun a => sm (fun c => tmf b i j a c) 8) a = A at *
              have hA1 : -2166045632626688 ≤ A := by omega
              have hA2 : A ≤ 2166045632626688 := by omega
              clear HA
              go_wp2
              generalize decide ((a : Int) < 8) = b7
              go_loopw [8, 6] (fun vc vs wr => ∃ (c : Nat), c ≤ 8 ∧ vc = .int .i64 c ∧ vs = .int .i64 (A + sm (fun c => tmf b i j a c) c) ∧ Hid (FS w b (partK (fun q => rd (fS (bf b) q)) (8 * i + j)) wr)) (fun vc _ _ => 8 - (RowKit.intOf vc).toNat)
              case atStart => exact ⟨0, by omega, rfl, by simp [sm], S⟩
              case round =>
                clear S
                rename World => wc
                obtain ⟨c, hc, rfl, rfl, S⟩ := hrel
                by_cases hc8 : c < 8
                · have HB := sm_bnd (f := fun c => tmf b i j a c) (C := 33844463009792) c (fun y hy => HP2.out i j a y (by omega) (by omega))
                  have HBN : Hid (sm (fun c => tmf b i j a c) (c + 1) = sm (fun c => tmf b i j a c) c + tmf b i j a c) := rfl
                  have HT : Hid (tmf b i j a c = b.getD (8 * a + c) 0 * fcI (j : Int) (c : Int) * fcI (i : Int) (a : Int)) := rfl
                  have hm := HP2.out i j a c ha8 hc8
                  have hp := HP1.out (8 * a + c) (by omega) (j : Int) (c : Int)
                  obtain ⟨I, hI⟩ : ∃ I, I = 8 * a + c := ⟨_, rfl⟩
                  have eI : 8 * (a : Int) + (c : Int) = (I : Int) := by omega
                  have bI : (I : Int) < 64 := by omega
                  have HC0 : Hid (∀ W, FS w b (partK (fun q => rd (fS (bf b) q)) (8 * i + j)) W → W.cell? ⟨w.heap.size, I, none⟩ = some (.int .i64 (b.getD I 0))) := fun W hS => hS.b0.cell (ia_at (by rw [HL.out]; omega))
                  have HF1 := Lib.hid (HRF.out (j : Int) (c : Int))
                  have HF2 := Lib.hid (HRF.out (i : Int) (a : Int))
                  rw [← hI] at HT hp
                  clear hI
                  generalize b.getD I 0 = x at *
                  generalize fcI (j : Int) (c : Int) = f1 at *
                  generalize fcI (i : Int) (a : Int) = f2 at *
                  generalize sm (fun c => tmf b i j a c) c = B at *
                  generalize tmf b i j a c = m at *
                  generalize hp1 : x * f1 = p at *
                  have hp2 : p * f2 = m := HT.out.symm
                  clear HT
                  have wa1 : IntKind.i64.wrap (8 * (a : Int)) = 8 * (a : Int) := wr64 (by omega) (by omega)
                  have wI : IntKind.i64.wrap (I : Int) = (I : Int) := wr64 (by omega) (by omega)
                  have wp : IntKind.i64.wrap p = p := wr64 (by omega) (by omega)
                  have wm : IntKind.i64.wrap m = m := wr64 (by omega) (by omega)
                  have ws : IntKind.i64.wrap (A + B + m) = A + B + m := wr64 (by omega) (by omega)
                  clear hm hp HB
                  go_upto_region 15 with fail
                  refine wp_region_seq (FS w b (partK (fun q => rd (fS (bf b) q)) (8 * i + j))) (by kernel_rfl) (by kernel_rfl) (by kernel_rfl) S.out.drew ?_
                  repeat (
                    first
                      | (refine seq_off (by rfl) ?_)
                      | (refine seq_callF 8 _ _ [.int .i64 j, .int .i64 c] (by rfl) rfl HER.out rfl (fun W hS => (HF1.out W).mono fun e w' h => ⟨h.1, hS.call h.2⟩) ?_)
                      | (refine seq_callF 8 _ _ [.int .i64 i, .int .i64 a] (by rfl) rfl HER.out rfl (fun W hS => (HF2.out W).mono fun e w' h => ⟨h.1, hS.call h.2⟩) ?_)
                      | (apply seq_val (by rfl)
                         focus (intro W hS; have e0 := HC0.out W hS; clear hS; go_simp; try with_reducible rfl; done))
                    simp only [Act.put, List.setIfInBounds_toArray, List.set_cons_zero, List.set_cons_succ])
                  refine seq_nil fun W hS => ?_
                  have S2 := Lib.hid hS
                  clear hS S HC0
                  go_wp2
                  go_roundw
                  case rel => exact ⟨c + 1, by omega, by go_num, by rw [HBN.out, Int.add_assoc], S2⟩
                  case measure => simp [RowKit.intOf]; omega
                · obtain rfl : c = 8 := by omega
                  rw [← HAN.out]
                  go_wp2
                  go_roundw
                  case rel => exact ⟨a + 1, by omega, by go_num, rfl, S⟩
                  case measure => simp [RowKit.intOf]; omega
            · obtain rfl : a = 8 := by omega
              have HA := sm_bnd (f := fun a => sm (fun c => tmf b i j a c) 8) (C := 270755704078336) 8 (fun x hx => by
                have := sm_bnd (f := fun c => tmf b i j x c) (C := 33844463009792) 8 (fun y hy => HP2.out i j x y (by omega) (by omega))
                omega)
              have HV := Lib.hid (HSM.out i j hi8 hj8)
              have HN := Lib.hid (partK_next (fun q => rd (fS (bf b) q)) (k := 8 * i + j) (by omega))
              have HPL := Lib.hid (partK_len (fun q => rd (fS (bf b) q)) (8 * i + j))
              have HRD := Lib.hid (rrnd_any (sm (fun a => sm (fun c => tmf b i j a c) 8) 8) (by omega) (by omega))
              clear HA
              rw [HV.out] at HRD ⊢
              obtain ⟨I, hI⟩ : ∃ I, I = 8 * i + j := ⟨_, rfl⟩
              have eI : 8 * (i : Int) + (j : Int) = (I : Int) := by omega
              have bI : (I : Int) < 64 := by omega
              have e0 := S.out.b2.cell (ia_at (j := I) (by rw [HPL.out]; omega))
              have f0 := S.out.b2.frozen I
              rw [← hI] at HN HRD
              have HI := Lib.hid hI
              clear hI
              generalize (partK (fun q => rd (fS (bf b) q)) (8 * i + j)).getD I 0 = o at *
              go_wp2_with (first
                | (go_at_call 21; rw [← HI.out]; (with_reducible refine (HRD.out _).mono ?_); rintro e w5 ⟨rfl, rfl⟩))
              go_roundw
              case rel => exact ⟨j + 1, by omega, by go_num, (show Hid _ from by show FS _ _ _ _; rw [← Nat.add_assoc, ← HI.out, ← HN.out, HI.out]; exact S.out.set _ _)⟩
              case measure => simp [RowKit.intOf]; omega
        · obtain rfl : j = 8 := by omega
          go_wp2
          go_roundw
          case rel => exact ⟨i + 1, by omega, by go_num, (show Hid _ from by show FS _ _ _ _; rw [Nat.mul_add, Nat.mul_one]; exact S.out)⟩
          case measure => simp [RowKit.intOf]; omega
    · obtain rfl : i = 8 := by omega
      have HA : Hid (partK (fun q => rd (fS (bf b) q)) (8 * 8) = fwL b) := partK_all _
      rw [HA.out] at S
      have HS := Lib.hid (sizeB (fwL_len b))
      have HE : Hid ((ia zeros).size = (ia (fwL b)).size) := same_size zeros_len (fwL_len b)
      have HO := Lib.hid (one_ia (fwL b))
      go_wp2_with (first
        | (with_reducible refine wpList_loadB _ rfl 26 (.tmp 3) rfl _ Tryd.underlying26 rfl (w.heap.size + 1 + 1) rfl (ia (fwL b)) S.out.b2 HS.out ?_)
        | ((with_reducible refine wpList_storeB _ rfl 26 (.tmp 2) (.tmp 48) rfl (w.heap.size + 1) rfl (ia zeros) S.out.b1 (ia (fwL b)) rfl HS.out HE.out HO.out ?_)
           intro w3 hb3 hc3 hs3))
      refine bodyPost_ret (results_cell rfl _ _ _ Tryd.underlying26 rfl (w.heap.size + 1) (ia (fwL b)) rfl (fun j v hv => hb3.cell hv) HS.out) rfl ?_
      exact ⟨rfl, S.out.be.trans (hc3.below S.out.be.size (fun i e => by omega))⟩
/-- A term of Inverse's sums. -/
def tmi (b : List Int) (i j a c : Nat) : Int := b.getD (8 * a + c) 0 * fcI (c : Int) (j : Int) * fcI (a : Int) (i : Int)
theorem tmi_sum (b : List Int) {i j : Nat} (hi : i < 8) (hj : j < 8) : sm (fun a => sm (fun c => tmi b i j a c) 8) 8 = iS (bf b) (8 * i + j) := by
  rw [iS_rows (bf b) i j hj]
  refine sm_congr 8 fun a ha => sm_congr 8 fun c hc => ?_
  unfold tmi
  rw [fcI_nat (by omega) (by omega), fcI_nat (by omega) (by omega)]; rfl
set_option maxHeartbeats 16000000 in
theorem rInverse_any (b : List Int) (hb : b.length = 64) (h1 : wiB b (-32768) 32768 = true) (w : World) :
    Calls Tryd.prog 14 #[.agg (ia b)] w fun e w' => e = .returned (.agg (ia (ivL b))) ∧ Below w.heap.size w w' := by
  obtain ⟨w1, hw1, hb0, hb1, hb2, hB⟩ := tre_blk w (ia b) (ia zeros) (ia zeros) 26 26 26
  have HZ := Lib.hid zeroB
  have S0 : Hid (FS w b zeros w1) := ⟨hb0, hb1, hb2, hB⟩
  have HL := Lib.hid hb
  have HRF := Lib.hid rfac_any
  have HER := Lib.hid (enters_of Tryd.func8 (by kernel_rfl) rfl)
  have HP1 : Hid (∀ i, i < 64 → ∀ u x, -1053097984 ≤ b.getD i 0 * fcI u x ∧ b.getD i 0 * fcI u x ≤ 1053097984) := fun i hi u x => by
    have c1 := wiB_at h1 (k := i) (by omega)
    have c2 := fcI_bnd u x
    exact mul_le2 (B := 32768) (C := 32138) c1.1 c1.2 c2.1 c2.2 (by omega)
  have HP2 : Hid (∀ i j a c, a < 8 → c < 8 → -33844463009792 ≤ tmi b i j a c ∧ tmi b i j a c ≤ 33844463009792) := fun i j a c ha hc => by
    have c1 := HP1.out (8 * a + c) (by omega) (c : Int) (j : Int)
    have c2 := fcI_bnd (a : Int) (i : Int)
    exact mul_le2 (B := 1053097984) (C := 32138) c1.1 c1.2 c2.1 c2.2 (by omega)
  have HSM : Hid (∀ i j, i < 8 → j < 8 → sm (fun a => sm (fun c => tmi b i j a c) 8) 8 = iS (bf b) (8 * i + j)) := fun i j hi hj => tmi_sum b hi hj
  clear hb0 hb1 hb2 hB hb h1
  go_enter Tryd.func14, Tryd.ntmps14
  go_wp2_with (first
    | (with_reducible refine wpList_allocZ _ rfl 26 rfl (ia zeros) HZ.out ?_))
  rw [← hw1]
  clear hw1
  go_loopw [4] (fun vi wr => ∃ (i : Nat), i ≤ 8 ∧ vi = .int .i64 i ∧ Hid (FS w b (partK (fun q => rd (iS (bf b) q)) (8 * i)) wr)) (fun vi _ => 8 - (RowKit.intOf vi).toNat)
  case atStart => exact ⟨0, by omega, rfl, (show Hid _ from by show FS _ _ _ _; rw [Nat.mul_zero, partK_zero]; exact S0.out)⟩
  case round =>
    clear S0
    rename World => wo
    obtain ⟨i, hi, rfl, S⟩ := hrel
    by_cases hi8 : i < 8
    · go_wp2
      generalize decide ((i : Int) < 8) = b9
      go_loopw [5] (fun vj wr => ∃ (j : Nat), j ≤ 8 ∧ vj = .int .i64 j ∧ Hid (FS w b (partK (fun q => rd (iS (bf b) q)) (8 * i + j)) wr)) (fun vj _ => 8 - (RowKit.intOf vj).toNat)
      case atStart => exact ⟨0, by omega, rfl, S⟩
      case round =>
        clear S
        rename World => wi
        obtain ⟨j, hj, rfl, S⟩ := hrel
        by_cases hj8 : j < 8
        · go_wp2
          generalize decide ((j : Int) < 8) = b8
          go_loopw [7, 6] (fun va vs wr => ∃ (a : Nat), a ≤ 8 ∧ va = .int .i64 a ∧ vs = .int .i64 (sm (fun a => sm (fun c => tmi b i j a c) 8) a) ∧ Hid (FS w b (partK (fun q => rd (iS (bf b) q)) (8 * i + j)) wr)) (fun va _ _ => 8 - (RowKit.intOf va).toNat)
          case atStart => exact ⟨0, by omega, rfl, rfl, S⟩
          case round =>
            clear S
            rename World => wa
            obtain ⟨a, ha, rfl, rfl, S⟩ := hrel
            by_cases ha8 : a < 8
            · have HA := sm_bnd (f := fun a => sm (fun c => tmi b i j a c) 8) (C := 270755704078336) a (fun x hx => by
                have := sm_bnd (f := fun c => tmi b i j x c) (C := 33844463009792) 8 (fun y hy => HP2.out i j x y (by omega) (by omega))
                omega)
              have HAN : Hid (sm (fun a => sm (fun c => tmi b i j a c) 8) (a + 1) = sm (fun a => sm (fun c => tmi b i j a c) 8) a + sm (fun c => tmi b i j a c) 8) := rfl
              generalize sm (fun a => sm (fun c => tmi b i j a c) 8) a = A at *
              have hA1 : -2166045632626688 ≤ A := by omega
              have hA2 : A ≤ 2166045632626688 := by omega
              clear HA
              go_wp2
              generalize decide ((a : Int) < 8) = b7
              go_loopw [8, 6] (fun vc vs wr => ∃ (c : Nat), c ≤ 8 ∧ vc = .int .i64 c ∧ vs = .int .i64 (A + sm (fun c => tmi b i j a c) c) ∧ Hid (FS w b (partK (fun q => rd (iS (bf b) q)) (8 * i + j)) wr)) (fun vc _ _ => 8 - (RowKit.intOf vc).toNat)
              case atStart => exact ⟨0, by omega, rfl, by simp [sm], S⟩
              case round =>
                clear S
                rename World => wc
                obtain ⟨c, hc, rfl, rfl, S⟩ := hrel
                by_cases hc8 : c < 8
                · have HB := sm_bnd (f := fun c => tmi b i j a c) (C := 33844463009792) c (fun y hy => HP2.out i j a y (by omega) (by omega))
                  have HBN : Hid (sm (fun c => tmi b i j a c) (c + 1) = sm (fun c => tmi b i j a c) c + tmi b i j a c) := rfl
                  have HT : Hid (tmi b i j a c = b.getD (8 * a + c) 0 * fcI (c : Int) (j : Int) * fcI (a : Int) (i : Int)) := rfl
                  have hm := HP2.out i j a c ha8 hc8
                  have hp := HP1.out (8 * a + c) (by omega) (c : Int) (j : Int)
                  obtain ⟨I, hI⟩ : ∃ I, I = 8 * a + c := ⟨_, rfl⟩
                  have eI : 8 * (a : Int) + (c : Int) = (I : Int) := by omega
                  have bI : (I : Int) < 64 := by omega
                  have HC0 : Hid (∀ W, FS w b (partK (fun q => rd (iS (bf b) q)) (8 * i + j)) W → W.cell? ⟨w.heap.size, I, none⟩ = some (.int .i64 (b.getD I 0))) := fun W hS => hS.b0.cell (ia_at (by rw [HL.out]; omega))
                  have HF1 := Lib.hid (HRF.out (c : Int) (j : Int))
                  have HF2 := Lib.hid (HRF.out (a : Int) (i : Int))
                  rw [← hI] at HT hp
                  clear hI
                  generalize b.getD I 0 = x at *
                  generalize fcI (c : Int) (j : Int) = f1 at *
                  generalize fcI (a : Int) (i : Int) = f2 at *
                  generalize sm (fun c => tmi b i j a c) c = B at *
                  generalize tmi b i j a c = m at *
                  generalize hp1 : x * f1 = p at *
                  have hp2 : p * f2 = m := HT.out.symm
                  clear HT
                  have wa1 : IntKind.i64.wrap (8 * (a : Int)) = 8 * (a : Int) := wr64 (by omega) (by omega)
                  have wI : IntKind.i64.wrap (I : Int) = (I : Int) := wr64 (by omega) (by omega)
                  have wp : IntKind.i64.wrap p = p := wr64 (by omega) (by omega)
                  have wm : IntKind.i64.wrap m = m := wr64 (by omega) (by omega)
                  have ws : IntKind.i64.wrap (A + B + m) = A + B + m := wr64 (by omega) (by omega)
                  clear hm hp HB
                  go_upto_region 15 with fail
                  refine wp_region_seq (FS w b (partK (fun q => rd (iS (bf b) q)) (8 * i + j))) (by kernel_rfl) (by kernel_rfl) (by kernel_rfl) S.out.drew ?_
                  repeat (
                    first
                      | (refine seq_off (by rfl) ?_)
                      | (refine seq_callF 8 _ _ [.int .i64 c, .int .i64 j] (by rfl) rfl HER.out rfl (fun W hS => (HF1.out W).mono fun e w' h => ⟨h.1, hS.call h.2⟩) ?_)
                      | (refine seq_callF 8 _ _ [.int .i64 a, .int .i64 i] (by rfl) rfl HER.out rfl (fun W hS => (HF2.out W).mono fun e w' h => ⟨h.1, hS.call h.2⟩) ?_)
                      | (apply seq_val (by rfl)
                         focus (intro W hS; have e0 := HC0.out W hS; clear hS; go_simp; try with_reducible rfl; done))
                    simp only [Act.put, List.setIfInBounds_toArray, List.set_cons_zero, List.set_cons_succ])
                  refine seq_nil fun W hS => ?_
                  have S2 := Lib.hid hS
                  clear hS S HC0
                  go_wp2
                  go_roundw
                  case rel => exact ⟨c + 1, by omega, by go_num, by rw [HBN.out, Int.add_assoc], S2⟩
                  case measure => simp [RowKit.intOf]; omega
                · obtain rfl : c = 8 := by omega
                  rw [← HAN.out]
                  go_wp2
                  go_roundw
                  case rel => exact ⟨a + 1, by omega, by go_num, rfl, S⟩
                  case measure => simp [RowKit.intOf]; omega
            · obtain rfl : a = 8 := by omega
              have HA := sm_bnd (f := fun a => sm (fun c => tmi b i j a c) 8) (C := 270755704078336) 8 (fun x hx => by
                have := sm_bnd (f := fun c => tmi b i j x c) (C := 33844463009792) 8 (fun y hy => HP2.out i j x y (by omega) (by omega))
                omega)
              have HV := Lib.hid (HSM.out i j hi8 hj8)
              have HN := Lib.hid (partK_next (fun q => rd (iS (bf b) q)) (k := 8 * i + j) (by omega))
              have HPL := Lib.hid (partK_len (fun q => rd (iS (bf b) q)) (8 * i + j))
              have HRD := Lib.hid (rrnd_any (sm (fun a => sm (fun c => tmi b i j a c) 8) 8) (by omega) (by omega))
              clear HA
              rw [HV.out] at HRD ⊢
              obtain ⟨I, hI⟩ : ∃ I, I = 8 * i + j := ⟨_, rfl⟩
              have eI : 8 * (i : Int) + (j : Int) = (I : Int) := by omega
              have bI : (I : Int) < 64 := by omega
              have e0 := S.out.b2.cell (ia_at (j := I) (by rw [HPL.out]; omega))
              have f0 := S.out.b2.frozen I
              rw [← hI] at HN HRD
              have HI := Lib.hid hI
              clear hI
              generalize (partK (fun q => rd (iS (bf b) q)) (8 * i + j)).getD I 0 = o at *
              go_wp2_with (first
                | (go_at_call 21; rw [← HI.out]; (with_reducible refine (HRD.out _).mono ?_); rintro e w5 ⟨rfl, rfl⟩))
              go_roundw
              case rel => exact ⟨j + 1, by omega, by go_num, (show Hid _ from by show FS _ _ _ _; rw [← Nat.add_assoc, ← HI.out, ← HN.out, HI.out]; exact S.out.set _ _)⟩
              case measure => simp [RowKit.intOf]; omega
        · obtain rfl : j = 8 := by omega
          go_wp2
          go_roundw
          case rel => exact ⟨i + 1, by omega, by go_num, (show Hid _ from by show FS _ _ _ _; rw [Nat.mul_add, Nat.mul_one]; exact S.out)⟩
          case measure => simp [RowKit.intOf]; omega
    · obtain rfl : i = 8 := by omega
      have HA : Hid (partK (fun q => rd (iS (bf b) q)) (8 * 8) = ivL b) := partK_all _
      rw [HA.out] at S
      have HS := Lib.hid (sizeB (ivL_len b))
      have HE : Hid ((ia zeros).size = (ia (ivL b)).size) := same_size zeros_len (ivL_len b)
      have HO := Lib.hid (one_ia (ivL b))
      go_wp2_with (first
        | (with_reducible refine wpList_loadB _ rfl 26 (.tmp 3) rfl _ Tryd.underlying26 rfl (w.heap.size + 1 + 1) rfl (ia (ivL b)) S.out.b2 HS.out ?_)
        | ((with_reducible refine wpList_storeB _ rfl 26 (.tmp 2) (.tmp 48) rfl (w.heap.size + 1) rfl (ia zeros) S.out.b1 (ia (ivL b)) rfl HS.out HE.out HO.out ?_)
           intro w3 hb3 hc3 hs3))
      refine bodyPost_ret (results_cell rfl _ _ _ Tryd.underlying26 rfl (w.heap.size + 1) (ia (ivL b)) rfl (fun j v hv => hb3.cell hv) HS.out) rfl ?_
      exact ⟨rfl, S.out.be.trans (hc3.below S.out.be.size (fun i e => by omega))⟩
end Go.Proofs.YtlchdelhhnlgbaaDoor
