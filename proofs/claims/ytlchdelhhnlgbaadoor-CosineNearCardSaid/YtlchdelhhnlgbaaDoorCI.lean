/- Contracts: turned: the weighted sums of a block's rows, as columns. -/
import Derived.Test.YtlchdelhhnlgbaaDoorCH
namespace Go.Proofs.YtlchdelhhnlgbaaDoor
open Go.RowKit Go.Lib
set_option linter.unusedVariables false
set_option maxRecDepth 100000
theorem mul_le2 {x y B C : Int} (h1 : -B ≤ x) (h2 : x ≤ B) (h3 : -C ≤ y) (h4 : y ≤ C) (hB : 0 ≤ B) : -(B * C) ≤ x * y ∧ x * y ≤ B * C := by
  have h := mul_ab (A := y) h1 h2
  have h5 : ab y ≤ C := by unfold ab; omega
  have h6 := Int.mul_le_mul_of_nonneg_left h5 hB
  omega
theorem sm_bnd {f : Nat → Int} {C : Int} : ∀ (n : Nat), (∀ i, i < n → -C ≤ f i ∧ f i ≤ C) → -(n * C) ≤ sm f n ∧ sm f n ≤ n * C
  | 0, _ => by simp [sm]
  | n + 1, h => by
    have h1 := sm_bnd n fun i hi => h i (by omega)
    have h2 := h n (by omega)
    rw [sm, Int.natCast_add, Int.add_mul]
    omega
/-- The sums of rows, as columns. -/
def tnF (b M : List Int) (q : Nat) : Int := sm (fun x => b.getD (8 * (q % 8) + x) 0 * M.getD (8 * (q / 8) + x) 0) 8
def tnL (b M : List Int) : List Int := mapB (tnF b M)
theorem tnL_len (b M : List Int) : (tnL b M).length = 64 := mapB_len _
/-- Columns of rows before r, and the first t of row r. -/
def partT (F : Nat → Int) (r t : Nat) : List Int := (List.range 64).map fun q => if q % 8 < r ∨ (q % 8 = r ∧ q / 8 < t) then F q else 0
theorem partT_len (F : Nat → Int) (r t : Nat) : (partT F r t).length = 64 := map64_len _
theorem partT_zero (F : Nat → Int) : partT F 0 0 = zeros := by
  unfold partT
  rw [map64_ext (g' := fun _ => 0) fun p _ => if_neg (by omega)]
  decide +kernel
theorem partT_next (F : Nat → Int) {r t : Nat} (hr : r < 8) (ht : t < 8) : (partT F r t).set (8 * t + r) (F (8 * t + r)) = partT F r (t + 1) := by
  refine map64_set (by omega) (if_pos (by omega)) fun p hp hne => ?_
  by_cases h2 : p % 8 < r ∨ (p % 8 = r ∧ p / 8 < t)
  · rw [if_pos h2, if_pos (by omega)]
  · rw [if_neg h2, if_neg (by omega)]
theorem partT_row (F : Nat → Int) (r : Nat) : partT F r 8 = partT F (r + 1) 0 := by
  refine map64_ext fun p hp => ?_
  by_cases h2 : p % 8 < r ∨ (p % 8 = r ∧ p / 8 < 8)
  · rw [if_pos h2, if_pos (by omega)]
  · rw [if_neg h2, if_neg (by omega)]
theorem partT_all (F : Nat → Int) : partT F 8 0 = mapB F := map64_ext fun p hp => if_pos (by omega)
/-- What stands in memory while turned runs. -/
structure TS (w : World) (b M L : List Int) (W : World) : Prop where
  b0 : Blk W w.heap.size (ia b)
  b1 : Blk W (w.heap.size + 1) (ia M)
  b2 : Blk W (w.heap.size + 1 + 1) (ia zeros)
  b3 : Blk W (w.heap.size + 1 + 1 + 1) (ia L)
  be : Below w.heap.size w W
theorem TS.drew {w W : World} {b M L : List Int} (h : TS w b M L W) : TS w b M L W.drew := ⟨h.b0, h.b1, h.b2, h.b3, h.be.drew⟩
theorem TS.drewN {w W : World} {b M L : List Int} (h : TS w b M L W) (n : Nat) : TS w b M L (W.drewN n) := ⟨h.b0, h.b1, h.b2, h.b3, dN h.be n⟩
theorem TS.set {w W : World} {b M L : List Int} (h : TS w b M L W) (k : Nat) (x : Int) : TS w b M (L.set k x) (W.setCell ⟨w.heap.size + 1 + 1 + 1, k, none⟩ (.int .i64 x)) :=
  ⟨h.b0.other (by show w.heap.size ≠ w.heap.size + 1 + 1 + 1; omega) _, h.b1.other (by show w.heap.size + 1 ≠ w.heap.size + 1 + 1 + 1; omega) _, h.b2.other (by show w.heap.size + 1 + 1 ≠ w.heap.size + 1 + 1 + 1; omega) _, h.b3.set_int k x, h.be.setCell (p := ⟨w.heap.size + 1 + 1 + 1, k, none⟩) (by show w.heap.size ≤ w.heap.size + 1 + 1 + 1; omega) _⟩
set_option maxHeartbeats 8000000 in
theorem turned_any (b M : List Int) (hb : b.length = 64) (hM : M.length = 64) (h1 : wiB b (-8589934592) 8589934592 = true) (h2 : wiB M (-32138) 32138 = true) (w : World) :
    Calls Tryd.prog 23 #[.agg (ia b), .agg (ia M)] w fun e w' => e = .returned (.agg (ia (tnL b M))) ∧ Below w.heap.size w w' := by
  obtain ⟨w1, hw1, hb0, hb1, hb2, hb3, hB⟩ := fou_blk w (ia b) (ia M) (ia zeros) (ia zeros) 26 42 26 26
  have HZ := Lib.hid zeroB
  have S0 : Hid (TS w b M zeros w1) := ⟨hb0, hb1, hb2, hb3, hB⟩
  have HL : Hid (b.length = 64 ∧ M.length = 64) := ⟨hb, hM⟩
  have HW : Hid (∀ i j, i < 64 → j < 64 → -276063317917696 ≤ b.getD i 0 * M.getD j 0 ∧ b.getD i 0 * M.getD j 0 ≤ 276063317917696) := fun i j hi hj => by
    have c1 := wiB_at h1 (k := i) (by omega)
    have c2 := wiB_at h2 (k := j) (by omega)
    exact mul_le2 (B := 8589934592) (C := 32138) c1.1 c1.2 c2.1 c2.2 (by omega)
  clear hb0 hb1 hb2 hb3 hB hb hM h1 h2
  go_enter Tryd.func23, Tryd.ntmps23
  go_wp2_with (first
    | (with_reducible refine wpList_allocZ _ rfl 26 rfl (ia zeros) HZ.out ?_))
  rw [← hw1]
  clear hw1
  go_loopw [10] (fun i wr => ∃ (r : Nat), r ≤ 8 ∧ i = .int .i64 r ∧ Hid (TS w b M (partT (tnF b M) r 0) wr)) (fun i _ => 8 - (RowKit.intOf i).toNat)
  case atStart => exact ⟨0, by omega, rfl, (show Hid _ from by show TS _ _ _ _ _; rw [partT_zero]; exact S0.out)⟩
  case round =>
    clear S0
    rename World => wo
    obtain ⟨r, hr, rfl, S⟩ := hrel
    by_cases hlt : r < 8
    · go_wp2
      go_loopw [13] (fun i wr => ∃ (t : Nat), t ≤ 8 ∧ i = .int .i64 t ∧ Hid (TS w b M (partT (tnF b M) r t) wr)) (fun i _ => 8 - (RowKit.intOf i).toNat)
      case atStart => exact ⟨0, by omega, rfl, S⟩
      case round =>
        clear S
        rename World => wi
        obtain ⟨t, ht, rfl, S⟩ := hrel
        by_cases hlt2 : t < 8
        · go_wp2
          go_loopw [16, 8] (fun i s wr => ∃ (k : Nat), k ≤ 8 ∧ i = .int .i64 k ∧ s = .int .i64 (sm (fun x => b.getD (8 * r + x) 0 * M.getD (8 * t + x) 0) k) ∧ Hid (TS w b M (partT (tnF b M) r t) wr)) (fun i _ _ => 8 - (RowKit.intOf i).toNat)
          case atStart => exact ⟨0, by omega, rfl, rfl, S⟩
          case round =>
            clear S
            rename World => wk
            obtain ⟨k, hk, rfl, rfl, S⟩ := hrel
            by_cases hlt3 : k < 8
            · have hs := sm_bnd (f := fun x => b.getD (8 * r + x) 0 * M.getD (8 * t + x) 0) (C := 276063317917696) k (fun i hi => HW.out _ _ (by omega) (by omega))
              have hm := HW.out (8 * r + k) (8 * t + k) (by omega) (by omega)
              have HN : Hid (sm (fun x => b.getD (8 * r + x) 0 * M.getD (8 * t + x) 0) (k + 1) = sm (fun x => b.getD (8 * r + x) 0 * M.getD (8 * t + x) 0) k + b.getD (8 * r + k) 0 * M.getD (8 * t + k) 0) := rfl
              obtain ⟨I, hI⟩ : ∃ I, I = 8 * r + k := ⟨_, rfl⟩
              have eI : 8 * (r : Int) + (k : Int) = (I : Int) := by omega
              have bI : (I : Int) < 64 := by omega
              have e0 := S.out.b0.cell (ia_at (j := I) (by rw [HL.out.1]; omega))
              have e1 := S.out.b1.cell (ia_at (j := t * 8 + k) (by rw [HL.out.2]; omega))
              rw [Nat.mul_comm t 8] at e1
              rw [← hI] at hm HN
              clear hI
              generalize b.getD I 0 = x at *
              generalize M.getD (8 * t + k) 0 = y at *
              rw [Nat.mul_comm 8 t] at e1
              generalize sm (fun x => b.getD (8 * r + x) 0 * M.getD (8 * t + x) 0) k = s1 at *
              generalize hxy : x * y = m at *
              obtain ⟨m1, m2⟩ := hm
              obtain ⟨n1, n2⟩ := hs
              go_wp2
              go_quiet (fail)
              go_wp2
              go_roundw
              case rel => exact ⟨k + 1, by omega, by go_num, by rw [HN.out], S.out.drewN nq⟩
              case measure => simp [RowKit.intOf]; omega
            · obtain rfl : k = 8 := by omega
              have HV : Hid (sm (fun x => b.getD (8 * r + x) 0 * M.getD (8 * t + x) 0) 8 = tnF b M (8 * t + r)) := by
                show _ = _
                unfold tnF
                rw [show (8 * t + r) % 8 = r by omega, show (8 * t + r) / 8 = t by omega]
              have HN := Lib.hid (partT_next (tnF b M) hlt hlt2)
              have HP := Lib.hid (partT_len (tnF b M) r t)
              obtain ⟨I, hI⟩ : ∃ I, I = 8 * t + r := ⟨_, rfl⟩
              have eI : 8 * (t : Int) + (r : Int) = (I : Int) := by omega
              have bI : (I : Int) < 64 := by omega
              have e0 := S.out.b3.cell (ia_at (j := I) (by rw [HP.out]; omega))
              have f0 := S.out.b3.frozen I
              rw [← hI] at HV HN
              clear hI
              generalize (partT (tnF b M) r t).getD I 0 = o at *
              generalize sm (fun x => b.getD (8 * r + x) 0 * M.getD (8 * t + x) 0) 8 = s1 at *
              go_wp2
              go_roundw
              case rel => exact ⟨t + 1, by omega, by go_num, (show Hid _ from by show TS _ _ _ _ _; rw [← HN.out, HV.out]; exact S.out.set I _)⟩
              case measure => simp [RowKit.intOf]; omega
        · obtain rfl : t = 8 := by omega
          have HN := Lib.hid (partT_row (tnF b M) r)
          rw [HN.out] at S
          go_wp2
          go_roundw
          case rel => exact ⟨r + 1, by omega, by go_num, S⟩
          case measure => simp [RowKit.intOf]; omega
    · obtain rfl : r = 8 := by omega
      have HA : Hid (partT (tnF b M) 8 0 = tnL b M) := partT_all _
      rw [HA.out] at S
      have HS := Lib.hid (sizeB (tnL_len b M))
      have HE : Hid ((ia zeros).size = (ia (tnL b M)).size) := same_size zeros_len (tnL_len b M)
      have HO := Lib.hid (one_ia (tnL b M))
      generalize hR : tnL b M = R at *
      have HRR := Lib.hid hR
      clear hR
      go_wp2_with (first
        | (with_reducible refine wpList_loadB _ rfl 26 (.tmp 5) rfl _ Tryd.underlying26 rfl (w.heap.size + 1 + 1 + 1) rfl (ia R) S.out.b3 HS.out ?_)
        | ((with_reducible refine wpList_storeB _ rfl 26 (.tmp 4) (.tmp 42) rfl (w.heap.size + 1 + 1) rfl (ia zeros) S.out.b2 (ia R) rfl HS.out HE.out HO.out ?_)
           intro w3 hb3 hc3 hs3))
      refine bodyPost_ret (results_cell rfl _ _ _ Tryd.underlying26 rfl (w.heap.size + 1 + 1) (ia R) rfl (fun j v hv => hb3.cell hv) HS.out) rfl ?_
      exact ⟨by rw [HRR.out], S.out.be.trans (hc3.below S.out.be.size (fun i e => by omega))⟩
end Go.Proofs.YtlchdelhhnlgbaaDoor
