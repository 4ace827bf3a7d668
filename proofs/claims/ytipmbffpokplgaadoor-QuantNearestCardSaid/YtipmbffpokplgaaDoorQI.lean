/- Contracts: the document's Divide, Multiply. -/
import Derived.Test.YtipmbffpokplgaaDoorQH
namespace Go.Proofs.YtipmbffpokplgaaDoor
open Go.RowKit Go.Lib
set_option linter.unusedVariables false
set_option maxRecDepth 100000
set_option maxHeartbeats 2000000 in
theorem rdiv_any (b q : List Int) (hb : b.length = 64) (hq : q.length = 64) (h1 : wiB q 1 255 = true) (h2 : wiB b (-1048576) 1048576 = true) (w : World) :
    Calls Tryd.prog 16 #[.agg (ia b), .agg (ia q)] w fun e w' => e = .returned (.agg (ia (dvL b q))) ∧ Below w.heap.size w w' := by
  obtain ⟨w1, hw1, hb0, hb1, hb2, hb3, hB⟩ := four_blk w (ia b) (ia q) (ia zeros) (ia zeros) 23 23 23 23
  have HZ := Lib.hid zeroB
  have K0 := Lib.hid hb0
  have K1 := Lib.hid hb1
  have K2 := Lib.hid hb2
  have K3 := Lib.hid hb3
  have KB := Lib.hid hB
  have HL : Hid (b.length = 64 ∧ q.length = 64) := ⟨hb, hq⟩
  have HW : Hid (∀ k, k < 64 → (1 ≤ q.getD k 0 ∧ q.getD k 0 ≤ 255) ∧ -1048576 ≤ b.getD k 0 ∧ b.getD k 0 ≤ 1048576) := fun k hk => ⟨wiB_at h1 (by omega), wiB_at h2 (by omega)⟩
  have HR : Hid (dvL b q = mapB (fun i => qoE (b.getD i 0) (q.getD i 0))) := rfl
  clear hb0 hb1 hb2 hb3 hB hb hq h1 h2
  go_enter Tryd.func16, Tryd.ntmps16
  go_wp2_with (first
    | (with_reducible refine wpList_allocZ _ rfl 23 rfl (ia zeros) HZ.out ?_))
  rw [← hw1]
  clear hw1
  go_loopw [6] (fun i wr => ∃ (k : Nat), k ≤ 64 ∧ i = .int .i64 k ∧ Hid (Blk wr w.heap.size (ia b)) ∧ Hid (Blk wr (w.heap.size + 1) (ia q)) ∧ Hid (Blk wr (w.heap.size + 1 + 1) (ia zeros)) ∧ Hid (Blk wr (w.heap.size + 1 + 1 + 1) (ia (partK (fun i => qoE (b.getD i 0) (q.getD i 0)) k))) ∧ Hid (Below w.heap.size w wr)) (fun i _ => 64 - (RowKit.intOf i).toNat)
  case atStart => exact ⟨0, by omega, rfl, K0, K1, K2, (show Hid _ from by show Blk _ _ _; rw [partK_zero]; exact K3.out), KB⟩
  case round =>
    clear K0 K1 K2 K3 KB
    obtain ⟨k, hk, rfl, K0, K1, K2, K3, KB⟩ := hrel
    by_cases hlt : k < 64
    · have HN := Lib.hid (partK_next (fun i => qoE (b.getD i 0) (q.getD i 0)) hlt)
      have HP := Lib.hid (partK_len (fun i => qoE (b.getD i 0) (q.getD i 0)) k)
      obtain ⟨⟨c1, c2⟩, c3, c4⟩ := HW.out k hlt
      have e0 := K0.out.cell (ia_at (j := k) (by rw [HL.out.1]; exact hlt))
      have e1 := K1.out.cell (ia_at (j := k) (by rw [HL.out.2]; exact hlt))
      have e2 := K3.out.cell (ia_at (j := k) (by rw [HP.out]; exact hlt))
      have f2 := K3.out.frozen k
      generalize (partK (fun i => qoE (b.getD i 0) (q.getD i 0)) k).getD k 0 = o at *
      generalize b.getD k 0 = x at *
      generalize q.getD k 0 = y at *
      have hcall := near_any x y c3 c4 c1 c2
      generalize qoE x y = z at *
      go_wp2
      go_still_tail 9, (by kernel_rfl)
      repeat still_step
      still_call ((hcall _).mono fun _ _ h => ⟨h.1, h.2.symm⟩)
      repeat still_step
      refine wpStill_nil ?_
      change wpList _ _ _ _ _ (World.drew _)
      go_wp2
      go_roundw
      case rel => exact ⟨k + 1, by omega, by go_num, (K0.out.other (by simp; omega) _).drewN _, (K1.out.other (by simp) _).drewN _, (K2.out.other (by simp) _).drewN _, (show Hid _ from by show Blk _ _ _; rw [← HN.out]; exact (K3.out.set_int k _).drewN _), dN (KB.out.setCell (p := ⟨w.heap.size + 1 + 1 + 1, k, none⟩) (by simp; omega) _) _⟩
      case measure => simp [RowKit.intOf]; omega
    · obtain rfl : k = 64 := by omega
      have HA := Lib.hid (partK_all (fun i => qoE (b.getD i 0) (q.getD i 0)))
      rw [HA.out, ← HR.out] at K3
      have HS := Lib.hid (sizeB (l := dvL b q) (mapB_len _))
      have HE : Hid ((ia zeros).size = (ia (dvL b q)).size) := same_size zeros_len (mapB_len _)
      have HO := Lib.hid (one_ia (dvL b q))
      go_wp2_with (first
        | (with_reducible refine wpList_loadB _ rfl 23 (.tmp 5) rfl _ Tryd.underlying23 rfl (w.heap.size + 1 + 1 + 1) rfl (ia (dvL b q)) K3.out HS.out ?_)
        | ((with_reducible refine wpList_storeB _ rfl 23 (.tmp 4) (.tmp 20) rfl (w.heap.size + 1 + 1) rfl (ia zeros) K2.out (ia (dvL b q)) rfl HS.out HE.out HO.out ?_)
           intro w3 hb3 hc3 hs3))
      refine bodyPost_ret (results_cell rfl _ _ _ Tryd.underlying23 rfl (w.heap.size + 1 + 1) (ia (dvL b q)) rfl (fun j v hv => hb3.cell hv) HS.out) rfl ?_
      exact ⟨rfl, KB.out.trans (hc3.below KB.out.size (fun i e => by omega))⟩
set_option maxHeartbeats 2000000 in
theorem rmul_any (b q : List Int) (hb : b.length = 64) (hq : q.length = 64) (h1 : wiB q 1 255 = true) (h2 : wiB b (-1048576) 1048576 = true) (w : World) :
    Calls Tryd.prog 17 #[.agg (ia b), .agg (ia q)] w fun e w' => e = .returned (.agg (ia (mlL b q))) ∧ Below w.heap.size w w' := by
  obtain ⟨w1, hw1, hb0, hb1, hb2, hb3, hB⟩ := four_blk w (ia b) (ia q) (ia zeros) (ia zeros) 23 23 23 23
  have HZ := Lib.hid zeroB
  have K0 := Lib.hid hb0
  have K1 := Lib.hid hb1
  have K2 := Lib.hid hb2
  have K3 := Lib.hid hb3
  have KB := Lib.hid hB
  have HL : Hid (b.length = 64 ∧ q.length = 64) := ⟨hb, hq⟩
  have HW : Hid (∀ k, k < 64 → (1 ≤ q.getD k 0 ∧ q.getD k 0 ≤ 255) ∧ -1048576 ≤ b.getD k 0 ∧ b.getD k 0 ≤ 1048576) := fun k hk => ⟨wiB_at h1 (by omega), wiB_at h2 (by omega)⟩
  have HR : Hid (mlL b q = mapB (fun i => b.getD i 0 * q.getD i 0)) := rfl
  clear hb0 hb1 hb2 hb3 hB hb hq h1 h2
  go_enter Tryd.func17, Tryd.ntmps17
  go_wp2_with (first
    | (with_reducible refine wpList_allocZ _ rfl 23 rfl (ia zeros) HZ.out ?_))
  rw [← hw1]
  clear hw1
  go_loopw [6] (fun i wr => ∃ (k : Nat), k ≤ 64 ∧ i = .int .i64 k ∧ Hid (Blk wr w.heap.size (ia b)) ∧ Hid (Blk wr (w.heap.size + 1) (ia q)) ∧ Hid (Blk wr (w.heap.size + 1 + 1) (ia zeros)) ∧ Hid (Blk wr (w.heap.size + 1 + 1 + 1) (ia (partK (fun i => b.getD i 0 * q.getD i 0) k))) ∧ Hid (Below w.heap.size w wr)) (fun i _ => 64 - (RowKit.intOf i).toNat)
  case atStart => exact ⟨0, by omega, rfl, K0, K1, K2, (show Hid _ from by show Blk _ _ _; rw [partK_zero]; exact K3.out), KB⟩
  case round =>
    clear K0 K1 K2 K3 KB
    obtain ⟨k, hk, rfl, K0, K1, K2, K3, KB⟩ := hrel
    by_cases hlt : k < 64
    · have HN := Lib.hid (partK_next (fun i => b.getD i 0 * q.getD i 0) hlt)
      have HP := Lib.hid (partK_len (fun i => b.getD i 0 * q.getD i 0) k)
      obtain ⟨⟨c1, c2⟩, c3, c4⟩ := HW.out k hlt
      have e0 := K0.out.cell (ia_at (j := k) (by rw [HL.out.1]; exact hlt))
      have e1 := K1.out.cell (ia_at (j := k) (by rw [HL.out.2]; exact hlt))
      have e2 := K3.out.cell (ia_at (j := k) (by rw [HP.out]; exact hlt))
      have f2 := K3.out.frozen k
      generalize (partK (fun i => b.getD i 0 * q.getD i 0) k).getD k 0 = o at *
      generalize b.getD k 0 = x at *
      generalize q.getD k 0 = y at *
      have hmb := mul_bnd c3 c4 c1 c2
      have HWR := Lib.hid (IntWalk.wrap64_in (x * y) (by omega))
      clear hmb
      go_wp2
      go_still_tail 9, (by kernel_rfl)
      repeat still_step
      change wpList _ _ _ _ _ (World.drew _)
      go_wp2
      rw [HWR.out]
      go_roundw
      case rel => exact ⟨k + 1, by omega, by go_num, (K0.out.other (by simp; omega) _).drewN _, (K1.out.other (by simp) _).drewN _, (K2.out.other (by simp) _).drewN _, (show Hid _ from by show Blk _ _ _; rw [← HN.out]; exact (K3.out.set_int k _).drewN _), dN (KB.out.setCell (p := ⟨w.heap.size + 1 + 1 + 1, k, none⟩) (by simp; omega) _) _⟩
      case measure => simp [RowKit.intOf]; omega
    · obtain rfl : k = 64 := by omega
      have HA := Lib.hid (partK_all (fun i => b.getD i 0 * q.getD i 0))
      rw [HA.out, ← HR.out] at K3
      have HS := Lib.hid (sizeB (l := mlL b q) (mapB_len _))
      have HE : Hid ((ia zeros).size = (ia (mlL b q)).size) := same_size zeros_len (mapB_len _)
      have HO := Lib.hid (one_ia (mlL b q))
      go_wp2_with (first
        | (with_reducible refine wpList_loadB _ rfl 23 (.tmp 5) rfl _ Tryd.underlying23 rfl (w.heap.size + 1 + 1 + 1) rfl (ia (mlL b q)) K3.out HS.out ?_)
        | ((with_reducible refine wpList_storeB _ rfl 23 (.tmp 4) (.tmp 20) rfl (w.heap.size + 1 + 1) rfl (ia zeros) K2.out (ia (mlL b q)) rfl HS.out HE.out HO.out ?_)
           intro w3 hb3 hc3 hs3))
      refine bodyPost_ret (results_cell rfl _ _ _ Tryd.underlying23 rfl (w.heap.size + 1 + 1) (ia (mlL b q)) rfl (fun j v hv => hb3.cell hv) HS.out) rfl ?_
      exact ⟨rfl, KB.out.trans (hc3.below KB.out.size (fun i e => by omega))⟩
end Go.Proofs.YtipmbffpokplgaaDoor
