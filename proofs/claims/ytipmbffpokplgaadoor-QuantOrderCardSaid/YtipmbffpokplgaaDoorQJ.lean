/- Contracts: the document's Scaled. -/
import Derived.Test.YtipmbffpokplgaaDoorQH
namespace Go.Proofs.YtipmbffpokplgaaDoor
open Go.RowKit Go.Lib
set_option linter.unusedVariables false
set_option maxRecDepth 100000
theorem partK_put (F : Nat → Int) {k : Nat} (hk : k < 64) (a : Int) : ((partK F k).set k a).set k (F k) = partK F (k + 1) := by
  rw [List.set_set]; exact partK_next F hk
theorem set64_len (F : Nat → Int) (k : Nat) (a : Int) : ((partK F k).set k a).length = 64 := by rw [List.length_set, partK_len]
theorem set64_at (F : Nat → Int) {k : Nat} (hk : k < 64) (a : Int) : ((partK F k).set k a).getD k 0 = a := by
  rw [List.getD_eq_getElem?_getD, List.getElem?_set, if_pos rfl, if_pos (by rw [partK_len]; exact hk)]; rfl
set_option maxHeartbeats 4000000 in
theorem rscl_any (q : List Int) (hq : q.length = 64) (h1 : wiB q 1 255 = true) (j : Int) (hj1 : 1 ≤ j) (hj2 : j ≤ 100) (w : World) :
    Calls Tryd.prog 13 #[.agg (ia q), .int .i64 j] w fun e w' => e = .returned (.agg (ia (scL q j))) ∧ Below w.heap.size w w' := by
  obtain ⟨w1, hw1, hb0, hb1, hb2, hB⟩ := tre_blk w (ia q) (ia zeros) (ia zeros) 23 23 23
  have HZ := Lib.hid zeroB
  have K0 := Lib.hid hb0
  have K1 := Lib.hid hb1
  have K2 := Lib.hid hb2
  have KB := Lib.hid hB
  have HL := Lib.hid hq
  have HW : Hid (∀ k, k < 64 → 1 ≤ q.getD k 0 ∧ q.getD k 0 ≤ 255) := fun k hk => wiB_at h1 (by omega)
  have hpb := pc_bnd hj1 hj2
  have HPC : Hid (pcS j = if j < 50 then (5000 : Int).tdiv j else 2 * (100 - j)) := rfl
  have HR : Hid (scL q j = mapB fun i => scE (q.getD i 0) (pcS j)) := rfl
  clear hb0 hb1 hb2 hB hq h1
  generalize hp : pcS j = p at *
  obtain ⟨hp0, hp1⟩ := hpb
  have hj3 : ¬ j = 0 := by omega
  have hj4 : (j == 0) = false := by simp [hj3]
  go_enter Tryd.func13, Tryd.ntmps13
  by_cases hj : j < 50
  · have HQ : Hid ((5000 : Int).tdiv j = p) := by show _ = _; rw [HPC.out, if_pos hj]
    have hqq := HQ.out
    clear hp HPC
    go_wp2_with (first
      | (with_reducible refine wpList_allocZ _ rfl 23 rfl (ia zeros) HZ.out ?_))
    rw [← hw1]
    clear hw1 HQ hqq hj hj3 hj4
    go_loopw [7] (fun i wr => ∃ (k : Nat), k ≤ 64 ∧ i = .int .i64 k ∧ Hid (Blk wr w.heap.size (ia q)) ∧ Hid (Blk wr (w.heap.size + 1) (ia zeros)) ∧ Hid (Blk wr (w.heap.size + 1 + 1) (ia (partK (fun i => scE (q.getD i 0) p) k))) ∧ Hid (Below w.heap.size w wr)) (fun i _ => 64 - (RowKit.intOf i).toNat)
    case atStart => exact ⟨0, by omega, rfl, K0, K1, (show Hid _ from by show Blk _ _ _; rw [partK_zero]; exact K2.out), KB⟩
    case round =>
    clear K0 K1 K2 KB
    obtain ⟨k, hk, rfl, K0, K1, K2, KB⟩ := hrel
    by_cases hlt : k < 64
    · have HP := Lib.hid (partK_len (fun i => scE (q.getD i 0) p) k)
      obtain ⟨c1, c2⟩ := HW.out k hlt
      have HN1 : Hid ((partK (fun i => scE (q.getD i 0) p) k).set k (scE (q.getD k 0) p) = partK (fun i => scE (q.getD i 0) p) (k + 1)) := partK_next (fun i => scE (q.getD i 0) p) hlt
      have HN2 : Hid (∀ a, ((partK (fun i => scE (q.getD i 0) p) k).set k a).set k (scE (q.getD k 0) p) = partK (fun i => scE (q.getD i 0) p) (k + 1)) := fun a => partK_put (fun i => scE (q.getD i 0) p) hlt a
      have HX : Hid (scE (q.getD k 0) p = min (max ((q.getD k 0 * p + 50).tdiv 100) 1) 255) := rfl
      have e0 := K0.out.cell (ia_at (j := k) (by rw [HL.out]; exact hlt))
      have e2 := K2.out.cell (ia_at (j := k) (by rw [HP.out]; exact hlt))
      have f2 := K2.out.frozen k
      have hmb := mul_bnd2 c1 c2 hp0 hp1
      generalize (partK (fun i => scE (q.getD i 0) p) k).getD k 0 = o at *
      generalize scE (q.getD k 0) p = v at *
      generalize q.getD k 0 = x at *
      generalize hm : x * p = m at *
      have hg : 0 ≤ (m + 50).tdiv 100 ∧ (m + 50).tdiv 100 ≤ 12750 := by rw [tdiv_pos (by omega)]; omega
      generalize hG : (m + 50).tdiv 100 = G at *
      obtain ⟨m1, m2⟩ := hmb
      obtain ⟨g1, g2⟩ := hg
      by_cases y1 : G < 1
      · have hv : v = 1 := by have := HX.out; omega
        subst hv
        clear HX
        go_wp2
        go_roundw
        case rel => exact ⟨k + 1, by omega, by go_num, ((K0.out.other (by simp; omega) _).other (by simp; omega) _), ((K1.out.other (by simp) _).other (by simp) _), (show Hid _ from by show Blk _ _ _; rw [← (HN2.out G)]; exact ((K2.out.set_int k _).set_int k 1)), ((KB.out.setCell (p := ⟨w.heap.size + 1 + 1, k, none⟩) (by simp; omega) _).setCell (p := ⟨w.heap.size + 1 + 1, k, none⟩) (by simp; omega) _)⟩
        case measure => simp [RowKit.intOf]; omega
      · by_cases y2 : 255 < G
        · have hv : v = 255 := by have := HX.out; omega
          subst hv
          clear HX
          go_wp2
          go_roundw
          case rel => exact ⟨k + 1, by omega, by go_num, ((K0.out.other (by simp; omega) _).other (by simp; omega) _), ((K1.out.other (by simp) _).other (by simp) _), (show Hid _ from by show Blk _ _ _; rw [← (HN2.out G)]; exact ((K2.out.set_int k _).set_int k 255)), ((KB.out.setCell (p := ⟨w.heap.size + 1 + 1, k, none⟩) (by simp; omega) _).setCell (p := ⟨w.heap.size + 1 + 1, k, none⟩) (by simp; omega) _)⟩
          case measure => simp [RowKit.intOf]; omega
        · have hv : v = G := by have := HX.out; omega
          subst hv
          clear HX
          go_wp2
          go_roundw
          case rel => exact ⟨k + 1, by omega, by go_num, (K0.out.other (by simp; omega) _), (K1.out.other (by simp) _), (show Hid _ from by show Blk _ _ _; rw [← HN1.out]; exact (K2.out.set_int k _)), (KB.out.setCell (p := ⟨w.heap.size + 1 + 1, k, none⟩) (by simp; omega) _)⟩
          case measure => simp [RowKit.intOf]; omega
    · obtain rfl : k = 64 := by omega
      have HA := Lib.hid (partK_all (fun i => scE (q.getD i 0) p))
      rw [HA.out, ← HR.out] at K2
      have HS := Lib.hid (sizeB (l := scL q j) (mapB_len _))
      have HE : Hid ((ia zeros).size = (ia (scL q j)).size) := same_size zeros_len (mapB_len _)
      have HO := Lib.hid (one_ia (scL q j))
      go_wp2_with (first
        | (with_reducible refine wpList_loadB _ rfl 23 (.tmp 6) rfl _ Tryd.underlying23 rfl (w.heap.size + 1 + 1) rfl (ia (scL q j)) K2.out HS.out ?_)
        | ((with_reducible refine wpList_storeB _ rfl 23 (.tmp 4) (.tmp 40) rfl (w.heap.size + 1) rfl (ia zeros) K1.out (ia (scL q j)) rfl HS.out HE.out HO.out ?_)
           intro w3 hb3 hc3 hs3))
      refine bodyPost_ret (results_cell rfl _ _ _ Tryd.underlying23 rfl (w.heap.size + 1) (ia (scL q j)) rfl (fun j v hv => hb3.cell hv) HS.out) rfl ?_
      exact ⟨rfl, KB.out.trans (hc3.below KB.out.size (fun i e => by omega))⟩
  · have HQ : Hid (2 * (100 - j) = p) := by show _ = _; rw [HPC.out, if_neg hj]
    have hqq : 200 - 2 * j = p := by have := HQ.out; omega
    clear hp HPC
    go_wp2_with (first
      | (with_reducible refine wpList_allocZ _ rfl 23 rfl (ia zeros) HZ.out ?_))
    rw [← hw1]
    clear hw1 HQ hqq hj hj3 hj4
    go_loopw [7] (fun i wr => ∃ (k : Nat), k ≤ 64 ∧ i = .int .i64 k ∧ Hid (Blk wr w.heap.size (ia q)) ∧ Hid (Blk wr (w.heap.size + 1) (ia zeros)) ∧ Hid (Blk wr (w.heap.size + 1 + 1) (ia (partK (fun i => scE (q.getD i 0) p) k))) ∧ Hid (Below w.heap.size w wr)) (fun i _ => 64 - (RowKit.intOf i).toNat)
    case atStart => exact ⟨0, by omega, rfl, K0, K1, (show Hid _ from by show Blk _ _ _; rw [partK_zero]; exact K2.out), KB⟩
    case round =>
    clear K0 K1 K2 KB
    obtain ⟨k, hk, rfl, K0, K1, K2, KB⟩ := hrel
    by_cases hlt : k < 64
    · have HP := Lib.hid (partK_len (fun i => scE (q.getD i 0) p) k)
      obtain ⟨c1, c2⟩ := HW.out k hlt
      have HN1 : Hid ((partK (fun i => scE (q.getD i 0) p) k).set k (scE (q.getD k 0) p) = partK (fun i => scE (q.getD i 0) p) (k + 1)) := partK_next (fun i => scE (q.getD i 0) p) hlt
      have HN2 : Hid (∀ a, ((partK (fun i => scE (q.getD i 0) p) k).set k a).set k (scE (q.getD k 0) p) = partK (fun i => scE (q.getD i 0) p) (k + 1)) := fun a => partK_put (fun i => scE (q.getD i 0) p) hlt a
      have HX : Hid (scE (q.getD k 0) p = min (max ((q.getD k 0 * p + 50).tdiv 100) 1) 255) := rfl
      have e0 := K0.out.cell (ia_at (j := k) (by rw [HL.out]; exact hlt))
      have e2 := K2.out.cell (ia_at (j := k) (by rw [HP.out]; exact hlt))
      have f2 := K2.out.frozen k
      have hmb := mul_bnd2 c1 c2 hp0 hp1
      generalize (partK (fun i => scE (q.getD i 0) p) k).getD k 0 = o at *
      generalize scE (q.getD k 0) p = v at *
      generalize q.getD k 0 = x at *
      generalize hm : x * p = m at *
      have hg : 0 ≤ (m + 50).tdiv 100 ∧ (m + 50).tdiv 100 ≤ 12750 := by rw [tdiv_pos (by omega)]; omega
      generalize hG : (m + 50).tdiv 100 = G at *
      obtain ⟨m1, m2⟩ := hmb
      obtain ⟨g1, g2⟩ := hg
      by_cases y1 : G < 1
      · have hv : v = 1 := by have := HX.out; omega
        subst hv
        clear HX
        go_wp2
        go_roundw
        case rel => exact ⟨k + 1, by omega, by go_num, ((K0.out.other (by simp; omega) _).other (by simp; omega) _), ((K1.out.other (by simp) _).other (by simp) _), (show Hid _ from by show Blk _ _ _; rw [← (HN2.out G)]; exact ((K2.out.set_int k _).set_int k 1)), ((KB.out.setCell (p := ⟨w.heap.size + 1 + 1, k, none⟩) (by simp; omega) _).setCell (p := ⟨w.heap.size + 1 + 1, k, none⟩) (by simp; omega) _)⟩
        case measure => simp [RowKit.intOf]; omega
      · by_cases y2 : 255 < G
        · have hv : v = 255 := by have := HX.out; omega
          subst hv
          clear HX
          go_wp2
          go_roundw
          case rel => exact ⟨k + 1, by omega, by go_num, ((K0.out.other (by simp; omega) _).other (by simp; omega) _), ((K1.out.other (by simp) _).other (by simp) _), (show Hid _ from by show Blk _ _ _; rw [← (HN2.out G)]; exact ((K2.out.set_int k _).set_int k 255)), ((KB.out.setCell (p := ⟨w.heap.size + 1 + 1, k, none⟩) (by simp; omega) _).setCell (p := ⟨w.heap.size + 1 + 1, k, none⟩) (by simp; omega) _)⟩
          case measure => simp [RowKit.intOf]; omega
        · have hv : v = G := by have := HX.out; omega
          subst hv
          clear HX
          go_wp2
          go_roundw
          case rel => exact ⟨k + 1, by omega, by go_num, (K0.out.other (by simp; omega) _), (K1.out.other (by simp) _), (show Hid _ from by show Blk _ _ _; rw [← HN1.out]; exact (K2.out.set_int k _)), (KB.out.setCell (p := ⟨w.heap.size + 1 + 1, k, none⟩) (by simp; omega) _)⟩
          case measure => simp [RowKit.intOf]; omega
    · obtain rfl : k = 64 := by omega
      have HA := Lib.hid (partK_all (fun i => scE (q.getD i 0) p))
      rw [HA.out, ← HR.out] at K2
      have HS := Lib.hid (sizeB (l := scL q j) (mapB_len _))
      have HE : Hid ((ia zeros).size = (ia (scL q j)).size) := same_size zeros_len (mapB_len _)
      have HO := Lib.hid (one_ia (scL q j))
      go_wp2_with (first
        | (with_reducible refine wpList_loadB _ rfl 23 (.tmp 6) rfl _ Tryd.underlying23 rfl (w.heap.size + 1 + 1) rfl (ia (scL q j)) K2.out HS.out ?_)
        | ((with_reducible refine wpList_storeB _ rfl 23 (.tmp 4) (.tmp 40) rfl (w.heap.size + 1) rfl (ia zeros) K1.out (ia (scL q j)) rfl HS.out HE.out HO.out ?_)
           intro w3 hb3 hc3 hs3))
      refine bodyPost_ret (results_cell rfl _ _ _ Tryd.underlying23 rfl (w.heap.size + 1) (ia (scL q j)) rfl (fun j v hv => hb3.cell hv) HS.out) rfl ?_
      exact ⟨rfl, KB.out.trans (hc3.below KB.out.size (fun i e => by omega))⟩
end Go.Proofs.YtipmbffpokplgaaDoor
