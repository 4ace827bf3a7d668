/- Contract: the document's Base. -/
import Derived.Test.YtipmbffpokplgaaDoorQG
import Derived.StillTailTactics
namespace Go.Proofs.YtipmbffpokplgaaDoor
open Go.RowKit Go.Lib
set_option linter.unusedVariables false
set_option maxRecDepth 100000
def bs : List Int := [17, 18, 18, 24, 21, 24, 47, 26, 26, 47, 99, 66, 56, 66]
def lit0 : Array Value := #[.int .i64 16, .int .i64 11, .int .i64 12, .int .i64 14, .int .i64 12, .int .i64 10, .int .i64 16, .int .i64 14, .int .i64 13, .int .i64 14, .int .i64 18, .int .i64 17, .int .i64 16, .int .i64 19, .int .i64 24, .int .i64 40, .int .i64 26, .int .i64 24, .int .i64 22, .int .i64 22, .int .i64 24, .int .i64 49, .int .i64 35, .int .i64 37, .int .i64 29, .int .i64 40, .int .i64 58, .int .i64 51, .int .i64 61, .int .i64 60, .int .i64 57, .int .i64 51, .int .i64 56, .int .i64 55, .int .i64 64, .int .i64 72, .int .i64 92, .int .i64 78, .int .i64 64, .int .i64 68, .int .i64 87, .int .i64 69, .int .i64 55, .int .i64 56, .int .i64 80, .int .i64 109, .int .i64 81, .int .i64 87, .int .i64 95, .int .i64 98, .int .i64 103, .int .i64 104, .int .i64 103, .int .i64 62, .int .i64 77, .int .i64 113, .int .i64 121, .int .i64 112, .int .i64 100, .int .i64 120, .int .i64 92, .int .i64 101, .int .i64 103, .int .i64 99]
def lit1 : Array Value := #[.int .i64 17, .int .i64 18, .int .i64 18, .int .i64 24, .int .i64 21, .int .i64 24, .int .i64 47, .int .i64 26, .int .i64 26, .int .i64 47, .int .i64 99, .int .i64 66, .int .i64 56, .int .i64 66]
theorem bz1_at {n : Nat} (h : n < 64) : (bz 1).getD n 0 = if n < 14 then bs.getD n 0 else 99 := by
  have : ∀ n, n < 64 → (bz 1).getD n 0 = if n < 14 then bs.getD n 0 else 99 := by decide +kernel
  exact this n h
set_option maxHeartbeats 2000000 in
theorem rbase_any (k : Nat) (hk : k < 2) (w : World) : Calls Tryd.prog 11 #[.int .i64 k] w fun e w' => e = .returned (.agg (ia (bsL k))) ∧ Below w.heap.size w w' := by
  obtain ⟨w1, hw1, hb0, hb1, hb2, hb3, hB⟩ := four_blk w (ia zeros) #[.int .i64 16, .int .i64 11, .int .i64 12, .int .i64 14, .int .i64 12, .int .i64 10, .int .i64 16, .int .i64 14, .int .i64 13, .int .i64 14, .int .i64 18, .int .i64 17, .int .i64 16, .int .i64 19, .int .i64 24, .int .i64 40, .int .i64 26, .int .i64 24, .int .i64 22, .int .i64 22, .int .i64 24, .int .i64 49, .int .i64 35, .int .i64 37, .int .i64 29, .int .i64 40, .int .i64 58, .int .i64 51, .int .i64 61, .int .i64 60, .int .i64 57, .int .i64 51, .int .i64 56, .int .i64 55, .int .i64 64, .int .i64 72, .int .i64 92, .int .i64 78, .int .i64 64, .int .i64 68, .int .i64 87, .int .i64 69, .int .i64 55, .int .i64 56, .int .i64 80, .int .i64 109, .int .i64 81, .int .i64 87, .int .i64 95, .int .i64 98, .int .i64 103, .int .i64 104, .int .i64 103, .int .i64 62, .int .i64 77, .int .i64 113, .int .i64 121, .int .i64 112, .int .i64 100, .int .i64 120, .int .i64 92, .int .i64 101, .int .i64 103, .int .i64 99] #[.int .i64 17, .int .i64 18, .int .i64 18, .int .i64 24, .int .i64 21, .int .i64 24, .int .i64 47, .int .i64 26, .int .i64 26, .int .i64 47, .int .i64 99, .int .i64 66, .int .i64 56, .int .i64 66] (ia zeros) 23 3 3 23
  have HZ := Lib.hid zeroB
  have K0 := Lib.hid hb0
  have K1 : Hid (Blk w1 (w.heap.size + 1) (ia (bz 0))) := hb1
  have K2 : Hid (Blk w1 (w.heap.size + 1 + 1) (ia bs)) := hb2
  have K3 := Lib.hid hb3
  have KB := Lib.hid hB
  clear hb0 hb1 hb2 hb3 hB
  go_enter Tryd.func11, Tryd.ntmps11
  go_wp2_with (first
    | (with_reducible refine wpList_allocZ _ rfl 23 rfl (ia zeros) HZ.out ?_))
  rw [← hw1]
  clear hw1
  obtain rfl | rfl : k = 0 ∨ k = 1 := by omega
  · clear hk
    go_loopw [6] (fun i wr => ∃ (n : Nat), n ≤ 64 ∧ i = .int .i64 n ∧ Hid (Blk wr w.heap.size (ia zeros)) ∧ Hid (Blk wr (w.heap.size + 1) (ia (bz 0))) ∧ Hid (Blk wr (w.heap.size + 1 + 1) (ia bs)) ∧ Hid (Blk wr (w.heap.size + 1 + 1 + 1) (ia (partF zq (bz 0) n))) ∧ Hid (Below w.heap.size w wr)) (fun i _ => 64 - (RowKit.intOf i).toNat)
    case atStart => exact ⟨0, by omega, rfl, K0, K1, K2, (show Hid _ from by show Blk _ _ _; rw [partF_zero]; exact K3.out), KB⟩
    case round =>
      clear K0 K1 K2 K3 KB
      obtain ⟨n, hnn, rfl, K0, K1, K2, K3, KB⟩ := hrel
      by_cases hlt : n < 64
      · have hcall := rat_any n hlt wr
        have hz := za_lt n hlt
        have HN := Lib.hid (partF_next (f := zq) (g := za) za_lt zq_za za_zq (bz 0) hlt)
        have e3 := K3.out.cell (ia_at (j := za n) (by rw [partF_len]; exact hz))
        have f3 := K3.out.frozen (za n)
        generalize (partF zq (bz 0) n).getD (za n) 0 = o at *
        generalize za n = z at *
        have hz1 : (z : Int) < 64 := by omega
        have e1 := K1.out.cell (ia_at (l := bz 0) (j := n) (by rw [bz_len]; exact hlt))
        have hn1 : (n : Int) < 64 := by omega
        generalize (bz 0).getD n 0 = x at *
        go_wp2_with (go_at_call 23; (with_reducible refine hcall.mono ?_); rintro e w2 ⟨rfl, rfl⟩)
        go_roundw
        case rel =>
          refine ⟨_, _, _, _, _, _, _, _, _, _, _, _, _, _, _, _, _, _, _, _, _, _, _, _, ?_, rfl⟩
          exact ⟨n + 1, by omega, by go_num, K0.out.other (by simp; omega) _, K1.out.other (by simp) _, K2.out.other (by simp) _, (show Hid _ from by show Blk _ _ _; rw [← HN.out]; exact K3.out.set_int z _), KB.out.setCell (p := ⟨w.heap.size + 1 + 1 + 1, z, none⟩) (by simp; omega) _⟩
        case measure => simp [RowKit.intOf]; omega
      · obtain rfl : n = 64 := by omega
        have HA := Lib.hid (partF_all zq_lt (bz 0))
        have HR : Hid (perm zq (bz 0) = bsL 0) := rfl
        rw [HA.out, HR.out] at K3
        have HS := Lib.hid (sizeB (l := bsL 0) (bsL_len 0))
        have HE : Hid ((ia zeros).size = (ia (bsL 0)).size) := same_size zeros_len (bsL_len 0)
        have HO := Lib.hid (one_ia (bsL 0))
        clear HA HR
        generalize hr : bsL 0 = r at *
        have HRR := Lib.hid hr
        clear hr
        go_wp2_with (first
          | (with_reducible refine wpList_loadB _ rfl 23 (.tmp 5) rfl _ Tryd.underlying23 rfl (w.heap.size + 1 + 1 + 1) rfl (ia r) K3.out HS.out ?_)
          | ((with_reducible refine wpList_storeB _ rfl 23 (.tmp 2) (.tmp 32) rfl w.heap.size rfl (ia zeros) K0.out (ia r) rfl HS.out HE.out HO.out ?_)
             intro w3 hb3 hc3 hs3))
        refine bodyPost_ret (results_cell rfl _ _ _ Tryd.underlying23 rfl w.heap.size (ia r) rfl (fun j v hv => hb3.cell hv) HS.out) rfl ?_
        rw [HRR.out]
        exact ⟨rfl, KB.out.trans (hc3.below KB.out.size (fun i e => by omega))⟩
  · clear hk
    go_loopw [6] (fun i wr => ∃ (n : Nat), n ≤ 64 ∧ i = .int .i64 n ∧ Hid (Blk wr w.heap.size (ia zeros)) ∧ Hid (Blk wr (w.heap.size + 1) (ia (bz 0))) ∧ Hid (Blk wr (w.heap.size + 1 + 1) (ia bs)) ∧ Hid (Blk wr (w.heap.size + 1 + 1 + 1) (ia (partF zq (bz 1) n))) ∧ Hid (Below w.heap.size w wr)) (fun i _ => 64 - (RowKit.intOf i).toNat)
    case atStart => exact ⟨0, by omega, rfl, K0, K1, K2, (show Hid _ from by show Blk _ _ _; rw [partF_zero]; exact K3.out), KB⟩
    case round =>
      clear K0 K1 K2 K3 KB
      obtain ⟨n, hnn, rfl, K0, K1, K2, K3, KB⟩ := hrel
      by_cases hlt : n < 64
      · have hcall := rat_any n hlt wr
        have hz := za_lt n hlt
        have HN := Lib.hid (partF_next (f := zq) (g := za) za_lt zq_za za_zq (bz 1) hlt)
        have e3 := K3.out.cell (ia_at (j := za n) (by rw [partF_len]; exact hz))
        have f3 := K3.out.frozen (za n)
        generalize (partF zq (bz 1) n).getD (za n) 0 = o at *
        generalize za n = z at *
        have hz1 : (z : Int) < 64 := by omega
        have HB := Lib.hid (bz1_at hlt)
        by_cases hn : n < 14
        · have e1 := K2.out.cell (ia_at (l := bs) (j := n) (by exact hn))
          have hn1 : (n : Int) < 14 := by omega
          have HXX : Hid ((bz 1).getD n 0 = bs.getD n 0) := by show _ = _; rw [HB.out, if_pos hn]
          clear HB
          generalize (bz 1).getD n 0 = x at *
          generalize bs.getD n 0 = y at *
          go_wp2_with (go_at_call 23; (with_reducible refine hcall.mono ?_); rintro e w2 ⟨rfl, rfl⟩)
          go_roundw
          case rel =>
            refine ⟨_, _, _, _, _, _, _, _, _, _, _, _, _, _, _, _, _, _, _, _, _, _, _, _, ?_, rfl⟩
            exact ⟨n + 1, by omega, by go_num, K0.out.other (by simp; omega) _, K1.out.other (by simp) _, K2.out.other (by simp) _, (show Hid _ from by show Blk _ _ _; rw [← HN.out, HXX.out]; exact K3.out.set_int z _), KB.out.setCell (p := ⟨w.heap.size + 1 + 1 + 1, z, none⟩) (by simp; omega) _⟩
          case measure => simp [RowKit.intOf]; omega
        · have hn1 : ¬ (n : Int) < 14 := by omega
          have HXX : Hid ((bz 1).getD n 0 = 99) := by show _ = _; rw [HB.out, if_neg hn]
          clear HB
          generalize (bz 1).getD n 0 = x at *
          go_wp2_with (go_at_call 23; (with_reducible refine hcall.mono ?_); rintro e w2 ⟨rfl, rfl⟩)
          go_roundw
          case rel =>
            refine ⟨_, _, _, _, _, _, _, _, _, _, _, _, _, _, _, _, _, _, _, _, _, _, _, _, ?_, rfl⟩
            exact ⟨n + 1, by omega, by go_num, K0.out.other (by simp; omega) _, K1.out.other (by simp) _, K2.out.other (by simp) _, (show Hid _ from by show Blk _ _ _; rw [← HN.out, HXX.out]; exact K3.out.set_int z _), KB.out.setCell (p := ⟨w.heap.size + 1 + 1 + 1, z, none⟩) (by simp; omega) _⟩
          case measure => simp [RowKit.intOf]; omega
      · obtain rfl : n = 64 := by omega
        have HA := Lib.hid (partF_all zq_lt (bz 1))
        have HR : Hid (perm zq (bz 1) = bsL 1) := rfl
        rw [HA.out, HR.out] at K3
        have HS := Lib.hid (sizeB (l := bsL 1) (bsL_len 1))
        have HE : Hid ((ia zeros).size = (ia (bsL 1)).size) := same_size zeros_len (bsL_len 1)
        have HO := Lib.hid (one_ia (bsL 1))
        clear HA HR
        generalize hr : bsL 1 = r at *
        have HRR := Lib.hid hr
        clear hr
        go_wp2_with (first
          | (with_reducible refine wpList_loadB _ rfl 23 (.tmp 5) rfl _ Tryd.underlying23 rfl (w.heap.size + 1 + 1 + 1) rfl (ia r) K3.out HS.out ?_)
          | ((with_reducible refine wpList_storeB _ rfl 23 (.tmp 2) (.tmp 32) rfl w.heap.size rfl (ia zeros) K0.out (ia r) rfl HS.out HE.out HO.out ?_)
             intro w3 hb3 hc3 hs3))
        refine bodyPost_ret (results_cell rfl _ _ _ Tryd.underlying23 rfl w.heap.size (ia r) rfl (fun j v hv => hb3.cell hv) HS.out) rfl ?_
        rw [HRR.out]
        exact ⟨rfl, KB.out.trans (hc3.below KB.out.size (fun i e => by omega))⟩
end Go.Proofs.YtipmbffpokplgaaDoor
