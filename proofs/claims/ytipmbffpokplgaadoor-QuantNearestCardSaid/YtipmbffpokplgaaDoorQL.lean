/- Contracts: Base of no kind; the law's own blocks (flat, scaled); the examples. -/
import Derived.Test.YtipmbffpokplgaaDoorQG
namespace Go.Proofs.YtipmbffpokplgaaDoor
open Go.RowKit Go.Lib
set_option linter.unusedVariables false
set_option maxRecDepth 100000
set_option maxHeartbeats 2000000 in
theorem base_no (k : Int) (hk : k < 0 ∨ 2 ≤ k) (w : World) : Calls Tryd.prog 8 #[.int .i64 k] w fun e w' => e = .returned (.tuple #[.agg (ia zeros), .bool false]) ∧ Below w.heap.size w w' := by
  have HZ := Lib.hid zeroB
  have K0 := Lib.hid (Blk.new w (ia zeros) 23)
  have KB := Lib.hid ((Below.refl w.heap.size w).alloc (Nat.le_refl _) (.cells (ia zeros) 23))
  have HSZ := Lib.hid (sizeB zeros_len)
  have HO := Lib.hid (one_ia zeros)
  rcases hk with hk | hk
  all_goals
    first
      | (have hk1 : ¬ k < 0 := by omega)
      | skip
    go_enter Tryd.func8, Tryd.ntmps8
    go_wp2_with (first
      | (with_reducible refine wpList_allocZ _ rfl 23 rfl (ia zeros) HZ.out ?_)
      | ((refine wpList_storeB _ rfl 23 (.tmp 2) (.tmp 10) rfl w.heap.size rfl (ia zeros) K0.out (ia zeros) (by rfl) HSZ.out rfl HO.out ?_)
         intro w5 hb5 hc5 hs5))
    refine bodyPost_ret (results_cs rfl _ _ _ Tryd.underlying23 rfl w.heap.size (ia zeros) (.bool false) rfl rfl (fun j v hv => hb5.cell hv) HSZ.out) rfl ?_
    exact ⟨rfl, KB.out.trans (hc5.below KB.out.size (fun i e => by omega))⟩
def flatL (n : Int) : List Int := mapB fun _ => n
theorem flatL_len (n : Int) : (flatL n).length = 64 := mapB_len _
set_option maxHeartbeats 1000000 in
theorem flat_any (n : Int) (w : World) : Calls Tryd.prog 24 #[.int .i64 n] w fun e w' => e = .returned (.agg (ia (flatL n))) ∧ Below w.heap.size w w' := by
  obtain ⟨w1, hw1, hb0, hb1, hB⟩ := two_blk w (ia zeros) (ia zeros) 23 23
  have HZ := Lib.hid zeroB
  have K0 := Lib.hid hb0
  have K1 := Lib.hid hb1
  have KB := Lib.hid hB
  clear hb0 hb1 hB
  go_enter Tryd.func24, Tryd.ntmps24
  go_wp2_with (first
    | (with_reducible refine wpList_allocZ _ rfl 23 rfl (ia zeros) HZ.out ?_))
  rw [← hw1]
  clear hw1
  go_loopw [4] (fun i wr => ∃ (k : Nat), k ≤ 64 ∧ i = .int .i64 k ∧ Hid (Blk wr w.heap.size (ia zeros)) ∧ Hid (Blk wr (w.heap.size + 1) (ia (partK (fun _ => n) k))) ∧ Hid (Below w.heap.size w wr)) (fun i _ => 64 - (RowKit.intOf i).toNat)
  case atStart => exact ⟨0, by omega, rfl, K0, (show Hid _ from by show Blk _ _ _; rw [partK_zero]; exact K1.out), KB⟩
  case round =>
    clear K0 K1 KB
    obtain ⟨k, hk, rfl, K0, K1, KB⟩ := hrel
    by_cases hlt : k < 64
    · have HN := Lib.hid (partK_next (fun _ => n) hlt)
      have HP := Lib.hid (partK_len (fun _ => n) k)
      have hd := K1.out.cell (ia_at (j := k) (by rw [HP.out]; exact hlt))
      have hf := K1.out.frozen k
      generalize (partK (fun _ => n) k).getD k 0 = o at *
      go_wp2
      go_roundw
      case rel => exact ⟨k + 1, by omega, by go_num, K0.out.other (by simp) _, (show Hid _ from by show Blk _ _ _; rw [← HN.out]; exact K1.out.set_int k n), KB.out.setCell (p := ⟨w.heap.size + 1, k, none⟩) (by simp) _⟩
      case measure => simp [RowKit.intOf]; omega
    · obtain rfl : k = 64 := by omega
      have HA : Hid (partK (fun _ => n) 64 = flatL n) := partK_all _
      rw [HA.out] at K1
      have HS := Lib.hid (sizeB (flatL_len n))
      have HE : Hid ((ia zeros).size = (ia (flatL n)).size) := same_size zeros_len (flatL_len n)
      have HO := Lib.hid (one_ia (flatL n))
      clear HA
      go_wp2_with (first
        | (with_reducible refine wpList_loadB _ rfl 23 (.tmp 3) rfl _ Tryd.underlying23 rfl (w.heap.size + 1) rfl (ia (flatL n)) K1.out HS.out ?_)
        | ((with_reducible refine wpList_storeB _ rfl 23 (.tmp 2) (.tmp 12) rfl w.heap.size rfl (ia zeros) K0.out (ia (flatL n)) rfl HS.out HE.out HO.out ?_)
           intro w3 hb3 hc3 hs3))
      refine bodyPost_ret (results_cell rfl _ _ _ Tryd.underlying23 rfl w.heap.size (ia (flatL n)) rfl (fun j v hv => hb3.cell hv) HS.out) rfl ?_
      exact ⟨rfl, KB.out.trans (hc3.below KB.out.size (fun i e => by omega))⟩
theorem flat_ok : wiB (flatL 16) 1 255 = true := by decide +kernel
set_option maxHeartbeats 1000000 in
theorem lscl_any (k v : Int) (h1 : 1 ≤ k) (h2 : k ≤ 100) (hv : (scL (flatL 16) k).getD 5 0 = v) (w : World) : Calls Tryd.prog 25 #[.int .i64 k] w fun e w' => e = .returned (.int .i64 v) ∧ Below w.heap.size w w' := by
  have HZ := Lib.hid zeroB
  have HF := Lib.hid (flat_any 16)
  have HS := Lib.hid (scl_yes (flatL 16) (flatL_len 16) flat_ok k h1 h2)
  have HL : Hid ((scL (flatL 16) k).length = 64) := mapB_len _
  clear h1 h2
  generalize scL (flatL 16) k = r at *
  generalize flatL 16 = q at *
  have HSR := Lib.hid (sizeB HL.out)
  have HE : Hid ((ia zeros).size = (ia r).size) := same_size zeros_len HL.out
  have HO := Lib.hid (one_ia r)
  have HA := Lib.hid (ia_at (l := r) (j := 5) (by rw [HL.out]; omega))
  rw [hv] at HA
  have KB := Lib.hid (Below.refl w.heap.size w)
  clear hv HL
  go_enter Tryd.func25, Tryd.ntmps25
  go_wp2_with (first
    | (go_at_call 24; (with_reducible refine (HF.out _).mono ?_); rintro e w2 ⟨rfl, hb2⟩; have JB := Lib.hid (KB.out.trans hb2); clear hb2)
    | (go_at_call 9; (with_reducible refine (HS.out _).mono ?_); rintro e w3 ⟨rfl, hb3⟩; have LB := Lib.hid (JB.out.trans (hb3.mono JB.out.size)); have K0 := Lib.hid (Blk.new w3 (ia zeros) 23); have MB := Lib.hid (LB.out.alloc LB.out.size (.cells (ia zeros) 23)); clear hb3)
    | (with_reducible refine wpList_allocZ _ rfl 23 rfl (ia zeros) HZ.out ?_)
    | ((with_reducible refine wpList_storeB _ rfl 23 (.tmp 3) (.tmp 9) rfl w3.heap.size rfl (ia zeros) K0.out (ia r) rfl HSR.out HE.out HO.out ?_)
       intro w5 hb5 hc5 hs5; have hcell := hb5.cell HA.out; have RB := Lib.hid (MB.out.trans (hc5.below MB.out.size (fun i e => by have := LB.out.size; omega)))))
  go_ret
  exact ⟨rfl, RB.out⟩
end Go.Proofs.YtipmbffpokplgaaDoor
