/- Contracts of the document's To and From. -/
import Derived.Test.YtljcibljlpclfaaZLast
namespace Go.Proofs.Ytljcibljlpclfaa
open Go.RowKit Go.Lib
set_option linter.unusedVariables false
set_option maxRecDepth 100000
set_option maxHeartbeats 1000000 in
theorem rfrom_any (l : List Int) (hl : l.length = 64) (w : World) : Calls Try.prog 15 #[.agg (ia l)] w fun e w' => e = .returned (.agg (ia (perm zq l))) ∧ Below w.heap.size w w' := by
  obtain ⟨w1, hw1, hb0, hb1, hb2, hB, hsz⟩ := three_blk w (ia l) 26
  have HZ := Lib.hid zeroB
  have H0 := Lib.hid hb0
  have H1 := Lib.hid hb1
  have H2 := Lib.hid hb2
  have HB := Lib.hid hB
  have HL := Lib.hid hl
  clear hb0 hb1 hb2 hB hl hsz
  go_enter Try.func15, Try.ntmps15
  go_wp2_with (first
    | (with_reducible refine wpList_allocZ _ rfl 26 rfl (ia zeros) HZ.out ?_))
  rw [← hw1]
  clear hw1
  go_loopw [4] (fun i wr => ∃ (k : Nat), k ≤ 64 ∧ i = .int .i64 k ∧ Hid (Blk wr w.heap.size (ia l)) ∧ Hid (Blk wr (w.heap.size + 1) (ia zeros)) ∧ Hid (Blk wr (w.heap.size + 1 + 1) (ia (partD zq l k))) ∧ Hid (Below w.heap.size w wr)) (fun i _ => 64 - (RowKit.intOf i).toNat)
  case atStart => exact ⟨0, by omega, rfl, H0, H1, (show Hid _ from by show Blk _ _ _; rw [partD_zero]; exact H2.out), HB⟩
  case round =>
    clear H0 H1 H2 HB
    obtain ⟨k, hk, rfl, H0, H1, H2, HB⟩ := hrel
    by_cases hlt : k < 64
    · have hcall := rplace_any k hlt wr
      have hz := zq_lt k hlt
      have HN := Lib.hid (partD_next zq l hlt)
      have hc := H0.out.cell (ia_at (j := zq k) (by rw [HL.out]; exact hz))
      have hd := H2.out.cell (ia_at (j := k) (by rw [partD_len]; exact hlt))
      have hf := H2.out.frozen k
      generalize zq k = z at *
      generalize l.getD z 0 = x at *
      generalize (partD zq l k).getD k 0 = y at *
      go_wp2_with (go_at_call 11; (with_reducible refine hcall.mono ?_); rintro e w2 ⟨rfl, rfl⟩)
      go_roundw
      case rel => exact ⟨k + 1, by omega, by go_num, H0.out.other (by simp; omega) _, H1.out.other (by simp) _, (show Hid _ from by show Blk _ _ _; rw [← HN.out]; exact H2.out.set_int k x), HB.out.setCell (p := ⟨w.heap.size + 1 + 1, k, none⟩) (by simp; omega) _⟩
      case measure => simp [RowKit.intOf]; omega
    · obtain rfl : k = 64 := by omega
      have HA := Lib.hid (partD_all zq l)
      rw [HA.out] at H2
      have HS := Lib.hid (sizeB (perm_len zq l))
      have HE : Hid ((ia zeros).size = (ia (perm zq l)).size) := by show _ = _; rw [ia_size, ia_size, perm_len]; rfl
      have HO := Lib.hid (one_ia (perm zq l))
      go_wp2_with (first
        | (with_reducible refine wpList_loadB _ rfl 26 (.tmp 3) rfl _ Try.underlying26 rfl (w.heap.size + 1 + 1) rfl (ia (perm zq l)) H2.out HS.out ?_)
        | ((with_reducible refine wpList_storeB _ rfl 26 (.tmp 2) (.tmp 15) rfl (w.heap.size + 1) rfl (ia zeros) H1.out (ia (perm zq l)) rfl HS.out HE.out HO.out ?_)
           intro w3 hb3 hc3 hs3))
      refine bodyPost_ret (results_cell rfl _ _ _ Try.underlying26 rfl (w.heap.size + 1) (ia (perm zq l)) rfl (fun j v hv => hb3.cell hv) HS.out) rfl ?_
      exact ⟨rfl, HB.out.trans (hc3.below HB.out.size (fun i e => by omega))⟩

set_option maxHeartbeats 1000000 in
theorem rto_any (l : List Int) (hl : l.length = 64) (w : World) : Calls Try.prog 12 #[.agg (ia l)] w fun e w' => e = .returned (.agg (ia (perm za l))) ∧ Below w.heap.size w w' := by
  obtain ⟨w1, hw1, hb0, hb1, hb2, hB, hsz⟩ := three_blk w (ia l) 26
  have HZ := Lib.hid zeroB
  have H0 := Lib.hid hb0
  have H1 := Lib.hid hb1
  have H2 := Lib.hid hb2
  have HB := Lib.hid hB
  have HL := Lib.hid hl
  clear hb0 hb1 hb2 hB hl hsz
  go_enter Try.func12, Try.ntmps12
  go_wp2_with (first
    | (with_reducible refine wpList_allocZ _ rfl 26 rfl (ia zeros) HZ.out ?_))
  rw [← hw1]
  clear hw1
  go_loopw [4] (fun i wr => ∃ (k : Nat), k ≤ 64 ∧ i = .int .i64 k ∧ Hid (Blk wr w.heap.size (ia l)) ∧ Hid (Blk wr (w.heap.size + 1) (ia zeros)) ∧ Hid (Blk wr (w.heap.size + 1 + 1) (ia (partF za l k))) ∧ Hid (Below w.heap.size w wr)) (fun i _ => 64 - (RowKit.intOf i).toNat)
  case atStart => exact ⟨0, by omega, rfl, H0, H1, (show Hid _ from by show Blk _ _ _; rw [partF_zero]; exact H2.out), HB⟩
  case round =>
    clear H0 H1 H2 HB
    obtain ⟨k, hk, rfl, H0, H1, H2, HB⟩ := hrel
    by_cases hlt : k < 64
    · have hcall := rplace_any k hlt wr.drew
      have hz := zq_lt k hlt
      have HN := Lib.hid (partF_next (f := za) (g := zq) zq_lt za_zq zq_za l hlt)
      have hc := H0.out.cell (ia_at (j := k) (by rw [HL.out]; exact hlt))
      have hd := H2.out.cell (ia_at (j := zq k) (by rw [partF_len]; exact hz))
      have hf := H2.out.frozen (zq k)
      generalize zq k = z at *
      generalize l.getD k 0 = x at *
      generalize (partF za l k).getD z 0 = y at *
      have hz1 : ((z : Nat) : Int) < 64 := by omega
      have hz0 : 0 ≤ ((z : Nat) : Int) := by omega
      go_wp2
      go_still_tail 6, (by kernel_rfl)
      still_call (hcall.mono fun _ _ h => ⟨h.1, h.2.symm⟩)
      repeat still_step
      refine wpStill_nil ?_
      change wpList _ _ _ _ _ (World.drew _)
      go_wp2
      go_roundw
      case rel => exact ⟨k + 1, by omega, by go_num, H0.out.other (by simp; omega) _, H1.out.other (by simp) _, (show Hid _ from by show Blk _ _ _; rw [← HN.out]; exact H2.out.set_int z x), (HB.out.setCell (p := ⟨w.heap.size + 1 + 1, z, none⟩) (by simp; omega) _).drew⟩
      case measure => simp [RowKit.intOf]; omega
    · obtain rfl : k = 64 := by omega
      have HA := Lib.hid (partF_all za_lt l)
      rw [HA.out] at H2
      have HS := Lib.hid (sizeB (perm_len za l))
      have HE : Hid ((ia zeros).size = (ia (perm za l)).size) := by show _ = _; rw [ia_size, ia_size, perm_len]; rfl
      have HO := Lib.hid (one_ia (perm za l))
      go_wp2_with (first
        | (with_reducible refine wpList_loadB _ rfl 26 (.tmp 3) rfl _ Try.underlying26 rfl (w.heap.size + 1 + 1) rfl (ia (perm za l)) H2.out HS.out ?_)
        | ((with_reducible refine wpList_storeB _ rfl 26 (.tmp 2) (.tmp 15) rfl (w.heap.size + 1) rfl (ia zeros) H1.out (ia (perm za l)) rfl HS.out HE.out HO.out ?_)
           intro w3 hb3 hc3 hs3))
      refine bodyPost_ret (results_cell rfl _ _ _ Try.underlying26 rfl (w.heap.size + 1) (ia (perm za l)) rfl (fun j v hv => hb3.cell hv) HS.out) rfl ?_
      exact ⟨rfl, HB.out.trans (hc3.below HB.out.size (fun i e => by omega))⟩
end Go.Proofs.Ytljcibljlpclfaa
