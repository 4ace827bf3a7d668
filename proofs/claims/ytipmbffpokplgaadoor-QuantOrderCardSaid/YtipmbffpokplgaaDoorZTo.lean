/- Contracts of To and From. -/
import Derived.Test.YtipmbffpokplgaaDoorZAt
import Derived.Test.YtipmbffpokplgaaDoorZPm
namespace Go.Proofs.YtipmbffpokplgaaDoor
open Go.RowKit Go.Lib
set_option linter.unusedVariables false
set_option maxRecDepth 100000
theorem zeroB : (Tryd.prog.info? 23).map (fun i => i.zero) = some (some (.agg (ia zeros))) := by kernel_rfl
theorem sizeB {l : List Int} (h : l.length = 64) : (Tryd.prog.info? 23).map (·.size) = some (ia l).size := by rw [ia_size, h]; kernel_rfl
theorem one_ia (l : List Int) : ∀ v ∈ (ia l).toList, v.oneCell' = true := iv_one l
/-- Three blocks: what came in, the result, what is made. -/
theorem three_blk (w : World) (X : Array Value) (T : TypeId) : ∃ w1, w1 = ((w.alloc (.cells X T)).alloc (.cells (ia zeros) T)).alloc (.cells (ia zeros) T) ∧ Blk w1 w.heap.size X ∧ Blk w1 (w.heap.size + 1) (ia zeros) ∧ Blk w1 (w.heap.size + 1 + 1) (ia zeros) ∧ Below w.heap.size w w1 ∧ w1.heap.size = w.heap.size + 1 + 1 + 1 := by
  refine ⟨_, rfl, ((Blk.new w X T).alloc _).alloc _, ?_, ?_, ?_, by simp⟩
  · have := (Blk.new (w.alloc (.cells X T)) (ia zeros) T).alloc (.cells (ia zeros) T)
    rwa [World.size_alloc] at this
  · have := Blk.new ((w.alloc (.cells X T)).alloc (.cells (ia zeros) T)) (ia zeros) T
    simp only [World.size_alloc] at this
    exact this
  · exact (((Below.refl _ w).alloc (Nat.le_refl _) _).alloc (by simp) _).alloc (by simp; omega) _

set_option maxHeartbeats 1000000 in
theorem from_any (l : List Int) (hl : l.length = 64) (w : World) : Calls Tryd.prog 18 #[.agg (ia l)] w fun e w' => e = .returned (.agg (ia (perm zq l))) ∧ Below w.heap.size w w' := by
  obtain ⟨w1, hw1, hb0, hb1, hb2, hB, hsz⟩ := three_blk w (ia l) 23
  have HZ := Lib.hid zeroB
  have H0 := Lib.hid hb0
  have H1 := Lib.hid hb1
  have H2 := Lib.hid hb2
  have HB := Lib.hid hB
  have HL := Lib.hid hl
  clear hb0 hb1 hb2 hB hl
  go_enter Tryd.func18, Tryd.ntmps18
  go_wp2_with (first
    | (with_reducible refine wpList_allocZ _ rfl 23 rfl (ia zeros) HZ.out ?_)
    | (go_at_call 30; (with_reducible refine (order_any _).mono ?_); rintro e w2 ⟨rfl, hb2⟩))
  replace hb2 : Below w1.heap.size w1 w2 := by rw [hw1]; simpa using hb2
  have K0 := Lib.hid (H0.out.below hb2)
  have K1 := Lib.hid (H1.out.below hb2)
  have K2 := Lib.hid (H2.out.below hb2)
  have KB := Lib.hid (HB.out.trans (hb2.mono HB.out.size))
  clear hb2 hw1 H0 H1 H2 HB hsz w1
  go_loopw [7] (fun i wr => ∃ (k : Nat), k ≤ 64 ∧ i = .int .i64 k ∧ Hid (Blk wr w.heap.size (ia l)) ∧ Hid (Blk wr (w.heap.size + 1) (ia zeros)) ∧ Hid (Blk wr (w.heap.size + 1 + 1) (ia (partF zq l k))) ∧ Hid (Below w.heap.size w wr)) (fun i _ => 64 - (RowKit.intOf i).toNat)
  case atStart => exact ⟨0, by omega, rfl, K0, K1, (show Hid _ from by show Blk _ _ _; rw [partF_zero]; exact K2.out), KB⟩
  case round =>
    obtain ⟨k, hk, rfl, H0, H1, H2, HB⟩ := hrel
    clear K0 K1 K2 KB
    by_cases hlt : k < 64
    · have HX := Lib.hid (ia_zi hlt)
      have hz := za_lt k hlt
      have HN := Lib.hid (partF_next (f := zq) (g := za) za_lt zq_za za_zq l hlt)
      have hc := H0.out.cell (ia_at (j := k) (by rw [HL.out]; exact hlt))
      have hd := H2.out.cell (ia_at (j := za k) (by rw [partF_len]; exact hz))
      have hf := H2.out.frozen (za k)
      generalize za k = z at *
      generalize l.getD k 0 = x at *
      generalize (partF zq l k).getD z 0 = y at *
      go_wp2_with (first
        | ((with_reducible refine wpList_indexA _ rfl 22 (.tmp 6) (.tmp 7) rfl 64 3 .i64 Tryd.underlying22 Tryd.underlying3 sizeI (ia zi) rfl k rfl hlt _ HX.out ?_)))
      go_roundw
      case rel => exact ⟨k + 1, by omega, by go_num, H0.out.other (by simp; omega) _, H1.out.other (by simp) _, (show Hid _ from by show Blk _ _ _; rw [← HN.out]; exact H2.out.set_int z x), HB.out.setCell (p := ⟨w.heap.size + 1 + 1, z, none⟩) (by simp; omega) _⟩
      case measure => simp [RowKit.intOf]; omega
    · obtain rfl : k = 64 := by omega
      have HA := Lib.hid (partF_all zq_lt l)
      rw [HA.out] at H2
      have HS := Lib.hid (sizeB (perm_len zq l))
      have HE : Hid ((ia zeros).size = (ia (perm zq l)).size) := by show _ = _; rw [ia_size, ia_size, perm_len]; rfl
      have HO := Lib.hid (one_ia (perm zq l))
      go_wp2_with (first
        | (with_reducible refine wpList_loadB _ rfl 23 (.tmp 3) rfl _ Tryd.underlying23 rfl (w.heap.size + 1 + 1) rfl (ia (perm zq l)) H2.out HS.out ?_)
        | ((with_reducible refine wpList_storeB _ rfl 23 (.tmp 2) (.tmp 17) rfl (w.heap.size + 1) rfl (ia zeros) H1.out (ia (perm zq l)) rfl HS.out HE.out HO.out ?_)
           intro w3 hb3 hc3 hs3))
      refine bodyPost_ret (results_cell rfl _ _ _ Tryd.underlying23 rfl (w.heap.size + 1) (ia (perm zq l)) rfl (fun j v hv => hb3.cell hv) HS.out) rfl ?_
      exact ⟨rfl, HB.out.trans (hc3.below HB.out.size (fun i e => by omega))⟩
end Go.Proofs.YtipmbffpokplgaaDoor
