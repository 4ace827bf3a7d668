/- The chapter's examples: awake answers true. -/
import Derived.Test.YtanihbflgolciaaAwk5
namespace Go.Proofs.Ytanihbflgolciaa
open Go.RowKit Go.Lib Go.Sort
set_option linter.unusedVariables false
set_option maxRecDepth 100000
set_option maxHeartbeats 8000000 in
theorem awake_any (w : World) : Calls Try.prog 6 #[] w fun e w' => e = .returned (.bool true) ∧ Below w.heap.size w w' := by
  have R0 : Hid (Ri ((((w.alloc (.cells #[.int .i64 0, .int .i64 1] 3)).alloc (.cells (lit2 w.heap.size) 25)).alloc (.cells #[.int .i64 1, .int .i64 1] 3))) (some ⟨w.heap.size + 1 + 1, 0, none⟩) [1, 1]) := by
    have := Ri.lits ((w.alloc (.cells #[.int .i64 0, .int .i64 1] 3)).alloc (.cells (lit2 w.heap.size) 25)) 3 #[.int .i64 1, .int .i64 1] [1, 1] rfl
    simp only [World.size_alloc] at this
    exact this
  have B0 : Hid (Below w.heap.size w (((w.alloc (.cells #[.int .i64 0, .int .i64 1] 3)).alloc (.cells (lit2 w.heap.size) 25)).alloc (.cells #[.int .i64 1, .int .i64 1] 3))) := (((Below.refl w.heap.size w).alloc (Nat.le_refl _) _).alloc (by simp) _).alloc (by simp; omega) _
  have K0 : Hid (Blk (((w.alloc (.cells #[.int .i64 0, .int .i64 1] 3)).alloc (.cells (lit2 w.heap.size) 25)).alloc (.cells #[.int .i64 1, .int .i64 1] 3)) (w.heap.size + 1) (hx cs2 (.slice (some ⟨w.heap.size, 0, none⟩) 2 2))) := by
    have := (Blk.new (w.alloc (.cells #[.int .i64 0, .int .i64 1] 3)) (lit2 w.heap.size) 25).alloc (.cells #[.int .i64 1, .int .i64 1] 3)
    simp only [World.size_alloc] at this
    exact this
  have S0 : Hid (Ri (((w.alloc (.cells #[.int .i64 0, .int .i64 1] 3)).alloc (.cells (lit2 w.heap.size) 25)).alloc (.cells #[.int .i64 1, .int .i64 1] 3)) (some ⟨w.heap.size, 0, none⟩) [0, 1]) := by
    have := Ri.lits w 3 #[.int .i64 0, .int .i64 1] [0, 1] rfl
    exact this.below (((Below.refl _ _).alloc (Nat.le_refl _) _).alloc (by simp) _)
  obtain ⟨Y, hY⟩ : ∃ Y, Y = hx (zeroL 16) (.slice none 0 0) := ⟨_, rfl⟩
  have HY : Hid ((Try.prog.info? 25).map (fun i => i.zero) = some (some (.agg Y))) := by show _ = _; rw [hY]; exact infoH
  have HYZ : Hid (Y.size = 17) := by show _ = _; rw [hY, hx_size]; rfl
  clear hY
  go_enter Try.func6, Try.ntmps6
  go_wp2_with (first
    | ((with_reducible refine (build2 _ 2 _ R0.out).mono ?_)
       rintro e w1 ⟨A1, c1, rfl, hr1, hb1⟩
       have B1 := Lib.hid (below_le B0.out hb1 B0.out.size)
       have R1 := Lib.hid hr1
       have K1 := Lib.hid (K0.out.below hb1)
       have S1 := Lib.hid (S0.out.below hb1)
       have Z1 := Lib.hid (Blk.new w1 Y 25)
       have X1 : Hid ((hx cs2 (.slice A1 2 c1)).size = 17) := rfl
       have BZ1 := Lib.hid ((Below.refl w1.heap.size w1).alloc (Nat.le_refl _) (.cells Y 25))
       clear hr1 hb1)
    | (with_reducible refine wpList_allocZ w1 rfl 25 rfl Y HY.out ?_)
    | ((with_reducible refine wpList_storeB _ rfl 25 (.tmp 2) (.tmp 12) rfl w1.heap.size rfl Y Z1.out (hx cs2 (.slice A1 2 c1)) rfl (sizeH X1.out) (HYZ.out.trans X1.out.symm) (hx_one cs2 A1 2 c1) ?_)
       intro w2 hb2 hc2 hs2
       have hB := BZ1.out.trans (hc2.below (B := w1.heap.size) BZ1.out.size (fun i hi => Nat.le_of_eq hi.symm))
       have B2 := Lib.hid (below_le B1.out hB B1.out.size)
       have H2 := Lib.hid hb2
       have R2 := Lib.hid (R1.out.below hB)
       have K2 := Lib.hid (K1.out.below hB)
       have S2 := Lib.hid (S1.out.below hB)
       have R3 : Hid (Ri (w2.alloc (.cells #[.int .i64 0, .int .i64 0, .int .i64 0, .int .i64 0, .int .i64 0, .int .i64 0, .int .i64 0, .int .i64 5] 3)) (some ⟨w2.heap.size, 0, none⟩) t7) := Ri.lits w2 3 _ t7 rfl
       have BZ2 := Lib.hid ((Below.refl w2.heap.size w2).alloc (Nat.le_refl _) (.cells #[.int .i64 0, .int .i64 0, .int .i64 0, .int .i64 0, .int .i64 0, .int .i64 0, .int .i64 0, .int .i64 5] 3))
       clear hb2 hc2 hs2 hB)
    | ((with_reducible refine (build7 _ 8 _ R3.out).mono ?_)
       rintro e w3 ⟨A3, c3, rfl, hr3, hb3⟩
       have hB := below_le BZ2.out hb3 BZ2.out.size
       have B3 := Lib.hid (below_le B2.out hB B2.out.size)
       have Q3 := Lib.hid hr3
       have H3 := Lib.hid (H2.out.below hB)
       have R4 := Lib.hid (R2.out.below hB)
       have K3 := Lib.hid (K2.out.below hB)
       have S3 := Lib.hid (S2.out.below hB)
       have Z3 := Lib.hid (Blk.new w3 Y 25)
       have X3 : Hid ((hx cs1 (.slice A3 1 c3)).size = 17) := rfl
       have BZ3 := Lib.hid ((Below.refl w3.heap.size w3).alloc (Nat.le_refl _) (.cells Y 25))
       clear hr3 hb3 hB)
    | (with_reducible refine wpList_allocZ w3 rfl 25 rfl Y HY.out ?_)
    | ((with_reducible refine wpList_storeB _ rfl 25 (.tmp 4) (.tmp 17) rfl w3.heap.size rfl Y Z3.out (hx cs1 (.slice A3 1 c3)) rfl (sizeH X3.out) (HYZ.out.trans X3.out.symm) (hx_one cs1 A3 1 c3) ?_)
       intro w4 hb4 hc4 hs4
       have hB := BZ3.out.trans (hc4.below (B := w3.heap.size) BZ3.out.size (fun i hi => Nat.le_of_eq hi.symm))
       have B4 := Lib.hid (below_le B3.out hB B3.out.size)
       have J4 := Lib.hid hb4
       have Q4 := Lib.hid (Q3.out.below hB)
       have H4 := Lib.hid (H3.out.below hB)
       have R5 := Lib.hid (R4.out.below hB)
       have K4 := Lib.hid (K3.out.below hB)
       have S4 := Lib.hid (S3.out.below hB)
       have V4 : Hid (AW w w1.heap.size w3.heap.size A1 A3 c1 c3 w4) := ⟨B4.out, K4.out, S4.out, H4.out, R5.out, J4.out, Q4.out⟩
       have C4 := Lib.hid V4.out.three
       clear hb4 hc4 hs4 hB B4 K4 S4 H4 R5 J4 Q4 B3 Q3 H3 R4 K3 S3 Z3 X3 BZ3 B2 H2 R2 K2 S2 R3 BZ2 B1 R1 K1 S1 Z1 X1 BZ1)
    | ((with_reducible refine C4.out.mono ?_)
       rintro e w5 ⟨A5, c5, rfl, hr5, V5⟩
       have C5 := Lib.hid (V5.codes (c := c5) hr5)
       clear hr5 V5)
    | ((with_reducible refine C5.out.mono ?_)
       rintro e w6 ⟨v6, rfl, hq6, V6⟩
       have C6 := Lib.hid (V6.rows hq6)
       clear hq6 V6)
    | ((with_reducible refine C6.out.mono ?_)
       rintro e w7 ⟨rfl, V7⟩
       have C7 := Lib.hid V7.may1
       clear V7)
    | ((with_reducible refine C7.out.mono ?_)
       rintro e w8 ⟨rfl, h8⟩
       have V8 := Lib.hid h8
       have C8 := Lib.hid h8.may2
       clear h8)
    | ((with_reducible refine C8.out.mono ?_)
       rintro e w9 ⟨rfl, h9⟩
       have V9 := Lib.hid h9
       have C9 := Lib.hid h9.same2
       clear h9)
    | ((with_reducible refine C9.out.mono ?_)
       rintro e w10 ⟨rfl, h10⟩
       have V10 := Lib.hid h10
       have C10 := Lib.hid h10.cost2
       clear h10)
    | ((with_reducible refine C10.out.mono ?_)
       rintro e w11 ⟨rfl, h11⟩
       have V11 := Lib.hid h11
       have C11 := Lib.hid h11.same7
       clear h11)
    | ((with_reducible refine C11.out.mono ?_)
       rintro e w12 ⟨rfl, h12⟩
       have V12 := Lib.hid h12
       clear h12)
    | (refine wpList_open (by rfl) (wpList_loadB _ rfl 25 (.tmp 1) rfl _ Try.underlying25 rfl (w.heap.size + 1) rfl _ V8.out.k (sizeH (hx17 (cs := cs2) rfl _)) ?_))
    | (refine wpList_open (by rfl) (wpList_loadB _ rfl 25 (.tmp 2) rfl _ Try.underlying25 rfl w1.heap.size rfl _ V9.out.h (sizeH (hx17 (cs := cs2) rfl _)) ?_))
    | (refine wpList_open (by rfl) (wpList_loadB _ rfl 25 (.tmp 1) rfl _ Try.underlying25 rfl (w.heap.size + 1) rfl _ V9.out.k (sizeH (hx17 (cs := cs2) rfl _)) ?_))
    | (refine wpList_open (by rfl) (wpList_loadB _ rfl 25 (.tmp 2) rfl _ Try.underlying25 rfl w1.heap.size rfl _ V10.out.h (sizeH (hx17 (cs := cs2) rfl _)) ?_))
    | (refine wpList_open (by rfl) (wpList_loadB _ rfl 25 (.tmp 4) rfl _ Try.underlying25 rfl w3.heap.size rfl _ V11.out.j (sizeH (hx17 (cs := cs1) rfl _)) ?_)))
  go_ret
  exact ⟨rfl, V12.out.be⟩
end Go.Proofs.Ytanihbflgolciaa
