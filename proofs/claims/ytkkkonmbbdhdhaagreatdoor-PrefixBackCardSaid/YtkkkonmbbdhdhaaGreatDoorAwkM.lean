/- AwkM: the texts Awk4, Awk5, Awk6 in one. -/
import Derived.Test.YtkkkonmbbdhdhaaGreatDoorAwkP
import Derived.Test.YtkkkonmbbdhdhaaGreatDoorFCod
import Derived.Test.YtkkkonmbbdhdhaaGreatDoorFCost
/- The chapter's examples: Build's, three. -/
namespace Go.Proofs.YtkkkonmbbdhdhaaGreatDoor
open Go.RowKit Go.Lib Go.Sort
set_option linter.unusedVariables false
set_option maxRecDepth 100000
theorem build2 (A : Option Addr) (c : Nat) (w : World) (hr : Ri w A [1, 1]) : Calls Tryz.prog 18 #[.slice A 2 c] w fun e w' => ∃ A' c', e = .returned (.tuple #[.agg (hx cs2 (.slice A' 2 c')), .int .i64 0]) ∧ Ri w' A' [0, 1] ∧ Below w.heap.size w w' := by
  refine (fBuild_few [1, 1] A c w hr (by decide) cnt2 (by rw [pos2]; decide) (by rw [pos2]; decide)).mono ?_
  rintro e w' ⟨A', c', r, dp, rfl, h1, h2, h3, h4, h5, h6⟩
  refine ⟨A', c', ?_, ?_, h6⟩
  · rw [bld2 h3 h5, srt2]; rfl
  · rw [srt2] at h1; exact h1
theorem build7 (A : Option Addr) (c : Nat) (w : World) (hr : Ri w A t7) : Calls Tryz.prog 18 #[.slice A 8 c] w fun e w' => ∃ A' c', e = .returned (.tuple #[.agg (hx cs1 (.slice A' 1 c')), .int .i64 0]) ∧ Ri w' A' [7] ∧ Below w.heap.size w w' := by
  refine (fBuild_few t7 A c w hr (by decide) cnt7 (by rw [pos7]; decide) (by rw [pos7]; decide)).mono ?_
  rintro e w' ⟨A', c', r, dp, rfl, h1, h2, h3, h4, h5, h6⟩
  refine ⟨A', c', ?_, ?_, h6⟩
  · rw [bld7 h3 h4 h5, srt7]; rfl
  · rw [srt7] at h1; exact h1
theorem three_any (w : World) : Calls Tryz.prog 20 #[] w fun e w' => ∃ A c, e = .returned (.agg (hx cs3 (.slice A 3 c))) ∧ Ri w' A [5, 1, 9] ∧ Below w.heap.size w w' := by
  go_enter Tryz.func20, Tryz.ntmps20
  go_wp2_with fail
  (try simp only [Exit.inBlock, Exit.then])
  refine bodyPost_ret (results_cell rfl _ _ _ Tryz.underlying25 rfl w.heap.size (hx cs3 (.slice (some ⟨w.heap.size + 1, 0, none⟩) 3 3)) rfl (fun j v hv => Blk.cell ((Blk.new w (hx cs3 (.slice (some ⟨w.heap.size + 1, 0, none⟩) 3 3)) _).alloc _) hv) (sizeH rfl)) rfl ?_
  refine ⟨_, 3, rfl, ?_, ?_⟩
  · have := Ri.lits (w.alloc (.cells (hx cs3 (.slice (some ⟨w.heap.size + 1, 0, none⟩) 3 3)) 25)) 3 #[.int .i64 5, .int .i64 1, .int .i64 9] [5, 1, 9] rfl
    simp only [World.size_alloc] at this
    exact this
  · exact ((Below.refl w.heap.size w).alloc (Nat.le_refl _) _).alloc (by simp) _
end Go.Proofs.YtkkkonmbbdhdhaaGreatDoor
/- The chapter's examples: awake answers true. -/
namespace Go.Proofs.YtkkkonmbbdhdhaaGreatDoor
open Go.RowKit Go.Lib Go.Sort
set_option linter.unusedVariables false
set_option maxRecDepth 100000
abbrev lit2 (g : Nat) : Array Value := #[.int .i64 1, .int .i64 1, .int .i64 0, .int .i64 0, .int .i64 0, .int .i64 0, .int .i64 0, .int .i64 0, .int .i64 0, .int .i64 0, .int .i64 0, .int .i64 0, .int .i64 0, .int .i64 0, .int .i64 0, .int .i64 0, .slice (some ⟨g, 0, none⟩) 2 2]
theorem lit2_eq (g : Nat) : lit2 g = hx cs2 (.slice (some ⟨g, 0, none⟩) 2 2) := rfl
theorem lit2_size (g : Nat) : (lit2 g).size = 17 := rfl
theorem lit2_one (g : Nat) : ∀ v ∈ (lit2 g).toList, v.oneCell' = true := hx_one cs2 _ 2 2
abbrev litN (g : Nat) : Array Value := #[.int .i64 2, .int .i64 0, .int .i64 0, .int .i64 0, .int .i64 0, .int .i64 0, .int .i64 0, .int .i64 0, .int .i64 0, .int .i64 0, .int .i64 0, .int .i64 0, .int .i64 0, .int .i64 0, .int .i64 0, .int .i64 0, .slice (some ⟨g, 0, none⟩) 2 2]
abbrev lit7 (g : Nat) : Array Value := #[.int .i64 1, .int .i64 0, .int .i64 0, .int .i64 0, .int .i64 0, .int .i64 0, .int .i64 0, .int .i64 0, .int .i64 0, .int .i64 0, .int .i64 0, .int .i64 0, .int .i64 0, .int .i64 0, .int .i64 0, .int .i64 0, .slice (some ⟨g, 0, none⟩) 1 1]
/-- An operation whose guard holds. -/
theorem wpList_open {w : World} {ops : Array Oper} {rest : List Oper} {o : Oper} {a : Act} {Q : Exit → Act → World → Prop} (hw : Region.wanted o (yielded ops a.tmps) = true)
    (h : wpList Tryz.prog ops Q ({ o with guard := none } :: rest) a w) : wpList Tryz.prog ops Q (o :: rest) a w := by
  unfold wpList at h ⊢
  rw [if_pos hw]
  rw [if_pos (by simp [Region.wanted])] at h
  exact h
/-- What stands in memory through the examples. -/
structure AW (w : World) (g1 g3 : Nat) (A1 A3 : Option Addr) (c1 c3 : Nat) (W : World) : Prop where
  be : Below w.heap.size w W
  k : Blk W (w.heap.size + 1) (hx cs2 (.slice (some ⟨w.heap.size, 0, none⟩) 2 2))
  s : Ri W (some ⟨w.heap.size, 0, none⟩) [0, 1]
  h : Blk W g1 (hx cs2 (.slice A1 2 c1))
  r : Ri W A1 [0, 1]
  j : Blk W g3 (hx cs1 (.slice A3 1 c3))
  q : Ri W A3 [7]
theorem AW.below {w : World} {g1 g3 : Nat} {A1 A3 : Option Addr} {c1 c3 : Nat} {W W' : World} (h : AW w g1 g3 A1 A3 c1 c3 W) (hb : Below W.heap.size W W') : AW w g1 g3 A1 A3 c1 c3 W' :=
  ⟨below_le h.be hb h.be.size, h.k.below hb, h.s.below hb, h.h.below hb, h.r.below hb, h.j.below hb, h.q.below hb⟩
theorem AW.alloc {w : World} {g1 g3 : Nat} {A1 A3 : Option Addr} {c1 c3 : Nat} {W : World} (h : AW w g1 g3 A1 A3 c1 c3 W) (o : Obj) : AW w g1 g3 A1 A3 c1 c3 (W.alloc o) := h.below ((Below.refl _ _).alloc (Nat.le_refl _) o)
theorem hx17 {cs : List Int} (h : cs.length = 16) (v : Value) : (hx cs v).size = 17 := by rw [hx_size, h]
section
variable {w : World} {g1 g3 : Nat} {A1 A3 : Option Addr} {c1 c3 : Nat} {W : World} (h : AW w g1 g3 A1 A3 c1 c3 W)
include h
theorem AW.may1 : Calls Tryz.prog 21 #[.agg (litN W.heap.size)] (W.alloc (.cells #[.int .i64 0, .int .i64 1] 3)) fun e w' => e = .returned (.bool false) ∧ AW w g1 g3 A1 A3 c1 c3 w' := by
  have := fMay_any (litN W.heap.size) csN [0, 1] (some ⟨W.heap.size, 0, none⟩) 2 (W.alloc (.cells #[.int .i64 0, .int .i64 1] 3)) (hx_hv (cs := csN) rfl _) (Ri.lits W 3 _ [0, 1] rfl) (by decide)
  rw [mayN] at this
  exact this.mono fun e w' ⟨h1, h2⟩ => ⟨h1, (h.alloc _).below h2⟩
theorem AW.may2 : Calls Tryz.prog 21 #[.agg (hx cs2 (.slice (some ⟨w.heap.size, 0, none⟩) 2 2))] W fun e w' => e = .returned (.bool true) ∧ AW w g1 g3 A1 A3 c1 c3 w' := by
  have := fMay_any _ cs2 [0, 1] (some ⟨w.heap.size, 0, none⟩) 2 W (hx_hv (cs := cs2) rfl _) h.s (by decide)
  rw [Go.Proofs.YtkkkonmbbdhdhaaGreatDoor.may2] at this
  exact this.mono fun e w' ⟨h1, h2⟩ => ⟨h1, h.below h2⟩
theorem AW.same2 : Calls Tryz.prog 22 #[.agg (hx cs2 (.slice A1 2 c1)), .agg (hx cs2 (.slice (some ⟨w.heap.size, 0, none⟩) 2 2))] W fun e w' => e = .returned (.bool true) ∧ AW w g1 g3 A1 A3 c1 c3 w' := by
  have := rSame_any _ _ cs2 cs2 [0, 1] [0, 1] A1 (some ⟨w.heap.size, 0, none⟩) c1 2 W (hx_hv (cs := cs2) rfl _) (hx_hv (cs := cs2) rfl _) rfl rfl h.r h.s (by decide) (by decide)
  rw [sameB_yes ⟨rfl, rfl⟩] at this
  exact this.mono fun e w' ⟨h1, h2⟩ => ⟨h1, h.below h2⟩
theorem AW.cost2 : Calls Tryz.prog 23 #[.agg (hx cs2 (.slice A1 2 c1)), .slice (some ⟨W.heap.size, 0, none⟩) 2 2] (W.alloc (.cells #[.int .i64 1, .int .i64 1] 3)) fun e w' => e = .returned (.int .i64 3) ∧ AW w g1 g3 A1 A3 c1 c3 w' := by
  have := fCost_any _ cs2 [0, 1] A1 c1 [1, 1] (some ⟨W.heap.size, 0, none⟩) 2 (W.alloc (.cells #[.int .i64 1, .int .i64 1] 3)) (hx_hv (cs := cs2) rfl _) (h.alloc _).r (by decide) rfl (Ri.lits W 3 _ [1, 1] rfl) (by decide)
  rw [Go.Proofs.YtkkkonmbbdhdhaaGreatDoor.cost2] at this
  exact this.mono fun e w' ⟨h1, h2⟩ => ⟨h1, (h.alloc _).below h2⟩
theorem AW.same7 : Calls Tryz.prog 22 #[.agg (hx cs1 (.slice A3 1 c3)), .agg (lit7 W.heap.size)] (W.alloc (.cells #[.int .i64 7] 3)) fun e w' => e = .returned (.bool true) ∧ AW w g1 g3 A1 A3 c1 c3 w' := by
  have := rSame_any _ (lit7 W.heap.size) cs1 cs1 [7] [7] A3 (some ⟨W.heap.size, 0, none⟩) c3 1 (W.alloc (.cells #[.int .i64 7] 3)) (hx_hv (cs := cs1) rfl _) (hx_hv (cs := cs1) rfl _) rfl rfl (h.alloc _).q (Ri.lits W 3 _ [7] rfl) (by decide) (by decide)
  rw [sameB_yes ⟨rfl, rfl⟩] at this
  exact this.mono fun e w' ⟨h1, h2⟩ => ⟨h1, (h.alloc _).below h2⟩
theorem AW.three : Calls Tryz.prog 20 #[] W fun e w' => ∃ A c, e = .returned (.agg (hx cs3 (.slice A 3 c))) ∧ Ri w' A [5, 1, 9] ∧ AW w g1 g3 A1 A3 c1 c3 w' :=
  (three_any W).mono fun e w' ⟨A, c, h1, h2, h3⟩ => ⟨A, c, h1, h2, h.below h3⟩
theorem AW.codes {A : Option Addr} {c : Nat} (hr : Ri W A [5, 1, 9]) : Calls Tryz.prog 16 #[.agg (hx cs3 (.slice A 3 c))] W fun e w' => ∃ v, e = .returned v ∧ Oq w' W.heap.size v [(0, 2), (2, 3), (3, 3)] ∧ AW w g1 g3 A1 A3 c1 c3 w' := by
  have := fCod_any _ cs3 [5, 1, 9] A c W (hx_hv (cs := cs3) rfl _) hr (by decide) may3 rfl
  rw [cds3] at this
  exact this.mono fun e w' ⟨v, h1, h2, h3⟩ => ⟨v, h1, h2, h.below h3⟩
theorem AW.rows {v : Value} {B : Nat} (hq : Oq W B v [(0, 2), (2, 3), (3, 3)]) : Calls Tryz.prog 19 #[v, .slice (some ⟨W.heap.size, 0, none⟩) 3 3] (W.alloc (.cells #[.int .i64 0, .int .i64 2, .int .i64 2, .int .i64 3, .int .i64 3, .int .i64 3] 47)) fun e w' => e = .returned (.bool true) ∧ AW w g1 g3 A1 A3 c1 c3 w' := by
  have := lRows_any v (.slice (some ⟨W.heap.size, 0, none⟩) 3 3) [(0, 2), (2, 3), (3, 3)] [(0, 2), (2, 3), (3, 3)] B W.heap.size (W.alloc (.cells #[.int .i64 0, .int .i64 2, .int .i64 2, .int .i64 3, .int .i64 3, .int .i64 3] 47)) (World.ownsRow.alloc hq _) (World.ownsRow_lit W _ 3 (Nat.le_refl _) (by decide) rfl) (by decide)
  rw [rowsB_yes rfl] at this
  exact this.mono fun e w' ⟨h1, h2⟩ => ⟨h1, (h.alloc _).below h2⟩
end
end Go.Proofs.YtkkkonmbbdhdhaaGreatDoor
/- The chapter's examples: awake answers true. -/
namespace Go.Proofs.YtkkkonmbbdhdhaaGreatDoor
open Go.RowKit Go.Lib Go.Sort
set_option linter.unusedVariables false
set_option maxRecDepth 100000
set_option maxHeartbeats 8000000 in
theorem awake_any (w : World) : Calls Tryz.prog 5 #[] w fun e w' => e = .returned (.bool true) ∧ Below w.heap.size w w' := by
  have R0 : Hid (Ri ((((w.alloc (.cells #[.int .i64 0, .int .i64 1] 3)).alloc (.cells (lit2 w.heap.size) 25)).alloc (.cells #[.int .i64 1, .int .i64 1] 3))) (some ⟨w.heap.size + 1 + 1, 0, none⟩) [1, 1]) := by
    have := Ri.lits ((w.alloc (.cells #[.int .i64 0, .int .i64 1] 3)).alloc (.cells (lit2 w.heap.size) 25)) 3 #[.int .i64 1, .int .i64 1] [1, 1] rfl
    simp only [World.size_alloc] at this
    exact this
  have B0 : Hid (Below w.heap.size w (((w.alloc (.cells #[.int .i64 0, .int .i64 1] 3)).alloc (.cells (lit2 w.heap.size) 25)).alloc (.cells #[.int .i64 1, .int .i64 1] 3))) := (((Below.refl w.heap.size w).alloc (Nat.le_refl _) _).alloc (by simp) _).alloc (by simp; omega) _
  have K0 : Hid (Blk (((w.alloc (.cells #[.int .i64 0, .int .i64 1] 3)).alloc (.cells (lit2 w.heap.size) 25)).alloc (.cells #[.int .i64 1, .int .i64 1] 3)) (w.heap.size + 1) (hx cs2 (.slice (some ⟨w.heap.size, 0, none⟩) 2 2))) := by
    have := (Blk.new (w.alloc (.cells #[.int .i64 0, .int .i64 1] 3)) (lit2 w.heap.size) 25).alloc (.cells #[.int .i64 1, .int .i64 1] 3)
    simp only [World.size_alloc] at this
    exact this
  have S0 : Hid (Ri (((w.alloc (.cells #[.int .i64 0, .int .i64 1] 3)).alloc (.cells (lit2 w.heap.size) 25)).alloc (.cells #[.int .i64 1, .int .i64 1] 3)) (some ⟨w.heap.size, 0, none⟩) [0, 1]) := by
    have := Ri.lits w 3 #[.int .i64 0, .int .i64 1] [0, 1] rfl
    exact this.below (((Below.refl _ _).alloc (Nat.le_refl _) _).alloc (by simp) _)
  obtain ⟨Y, hY⟩ : ∃ Y, Y = hx (zeroL 16) (.slice none 0 0) := ⟨_, rfl⟩
  have HY : Hid ((Tryz.prog.info? 25).map (fun i => i.zero) = some (some (.agg Y))) := by show _ = _; rw [hY]; exact infoH
  have HYZ : Hid (Y.size = 17) := by show _ = _; rw [hY, hx_size]; rfl
  clear hY
  go_enter Tryz.func5, Tryz.ntmps5
  go_wp2_with (first
    | ((with_reducible refine (build2 _ 2 _ R0.out).mono ?_)
       rintro e w1 ⟨A1, c1, rfl, hr1, hb1⟩
       have B1 := Lib.hid (below_le B0.out hb1 B0.out.size)
       have R1 := Lib.hid hr1
       have K1 := Lib.hid (K0.out.below hb1)
       have S1 := Lib.hid (S0.out.below hb1)
       have Z1 := Lib.hid (Blk.new w1 Y 25)
       have X1 : Hid ((hx cs2 (.slice A1 2 c1)).size = 17) := rfl
       have BZ1 := Lib.hid ((Below.refl w1.heap.size w1).alloc (Nat.le_refl _) (.cells Y 25))
       clear hr1 hb1)
    | (with_reducible refine wpList_allocZ w1 rfl 25 rfl Y HY.out ?_)
    | ((with_reducible refine wpList_storeB _ rfl 25 (.tmp 2) (.tmp 12) rfl w1.heap.size rfl Y Z1.out (hx cs2 (.slice A1 2 c1)) rfl (sizeH X1.out) (HYZ.out.trans X1.out.symm) (hx_one cs2 A1 2 c1) ?_)
       intro w2 hb2 hc2 hs2
       have hB := BZ1.out.trans (hc2.below (B := w1.heap.size) BZ1.out.size (fun i hi => Nat.le_of_eq hi.symm))
       have B2 := Lib.hid (below_le B1.out hB B1.out.size)
       have H2 := Lib.hid hb2
       have R2 := Lib.hid (R1.out.below hB)
       have K2 := Lib.hid (K1.out.below hB)
       have S2 := Lib.hid (S1.out.below hB)
       have R3 : Hid (Ri (w2.alloc (.cells #[.int .i64 0, .int .i64 0, .int .i64 0, .int .i64 0, .int .i64 0, .int .i64 0, .int .i64 0, .int .i64 5] 3)) (some ⟨w2.heap.size, 0, none⟩) t7) := Ri.lits w2 3 _ t7 rfl
       have BZ2 := Lib.hid ((Below.refl w2.heap.size w2).alloc (Nat.le_refl _) (.cells #[.int .i64 0, .int .i64 0, .int .i64 0, .int .i64 0, .int .i64 0, .int .i64 0, .int .i64 0, .int .i64 5] 3))
       clear hb2 hc2 hs2 hB)
    | ((with_reducible refine (build7 _ 8 _ R3.out).mono ?_)
       rintro e w3 ⟨A3, c3, rfl, hr3, hb3⟩
       have hB := below_le BZ2.out hb3 BZ2.out.size
       have B3 := Lib.hid (below_le B2.out hB B2.out.size)
       have Q3 := Lib.hid hr3
       have H3 := Lib.hid (H2.out.below hB)
       have R4 := Lib.hid (R2.out.below hB)
       have K3 := Lib.hid (K2.out.below hB)
       have S3 := Lib.hid (S2.out.below hB)
       have Z3 := Lib.hid (Blk.new w3 Y 25)
       have X3 : Hid ((hx cs1 (.slice A3 1 c3)).size = 17) := rfl
       have BZ3 := Lib.hid ((Below.refl w3.heap.size w3).alloc (Nat.le_refl _) (.cells Y 25))
       clear hr3 hb3 hB)
    | (with_reducible refine wpList_allocZ w3 rfl 25 rfl Y HY.out ?_)
    | ((with_reducible refine wpList_storeB _ rfl 25 (.tmp 4) (.tmp 17) rfl w3.heap.size rfl Y Z3.out (hx cs1 (.slice A3 1 c3)) rfl (sizeH X3.out) (HYZ.out.trans X3.out.symm) (hx_one cs1 A3 1 c3) ?_)
       intro w4 hb4 hc4 hs4
       have hB := BZ3.out.trans (hc4.below (B := w3.heap.size) BZ3.out.size (fun i hi => Nat.le_of_eq hi.symm))
       have B4 := Lib.hid (below_le B3.out hB B3.out.size)
       have J4 := Lib.hid hb4
       have Q4 := Lib.hid (Q3.out.below hB)
       have H4 := Lib.hid (H3.out.below hB)
       have R5 := Lib.hid (R4.out.below hB)
       have K4 := Lib.hid (K3.out.below hB)
       have S4 := Lib.hid (S3.out.below hB)
       have V4 : Hid (AW w w1.heap.size w3.heap.size A1 A3 c1 c3 w4) := ⟨B4.out, K4.out, S4.out, H4.out, R5.out, J4.out, Q4.out⟩
       have C4 := Lib.hid V4.out.three
       clear hb4 hc4 hs4 hB B4 K4 S4 H4 R5 J4 Q4 B3 Q3 H3 R4 K3 S3 Z3 X3 BZ3 B2 H2 R2 K2 S2 R3 BZ2 B1 R1 K1 S1 Z1 X1 BZ1)
    | ((with_reducible refine C4.out.mono ?_)
       rintro e w5 ⟨A5, c5, rfl, hr5, V5⟩
       have C5 := Lib.hid (V5.codes (c := c5) hr5)
       clear hr5 V5)
    | ((with_reducible refine C5.out.mono ?_)
       rintro e w6 ⟨v6, rfl, hq6, V6⟩
       have C6 := Lib.hid (V6.rows hq6)
       clear hq6 V6)
    | ((with_reducible refine C6.out.mono ?_)
       rintro e w7 ⟨rfl, V7⟩
       have C7 := Lib.hid V7.may1
       clear V7)
    | ((with_reducible refine C7.out.mono ?_)
       rintro e w8 ⟨rfl, h8⟩
       have V8 := Lib.hid h8
       have C8 := Lib.hid h8.may2
       clear h8)
    | ((with_reducible refine C8.out.mono ?_)
       rintro e w9 ⟨rfl, h9⟩
       have V9 := Lib.hid h9
       have C9 := Lib.hid h9.same2
       clear h9)
    | ((with_reducible refine C9.out.mono ?_)
       rintro e w10 ⟨rfl, h10⟩
       have V10 := Lib.hid h10
       have C10 := Lib.hid h10.cost2
       clear h10)
    | ((with_reducible refine C10.out.mono ?_)
       rintro e w11 ⟨rfl, h11⟩
       have V11 := Lib.hid h11
       have C11 := Lib.hid h11.same7
       clear h11)
    | ((with_reducible refine C11.out.mono ?_)
       rintro e w12 ⟨rfl, h12⟩
       have V12 := Lib.hid h12
       clear h12)
    | (refine wpList_open (by rfl) (wpList_loadB _ rfl 25 (.tmp 1) rfl _ Tryz.underlying25 rfl (w.heap.size + 1) rfl _ V8.out.k (sizeH (hx17 (cs := cs2) rfl _)) ?_))
    | (refine wpList_open (by rfl) (wpList_loadB _ rfl 25 (.tmp 2) rfl _ Tryz.underlying25 rfl w1.heap.size rfl _ V9.out.h (sizeH (hx17 (cs := cs2) rfl _)) ?_))
    | (refine wpList_open (by rfl) (wpList_loadB _ rfl 25 (.tmp 1) rfl _ Tryz.underlying25 rfl (w.heap.size + 1) rfl _ V9.out.k (sizeH (hx17 (cs := cs2) rfl _)) ?_))
    | (refine wpList_open (by rfl) (wpList_loadB _ rfl 25 (.tmp 2) rfl _ Tryz.underlying25 rfl w1.heap.size rfl _ V10.out.h (sizeH (hx17 (cs := cs2) rfl _)) ?_))
    | (refine wpList_open (by rfl) (wpList_loadB _ rfl 25 (.tmp 4) rfl _ Tryz.underlying25 rfl w3.heap.size rfl _ V11.out.j (sizeH (hx17 (cs := cs1) rfl _)) ?_)))
  go_ret
  exact ⟨rfl, V12.out.be⟩
end Go.Proofs.YtkkkonmbbdhdhaaGreatDoor
