/- The law RatioCompares: it returns true, whatever the two ratios and the bound. -/
import Derived.Test.YtnhophjahjphiaaDoorRAwake
namespace Go.Proofs.YtnhophjahjphiaaDoor
open Go.RowKit
set_option linter.unusedVariables false

set_option maxRecDepth 100000 in
set_option maxHeartbeats 6400000 in
theorem rcomp_mid (an ad bn bd m : Int) (w : World) (hw : Env w) (m0 : 60 < m) (m1 : m ≤ 4096) :
    Calls Tryd.prog 4 #[.agg #[.int .i64 an, .int .i64 ad], .agg #[.int .i64 bn, .int .i64 bd], .int .i64 m] w fun e w' => e = .returned (.bool true) ∧ Below w.heap.size w w' := by
  have HC := Lib.hid (fun W => cmp_any an ad bn bd W)
  have HD := Lib.hid (fun W => dCmp_any an ad bn bd W)
  have HL := Lib.hid (fun W => least_any an ad W)
  have HM := Lib.hid (fun W => dLeast_any an ad W)
  have HN := Lib.hid (fun W => near_any an ad m W)
  have HO := Lib.hid (fun W => dNear_any an ad m W)
  generalize cmpV an ad bn bd = v at *
  generalize cmpOk an ad bn bd = k at *
  generalize lstN an ad = x at *
  generalize lstD an ad = y at *
  generalize hasB an ad = z at *
  generalize nearN an ad m = r at *
  generalize nearD an ad m = s at *
  generalize nearOk an ad m = t at *
  have g0 : Below w.heap.size w ((w.alloc (.cells #[.int .i64 an, .int .i64 ad] 23)).alloc (.cells #[.int .i64 bn, .int .i64 bd] 23)) := by go_grown
  obtain ⟨A_0, B_0⟩ := Bx.two w an ad bn bd 23 23
  go_enter Tryd.func4, Tryd.ntmps4
  have lA0 := A_0.c0
  have lA1 := A_0.c1
  have lB0 := B_0.c0
  have lB1 := B_0.c1
  go_wp2_with fail
  (with_reducible refine (HC.out _).mono ?_); rintro e w1 ⟨rfl, h1⟩
  have g1 := bstep g0 h1
  have A_1 := A_0.below h1
  have B_1 := B_0.below h1
  clear h1 g0 A_0 B_0 lA0 lA1 lB0 lB1
  have lA0 := A_1.c0
  have lA1 := A_1.c1
  have lB0 := B_1.c0
  have lB1 := B_1.c1
  go_wp2_with fail
  (with_reducible refine (HD.out _).mono ?_); rintro e w2 ⟨rfl, h2⟩
  have g2 := bstep g1 h2
  have A_2 := A_1.below h2
  have B_2 := B_1.below h2
  clear h2 g1 A_1 B_1 lA0 lA1 lB0 lB1
  have lA0 := A_2.c0
  have lA1 := A_2.c1
  go_wp2_with fail
  (with_reducible refine (HL.out _).mono ?_); rintro e w3 ⟨rfl, h3⟩
  have g3 := bstep g2 h3
  have A_3 := A_2.below h3
  have B_3 := B_2.below h3
  clear h3 g2 A_2 B_2 lA0 lA1
  have g4 := g3.alloc g3.size (.cells #[.int .i64 x, .int .i64 y] 23)
  have A_4 := A_3.alloc (.cells #[.int .i64 x, .int .i64 y] 23)
  have B_4 := B_3.alloc (.cells #[.int .i64 x, .int .i64 y] 23)
  have C_4 := Bx.new w3 x y 23
  clear g3 A_3 B_3
  have lA0 := A_4.c0
  have lA1 := A_4.c1
  go_wp2_with fail
  (with_reducible refine (HM.out _).mono ?_); rintro e w5 ⟨rfl, h5⟩
  have g5 := bstep g4 h5
  have A_5 := A_4.below h5
  have B_5 := B_4.below h5
  have C_5 := C_4.below h5
  clear h5 g4 A_4 B_4 C_4 lA0 lA1
  have g6 := g5.alloc g5.size (.cells #[.int .i64 x, .int .i64 y] 23)
  have A_6 := A_5.alloc (.cells #[.int .i64 x, .int .i64 y] 23)
  have B_6 := B_5.alloc (.cells #[.int .i64 x, .int .i64 y] 23)
  have C_6 := C_5.alloc (.cells #[.int .i64 x, .int .i64 y] 23)
  have D_6 := Bx.new w5 x y 23
  clear g5 A_5 B_5 C_5
  have lC0 := C_6.c0
  have lC1 := C_6.c1
  have lD0 := D_6.c0
  have lD1 := D_6.c1
  go_wp2_with fail
  (with_reducible refine (awake_any _ (hw.below g6)).mono ?_); rintro e w7 ⟨rfl, h7⟩
  have g7 := bstep g6 h7
  have A_7 := A_6.below h7
  have B_7 := B_6.below h7
  have C_7 := C_6.below h7
  have D_7 := D_6.below h7
  clear h7 g6 A_6 B_6 C_6 D_6 lC0 lC1 lD0 lD1
  go_wp2
  go_ret
  exact ⟨rfl, g7⟩

set_option maxRecDepth 100000 in
set_option maxHeartbeats 6400000 in
theorem rcomp_low (an ad bn bd m : Int) (w : World) (hw : Env w) (m0 : m ≤ 60) :
    Calls Tryd.prog 4 #[.agg #[.int .i64 an, .int .i64 ad], .agg #[.int .i64 bn, .int .i64 bd], .int .i64 m] w fun e w' => e = .returned (.bool true) ∧ Below w.heap.size w w' := by
  have HC := Lib.hid (fun W => cmp_any an ad bn bd W)
  have HD := Lib.hid (fun W => dCmp_any an ad bn bd W)
  have HL := Lib.hid (fun W => least_any an ad W)
  have HM := Lib.hid (fun W => dLeast_any an ad W)
  have HN := Lib.hid (fun W => near_any an ad m W)
  have HO := Lib.hid (fun W => dNear_any an ad m W)
  generalize cmpV an ad bn bd = v at *
  generalize cmpOk an ad bn bd = k at *
  generalize lstN an ad = x at *
  generalize lstD an ad = y at *
  generalize hasB an ad = z at *
  generalize nearN an ad m = r at *
  generalize nearD an ad m = s at *
  generalize nearOk an ad m = t at *
  have g0 : Below w.heap.size w ((w.alloc (.cells #[.int .i64 an, .int .i64 ad] 23)).alloc (.cells #[.int .i64 bn, .int .i64 bd] 23)) := by go_grown
  obtain ⟨A_0, B_0⟩ := Bx.two w an ad bn bd 23 23
  go_enter Tryd.func4, Tryd.ntmps4
  have lA0 := A_0.c0
  have lA1 := A_0.c1
  have lB0 := B_0.c0
  have lB1 := B_0.c1
  go_wp2_with fail
  (with_reducible refine (HC.out _).mono ?_); rintro e w1 ⟨rfl, h1⟩
  have g1 := bstep g0 h1
  have A_1 := A_0.below h1
  have B_1 := B_0.below h1
  clear h1 g0 A_0 B_0 lA0 lA1 lB0 lB1
  have lA0 := A_1.c0
  have lA1 := A_1.c1
  have lB0 := B_1.c0
  have lB1 := B_1.c1
  go_wp2_with fail
  (with_reducible refine (HD.out _).mono ?_); rintro e w2 ⟨rfl, h2⟩
  have g2 := bstep g1 h2
  have A_2 := A_1.below h2
  have B_2 := B_1.below h2
  clear h2 g1 A_1 B_1 lA0 lA1 lB0 lB1
  have lA0 := A_2.c0
  have lA1 := A_2.c1
  go_wp2_with fail
  (with_reducible refine (HL.out _).mono ?_); rintro e w3 ⟨rfl, h3⟩
  have g3 := bstep g2 h3
  have A_3 := A_2.below h3
  have B_3 := B_2.below h3
  clear h3 g2 A_2 B_2 lA0 lA1
  have g4 := g3.alloc g3.size (.cells #[.int .i64 x, .int .i64 y] 23)
  have A_4 := A_3.alloc (.cells #[.int .i64 x, .int .i64 y] 23)
  have B_4 := B_3.alloc (.cells #[.int .i64 x, .int .i64 y] 23)
  have C_4 := Bx.new w3 x y 23
  clear g3 A_3 B_3
  have lA0 := A_4.c0
  have lA1 := A_4.c1
  go_wp2_with fail
  (with_reducible refine (HM.out _).mono ?_); rintro e w5 ⟨rfl, h5⟩
  have g5 := bstep g4 h5
  have A_5 := A_4.below h5
  have B_5 := B_4.below h5
  have C_5 := C_4.below h5
  clear h5 g4 A_4 B_4 C_4 lA0 lA1
  have g6 := g5.alloc g5.size (.cells #[.int .i64 x, .int .i64 y] 23)
  have A_6 := A_5.alloc (.cells #[.int .i64 x, .int .i64 y] 23)
  have B_6 := B_5.alloc (.cells #[.int .i64 x, .int .i64 y] 23)
  have C_6 := C_5.alloc (.cells #[.int .i64 x, .int .i64 y] 23)
  have D_6 := Bx.new w5 x y 23
  clear g5 A_5 B_5 C_5
  have lA0 := A_6.c0
  have lA1 := A_6.c1
  have lC0 := C_6.c0
  have lC1 := C_6.c1
  have lD0 := D_6.c0
  have lD1 := D_6.c1
  go_wp2_with fail
  (with_reducible refine (HN.out _).mono ?_); rintro e w7 ⟨rfl, h7⟩
  have g7 := bstep g6 h7
  have A_7 := A_6.below h7
  have B_7 := B_6.below h7
  have C_7 := C_6.below h7
  have D_7 := D_6.below h7
  clear h7 g6 A_6 B_6 C_6 D_6 lA0 lA1 lC0 lC1 lD0 lD1
  have g8 := g7.alloc g7.size (.cells #[.int .i64 r, .int .i64 s] 23)
  have A_8 := A_7.alloc (.cells #[.int .i64 r, .int .i64 s] 23)
  have B_8 := B_7.alloc (.cells #[.int .i64 r, .int .i64 s] 23)
  have C_8 := C_7.alloc (.cells #[.int .i64 r, .int .i64 s] 23)
  have D_8 := D_7.alloc (.cells #[.int .i64 r, .int .i64 s] 23)
  have E_8 := Bx.new w7 r s 23
  clear g7 A_7 B_7 C_7 D_7
  have lA0 := A_8.c0
  have lA1 := A_8.c1
  go_wp2_with fail
  (with_reducible refine (HO.out _).mono ?_); rintro e w9 ⟨rfl, h9⟩
  have g9 := bstep g8 h9
  have A_9 := A_8.below h9
  have B_9 := B_8.below h9
  have C_9 := C_8.below h9
  have D_9 := D_8.below h9
  have E_9 := E_8.below h9
  clear h9 g8 A_8 B_8 C_8 D_8 E_8 lA0 lA1
  have g10 := g9.alloc g9.size (.cells #[.int .i64 r, .int .i64 s] 23)
  have A_10 := A_9.alloc (.cells #[.int .i64 r, .int .i64 s] 23)
  have B_10 := B_9.alloc (.cells #[.int .i64 r, .int .i64 s] 23)
  have C_10 := C_9.alloc (.cells #[.int .i64 r, .int .i64 s] 23)
  have D_10 := D_9.alloc (.cells #[.int .i64 r, .int .i64 s] 23)
  have E_10 := E_9.alloc (.cells #[.int .i64 r, .int .i64 s] 23)
  have F_10 := Bx.new w9 r s 23
  clear g9 A_9 B_9 C_9 D_9 E_9
  have lE0 := E_10.c0
  have lE1 := E_10.c1
  have lF0 := F_10.c0
  have lF1 := F_10.c1
  go_wp2_with fail
  (with_reducible refine (awake_any _ (hw.below g10)).mono ?_); rintro e w11 ⟨rfl, h11⟩
  have g11 := bstep g10 h11
  have A_11 := A_10.below h11
  have B_11 := B_10.below h11
  have C_11 := C_10.below h11
  have D_11 := D_10.below h11
  have E_11 := E_10.below h11
  have F_11 := F_10.below h11
  clear h11 g10 A_10 B_10 C_10 D_10 E_10 F_10 lE0 lE1 lF0 lF1
  go_wp2
  go_ret
  exact ⟨rfl, g11⟩

set_option maxRecDepth 100000 in
set_option maxHeartbeats 6400000 in
theorem rcomp_high (an ad bn bd m : Int) (w : World) (hw : Env w) (m0 : 60 < m) (m1 : 4096 < m) :
    Calls Tryd.prog 4 #[.agg #[.int .i64 an, .int .i64 ad], .agg #[.int .i64 bn, .int .i64 bd], .int .i64 m] w fun e w' => e = .returned (.bool true) ∧ Below w.heap.size w w' := by
  have HC := Lib.hid (fun W => cmp_any an ad bn bd W)
  have HD := Lib.hid (fun W => dCmp_any an ad bn bd W)
  have HL := Lib.hid (fun W => least_any an ad W)
  have HM := Lib.hid (fun W => dLeast_any an ad W)
  have HN := Lib.hid (fun W => near_any an ad m W)
  have HO := Lib.hid (fun W => dNear_any an ad m W)
  generalize cmpV an ad bn bd = v at *
  generalize cmpOk an ad bn bd = k at *
  generalize lstN an ad = x at *
  generalize lstD an ad = y at *
  generalize hasB an ad = z at *
  generalize nearN an ad m = r at *
  generalize nearD an ad m = s at *
  generalize nearOk an ad m = t at *
  have g0 : Below w.heap.size w ((w.alloc (.cells #[.int .i64 an, .int .i64 ad] 23)).alloc (.cells #[.int .i64 bn, .int .i64 bd] 23)) := by go_grown
  obtain ⟨A_0, B_0⟩ := Bx.two w an ad bn bd 23 23
  go_enter Tryd.func4, Tryd.ntmps4
  have lA0 := A_0.c0
  have lA1 := A_0.c1
  have lB0 := B_0.c0
  have lB1 := B_0.c1
  go_wp2_with fail
  (with_reducible refine (HC.out _).mono ?_); rintro e w1 ⟨rfl, h1⟩
  have g1 := bstep g0 h1
  have A_1 := A_0.below h1
  have B_1 := B_0.below h1
  clear h1 g0 A_0 B_0 lA0 lA1 lB0 lB1
  have lA0 := A_1.c0
  have lA1 := A_1.c1
  have lB0 := B_1.c0
  have lB1 := B_1.c1
  go_wp2_with fail
  (with_reducible refine (HD.out _).mono ?_); rintro e w2 ⟨rfl, h2⟩
  have g2 := bstep g1 h2
  have A_2 := A_1.below h2
  have B_2 := B_1.below h2
  clear h2 g1 A_1 B_1 lA0 lA1 lB0 lB1
  have lA0 := A_2.c0
  have lA1 := A_2.c1
  go_wp2_with fail
  (with_reducible refine (HL.out _).mono ?_); rintro e w3 ⟨rfl, h3⟩
  have g3 := bstep g2 h3
  have A_3 := A_2.below h3
  have B_3 := B_2.below h3
  clear h3 g2 A_2 B_2 lA0 lA1
  have g4 := g3.alloc g3.size (.cells #[.int .i64 x, .int .i64 y] 23)
  have A_4 := A_3.alloc (.cells #[.int .i64 x, .int .i64 y] 23)
  have B_4 := B_3.alloc (.cells #[.int .i64 x, .int .i64 y] 23)
  have C_4 := Bx.new w3 x y 23
  clear g3 A_3 B_3
  have lA0 := A_4.c0
  have lA1 := A_4.c1
  go_wp2_with fail
  (with_reducible refine (HM.out _).mono ?_); rintro e w5 ⟨rfl, h5⟩
  have g5 := bstep g4 h5
  have A_5 := A_4.below h5
  have B_5 := B_4.below h5
  have C_5 := C_4.below h5
  clear h5 g4 A_4 B_4 C_4 lA0 lA1
  have g6 := g5.alloc g5.size (.cells #[.int .i64 x, .int .i64 y] 23)
  have A_6 := A_5.alloc (.cells #[.int .i64 x, .int .i64 y] 23)
  have B_6 := B_5.alloc (.cells #[.int .i64 x, .int .i64 y] 23)
  have C_6 := C_5.alloc (.cells #[.int .i64 x, .int .i64 y] 23)
  have D_6 := Bx.new w5 x y 23
  clear g5 A_5 B_5 C_5
  have lA0 := A_6.c0
  have lA1 := A_6.c1
  have lC0 := C_6.c0
  have lC1 := C_6.c1
  have lD0 := D_6.c0
  have lD1 := D_6.c1
  go_wp2_with fail
  (with_reducible refine (HN.out _).mono ?_); rintro e w7 ⟨rfl, h7⟩
  have g7 := bstep g6 h7
  have A_7 := A_6.below h7
  have B_7 := B_6.below h7
  have C_7 := C_6.below h7
  have D_7 := D_6.below h7
  clear h7 g6 A_6 B_6 C_6 D_6 lA0 lA1 lC0 lC1 lD0 lD1
  have g8 := g7.alloc g7.size (.cells #[.int .i64 r, .int .i64 s] 23)
  have A_8 := A_7.alloc (.cells #[.int .i64 r, .int .i64 s] 23)
  have B_8 := B_7.alloc (.cells #[.int .i64 r, .int .i64 s] 23)
  have C_8 := C_7.alloc (.cells #[.int .i64 r, .int .i64 s] 23)
  have D_8 := D_7.alloc (.cells #[.int .i64 r, .int .i64 s] 23)
  have E_8 := Bx.new w7 r s 23
  clear g7 A_7 B_7 C_7 D_7
  have lA0 := A_8.c0
  have lA1 := A_8.c1
  go_wp2_with fail
  (with_reducible refine (HO.out _).mono ?_); rintro e w9 ⟨rfl, h9⟩
  have g9 := bstep g8 h9
  have A_9 := A_8.below h9
  have B_9 := B_8.below h9
  have C_9 := C_8.below h9
  have D_9 := D_8.below h9
  have E_9 := E_8.below h9
  clear h9 g8 A_8 B_8 C_8 D_8 E_8 lA0 lA1
  have g10 := g9.alloc g9.size (.cells #[.int .i64 r, .int .i64 s] 23)
  have A_10 := A_9.alloc (.cells #[.int .i64 r, .int .i64 s] 23)
  have B_10 := B_9.alloc (.cells #[.int .i64 r, .int .i64 s] 23)
  have C_10 := C_9.alloc (.cells #[.int .i64 r, .int .i64 s] 23)
  have D_10 := D_9.alloc (.cells #[.int .i64 r, .int .i64 s] 23)
  have E_10 := E_9.alloc (.cells #[.int .i64 r, .int .i64 s] 23)
  have F_10 := Bx.new w9 r s 23
  clear g9 A_9 B_9 C_9 D_9 E_9
  have lE0 := E_10.c0
  have lE1 := E_10.c1
  have lF0 := F_10.c0
  have lF1 := F_10.c1
  go_wp2_with fail
  (with_reducible refine (awake_any _ (hw.below g10)).mono ?_); rintro e w11 ⟨rfl, h11⟩
  have g11 := bstep g10 h11
  have A_11 := A_10.below h11
  have B_11 := B_10.below h11
  have C_11 := C_10.below h11
  have D_11 := D_10.below h11
  have E_11 := E_10.below h11
  have F_11 := F_10.below h11
  clear h11 g10 A_10 B_10 C_10 D_10 E_10 F_10 lE0 lE1 lF0 lF1
  go_wp2
  go_ret
  exact ⟨rfl, g11⟩

theorem rcomp_any (an ad bn bd m : Int) (w : World) (hw : Env w) :
    Calls Tryd.prog 4 #[.agg #[.int .i64 an, .int .i64 ad], .agg #[.int .i64 bn, .int .i64 bd], .int .i64 m] w fun e w' => e = .returned (.bool true) ∧ Below w.heap.size w w' := by
  by_cases h : m ≤ 60
  · exact rcomp_low an ad bn bd m w hw h
  · by_cases h2 : m ≤ 4096
    · exact rcomp_mid an ad bn bd m w hw (by omega) h2
    · exact rcomp_high an ad bn bd m w hw (by omega) (by omega)
end Go.Proofs.YtnhophjahjphiaaDoor
