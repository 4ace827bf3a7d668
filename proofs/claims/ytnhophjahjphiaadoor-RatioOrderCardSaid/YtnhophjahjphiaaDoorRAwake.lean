/- The chapter's examples: awake answers true, in whatever memory. -/
import Derived.Test.YtnhophjahjphiaaDoorRTold
namespace Go.Proofs.YtnhophjahjphiaaDoor
open Go.RowKit
open Go.Lib (decDigits itoa)
set_option linter.unusedVariables false

theorem cmp_is (a b c d v : Int) (k : Bool) (w : World) (h1 : cmpV a b c d = v) (h2 : cmpOk a b c d = k) :
    Calls Tryd.prog 16 #[.agg #[.int .i64 a, .int .i64 b], .agg #[.int .i64 c, .int .i64 d]] w fun e w' => e = .returned (.tuple #[.int .i64 v, .bool k]) ∧ Below w.heap.size w w' := by
  subst h1 h2; exact cmp_any a b c d w
theorem least_is (a b n d : Int) (w : World) (h0 : hasB a b = true) (h1 : leastN a b = n) (h2 : leastD a b = d) :
    Calls Tryd.prog 18 #[.agg #[.int .i64 a, .int .i64 b]] w fun e w' => e = .returned (.tuple #[.agg #[.int .i64 n, .int .i64 d], .bool true]) ∧ Below w.heap.size w w' := by
  subst h1 h2; exact least_yes a b w h0
theorem near_is (a b m n d : Int) (w : World) (h0 : nearOk a b m = true) (h1 : (nearS a b m).1 = n) (h2 : (nearS a b m).2.1 = d) :
    Calls Tryd.prog 20 #[.agg #[.int .i64 a, .int .i64 b], .int .i64 m] w fun e w' => e = .returned (.tuple #[.agg #[.int .i64 n, .int .i64 d], .bool true]) ∧ Below w.heap.size w w' := by
  subst h1 h2; exact near_yes a b m w h0
theorem parse_no (l : List UInt8) (w : World) (hw : Env w) (hl : l.length ≤ 4000000000) (h : both (numR (befS l)) (numR (aftS l)) = none) :
    Calls Tryd.prog 8 #[.string (strB l)] w fun e w' => e = .returned (.tuple #[.agg #[.int .i64 0, .int .i64 0], .bool false]) ∧ Below w.heap.size w w' := by
  have k := parse_any l w hw hl
  have e : parseP l = none := by show both (numC _) (numC _) = none; rw [← both_same]; exact h
  rw [e] at k
  exact k
theorem text_half : textL (-1) 2 = [45, 49, 47, 50] := by
  have e1 : itoa (-1) = [45, 49] := by
    show 45 :: decDigits 1 = _
    rw [dec_small (by decide)]; rfl
  have e2 : itoa 2 = [50] := by
    show decDigits 2 = _
    rw [dec_small (by decide)]; rfl
  unfold textL
  rw [if_pos (by decide), e1, e2]; rfl
theorem text_is (w : World) (hw : Env w) : Calls Tryd.prog 14 #[.agg #[.int .i64 (-1), .int .i64 2]] w fun e w' => e = .returned (.string ⟨#[45, 49, 47, 50]⟩) ∧ Below w.heap.size w w' := by
  have k := text_any (-1) 2 w hw
  rw [text_half] at k
  exact k
theorem c1 : cmpV 1 2 2 4 = 0 ∧ cmpOk 1 2 2 4 = true := by decide +kernel
theorem c2 : cmpV (-1) 3 1 (-4) = -1 ∧ cmpOk (-1) 3 1 (-4) = true := by decide +kernel
theorem c3 : cmpV 1 0 1 2 = 0 ∧ cmpOk 1 0 1 2 = false := by decide +kernel
theorem c4 : hasB 6 (-4) = true ∧ leastN 6 (-4) = -3 ∧ leastD 6 (-4) = 2 := by decide +kernel
theorem c5 : hasB 0 5 = true ∧ leastN 0 5 = 0 ∧ leastD 0 5 = 1 := by decide +kernel
theorem c6 : both (numR (befS [48, 49, 47, 50])) (numR (aftS [48, 49, 47, 50])) = none := by decide +kernel
theorem c7 : both (numR (befS [52, 50, 57, 52, 57, 54, 55, 50, 57, 54, 47, 49])) (numR (aftS [52, 50, 57, 52, 57, 54, 55, 50, 57, 54, 47, 49])) = none := by decide +kernel
theorem c8 : nearOk 355 113 50 = true ∧ (nearS 355 113 50).1 = 22 ∧ (nearS 355 113 50).2.1 = 7 := by decide +kernel
theorem c9 : nearOk 1 2 1 = true ∧ (nearS 1 2 1).1 = 0 ∧ (nearS 1 2 1).2.1 = 1 := by decide +kernel

theorem parse_no1 (w : World) (hw : Env w) : Calls Tryd.prog 8 #[.string ⟨#[48, 49, 47, 50]⟩] w fun e w' => e = .returned (.tuple #[.agg #[.int .i64 0, .int .i64 0], .bool false]) ∧ Below w.heap.size w w' :=
  parse_no [48, 49, 47, 50] w hw (by decide) c6
theorem parse_no2 (w : World) (hw : Env w) : Calls Tryd.prog 8 #[.string ⟨#[52, 50, 57, 52, 57, 54, 55, 50, 57, 54, 47, 49]⟩] w fun e w' => e = .returned (.tuple #[.agg #[.int .i64 0, .int .i64 0], .bool false]) ∧ Below w.heap.size w w' :=
  parse_no [52, 50, 57, 52, 57, 54, 55, 50, 57, 54, 47, 49] w hw (by decide) c7

set_option maxRecDepth 100000 in
set_option maxHeartbeats 6400000 in
theorem awake_any (w : World) (hw : Env w) : Calls Tryd.prog 7 #[] w fun e w' => e = .returned (.bool true) ∧ Below w.heap.size w w' := by
  go_enter Tryd.func7, Tryd.ntmps7
  have g0 : Below w.heap.size w w := Below.refl _ _
  go_wp2_with fail
  (with_reducible refine (of_any 1 2 _).mono ?_); rintro e w1 ⟨rfl, h1⟩
  have g1 := bstep g0 h1
  clear h1 g0
  go_wp2_with fail
  (with_reducible refine (of_any 2 4 _).mono ?_); rintro e w2 ⟨rfl, h2⟩
  have g2 := bstep g1 h2
  clear h2 g1
  go_wp2_with fail
  (with_reducible refine (cmp_is 1 2 2 4 0 true _ c1.1 c1.2).mono ?_); rintro e w3 ⟨rfl, h3⟩
  have g3 := bstep g2 h3
  clear h3 g2
  go_wp2_with fail
  (with_reducible refine (of_any (-1) 3 _).mono ?_); rintro e w4 ⟨rfl, h4⟩
  have g4 := bstep g3 h4
  clear h4 g3
  go_wp2_with fail
  (with_reducible refine (of_any 1 (-4) _).mono ?_); rintro e w5 ⟨rfl, h5⟩
  have g5 := bstep g4 h5
  clear h5 g4
  go_wp2_with fail
  (with_reducible refine (cmp_is (-1) 3 1 (-4) (-1) true _ c2.1 c2.2).mono ?_); rintro e w6 ⟨rfl, h6⟩
  have g6 := bstep g5 h6
  clear h6 g5
  go_wp2_with fail
  (with_reducible refine (of_any 1 0 _).mono ?_); rintro e w7 ⟨rfl, h7⟩
  have g7 := bstep g6 h7
  clear h7 g6
  go_wp2_with fail
  (with_reducible refine (of_any 1 2 _).mono ?_); rintro e w8 ⟨rfl, h8⟩
  have g8 := bstep g7 h8
  clear h8 g7
  go_wp2_with fail
  (with_reducible refine (cmp_is 1 0 1 2 0 false _ c3.1 c3.2).mono ?_); rintro e w9 ⟨rfl, h9⟩
  have g9 := bstep g8 h9
  clear h9 g8
  go_wp2_with fail
  (with_reducible refine (of_any 6 (-4) _).mono ?_); rintro e w10 ⟨rfl, h10⟩
  have g10 := bstep g9 h10
  clear h10 g9
  go_wp2_with fail
  (with_reducible refine (least_is 6 (-4) (-3) 2 _ c4.1 c4.2.1 c4.2.2).mono ?_); rintro e w11 ⟨rfl, h11⟩
  have g11 := bstep g10 h11
  clear h11 g10
  have g12 := g11.alloc g11.size (.cells #[.int .i64 (-3), .int .i64 2] 23)
  have A_12 := Bx.new w11 (-3) 2 23
  clear g11
  go_wp2_with fail
  (with_reducible refine (of_any 0 5 _).mono ?_); rintro e w13 ⟨rfl, h13⟩
  have g13 := bstep g12 h13
  have A_13 := A_12.below h13
  clear h13 g12 A_12
  go_wp2_with fail
  (with_reducible refine (least_is 0 5 0 1 _ c5.1 c5.2.1 c5.2.2).mono ?_); rintro e w14 ⟨rfl, h14⟩
  have g14 := bstep g13 h14
  have A_14 := A_13.below h14
  clear h14 g13 A_13
  have g15 := g14.alloc g14.size (.cells #[.int .i64 0, .int .i64 1] 23)
  have A_15 := A_14.alloc (.cells #[.int .i64 0, .int .i64 1] 23)
  have B_15 := Bx.new w14 0 1 23
  clear g14 A_14
  go_wp2_with fail
  (with_reducible refine (parse_no1 _ (hw.below g15)).mono ?_); rintro e w16 ⟨rfl, h16⟩
  have g16 := bstep g15 h16
  have A_16 := A_15.below h16
  have B_16 := B_15.below h16
  clear h16 g15 A_15 B_15
  have g17 := g16.alloc g16.size (.cells #[.int .i64 0, .int .i64 0] 23)
  have A_17 := A_16.alloc (.cells #[.int .i64 0, .int .i64 0] 23)
  have B_17 := B_16.alloc (.cells #[.int .i64 0, .int .i64 0] 23)
  have C_17 := Bx.new w16 0 0 23
  clear g16 A_16 B_16
  go_wp2_with fail
  (with_reducible refine (parse_no2 _ (hw.below g17)).mono ?_); rintro e w18 ⟨rfl, h18⟩
  have g18 := bstep g17 h18
  have A_18 := A_17.below h18
  have B_18 := B_17.below h18
  have C_18 := C_17.below h18
  clear h18 g17 A_17 B_17 C_17
  have g19 := g18.alloc g18.size (.cells #[.int .i64 0, .int .i64 0] 23)
  have A_19 := A_18.alloc (.cells #[.int .i64 0, .int .i64 0] 23)
  have B_19 := B_18.alloc (.cells #[.int .i64 0, .int .i64 0] 23)
  have C_19 := C_18.alloc (.cells #[.int .i64 0, .int .i64 0] 23)
  have D_19 := Bx.new w18 0 0 23
  clear g18 A_18 B_18 C_18
  go_wp2_with fail
  (with_reducible refine (of_any 355 113 _).mono ?_); rintro e w20 ⟨rfl, h20⟩
  have g20 := bstep g19 h20
  have A_20 := A_19.below h20
  have B_20 := B_19.below h20
  have C_20 := C_19.below h20
  have D_20 := D_19.below h20
  clear h20 g19 A_19 B_19 C_19 D_19
  go_wp2_with fail
  (with_reducible refine (near_is 355 113 50 22 7 _ c8.1 c8.2.1 c8.2.2).mono ?_); rintro e w21 ⟨rfl, h21⟩
  have g21 := bstep g20 h21
  have A_21 := A_20.below h21
  have B_21 := B_20.below h21
  have C_21 := C_20.below h21
  have D_21 := D_20.below h21
  clear h21 g20 A_20 B_20 C_20 D_20
  have g22 := g21.alloc g21.size (.cells #[.int .i64 22, .int .i64 7] 23)
  have A_22 := A_21.alloc (.cells #[.int .i64 22, .int .i64 7] 23)
  have B_22 := B_21.alloc (.cells #[.int .i64 22, .int .i64 7] 23)
  have C_22 := C_21.alloc (.cells #[.int .i64 22, .int .i64 7] 23)
  have D_22 := D_21.alloc (.cells #[.int .i64 22, .int .i64 7] 23)
  have E_22 := Bx.new w21 22 7 23
  clear g21 A_21 B_21 C_21 D_21
  go_wp2_with fail
  (with_reducible refine (of_any 1 2 _).mono ?_); rintro e w23 ⟨rfl, h23⟩
  have g23 := bstep g22 h23
  have A_23 := A_22.below h23
  have B_23 := B_22.below h23
  have C_23 := C_22.below h23
  have D_23 := D_22.below h23
  have E_23 := E_22.below h23
  clear h23 g22 A_22 B_22 C_22 D_22 E_22
  go_wp2_with fail
  (with_reducible refine (near_is 1 2 1 0 1 _ c9.1 c9.2.1 c9.2.2).mono ?_); rintro e w24 ⟨rfl, h24⟩
  have g24 := bstep g23 h24
  have A_24 := A_23.below h24
  have B_24 := B_23.below h24
  have C_24 := C_23.below h24
  have D_24 := D_23.below h24
  have E_24 := E_23.below h24
  clear h24 g23 A_23 B_23 C_23 D_23 E_23
  have g25 := g24.alloc g24.size (.cells #[.int .i64 0, .int .i64 1] 23)
  have A_25 := A_24.alloc (.cells #[.int .i64 0, .int .i64 1] 23)
  have B_25 := B_24.alloc (.cells #[.int .i64 0, .int .i64 1] 23)
  have C_25 := C_24.alloc (.cells #[.int .i64 0, .int .i64 1] 23)
  have D_25 := D_24.alloc (.cells #[.int .i64 0, .int .i64 1] 23)
  have E_25 := E_24.alloc (.cells #[.int .i64 0, .int .i64 1] 23)
  have F_25 := Bx.new w24 0 1 23
  clear g24 A_24 B_24 C_24 D_24 E_24
  have z0 := A_25.c0
  have z1 := A_25.c1
  go_wp2_with fail
  (with_reducible refine (told_yes (-3) 2 _ true rfl).mono ?_); rintro e w26 ⟨rfl, h26⟩
  have g26 := bstep g25 h26
  have A_26 := A_25.below h26
  have B_26 := B_25.below h26
  have C_26 := C_25.below h26
  have D_26 := D_25.below h26
  have E_26 := E_25.below h26
  have F_26 := F_25.below h26
  clear h26 g25 z0 z1 A_25 B_25 C_25 D_25 E_25 F_25
  have z0 := B_26.c0
  have z1 := B_26.c1
  go_wp2_with fail
  (with_reducible refine (told_yes 0 1 _ true rfl).mono ?_); rintro e w27 ⟨rfl, h27⟩
  have g27 := bstep g26 h27
  have A_27 := A_26.below h27
  have B_27 := B_26.below h27
  have C_27 := C_26.below h27
  have D_27 := D_26.below h27
  have E_27 := E_26.below h27
  have F_27 := F_26.below h27
  clear h27 g26 z0 z1 A_26 B_26 C_26 D_26 E_26 F_26
  go_wp2_with fail
  (with_reducible refine (of_any (-1) 2 _).mono ?_); rintro e w28 ⟨rfl, h28⟩
  have g28 := bstep g27 h28
  have A_28 := A_27.below h28
  have B_28 := B_27.below h28
  have C_28 := C_27.below h28
  have D_28 := D_27.below h28
  have E_28 := E_27.below h28
  have F_28 := F_27.below h28
  clear h28 g27 A_27 B_27 C_27 D_27 E_27 F_27
  go_wp2_with fail
  (with_reducible refine (text_is _ (hw.below g28)).mono ?_); rintro e w29 ⟨rfl, h29⟩
  have g29 := bstep g28 h29
  have A_29 := A_28.below h29
  have B_29 := B_28.below h29
  have C_29 := C_28.below h29
  have D_29 := D_28.below h29
  have E_29 := E_28.below h29
  have F_29 := F_28.below h29
  clear h29 g28 A_28 B_28 C_28 D_28 E_28 F_28
  have z0 := C_29.c0
  have z1 := C_29.c1
  go_wp2_with fail
  (with_reducible refine (told_yes 0 0 _ false rfl).mono ?_); rintro e w30 ⟨rfl, h30⟩
  have g30 := bstep g29 h30
  have A_30 := A_29.below h30
  have B_30 := B_29.below h30
  have C_30 := C_29.below h30
  have D_30 := D_29.below h30
  have E_30 := E_29.below h30
  have F_30 := F_29.below h30
  clear h30 g29 z0 z1 A_29 B_29 C_29 D_29 E_29 F_29
  have z0 := D_30.c0
  have z1 := D_30.c1
  go_wp2_with fail
  (with_reducible refine (told_yes 0 0 _ false rfl).mono ?_); rintro e w31 ⟨rfl, h31⟩
  have g31 := bstep g30 h31
  have A_31 := A_30.below h31
  have B_31 := B_30.below h31
  have C_31 := C_30.below h31
  have D_31 := D_30.below h31
  have E_31 := E_30.below h31
  have F_31 := F_30.below h31
  clear h31 g30 z0 z1 A_30 B_30 C_30 D_30 E_30 F_30
  have z0 := E_31.c0
  have z1 := E_31.c1
  go_wp2_with fail
  (with_reducible refine (told_yes 22 7 _ true rfl).mono ?_); rintro e w32 ⟨rfl, h32⟩
  have g32 := bstep g31 h32
  have A_32 := A_31.below h32
  have B_32 := B_31.below h32
  have C_32 := C_31.below h32
  have D_32 := D_31.below h32
  have E_32 := E_31.below h32
  have F_32 := F_31.below h32
  clear h32 g31 z0 z1 A_31 B_31 C_31 D_31 E_31 F_31
  have z0 := F_32.c0
  have z1 := F_32.c1
  go_wp2_with fail
  (with_reducible refine (told_yes 0 1 _ true rfl).mono ?_); rintro e w33 ⟨rfl, h33⟩
  have g33 := bstep g32 h33
  have A_33 := A_32.below h33
  have B_33 := B_32.below h33
  have C_33 := C_32.below h33
  have D_33 := D_32.below h33
  have E_33 := E_32.below h33
  have F_33 := F_32.below h33
  clear h33 g32 z0 z1 A_32 B_32 C_32 D_32 E_32 F_32
  go_wp2
  go_ret
  exact ⟨rfl, g33⟩
end Go.Proofs.YtnhophjahjphiaaDoor
