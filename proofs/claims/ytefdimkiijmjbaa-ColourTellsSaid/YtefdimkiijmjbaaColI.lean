/- awake; the law ColourTells. -/
import Derived.Test.YtefdimkiijmjbaaColH
namespace Go.Proofs.Ytefdimkiijmjbaa
open Go.RowKit Go.Lib
set_option linter.unusedVariables false
set_option maxRecDepth 100000
/-- Three ints as a value. -/
def v3 (x y z : Int) : Value := .agg #[.int .i64 x, .int .i64 y, .int .i64 z]
theorem eqv (w : World) (x y z a b c : Int) : (Op.equalIn 10000 23 (v3 x y z) (v3 a b c)).run Try.prog w = .ok ([x, y, z] == [a, b, c]) w :=
  run_equalIn_ints w 9998 23 3 3 Try.underlying23 Try.underlying3 sizeInt [x, y, z] [a, b, c] rfl rfl
theorem eqvs (w : World) (x y z : Int) : (Op.equalIn 10000 23 (.agg #[.int .i64 x, .int .i64 y, .int .i64 z]) (.agg #[.int .i64 x, .int .i64 y, .int .i64 z])).run Try.prog w = .ok true w := by
  have := eqv w x y z x y z
  rw [show ([x, y, z] == [x, y, z]) = true by simp] at this
  exact this
theorem lLuma_at (r g b x y z : Int) (w : World) (h : lu3 r g b = [x, y, z]) : Calls Try.prog 9 #[.int .i64 r, .int .i64 g, .int .i64 b] w fun e w' => e = .returned (.agg #[.int .i64 x, .int .i64 y, .int .i64 z]) ∧ Below w.heap.size w w' := by
  have := lLuma_any r g b w
  rw [h] at this
  exact this
theorem lPaint_at (r g b x y z : Int) (w : World) (h : pa3 r g b = [x, y, z]) : Calls Try.prog 11 #[.int .i64 r, .int .i64 g, .int .i64 b] w fun e w' => e = .returned (.agg #[.int .i64 x, .int .i64 y, .int .i64 z]) ∧ Below w.heap.size w w' := by
  have := lPaint_any r g b w
  rw [h] at this
  exact this
theorem ex1 : lu3 255 0 0 = [76, 85, 255] := by decide +kernel
theorem ex2 : lu3 0 0 255 = [29, 255, 107] := by decide +kernel
theorem ex3 : pa3 76 85 255 = [254, 0, 0] := by decide +kernel
set_option maxHeartbeats 2000000 in
theorem awake_any (w : World) : Calls Try.prog 13 #[] w fun e w' => e = .returned (.bool true) ∧ Below w.heap.size w w' := by
  have H1 := Lib.hid (fun W => lLuma_at 255 0 0 76 85 255 W ex1)
  have H2 := Lib.hid (fun W => lLuma_at 0 0 255 29 255 107 W ex2)
  have H3 := Lib.hid (fun W => lPaint_at 76 85 255 254 0 0 W ex3)
  have q1 : ∀ W, (Op.equalIn 10000 23 (.agg #[.int .i64 76, .int .i64 85, .int .i64 255]) (.agg #[.int .i64 76, .int .i64 85, .int .i64 255])).run Try.prog W = .ok true W := fun W => eqvs W 76 85 255
  have q2 : ∀ W, (Op.equalIn 10000 23 (.agg #[.int .i64 29, .int .i64 255, .int .i64 107]) (.agg #[.int .i64 29, .int .i64 255, .int .i64 107])).run Try.prog W = .ok true W := fun W => eqvs W 29 255 107
  have q3 : ∀ W, (Op.equalIn 10000 23 (.agg #[.int .i64 254, .int .i64 0, .int .i64 0]) (.agg #[.int .i64 254, .int .i64 0, .int .i64 0])).run Try.prog W = .ok true W := fun W => eqvs W 254 0 0
  have HA : Hid (∀ A c W, Calls Try.prog 14 #[.slice A 2 c, .bool false] W fun e w' => e = .returned (.slice none 0 0) ∧ Below W.heap.size W w') := fun A c W => all_no false [1, 2] A c W (by decide) (by decide)
  go_enter Try.func13, Try.ntmps13
  go_wp2_with fail
  (with_reducible refine (H1.out _).mono ?_); rintro e w1 ⟨rfl, b1⟩
  go_wp2_with fail
  (with_reducible refine (H2.out _).mono ?_); rintro e w2 ⟨rfl, h2⟩
  have b2 := b1.trans (h2.mono b1.size)
  clear h2 b1
  go_wp2_with fail
  (with_reducible refine (H3.out _).mono ?_); rintro e w3 ⟨rfl, h3⟩
  have b3 := b2.trans (h3.mono b2.size)
  clear h3 b2
  have b4 := b3.alloc b3.size (.cells #[.int .u8 1, .int .u8 2] 5)
  go_wp2_with fail
  (with_reducible refine (HA.out _ _ _).mono ?_); rintro e w5 ⟨rfl, h5⟩
  have b5 := b4.trans (h5.mono b4.size)
  clear h5 b4 b3
  go_wp2
  go_ret
  exact ⟨rfl, b5⟩
set_option maxHeartbeats 2000000 in
theorem tells_any (a b c : Int) (w : World) : Calls Try.prog 3 #[.int .i64 a, .int .i64 b, .int .i64 c] w fun e w' => e = .returned (.bool true) ∧ Below w.heap.size w w' := by
  have HC := Lib.hid (fun W => clamp_any a W)
  have HR := Lib.hid (fun W => rclamp_any a W)
  have HL := Lib.hid (fun W => lLuma_at a b c _ _ _ W rfl)
  have HP := Lib.hid (fun W => lPaint_at a b c _ _ _ W rfl)
  have HRL : Hid (∀ W, Calls Try.prog 10 #[.int .i64 a, .int .i64 b, .int .i64 c] W fun e w' => e = .returned (.agg #[.int .i64 (luY a b c), .int .i64 (luB a b c), .int .i64 (luR a b c)]) ∧ Below W.heap.size W w') := fun W => rLuma_any a b c W
  have HRP : Hid (∀ W, Calls Try.prog 12 #[.int .i64 a, .int .i64 b, .int .i64 c] W fun e w' => e = .returned (.agg #[.int .i64 (paR a b c), .int .i64 (paG a b c), .int .i64 (paB a b c)]) ∧ Below W.heap.size W w') := fun W => rPaint_any a b c W
  generalize luY a b c = x0 at *
  generalize luB a b c = x1 at *
  generalize luR a b c = x2 at *
  generalize paR a b c = y0 at *
  generalize paG a b c = y1 at *
  generalize paB a b c = y2 at *
  generalize cl a = k at *
  have q1 : ∀ W, (Op.equalIn 10000 23 (.agg #[.int .i64 x0, .int .i64 x1, .int .i64 x2]) (.agg #[.int .i64 x0, .int .i64 x1, .int .i64 x2])).run Try.prog W = .ok true W := fun W => eqvs W x0 x1 x2
  have q2 : ∀ W, (Op.equalIn 10000 23 (.agg #[.int .i64 y0, .int .i64 y1, .int .i64 y2]) (.agg #[.int .i64 y0, .int .i64 y1, .int .i64 y2])).run Try.prog W = .ok true W := fun W => eqvs W y0 y1 y2
  go_enter Try.func3, Try.ntmps3
  go_wp2_with (first
    | (go_at_call 7; (with_reducible refine (HC.out _).mono ?_); rintro e w3 ⟨rfl, rfl⟩)
    | (go_at_call 8; (with_reducible refine (HR.out _).mono ?_); rintro e w3 ⟨rfl, rfl⟩))
  (with_reducible refine (HL.out _).mono ?_); rintro e w1 ⟨rfl, b1⟩
  go_wp2_with fail
  (with_reducible refine (HRL.out _).mono ?_); rintro e w2 ⟨rfl, h2⟩
  have b2 := b1.trans (h2.mono b1.size)
  clear h2 b1
  go_wp2_with fail
  (with_reducible refine (HP.out _).mono ?_); rintro e w3 ⟨rfl, h3⟩
  have b3 := b2.trans (h3.mono b2.size)
  clear h3 b2
  go_wp2_with fail
  (with_reducible refine (HRP.out _).mono ?_); rintro e w4 ⟨rfl, h4⟩
  have b4 := b3.trans (h4.mono b3.size)
  clear h4 b3
  go_wp2_with fail
  (with_reducible refine (awake_any _).mono ?_); rintro e w5 ⟨rfl, h5⟩
  have b5 := b4.trans (h5.mono b4.size)
  clear h5 b4
  go_wp2
  go_ret
  exact ⟨rfl, b5⟩
end Go.Proofs.Ytefdimkiijmjbaa
