/- Contracts: the law's luma and paint, the document's Luma and Paint: arrays of three ints. -/
import Derived.Test.YtefdimkiijmjbaaColD
import Derived.Test.YtefdimkiijmjbaaArr
namespace Go.Proofs.Ytefdimkiijmjbaa
open Go.RowKit Go.Lib
set_option linter.unusedVariables false
set_option maxRecDepth 100000
def lu3 (r g b : Int) : List Int := [luY r g b, luB r g b, luR r g b]
def pa3 (y b r : Int) : List Int := [paR y b r, paG y b r, paB y b r]
theorem zero3 : (Try.prog.info? 23).map (fun i => i.zero) = some (some (.agg (ia [0, 0, 0]))) := by kernel_rfl
theorem size3 (x y z : Int) : (Try.prog.info? 23).map (·.size) = some (ia [x, y, z]).size := by
  show _ = some 3; kernel_rfl
theorem eq3 (w : World) (l m : List Int) (hl : l.length = 3) (hm : m.length = 3) : (binOp .eql 23 (.agg (ia l)) (.agg (ia m))).run Try.prog w = .ok (.bool (l == m)) w := by
  rw [run_eql_struct, run_equalIn_ints w 9998 23 3 3 Try.underlying23 Try.underlying3 sizeInt l m hl hm]
  rfl
theorem guard3 (w : World) (x y : Operand) (l m : List Int) : (eqGuard .eql 23 x y (.agg (ia l)) (.agg (ia m))).run Try.prog w = .ok () w := run_eqGuard_agg w .eql 23 x y _ _ (by kernel_rfl)
set_option maxHeartbeats 1000000 in
theorem lLuma_any (r g b : Int) (w : World) : Calls Try.prog 9 #[.int .i64 r, .int .i64 g, .int .i64 b] w fun e w' => e = .returned (.agg (ia (lu3 r g b))) ∧ Below w.heap.size w w' := by
  have HL := Lib.hid (fun W => luma_any r g b W)
  have HR : Hid (ia (lu3 r g b) = ia [luY r g b, luB r g b, luR r g b]) := rfl
  generalize luY r g b = x at *
  generalize luB r g b = y at *
  generalize luR r g b = z at *
  generalize lu3 r g b = R at *
  have HZ := Lib.hid zero3
  have HS := Lib.hid (size3 x y z)
  have H1 := Lib.hid (one_ia [x, y, z])
  have HB0 : Hid (Below w.heap.size w (w.alloc (.cells (ia [0, 0, 0]) 23))) := (Below.refl _ w).alloc (Nat.le_refl _) _
  have HK0 := Lib.hid (Blk.new w (ia [0, 0, 0]) 23)
  go_enter Try.func9, Try.ntmps9
  go_upto_region 2 with (first
    | (with_reducible refine wpList_allocZ _ rfl 23 rfl (ia [0, 0, 0]) HZ.out ?_)
    | (go_at_call 16; (with_reducible refine (HL.out _).mono ?_); rintro e w2 ⟨rfl, hb⟩; have B2 := Lib.hid (HB0.out.trans (hb.mono HB0.out.size)); have K2 := Lib.hid (HK0.out.below hb); clear hb))
  go_wp2_with (first
    | ((refine wpList_storeB _ rfl 23 (.tmp 6) (.tmp 21) rfl w.heap.size rfl (ia [0, 0, 0]) K2.out (ia [x, y, z]) (by rfl) HS.out (by rfl) H1.out ?_)
       intro w3 hb3 hc3 hs3; have B3 := Lib.hid (B2.out.trans (hc3.below B2.out.size (fun i e => by omega)))))
  refine bodyPost_ret (results_cell rfl _ _ _ Try.underlying23 rfl w.heap.size (ia [x, y, z]) rfl (fun j v hv => hb3.cell hv) HS.out) rfl ?_
  exact ⟨by rw [HR.out], B3.out⟩
set_option maxHeartbeats 1000000 in
theorem lPaint_any (y0 b r : Int) (w : World) : Calls Try.prog 11 #[.int .i64 y0, .int .i64 b, .int .i64 r] w fun e w' => e = .returned (.agg (ia (pa3 y0 b r))) ∧ Below w.heap.size w w' := by
  have HL := Lib.hid (fun W => paint_any y0 b r W)
  have HR : Hid (ia (pa3 y0 b r) = ia [paR y0 b r, paG y0 b r, paB y0 b r]) := rfl
  generalize paR y0 b r = x at *
  generalize paG y0 b r = y at *
  generalize paB y0 b r = z at *
  generalize pa3 y0 b r = R at *
  have HZ := Lib.hid zero3
  have HS := Lib.hid (size3 x y z)
  have H1 := Lib.hid (one_ia [x, y, z])
  have HB0 : Hid (Below w.heap.size w (w.alloc (.cells (ia [0, 0, 0]) 23))) := (Below.refl _ w).alloc (Nat.le_refl _) _
  have HK0 := Lib.hid (Blk.new w (ia [0, 0, 0]) 23)
  go_enter Try.func11, Try.ntmps11
  go_upto_region 2 with (first
    | (with_reducible refine wpList_allocZ _ rfl 23 rfl (ia [0, 0, 0]) HZ.out ?_)
    | (go_at_call 18; (with_reducible refine (HL.out _).mono ?_); rintro e w2 ⟨rfl, hb⟩; have B2 := Lib.hid (HB0.out.trans (hb.mono HB0.out.size)); have K2 := Lib.hid (HK0.out.below hb); clear hb))
  go_wp2_with (first
    | ((refine wpList_storeB _ rfl 23 (.tmp 6) (.tmp 21) rfl w.heap.size rfl (ia [0, 0, 0]) K2.out (ia [x, y, z]) (by rfl) HS.out (by rfl) H1.out ?_)
       intro w3 hb3 hc3 hs3; have B3 := Lib.hid (B2.out.trans (hc3.below B2.out.size (fun i e => by omega)))))
  refine bodyPost_ret (results_cell rfl _ _ _ Try.underlying23 rfl w.heap.size (ia [x, y, z]) rfl (fun j v hv => hb3.cell hv) HS.out) rfl ?_
  exact ⟨by rw [HR.out], B3.out⟩
set_option maxHeartbeats 2000000 in
theorem rLuma_any (r g b : Int) (w : World) : Calls Try.prog 10 #[.int .i64 r, .int .i64 g, .int .i64 b] w fun e w' => e = .returned (.agg (ia (lu3 r g b))) ∧ Below w.heap.size w w' := by
  have r1 := cl_rng r
  have r2 := cl_rng g
  have r3 := cl_rng b
  have HC1 := Lib.hid (fun W => rclamp_any r W)
  have HC2 := Lib.hid (fun W => rclamp_any g W)
  have HC3 := Lib.hid (fun W => rclamp_any b W)
  have HR : Hid (ia (lu3 r g b) = ia [luY r g b, luB r g b, luR r g b]) := rfl
  have E1 : luY r g b = cl (rd (19595 * cl r + 38470 * cl g + 7471 * cl b)) := by unfold luY; first | rfl | (unfold rd; congr 1; omega) | (unfold rd; congr 2; omega)
  have q1 : -1000000000 ≤ 19595 * cl r + 38470 * cl g + 7471 * cl b ∧ 19595 * cl r + 38470 * cl g + 7471 * cl b ≤ 1000000000 := by constructor <;> omega
  have E2 : luB r g b = cl (128 + rd (32768 * cl b - 11059 * cl r - 21709 * cl g)) := by unfold luB; first | rfl | (unfold rd; congr 1; omega) | (unfold rd; congr 2; omega)
  have q2 : -1000000000 ≤ 32768 * cl b - 11059 * cl r - 21709 * cl g ∧ 32768 * cl b - 11059 * cl r - 21709 * cl g ≤ 1000000000 := by constructor <;> omega
  have E3 : luR r g b = cl (128 + rd (32768 * cl r - 27439 * cl g - 5329 * cl b)) := by unfold luR; first | rfl | (unfold rd; congr 1; omega) | (unfold rd; congr 2; omega)
  have q3 : -1000000000 ≤ 32768 * cl r - 27439 * cl g - 5329 * cl b ∧ 32768 * cl r - 27439 * cl g - 5329 * cl b ≤ 1000000000 := by constructor <;> omega
  generalize lu3 r g b = R at *
  generalize luY r g b = y1 at *
  generalize luB r g b = y2 at *
  generalize luR r g b = y3 at *
  generalize cl r = k1 at *
  generalize cl g = k2 at *
  generalize cl b = k3 at *
  have HQ1 := Lib.hid (fun W => rround_any (19595 * k1 + 38470 * k2 + 7471 * k3) W q1.1 q1.2)
  have p1 := rd_rng q1.1 q1.2
  have HK1 : Hid (∀ W, Calls Try.prog 8 #[.int .i64 (rd (19595 * k1 + 38470 * k2 + 7471 * k3))] W fun e w' => e = .returned (.int .i64 y1) ∧ W = w') := fun W => by rw [E1]; exact rclamp_any _ W
  have HQ2 := Lib.hid (fun W => rround_any (32768 * k3 - 11059 * k1 - 21709 * k2) W q2.1 q2.2)
  have p2 := rd_rng q2.1 q2.2
  have HK2 : Hid (∀ W, Calls Try.prog 8 #[.int .i64 (128 + rd (32768 * k3 - 11059 * k1 - 21709 * k2))] W fun e w' => e = .returned (.int .i64 y2) ∧ W = w') := fun W => by rw [E2]; exact rclamp_any _ W
  have HQ3 := Lib.hid (fun W => rround_any (32768 * k1 - 27439 * k2 - 5329 * k3) W q3.1 q3.2)
  have p3 := rd_rng q3.1 q3.2
  have HK3 : Hid (∀ W, Calls Try.prog 8 #[.int .i64 (128 + rd (32768 * k1 - 27439 * k2 - 5329 * k3))] W fun e w' => e = .returned (.int .i64 y3) ∧ W = w') := fun W => by rw [E3]; exact rclamp_any _ W
  generalize rd (19595 * k1 + 38470 * k2 + 7471 * k3) = z1 at *
  generalize rd (32768 * k3 - 11059 * k1 - 21709 * k2) = z2 at *
  generalize rd (32768 * k1 - 27439 * k2 - 5329 * k3) = z3 at *
  clear E1 E2 E3
  have HZ := Lib.hid zero3
  have HS := Lib.hid (size3 y1 y2 y3)
  have H1 := Lib.hid (one_ia [y1, y2, y3])
  have HB0 : Hid (Below w.heap.size w (w.alloc (.cells (ia [0, 0, 0]) 23))) := (Below.refl _ w).alloc (Nat.le_refl _) _
  have HK0 := Lib.hid (Blk.new w (ia [0, 0, 0]) 23)
  have hall : ∀ n : Nat, True := fun _ => True.intro
  clear hall
  go_enter Try.func10, Try.ntmps10
  go_upto_region 1 with (first
    | (with_reducible refine wpList_allocZ _ rfl 23 rfl (ia [0, 0, 0]) HZ.out ?_))
  skip
  generalize hW : w.alloc (.cells (ia [0, 0, 0]) 23) = w2 at *
  clear hW
  go_wp2_with (first
    | (go_at_call 8; first
       | ((with_reducible refine (HC1.out _).mono ?_); rintro e w3 ⟨rfl, rfl⟩)
       | ((with_reducible refine (HC2.out _).mono ?_); rintro e w3 ⟨rfl, rfl⟩)
       | ((with_reducible refine (HC3.out _).mono ?_); rintro e w3 ⟨rfl, rfl⟩)
       | ((with_reducible refine (HK1.out _).mono ?_); rintro e w3 ⟨rfl, rfl⟩)
       | ((with_reducible refine (HK2.out _).mono ?_); rintro e w3 ⟨rfl, rfl⟩)
       | ((with_reducible refine (HK3.out _).mono ?_); rintro e w3 ⟨rfl, rfl⟩))
    | (go_at_call 17; first
       | ((with_reducible refine (HQ1.out _).mono ?_); rintro e w3 ⟨rfl, rfl⟩)
       | ((with_reducible refine (HQ2.out _).mono ?_); rintro e w3 ⟨rfl, rfl⟩)
       | ((with_reducible refine (HQ3.out _).mono ?_); rintro e w3 ⟨rfl, rfl⟩))
    | ((refine wpList_storeB _ rfl 23 (.tmp 6) (.tmp 45) rfl w.heap.size rfl (ia [0, 0, 0]) HK0.out (ia [y1, y2, y3]) (by rfl) HS.out (by rfl) H1.out ?_)
       intro w3 hb3 hc3 hs3; have B3 := Lib.hid (HB0.out.trans (hc3.below HB0.out.size (fun i e => by omega)))))
  refine bodyPost_ret (results_cell rfl _ _ _ Try.underlying23 rfl w.heap.size (ia [y1, y2, y3]) rfl (fun j v hv => hb3.cell hv) HS.out) rfl ?_
  exact ⟨by rw [HR.out], B3.out⟩
set_option maxHeartbeats 2000000 in
theorem rPaint_any (y b r : Int) (w : World) : Calls Try.prog 12 #[.int .i64 y, .int .i64 b, .int .i64 r] w fun e w' => e = .returned (.agg (ia (pa3 y b r))) ∧ Below w.heap.size w w' := by
  have r1 := cl_rng y
  have r2 := cl_rng b
  have r3 := cl_rng r
  have HC1 := Lib.hid (fun W => rclamp_any y W)
  have HC2 := Lib.hid (fun W => rclamp_any b W)
  have HC3 := Lib.hid (fun W => rclamp_any r W)
  have HR : Hid (ia (pa3 y b r) = ia [paR y b r, paG y b r, paB y b r]) := rfl
  have E1 : paR y b r = cl (rd (65536 * cl y + 91881 * (cl r - 128))) := by unfold paR; first | rfl | (unfold rd; congr 1; omega) | (unfold rd; congr 2; omega)
  have q1 : -1000000000 ≤ 65536 * cl y + 91881 * (cl r - 128) ∧ 65536 * cl y + 91881 * (cl r - 128) ≤ 1000000000 := by constructor <;> omega
  have E2 : paG y b r = cl (rd (65536 * cl y - 22554 * (cl b - 128) - 46802 * (cl r - 128))) := by unfold paG; first | rfl | (unfold rd; congr 1; omega) | (unfold rd; congr 2; omega)
  have q2 : -1000000000 ≤ 65536 * cl y - 22554 * (cl b - 128) - 46802 * (cl r - 128) ∧ 65536 * cl y - 22554 * (cl b - 128) - 46802 * (cl r - 128) ≤ 1000000000 := by constructor <;> omega
  have E3 : paB y b r = cl (rd (65536 * cl y + 116130 * (cl b - 128))) := by unfold paB; first | rfl | (unfold rd; congr 1; omega) | (unfold rd; congr 2; omega)
  have q3 : -1000000000 ≤ 65536 * cl y + 116130 * (cl b - 128) ∧ 65536 * cl y + 116130 * (cl b - 128) ≤ 1000000000 := by constructor <;> omega
  generalize pa3 y b r = R at *
  generalize paR y b r = y1 at *
  generalize paG y b r = y2 at *
  generalize paB y b r = y3 at *
  generalize cl y = k1 at *
  generalize cl b = k2 at *
  generalize cl r = k3 at *
  have HQ1 := Lib.hid (fun W => rround_any (65536 * k1 + 91881 * (k3 - 128)) W q1.1 q1.2)
  have p1 := rd_rng q1.1 q1.2
  have HK1 : Hid (∀ W, Calls Try.prog 8 #[.int .i64 (rd (65536 * k1 + 91881 * (k3 - 128)))] W fun e w' => e = .returned (.int .i64 y1) ∧ W = w') := fun W => by rw [E1]; exact rclamp_any _ W
  have HQ2 := Lib.hid (fun W => rround_any (65536 * k1 - 22554 * (k2 - 128) - 46802 * (k3 - 128)) W q2.1 q2.2)
  have p2 := rd_rng q2.1 q2.2
  have HK2 : Hid (∀ W, Calls Try.prog 8 #[.int .i64 (rd (65536 * k1 - 22554 * (k2 - 128) - 46802 * (k3 - 128)))] W fun e w' => e = .returned (.int .i64 y2) ∧ W = w') := fun W => by rw [E2]; exact rclamp_any _ W
  have HQ3 := Lib.hid (fun W => rround_any (65536 * k1 + 116130 * (k2 - 128)) W q3.1 q3.2)
  have p3 := rd_rng q3.1 q3.2
  have HK3 : Hid (∀ W, Calls Try.prog 8 #[.int .i64 (rd (65536 * k1 + 116130 * (k2 - 128)))] W fun e w' => e = .returned (.int .i64 y3) ∧ W = w') := fun W => by rw [E3]; exact rclamp_any _ W
  generalize rd (65536 * k1 + 91881 * (k3 - 128)) = z1 at *
  generalize rd (65536 * k1 - 22554 * (k2 - 128) - 46802 * (k3 - 128)) = z2 at *
  generalize rd (65536 * k1 + 116130 * (k2 - 128)) = z3 at *
  clear E1 E2 E3
  have HZ := Lib.hid zero3
  have HS := Lib.hid (size3 y1 y2 y3)
  have H1 := Lib.hid (one_ia [y1, y2, y3])
  have HB0 : Hid (Below w.heap.size w (w.alloc (.cells (ia [0, 0, 0]) 23))) := (Below.refl _ w).alloc (Nat.le_refl _) _
  have HK0 := Lib.hid (Blk.new w (ia [0, 0, 0]) 23)
  have hall : ∀ n : Nat, True := fun _ => True.intro
  clear hall
  go_enter Try.func12, Try.ntmps12
  go_upto_region 1 with (first
    | (with_reducible refine wpList_allocZ _ rfl 23 rfl (ia [0, 0, 0]) HZ.out ?_))
  skip
  generalize hW : w.alloc (.cells (ia [0, 0, 0]) 23) = w2 at *
  clear hW
  go_wp2_with (first
    | (go_at_call 8; first
       | ((with_reducible refine (HC1.out _).mono ?_); rintro e w3 ⟨rfl, rfl⟩)
       | ((with_reducible refine (HC2.out _).mono ?_); rintro e w3 ⟨rfl, rfl⟩)
       | ((with_reducible refine (HC3.out _).mono ?_); rintro e w3 ⟨rfl, rfl⟩)
       | ((with_reducible refine (HK1.out _).mono ?_); rintro e w3 ⟨rfl, rfl⟩)
       | ((with_reducible refine (HK2.out _).mono ?_); rintro e w3 ⟨rfl, rfl⟩)
       | ((with_reducible refine (HK3.out _).mono ?_); rintro e w3 ⟨rfl, rfl⟩))
    | (go_at_call 17; first
       | ((with_reducible refine (HQ1.out _).mono ?_); rintro e w3 ⟨rfl, rfl⟩)
       | ((with_reducible refine (HQ2.out _).mono ?_); rintro e w3 ⟨rfl, rfl⟩)
       | ((with_reducible refine (HQ3.out _).mono ?_); rintro e w3 ⟨rfl, rfl⟩))
    | ((refine wpList_storeB _ rfl 23 (.tmp 6) (.tmp 41) rfl w.heap.size rfl (ia [0, 0, 0]) HK0.out (ia [y1, y2, y3]) (by rfl) HS.out (by rfl) H1.out ?_)
       intro w3 hb3 hc3 hs3; have B3 := Lib.hid (HB0.out.trans (hc3.below HB0.out.size (fun i e => by omega)))))
  refine bodyPost_ret (results_cell rfl _ _ _ Try.underlying23 rfl w.heap.size (ia [y1, y2, y3]) rfl (fun j v hv => hb3.cell hv) HS.out) rfl ?_
  exact ⟨by rw [HR.out], B3.out⟩
end Go.Proofs.Ytefdimkiijmjbaa
