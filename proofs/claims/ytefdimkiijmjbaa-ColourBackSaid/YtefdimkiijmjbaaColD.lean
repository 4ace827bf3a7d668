/- Contracts of Luma and Paint (written by tools/gen_col.py). -/
import Derived.Test.YtefdimkiijmjbaaColC
import Derived.StillTailTactics
import Derived.Shelf.Abstract
import Derived.Deep.DeepCutAuto
namespace Go.Proofs.Ytefdimkiijmjbaa
open Go.RowKit Go.Lib
set_option linter.unusedVariables false
set_option maxRecDepth 100000
theorem ent_sum : ∀ args w, (callFunc 19 args).run Try.prog w = .ok (.enter 19 args) w := enters_of Try.func19 (by kernel_rfl) rfl
theorem ent_cl : ∀ args w, (callFunc 7 args).run Try.prog w = .ok (.enter 7 args) w := enters_of Try.func7 (by kernel_rfl) rfl
/-- A method value of weights. -/
def wf (p q s : Int) : Value := .func (Fn.func 19) #[.agg #[.int .i64 p, .int .i64 q, .int .i64 s]] #[]
/-- The variable of the three. -/
structure Cs (w : World) (g : Nat) (X Y Z : Value) (W : World) : Prop where
  b : Blk W g #[X, Y, Z]
  be : Below w.heap.size w W
theorem Cs.call {w W W' : World} {g : Nat} {X Y Z : Value} (h : Cs w g X Y Z W) (hb : Below W.heap.size W W') : Cs w g X Y Z W' := ⟨h.b.below hb, h.be.trans (hb.mono h.be.size)⟩
theorem zero3f : (Try.prog.info? 36).map (fun i => i.zero) = some (some (.agg #[.nilFunc, .nilFunc, .nilFunc])) := by kernel_rfl
theorem size3f (X Y Z : Value) : (Try.prog.info? 36).map (·.size) = some (#[X, Y, Z] : Array Value).size := by
  show _ = some 3; kernel_rfl
theorem wf_one (p q s p2 q2 s2 p3 q3 s3 : Int) : ∀ v ∈ (#[wf p q s, wf p2 q2 s2, wf p3 q3 s3] : Array Value).toList, v.oneCell' = true := by
  intro v hv
  simp at hv
  rcases hv with rfl | rfl | rfl <;> rfl
theorem sm3_rng (p q s a b c : Int) (p1 : -200000 ≤ p) (p2 : p ≤ 200000) (q1 : -200000 ≤ q) (q2 : q ≤ 200000) (s1 : -200000 ≤ s) (s2 : s ≤ 200000)
    (a1 : -255 ≤ a) (a2 : a ≤ 255) (b1 : -255 ≤ b) (b2 : b ≤ 255) (c1 : -255 ≤ c) (c2 : c ≤ 255) : -100000 ≤ sm3 p q s a b c ∧ sm3 p q s a b c ≤ 100000 := by
  have e1 := mul_bnd p1 p2 a1 a2
  have e2 := mul_bnd q1 q2 b1 b2
  have e3 := mul_bnd s1 s2 c1 c2
  unfold sm3
  exact rd_rng (by omega) (by omega)
theorem st3f (w : World) (X Y Z : Value) (w2 : World) (T : TypeId) (hb : Blk w2 w.heap.size #[X, Y, Z]) (hc : Chg (fun k => k = w.heap.size) (w.alloc (.cells #[.nilFunc, .nilFunc, .nilFunc] T)) w2) : Cs w w.heap.size X Y Z w2 :=
  ⟨hb, ((Below.refl _ w).alloc (Nat.le_refl _) _).trans (hc.below (by simp) fun i e => by omega)⟩
set_option maxHeartbeats 4000000 in
theorem luma_any (r g b : Int) (w : World) : Calls Try.prog 16 #[.int .i64 r, .int .i64 g, .int .i64 b] w fun e w' => e = .returned (.tuple #[.int .i64 (luY r g b), .int .i64 (luB r g b), .int .i64 (luR r g b)]) ∧ Below w.heap.size w w' := by
  have r1 := cl_rng r
  have r2 := cl_rng g
  have r3 := cl_rng b
  have s1 := sm3_rng (19595) (38470) (7471) (cl r) (cl g) (cl b) (by omega) (by omega) (by omega) (by omega) (by omega) (by omega) (by omega) (by omega) (by omega) (by omega) (by omega) (by omega)
  have S1 := Lib.hid (fun W => sum_any (19595) (38470) (7471) (cl r) (cl g) (cl b) W (by omega) (by omega) (by omega) (by omega) (by omega) (by omega) (by omega) (by omega) (by omega) (by omega) (by omega) (by omega))
  have s2 := sm3_rng (-11059) (-21709) (32768) (cl r) (cl g) (cl b) (by omega) (by omega) (by omega) (by omega) (by omega) (by omega) (by omega) (by omega) (by omega) (by omega) (by omega) (by omega)
  have S2 := Lib.hid (fun W => sum_any (-11059) (-21709) (32768) (cl r) (cl g) (cl b) W (by omega) (by omega) (by omega) (by omega) (by omega) (by omega) (by omega) (by omega) (by omega) (by omega) (by omega) (by omega))
  have s3 := sm3_rng (32768) (-27439) (-5329) (cl r) (cl g) (cl b) (by omega) (by omega) (by omega) (by omega) (by omega) (by omega) (by omega) (by omega) (by omega) (by omega) (by omega) (by omega)
  have S3 := Lib.hid (fun W => sum_any (32768) (-27439) (-5329) (cl r) (cl g) (cl b) W (by omega) (by omega) (by omega) (by omega) (by omega) (by omega) (by omega) (by omega) (by omega) (by omega) (by omega) (by omega))
  have HR1 : Hid (luY r g b = cl (sm3 (19595) (38470) (7471) (cl r) (cl g) (cl b))) := rfl
  have HR2 : Hid (luB r g b = cl (128 + sm3 (-11059) (-21709) (32768) (cl r) (cl g) (cl b))) := rfl
  have HR3 : Hid (luR r g b = cl (128 + sm3 (32768) (-27439) (-5329) (cl r) (cl g) (cl b))) := rfl
  generalize sm3 (19595) (38470) (7471) (cl r) (cl g) (cl b) = x1 at *
  generalize luY r g b = y1 at *
  generalize sm3 (-11059) (-21709) (32768) (cl r) (cl g) (cl b) = x2 at *
  generalize luB r g b = y2 at *
  generalize sm3 (32768) (-27439) (-5329) (cl r) (cl g) (cl b) = x3 at *
  generalize luR r g b = y3 at *
  have HCr := Lib.hid (fun W => clamp_any r W)
  have HCg := Lib.hid (fun W => clamp_any g W)
  have HCb := Lib.hid (fun W => clamp_any b W)
  generalize cl r = k1 at *
  generalize cl g = k2 at *
  generalize cl b = k3 at *
  have HK1 : Hid (∀ W, Calls Try.prog 7 #[.int .i64 (x1)] W fun e w' => e = .returned (.int .i64 y1) ∧ W = w') := fun W => by rw [HR1.out]; exact clamp_any _ W
  have HK2 : Hid (∀ W, Calls Try.prog 7 #[.int .i64 (128 + x2)] W fun e w' => e = .returned (.int .i64 y2) ∧ W = w') := fun W => by rw [HR2.out]; exact clamp_any _ W
  have hw2 : IntKind.i64.wrap (128 + x2) = 128 + x2 := IntWalk.i64_in _ (by omega)
  have HK3 : Hid (∀ W, Calls Try.prog 7 #[.int .i64 (128 + x3)] W fun e w' => e = .returned (.int .i64 y3) ∧ W = w') := fun W => by rw [HR3.out]; exact clamp_any _ W
  have hw3 : IntKind.i64.wrap (128 + x3) = 128 + x3 := IntWalk.i64_in _ (by omega)
  clear HR1 HR2 HR3
  have HZ := Lib.hid zero3f
  have HES := Lib.hid ent_sum
  have HEC := Lib.hid ent_cl
  have HSZ := Lib.hid (size3f (wf (19595) (38470) (7471)) (wf (-11059) (-21709) (32768)) (wf (32768) (-27439) (-5329)))
  have H1 := Lib.hid (wf_one (19595) (38470) (7471) (-11059) (-21709) (32768) (32768) (-27439) (-5329))
  go_enter Try.func16, Try.ntmps16
  go_upto_region 2 with (first
    | (with_reducible refine wpList_allocZ _ rfl 36 rfl #[.nilFunc, .nilFunc, .nilFunc] HZ.out ?_)
    | ((refine wpList_storeB _ rfl 36 (.tmp 9) (.tmp 16) rfl w.heap.size rfl #[.nilFunc, .nilFunc, .nilFunc] (Blk.new w _ _) #[wf (19595) (38470) (7471), wf (-11059) (-21709) (32768), wf (32768) (-27439) (-5329)] (by rfl) HSZ.out (by rfl) H1.out ?_)
       intro w2 hb2 hc2 hs2; have HS := Lib.hid (st3f w _ _ _ w2 _ hb2 hc2)))
  skip
  clear hb2 hc2 hs2 HZ HSZ H1
  go_wp2_with (first
    | (go_at_call 7; (with_reducible refine (HCr.out _).mono ?_); rintro e w3 ⟨rfl, rfl⟩)
    | (go_at_call 7; (with_reducible refine (HCg.out _).mono ?_); rintro e w3 ⟨rfl, rfl⟩)
    | (go_at_call 7; (with_reducible refine (HCb.out _).mono ?_); rintro e w3 ⟨rfl, rfl⟩))
  refine wp_region_seq (Cs w w.heap.size (wf (19595) (38470) (7471)) (wf (-11059) (-21709) (32768)) (wf (32768) (-27439) (-5329))) (by kernel_rfl) (by kernel_rfl) (by kernel_rfl) ⟨HS.out.b.drew, HS.out.be.drew⟩ ?_
  repeat (
    first
      | (apply seq_call (f := 19) (args := #[.agg #[.int .i64 (19595), .int .i64 (38470), .int .i64 (7471)], .int .i64 k1, .int .i64 k2, .int .i64 k3]) (by rfl)
         focus (intro W; have eg : ∀ args w, (callFunc 19 args).run Try.prog w = .ok (.enter 19 args) w := HES.out; unfold execOp; simp [resolve, invoke, go_sem, eg, wf]; done)
         focus (intro W hS; exact (S1.out W).mono fun e w' h => ⟨h.1, hS.call h.2⟩))
      | (apply seq_call (f := 19) (args := #[.agg #[.int .i64 (-11059), .int .i64 (-21709), .int .i64 (32768)], .int .i64 k1, .int .i64 k2, .int .i64 k3]) (by rfl)
         focus (intro W; have eg : ∀ args w, (callFunc 19 args).run Try.prog w = .ok (.enter 19 args) w := HES.out; unfold execOp; simp [resolve, invoke, go_sem, eg, wf]; done)
         focus (intro W hS; exact (S2.out W).mono fun e w' h => ⟨h.1, hS.call h.2⟩))
      | (apply seq_call (f := 19) (args := #[.agg #[.int .i64 (32768), .int .i64 (-27439), .int .i64 (-5329)], .int .i64 k1, .int .i64 k2, .int .i64 k3]) (by rfl)
         focus (intro W; have eg : ∀ args w, (callFunc 19 args).run Try.prog w = .ok (.enter 19 args) w := HES.out; unfold execOp; simp [resolve, invoke, go_sem, eg, wf]; done)
         focus (intro W hS; exact (S3.out W).mono fun e w' h => ⟨h.1, hS.call h.2⟩))
      | (apply seq_call (f := 7) (args := #[.int .i64 (x1)]) (by rfl)
         focus (intro W; have eg : ∀ args w, (callFunc 7 args).run Try.prog w = .ok (.enter 7 args) w := HEC.out; unfold execOp; simp [resolve, invoke, go_sem, eg]; done)
         focus (intro W hS; exact (HK1.out W).mono fun e w' h => ⟨h.1, by rw [← h.2]; exact hS⟩))
      | (apply seq_call (f := 7) (args := #[.int .i64 (128 + x2)]) (by rfl)
         focus (intro W; have eg : ∀ args w, (callFunc 7 args).run Try.prog w = .ok (.enter 7 args) w := HEC.out; unfold execOp; simp [resolve, invoke, go_sem, eg]; done)
         focus (intro W hS; exact (HK2.out W).mono fun e w' h => ⟨h.1, by rw [← h.2]; exact hS⟩))
      | (apply seq_call (f := 7) (args := #[.int .i64 (128 + x3)]) (by rfl)
         focus (intro W; have eg : ∀ args w, (callFunc 7 args).run Try.prog w = .ok (.enter 7 args) w := HEC.out; unfold execOp; simp [resolve, invoke, go_sem, eg]; done)
         focus (intro W hS; exact (HK3.out W).mono fun e w' h => ⟨h.1, by rw [← h.2]; exact hS⟩))
      | (apply seq_val (by rfl)
         focus (intro W hS; have e0 := hS.b.cell (j := 0) rfl; have e1 := hS.b.cell (j := 1) rfl; have e2 := hS.b.cell (j := 2) rfl; go_simp; try with_reducible rfl; done))
    simp only [Act.put, List.setIfInBounds_toArray, List.set_cons_zero, List.set_cons_succ])
  refine seq_nil fun W hS => ?_
  go_wp2
  go_ret3
  exact ⟨rfl, hS.be⟩
set_option maxHeartbeats 4000000 in
theorem paint_any (y b r : Int) (w : World) : Calls Try.prog 18 #[.int .i64 y, .int .i64 b, .int .i64 r] w fun e w' => e = .returned (.tuple #[.int .i64 (paR y b r), .int .i64 (paG y b r), .int .i64 (paB y b r)]) ∧ Below w.heap.size w w' := by
  have r1 := cl_rng y
  have r2 := cl_rng b
  have r3 := cl_rng r
  have s1 := sm3_rng (65536) (0) (91881) (cl y) (cl b - 128) (cl r - 128) (by omega) (by omega) (by omega) (by omega) (by omega) (by omega) (by omega) (by omega) (by omega) (by omega) (by omega) (by omega)
  have S1 := Lib.hid (fun W => sum_any (65536) (0) (91881) (cl y) (cl b - 128) (cl r - 128) W (by omega) (by omega) (by omega) (by omega) (by omega) (by omega) (by omega) (by omega) (by omega) (by omega) (by omega) (by omega))
  have s2 := sm3_rng (65536) (-22554) (-46802) (cl y) (cl b - 128) (cl r - 128) (by omega) (by omega) (by omega) (by omega) (by omega) (by omega) (by omega) (by omega) (by omega) (by omega) (by omega) (by omega)
  have S2 := Lib.hid (fun W => sum_any (65536) (-22554) (-46802) (cl y) (cl b - 128) (cl r - 128) W (by omega) (by omega) (by omega) (by omega) (by omega) (by omega) (by omega) (by omega) (by omega) (by omega) (by omega) (by omega))
  have s3 := sm3_rng (65536) (116130) (0) (cl y) (cl b - 128) (cl r - 128) (by omega) (by omega) (by omega) (by omega) (by omega) (by omega) (by omega) (by omega) (by omega) (by omega) (by omega) (by omega)
  have S3 := Lib.hid (fun W => sum_any (65536) (116130) (0) (cl y) (cl b - 128) (cl r - 128) W (by omega) (by omega) (by omega) (by omega) (by omega) (by omega) (by omega) (by omega) (by omega) (by omega) (by omega) (by omega))
  have HR1 : Hid (paR y b r = cl (sm3 (65536) (0) (91881) (cl y) (cl b - 128) (cl r - 128))) := rfl
  have HR2 : Hid (paG y b r = cl (sm3 (65536) (-22554) (-46802) (cl y) (cl b - 128) (cl r - 128))) := rfl
  have HR3 : Hid (paB y b r = cl (sm3 (65536) (116130) (0) (cl y) (cl b - 128) (cl r - 128))) := rfl
  generalize sm3 (65536) (0) (91881) (cl y) (cl b - 128) (cl r - 128) = x1 at *
  generalize paR y b r = y1 at *
  generalize sm3 (65536) (-22554) (-46802) (cl y) (cl b - 128) (cl r - 128) = x2 at *
  generalize paG y b r = y2 at *
  generalize sm3 (65536) (116130) (0) (cl y) (cl b - 128) (cl r - 128) = x3 at *
  generalize paB y b r = y3 at *
  have HCy := Lib.hid (fun W => clamp_any y W)
  have HCb := Lib.hid (fun W => clamp_any b W)
  have HCr := Lib.hid (fun W => clamp_any r W)
  generalize cl y = k1 at *
  generalize cl b = k2 at *
  generalize cl r = k3 at *
  have HK1 : Hid (∀ W, Calls Try.prog 7 #[.int .i64 (x1)] W fun e w' => e = .returned (.int .i64 y1) ∧ W = w') := fun W => by rw [HR1.out]; exact clamp_any _ W
  have HK2 : Hid (∀ W, Calls Try.prog 7 #[.int .i64 (x2)] W fun e w' => e = .returned (.int .i64 y2) ∧ W = w') := fun W => by rw [HR2.out]; exact clamp_any _ W
  have HK3 : Hid (∀ W, Calls Try.prog 7 #[.int .i64 (x3)] W fun e w' => e = .returned (.int .i64 y3) ∧ W = w') := fun W => by rw [HR3.out]; exact clamp_any _ W
  clear HR1 HR2 HR3
  have HZ := Lib.hid zero3f
  have HES := Lib.hid ent_sum
  have HEC := Lib.hid ent_cl
  have HSZ := Lib.hid (size3f (wf (65536) (0) (91881)) (wf (65536) (-22554) (-46802)) (wf (65536) (116130) (0)))
  have H1 := Lib.hid (wf_one (65536) (0) (91881) (65536) (-22554) (-46802) (65536) (116130) (0))
  go_enter Try.func18, Try.ntmps18
  go_upto_region 2 with (first
    | (with_reducible refine wpList_allocZ _ rfl 36 rfl #[.nilFunc, .nilFunc, .nilFunc] HZ.out ?_)
    | ((refine wpList_storeB _ rfl 36 (.tmp 9) (.tmp 18) rfl w.heap.size rfl #[.nilFunc, .nilFunc, .nilFunc] (Blk.new w _ _) #[wf (65536) (0) (91881), wf (65536) (-22554) (-46802), wf (65536) (116130) (0)] (by rfl) HSZ.out (by rfl) H1.out ?_)
       intro w2 hb2 hc2 hs2; have HS := Lib.hid (st3f w _ _ _ w2 _ hb2 hc2)))
  skip
  clear hb2 hc2 hs2 HZ HSZ H1
  go_wp2_with (first
    | (go_at_call 7; (with_reducible refine (HCy.out _).mono ?_); rintro e w3 ⟨rfl, rfl⟩)
    | (go_at_call 7; (with_reducible refine (HCb.out _).mono ?_); rintro e w3 ⟨rfl, rfl⟩)
    | (go_at_call 7; (with_reducible refine (HCr.out _).mono ?_); rintro e w3 ⟨rfl, rfl⟩))
  refine wp_region_seq (Cs w w.heap.size (wf (65536) (0) (91881)) (wf (65536) (-22554) (-46802)) (wf (65536) (116130) (0))) (by kernel_rfl) (by kernel_rfl) (by kernel_rfl) ⟨HS.out.b.drew, HS.out.be.drew⟩ ?_
  repeat (
    first
      | (apply seq_call (f := 19) (args := #[.agg #[.int .i64 (65536), .int .i64 (0), .int .i64 (91881)], .int .i64 k1, .int .i64 (k2 - 128), .int .i64 (k3 - 128)]) (by rfl)
         focus (intro W; have eg : ∀ args w, (callFunc 19 args).run Try.prog w = .ok (.enter 19 args) w := HES.out; unfold execOp; simp [resolve, invoke, go_sem, eg, wf]; done)
         focus (intro W hS; exact (S1.out W).mono fun e w' h => ⟨h.1, hS.call h.2⟩))
      | (apply seq_call (f := 19) (args := #[.agg #[.int .i64 (65536), .int .i64 (-22554), .int .i64 (-46802)], .int .i64 k1, .int .i64 (k2 - 128), .int .i64 (k3 - 128)]) (by rfl)
         focus (intro W; have eg : ∀ args w, (callFunc 19 args).run Try.prog w = .ok (.enter 19 args) w := HES.out; unfold execOp; simp [resolve, invoke, go_sem, eg, wf]; done)
         focus (intro W hS; exact (S2.out W).mono fun e w' h => ⟨h.1, hS.call h.2⟩))
      | (apply seq_call (f := 19) (args := #[.agg #[.int .i64 (65536), .int .i64 (116130), .int .i64 (0)], .int .i64 k1, .int .i64 (k2 - 128), .int .i64 (k3 - 128)]) (by rfl)
         focus (intro W; have eg : ∀ args w, (callFunc 19 args).run Try.prog w = .ok (.enter 19 args) w := HES.out; unfold execOp; simp [resolve, invoke, go_sem, eg, wf]; done)
         focus (intro W hS; exact (S3.out W).mono fun e w' h => ⟨h.1, hS.call h.2⟩))
      | (apply seq_call (f := 7) (args := #[.int .i64 (x1)]) (by rfl)
         focus (intro W; have eg : ∀ args w, (callFunc 7 args).run Try.prog w = .ok (.enter 7 args) w := HEC.out; unfold execOp; simp [resolve, invoke, go_sem, eg]; done)
         focus (intro W hS; exact (HK1.out W).mono fun e w' h => ⟨h.1, by rw [← h.2]; exact hS⟩))
      | (apply seq_call (f := 7) (args := #[.int .i64 (x2)]) (by rfl)
         focus (intro W; have eg : ∀ args w, (callFunc 7 args).run Try.prog w = .ok (.enter 7 args) w := HEC.out; unfold execOp; simp [resolve, invoke, go_sem, eg]; done)
         focus (intro W hS; exact (HK2.out W).mono fun e w' h => ⟨h.1, by rw [← h.2]; exact hS⟩))
      | (apply seq_call (f := 7) (args := #[.int .i64 (x3)]) (by rfl)
         focus (intro W; have eg : ∀ args w, (callFunc 7 args).run Try.prog w = .ok (.enter 7 args) w := HEC.out; unfold execOp; simp [resolve, invoke, go_sem, eg]; done)
         focus (intro W hS; exact (HK3.out W).mono fun e w' h => ⟨h.1, by rw [← h.2]; exact hS⟩))
      | (apply seq_val (by rfl)
         focus (intro W hS; have e0 := hS.b.cell (j := 0) rfl; have e1 := hS.b.cell (j := 1) rfl; have e2 := hS.b.cell (j := 2) rfl; go_simp; try with_reducible rfl; done))
    simp only [Act.put, List.setIfInBounds_toArray, List.set_cons_zero, List.set_cons_succ])
  refine seq_nil fun W hS => ?_
  go_wp2
  go_ret3
  exact ⟨rfl, hS.be⟩
end Go.Proofs.Ytefdimkiijmjbaa
