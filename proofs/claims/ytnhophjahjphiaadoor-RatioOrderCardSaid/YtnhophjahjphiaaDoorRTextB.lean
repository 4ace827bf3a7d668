/- Contracts of ratio.Text and the document's Text. -/
import Derived.Test.YtnhophjahjphiaaDoorRText
import Derived.Deep.RegionHeld3
namespace Go.Proofs.YtnhophjahjphiaaDoor
open Go.RowKit
open Go.Lib (decDigits itoa)
set_option linter.unusedVariables false

/-- What is kept while a text is made: the ratio's box, and what the library's calls ask. -/
def Kx (w0 : World) (n d : Int) (w : World) : Prop :=
  w.cell? ⟨w0.heap.size, 0, none⟩ = some (.int .i64 n) ∧ w.cell? ⟨w0.heap.size, 1, none⟩ = some (.int .i64 d) ∧ w0.heap.size < w.heap.size ∧ Below w0.heap.size w0 w ∧ Env w
theorem Kx.call {w0 w w' : World} {n d : Int} (h : Kx w0 n d w) (hb : Below w.heap.size w w') : Kx w0 n d w' := by
  obtain ⟨h1, h2, h3, h4, h5⟩ := h
  exact ⟨(hb.cell (p := ⟨w0.heap.size, 0, none⟩) h3).trans h1, (hb.cell (p := ⟨w0.heap.size, 1, none⟩) h3).trans h2, Nat.lt_of_lt_of_le h3 hb.size, bstep h4 hb, h5.below hb⟩
theorem Kx.env {w0 w : World} {n d : Int} (h : Kx w0 n d w) : Env w := h.2.2.2.2
theorem Kx.drew {w0 w : World} {n d : Int} (h : Kx w0 n d w) : Kx w0 n d w.drew := h.call (Below.refl _ _).drew
theorem Kx.new {w0 w : World} {n d : Int} {T : TypeId} (hw : Env w0) (h : Below (w0.alloc (.cells #[.int .i64 n, .int .i64 d] T)).heap.size (w0.alloc (.cells #[.int .i64 n, .int .i64 d] T)) w) : Kx w0 n d w := by
  have B := (Bx.new w0 n d T).below h
  have g := bboxed h
  exact ⟨B.c0, B.c1, B.lt, g, hw.below g⟩

set_option maxHeartbeats 1600000 in
theorem text_yes (n d : Int) (w : World) (hw : Env w) (h : validB n d = true) :
    Calls Tryd.prog 14 #[.agg #[.int .i64 n, .int .i64 d]] w fun e w' => e = .returned (.string (strB (itoa n ++ 47 :: itoa d))) ∧ Below w.heap.size w w' := by
  have H := Lib.hid h
  have R := validB_rng h
  have l1 := itoa_len n (by omega) (by omega)
  have l2 := itoa_len d (by omega) (by omega)
  have z1 : ¬ 9223372036854775807 < (strB (itoa n)).size + 1 := by rw [strB_size]; omega
  have z2 : ¬ 9223372036854775807 < (strB (itoa n)).size + 1 + (strB (itoa d)).size := by rw [strB_size, strB_size]; omega
  have HE : Hid (strB (itoa n) ++ (⟨#[47]⟩ : ByteArray) ++ strB (itoa d) = strB (itoa n ++ 47 :: itoa d)) := by
    have e1 : strB (itoa n) ++ (⟨#[47]⟩ : ByteArray) = strB (itoa n ++ [47]) := strB_app (itoa n) [47]
    show _ = _
    rw [e1, strB_app]
    congr 1; simp
  clear h l1 l2
  go_enter Tryd.func14, Tryd.ntmps14
  go_wp2_with fail
  (with_reducible refine (isValid_any n d _).mono ?_); rintro e w1 ⟨rfl, h1⟩
  rw [H.out]
  have K1 := Lib.hid (Kx.new hw h1)
  clear h1
  go_wp2_with fail
  go_region_held3 (fun w' => w'.cell? ⟨w.heap.size, 0, none⟩ = some (.int .i64 n) ∧ w'.cell? ⟨w.heap.size, 1, none⟩ = some (.int .i64 d) ∧ w.heap.size < w'.heap.size ∧ Below w.heap.size w w' ∧ Env w')
    ((show Kx w n d _
      with_reducible first
        | exact kk.out
        | exact Kx.drew K1.out))
    (first
      | (go_at_call_of 26 (Value.int IntKind.i64 n); refine (itoa_any n _ (Kx.env (w0 := w) (n := n) (d := d) ?_) (by omega) (by omega)).mono ?_; assumption; rintro e w' ⟨rfl, h1⟩; have kk : Hid (Kx w n d w') := (by show Kx w n d w'; refine Kx.call ?_ h1; assumption))
      | (go_at_call_of 26 (Value.int IntKind.i64 d); refine (itoa_any d _ (Kx.env (w0 := w) (n := n) (d := d) ?_) (by omega) (by omega)).mono ?_; assumption; rintro e w' ⟨rfl, h1⟩; have kk : Hid (Kx w n d w') := (by show Kx w n d w'; refine Kx.call ?_ h1; assumption)))
  all_goals
    go_wp2
    go_ret
    exact ⟨ret_s HE.out, kk.out.2.2.2.1⟩
set_option maxHeartbeats 1600000 in
theorem dText_yes (n d : Int) (w : World) (hw : Env w) (h : validB n d = true) :
    Calls Tryd.prog 15 #[.agg #[.int .i64 n, .int .i64 d]] w fun e w' => e = .returned (.string (strB (itoa n ++ 47 :: itoa d))) ∧ Below w.heap.size w w' := by
  have H := Lib.hid h
  have R := validB_rng h
  have l1 := itoa_len n (by omega) (by omega)
  have l2 := itoa_len d (by omega) (by omega)
  have z1 : ¬ 9223372036854775807 < (strB (itoa n)).size + 1 := by rw [strB_size]; omega
  have z2 : ¬ 9223372036854775807 < (strB (itoa n)).size + 1 + (strB (itoa d)).size := by rw [strB_size, strB_size]; omega
  have HE : Hid (strB (itoa n) ++ (⟨#[47]⟩ : ByteArray) ++ strB (itoa d) = strB (itoa n ++ 47 :: itoa d)) := by
    have e1 : strB (itoa n) ++ (⟨#[47]⟩ : ByteArray) = strB (itoa n ++ [47]) := strB_app (itoa n) [47]
    show _ = _
    rw [e1, strB_app]
    congr 1; simp
  clear h l1 l2
  go_enter Tryd.func15, Tryd.ntmps15
  go_wp2_with fail
  (with_reducible refine (dMay_any n d _).mono ?_); rintro e w1 ⟨rfl, h1⟩
  rw [H.out]
  have K1 := Lib.hid (Kx.new hw h1)
  clear h1
  go_wp2_with fail
  go_region_held3 (fun w' => w'.cell? ⟨w.heap.size, 0, none⟩ = some (.int .i64 n) ∧ w'.cell? ⟨w.heap.size, 1, none⟩ = some (.int .i64 d) ∧ w.heap.size < w'.heap.size ∧ Below w.heap.size w w' ∧ Env w')
    ((show Kx w n d _
      with_reducible first
        | exact kk.out
        | exact Kx.drew K1.out))
    (first
      | (go_at_call_of 33 (Value.int IntKind.i64 n); refine (digits_any n _ (by omega) (by omega)).mono ?_; rintro e w' ⟨rfl, h1⟩; have kk : Hid (Kx w n d w') := (by show Kx w n d w'; refine Kx.call ?_ h1; assumption))
      | (go_at_call_of 33 (Value.int IntKind.i64 d); refine (digits_any d _ (by omega) (by omega)).mono ?_; rintro e w' ⟨rfl, h1⟩; have kk : Hid (Kx w n d w') := (by show Kx w n d w'; refine Kx.call ?_ h1; assumption)))
  all_goals
    go_wp2
    go_ret
    exact ⟨ret_s HE.out, kk.out.2.2.2.1⟩

theorem text_any (n d : Int) (w : World) (hw : Env w) :
    Calls Tryd.prog 14 #[.agg #[.int .i64 n, .int .i64 d]] w fun e w' => e = .returned (.string (strB (textL n d))) ∧ Below w.heap.size w w' := by
  unfold textL
  cases h : validB n d with
  | false => exact text_no n d w h
  | true => exact text_yes n d w hw h
theorem dText_any (n d : Int) (w : World) (hw : Env w) :
    Calls Tryd.prog 15 #[.agg #[.int .i64 n, .int .i64 d]] w fun e w' => e = .returned (.string (strB (textL n d))) ∧ Below w.heap.size w w' := by
  unfold textL
  cases h : validB n d with
  | false => exact dText_no n d w h
  | true => exact dText_yes n d w hw h
end Go.Proofs.YtnhophjahjphiaaDoor
