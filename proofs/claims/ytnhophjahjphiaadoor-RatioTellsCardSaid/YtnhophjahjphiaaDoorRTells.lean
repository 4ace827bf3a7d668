/- The law RatioTells: it returns true, whatever the ratio and the text. -/
import Derived.Test.YtnhophjahjphiaaDoorRAwake
namespace Go.Proofs.YtnhophjahjphiaaDoor
open Go.RowKit
set_option linter.unusedVariables false

/-- What is kept at the law's last statement: the ratio, both answers of Parse. -/
def Kl (w0 : World) (gA gB : Nat) (n d x y : Int) (w : World) : Prop :=
  w.cell? ⟨w0.heap.size, 0, none⟩ = some (.int .i64 n) ∧ w.cell? ⟨w0.heap.size, 1, none⟩ = some (.int .i64 d) ∧ w.cell? ⟨gA, 0, none⟩ = some (.int .i64 x) ∧ w.cell? ⟨gA, 1, none⟩ = some (.int .i64 y) ∧ w.cell? ⟨gB, 0, none⟩ = some (.int .i64 x) ∧ w.cell? ⟨gB, 1, none⟩ = some (.int .i64 y) ∧
  (w0.heap.size < w.heap.size ∧ gA < w.heap.size ∧ gB < w.heap.size) ∧ Below w0.heap.size w0 w ∧ Env w
theorem Kl.of {w0 w : World} {gA gB : Nat} {n d x y : Int} (a : Bx w w0.heap.size n d) (b : Bx w gA x y) (c : Bx w gB x y) (g : Below w0.heap.size w0 w) (e : Env w) : Kl w0 gA gB n d x y w :=
  ⟨a.c0, a.c1, b.c0, b.c1, c.c0, c.c1, ⟨a.lt, b.lt, c.lt⟩, g, e⟩
theorem Kl.call {w0 w w' : World} {gA gB : Nat} {n d x y : Int} (h : Kl w0 gA gB n d x y w) (hb : Below w.heap.size w w') : Kl w0 gA gB n d x y w' := by
  obtain ⟨h1, h2, h3, h4, h5, h6, ⟨s1, s2, s3⟩, h7, h8⟩ := h
  exact Kl.of ((Bx.mk h1 h2 s1).below hb) ((Bx.mk h3 h4 s2).below hb) ((Bx.mk h5 h6 s3).below hb) (bstep h7 hb) (h8.below hb)
theorem Kl.drew {w0 w : World} {gA gB : Nat} {n d x y : Int} (h : Kl w0 gA gB n d x y w) : Kl w0 gA gB n d x y w.drew := h.call (Below.refl _ _).drew
theorem Kl.env {w0 w : World} {gA gB : Nat} {n d x y : Int} (h : Kl w0 gA gB n d x y w) : Env w := h.2.2.2.2.2.2.2.2
theorem Kl.g {w0 w : World} {gA gB : Nat} {n d x y : Int} (h : Kl w0 gA gB n d x y w) : Below w0.heap.size w0 w := h.2.2.2.2.2.2.2.1

theorem rtells_long (n d : Int) (l : List UInt8) (w : World) (hw : Env w) (h : 40 < l.length) (hl : l.length ≤ 9223372036854775807) :
    Calls Tryd.prog 3 #[.agg #[.int .i64 n, .int .i64 d], .string (strB l)] w fun e w' => e = .returned (.bool true) ∧ Below w.heap.size w w' := by
  have h1 : 40 < (strB l).size := by rw [strB_size]; exact h
  have h2 : (strB l).size ≤ 9223372036854775807 := by rw [strB_size]; exact hl
  have hw1 := hw.alloc (.cells #[.int .i64 n, .int .i64 d] 23)
  go_enter Tryd.func3, Tryd.ntmps3
  go_wp2_with fail
  (with_reducible refine (awake_any _ hw1).mono ?_); rintro e w1 ⟨rfl, h3⟩
  have g1 := bboxed h3
  clear h3
  go_wp2
  go_ret
  exact ⟨rfl, g1⟩

set_option maxRecDepth 100000 in
set_option maxHeartbeats 12800000 in
theorem rtells_short (n d : Int) (l : List UInt8) (w : World) (hw : Env w) (h : l.length ≤ 40) :
    Calls Tryd.prog 3 #[.agg #[.int .i64 n, .int .i64 d], .string (strB l)] w fun e w' => e = .returned (.bool true) ∧ Below w.heap.size w w' := by
  have h1 : (strB l).size ≤ 40 := by rw [strB_size]; exact h
  have hw1 := hw.alloc (.cells #[.int .i64 n, .int .i64 d] 23)
  have B0 := Lib.hid (Bx.new w n d 23)
  have HA := Lib.hid (fun W hW => parse_any l W hW (by omega))
  have HB := Lib.hid (fun W => dParse_any (strB l) W (by omega))
  rw [strB_list] at HB
  generalize prN (parseP l) = x at *
  generalize prD (parseP l) = y at *
  generalize (parseP l).isSome = z at *
  go_enter Tryd.func3, Tryd.ntmps3
  go_wp2_with fail
  (with_reducible refine (HA.out _ hw1).mono ?_); rintro e w1 ⟨rfl, h3⟩
  have g1 := bboxed h3
  have B1 := (B0.out.below h3).alloc (.cells #[.int .i64 x, .int .i64 y] 23)
  have A1 := Bx.new w1 x y 23
  have g1' := g1.alloc g1.size (.cells #[.int .i64 x, .int .i64 y] 23)
  clear h3 B0 g1
  go_wp2_with fail
  (with_reducible refine (HB.out _).mono ?_); rintro e w2 ⟨rfl, h4⟩
  have g2 := bstep g1' h4
  have K0 := Lib.hid (Kl.of ((B1.below h4).alloc (.cells #[.int .i64 x, .int .i64 y] 23)) ((A1.below h4).alloc (.cells #[.int .i64 x, .int .i64 y] 23)) (Bx.new w2 x y 23) (g2.alloc g2.size (.cells #[.int .i64 x, .int .i64 y] 23)) (hw.below (g2.alloc g2.size (.cells #[.int .i64 x, .int .i64 y] 23))))
  clear h4 g1' g2 B1 A1 HA HB hw1
  go_wp2_with fail
  go_region_held3 (fun w' => w'.cell? ⟨w.heap.size, 0, none⟩ = some (.int .i64 n) ∧ w'.cell? ⟨w.heap.size, 1, none⟩ = some (.int .i64 d) ∧ w'.cell? ⟨w1.heap.size, 0, none⟩ = some (.int .i64 x) ∧ w'.cell? ⟨w1.heap.size, 1, none⟩ = some (.int .i64 y) ∧ w'.cell? ⟨w2.heap.size, 0, none⟩ = some (.int .i64 x) ∧ w'.cell? ⟨w2.heap.size, 1, none⟩ = some (.int .i64 y) ∧
      (w.heap.size < w'.heap.size ∧ w1.heap.size < w'.heap.size ∧ w2.heap.size < w'.heap.size) ∧ Below w.heap.size w w' ∧ Env w')
    ((show Kl w w1.heap.size w2.heap.size n d x y _
      with_reducible first
        | exact kk.out
        | exact Kl.drew K0.out))
    (first
      | (go_at_call 10; refine (cPlain_any n d _).mono ?_; rintro e w' ⟨rfl, h1⟩; have kk : Hid (Kl w w1.heap.size w2.heap.size n d x y w') := (by show Kl w w1.heap.size w2.heap.size n d x y w'; refine Kl.call ?_ h1; assumption))
      | (go_at_call 11; refine (dPlain_any n d _).mono ?_; rintro e w' ⟨rfl, h1⟩; have kk : Hid (Kl w w1.heap.size w2.heap.size n d x y w') := (by show Kl w w1.heap.size w2.heap.size n d x y w'; refine Kl.call ?_ h1; assumption))
      | (go_at_call 12; refine (cSigned_any n d _).mono ?_; rintro e w' ⟨rfl, h1⟩; have kk : Hid (Kl w w1.heap.size w2.heap.size n d x y w') := (by show Kl w w1.heap.size w2.heap.size n d x y w'; refine Kl.call ?_ h1; assumption))
      | (go_at_call 13; refine (dSigned_any n d _).mono ?_; rintro e w' ⟨rfl, h1⟩; have kk : Hid (Kl w w1.heap.size w2.heap.size n d x y w') := (by show Kl w w1.heap.size w2.heap.size n d x y w'; refine Kl.call ?_ h1; assumption))
      | (go_at_call 14; refine (text_any n d _ (Kl.env (w0 := w) (gA := w1.heap.size) (gB := w2.heap.size) (n := n) (d := d) (x := x) (y := y) ?_)).mono ?_; assumption; rintro e w' ⟨rfl, h1⟩; have kk : Hid (Kl w w1.heap.size w2.heap.size n d x y w') := (by show Kl w w1.heap.size w2.heap.size n d x y w'; refine Kl.call ?_ h1; assumption))
      | (go_at_call 15; refine (dText_any n d _ (Kl.env (w0 := w) (gA := w1.heap.size) (gB := w2.heap.size) (n := n) (d := d) (x := x) (y := y) ?_)).mono ?_; assumption; rintro e w' ⟨rfl, h1⟩; have kk : Hid (Kl w w1.heap.size w2.heap.size n d x y w') := (by show Kl w w1.heap.size w2.heap.size n d x y w'; refine Kl.call ?_ h1; assumption))
      | (go_at_call 7; refine (awake_any _ (Kl.env (w0 := w) (gA := w1.heap.size) (gB := w2.heap.size) (n := n) (d := d) (x := x) (y := y) ?_)).mono ?_; assumption; rintro e w' ⟨rfl, h1⟩; have kk : Hid (Kl w w1.heap.size w2.heap.size n d x y w') := (by show Kl w w1.heap.size w2.heap.size n d x y w'; refine Kl.call ?_ h1; assumption)))
  all_goals
    go_wp2
    go_ret
    exact ⟨rfl, kk.out.g⟩

theorem rtells_any (n d : Int) (l : List UInt8) (w : World) (hw : Env w) (hl : l.length ≤ 9223372036854775807) :
    Calls Tryd.prog 3 #[.agg #[.int .i64 n, .int .i64 d], .string (strB l)] w fun e w' => e = .returned (.bool true) ∧ Below w.heap.size w w' := by
  by_cases h : 40 < l.length
  · exact rtells_long n d l w hw h hl
  · exact rtells_short n d l w hw (by omega)
end Go.Proofs.YtnhophjahjphiaaDoor
