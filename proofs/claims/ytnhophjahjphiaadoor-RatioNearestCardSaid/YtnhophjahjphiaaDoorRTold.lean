/- Contracts of the statements' own small calls. -/
import Derived.Test.YtnhophjahjphiaaDoorRNearE
import Derived.Test.YtnhophjahjphiaaDoorRLeastD
import Derived.Test.YtnhophjahjphiaaDoorRParseD
namespace Go.Proofs.YtnhophjahjphiaaDoor
open Go.RowKit
set_option linter.unusedVariables false

theorem of_any (n d : Int) (w : World) : Calls Tryd.prog 22 #[.int .i64 n, .int .i64 d] w fun e w' => e = .returned (.agg #[.int .i64 n, .int .i64 d]) ∧ Below w.heap.size w w' := by
  go_enter Tryd.func22, Tryd.ntmps22
  go_wp2
  exact bodyPost_ret (v := .agg #[.int .i64 n, .int .i64 d]) (by simp [results, Tryd.results22, go_sem]) rfl ⟨rfl, by go_grown⟩

/-- What is kept while one ratio is boxed. -/
def Ku (w0 : World) (n d : Int) (w : World) : Prop :=
  w.cell? ⟨w0.heap.size, 0, none⟩ = some (.int .i64 n) ∧ w.cell? ⟨w0.heap.size, 1, none⟩ = some (.int .i64 d) ∧ w0.heap.size < w.heap.size ∧ Below w0.heap.size w0 w
theorem Ku.call {w0 w w' : World} {n d : Int} (h : Ku w0 n d w) (hb : Below w.heap.size w w') : Ku w0 n d w' := by
  obtain ⟨h1, h2, h3, h4⟩ := h
  exact ⟨(hb.cell (p := ⟨w0.heap.size, 0, none⟩) h3).trans h1, (hb.cell (p := ⟨w0.heap.size, 1, none⟩) h3).trans h2, Nat.lt_of_lt_of_le h3 hb.size, bstep h4 hb⟩
theorem Ku.drew {w0 w : World} {n d : Int} (h : Ku w0 n d w) : Ku w0 n d w.drew := h.call (Below.refl _ _).drew
theorem Ku.new (w0 : World) (n d : Int) (T : TypeId) : Ku w0 n d (w0.alloc (.cells #[.int .i64 n, .int .i64 d] T)) := by
  have B := Bx.new w0 n d T
  exact ⟨B.c0, B.c1, B.lt, (Below.refl _ _).alloc (Nat.le_refl _) _⟩

theorem told_yes (n d : Int) (w : World) (b : Bool) (h : (b == (d != 0)) = true) :
    Calls Tryd.prog 23 #[.agg #[.int .i64 n, .int .i64 d], .bool b, .int .i64 n, .int .i64 d] w fun e w' => e = .returned (.bool true) ∧ Below w.heap.size w w' := by
  have K0 := Lib.hid (Ku.new w n d 23)
  go_enter Tryd.func23, Tryd.ntmps23
  go_wp2_with fail
  go_region_held3 (fun w' => w'.cell? ⟨w.heap.size, 0, none⟩ = some (.int .i64 n) ∧ w'.cell? ⟨w.heap.size, 1, none⟩ = some (.int .i64 d) ∧ w.heap.size < w'.heap.size ∧ Below w.heap.size w w')
    ((show Ku w n d _
      with_reducible first
        | exact kk.out
        | exact Ku.drew K0.out))
    ((go_at_call 22; refine (of_any n d _).mono ?_; rintro e w' ⟨rfl, h1⟩; have kk : Hid (Ku w n d w') := (by show Ku w n d w'; refine Ku.call ?_ h1; assumption)))
  all_goals
    go_wp2
    go_ret
    exact ⟨rfl, kk.out.2.2.2⟩
end Go.Proofs.YtnhophjahjphiaaDoor
