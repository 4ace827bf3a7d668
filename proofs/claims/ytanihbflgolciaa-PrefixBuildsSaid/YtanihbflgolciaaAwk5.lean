/- The chapter's examples: awake answers true. -/
import Derived.Test.YtanihbflgolciaaAwk4
namespace Go.Proofs.Ytanihbflgolciaa
open Go.RowKit Go.Lib Go.Sort
set_option linter.unusedVariables false
set_option maxRecDepth 100000
abbrev lit2 (g : Nat) : Array Value := #[.int .i64 1, .int .i64 1, .int .i64 0, .int .i64 0, .int .i64 0, .int .i64 0, .int .i64 0, .int .i64 0, .int .i64 0, .int .i64 0, .int .i64 0, .int .i64 0, .int .i64 0, .int .i64 0, .int .i64 0, .int .i64 0, .slice (some ⟨g, 0, none⟩) 2 2]
theorem lit2_eq (g : Nat) : lit2 g = hx cs2 (.slice (some ⟨g, 0, none⟩) 2 2) := rfl
theorem lit2_size (g : Nat) : (lit2 g).size = 17 := rfl
theorem lit2_one (g : Nat) : ∀ v ∈ (lit2 g).toList, v.oneCell' = true := hx_one cs2 _ 2 2
abbrev litN (g : Nat) : Array Value := #[.int .i64 2, .int .i64 0, .int .i64 0, .int .i64 0, .int .i64 0, .int .i64 0, .int .i64 0, .int .i64 0, .int .i64 0, .int .i64 0, .int .i64 0, .int .i64 0, .int .i64 0, .int .i64 0, .int .i64 0, .int .i64 0, .slice (some ⟨g, 0, none⟩) 2 2]
abbrev lit7 (g : Nat) : Array Value := #[.int .i64 1, .int .i64 0, .int .i64 0, .int .i64 0, .int .i64 0, .int .i64 0, .int .i64 0, .int .i64 0, .int .i64 0, .int .i64 0, .int .i64 0, .int .i64 0, .int .i64 0, .int .i64 0, .int .i64 0, .int .i64 0, .slice (some ⟨g, 0, none⟩) 1 1]
/-- An operation whose guard holds. -/
theorem wpList_open {w : World} {ops : Array Oper} {rest : List Oper} {o : Oper} {a : Act} {Q : Exit → Act → World → Prop} (hw : Region.wanted o (yielded ops a.tmps) = true)
    (h : wpList Try.prog ops Q ({ o with guard := none } :: rest) a w) : wpList Try.prog ops Q (o :: rest) a w := by
  unfold wpList at h ⊢
  rw [if_pos hw]
  rw [if_pos (by simp [Region.wanted])] at h
  exact h
/-- What stands in memory through the examples. -/
structure AW (w : World) (g1 g3 : Nat) (A1 A3 : Option Addr) (c1 c3 : Nat) (W : World) : Prop where
  be : Below w.heap.size w W
  k : Blk W (w.heap.size + 1) (hx cs2 (.slice (some ⟨w.heap.size, 0, none⟩) 2 2))
  s : Ri W (some ⟨w.heap.size, 0, none⟩) [0, 1]
  h : Blk W g1 (hx cs2 (.slice A1 2 c1))
  r : Ri W A1 [0, 1]
  j : Blk W g3 (hx cs1 (.slice A3 1 c3))
  q : Ri W A3 [7]
theorem AW.below {w : World} {g1 g3 : Nat} {A1 A3 : Option Addr} {c1 c3 : Nat} {W W' : World} (h : AW w g1 g3 A1 A3 c1 c3 W) (hb : Below W.heap.size W W') : AW w g1 g3 A1 A3 c1 c3 W' :=
  ⟨below_le h.be hb h.be.size, h.k.below hb, h.s.below hb, h.h.below hb, h.r.below hb, h.j.below hb, h.q.below hb⟩
theorem AW.alloc {w : World} {g1 g3 : Nat} {A1 A3 : Option Addr} {c1 c3 : Nat} {W : World} (h : AW w g1 g3 A1 A3 c1 c3 W) (o : Obj) : AW w g1 g3 A1 A3 c1 c3 (W.alloc o) := h.below ((Below.refl _ _).alloc (Nat.le_refl _) o)
theorem hx17 {cs : List Int} (h : cs.length = 16) (v : Value) : (hx cs v).size = 17 := by rw [hx_size, h]
section
variable {w : World} {g1 g3 : Nat} {A1 A3 : Option Addr} {c1 c3 : Nat} {W : World} (h : AW w g1 g3 A1 A3 c1 c3 W)
include h
theorem AW.may1 : Calls Try.prog 11 #[.agg (litN W.heap.size)] (W.alloc (.cells #[.int .i64 0, .int .i64 1] 3)) fun e w' => e = .returned (.bool false) ∧ AW w g1 g3 A1 A3 c1 c3 w' := by
  have := fMay_any (litN W.heap.size) csN [0, 1] (some ⟨W.heap.size, 0, none⟩) 2 (W.alloc (.cells #[.int .i64 0, .int .i64 1] 3)) (hx_hv (cs := csN) rfl _) (Ri.lits W 3 _ [0, 1] rfl) (by decide)
  rw [mayN] at this
  exact this.mono fun e w' ⟨h1, h2⟩ => ⟨h1, (h.alloc _).below h2⟩
theorem AW.may2 : Calls Try.prog 11 #[.agg (hx cs2 (.slice (some ⟨w.heap.size, 0, none⟩) 2 2))] W fun e w' => e = .returned (.bool true) ∧ AW w g1 g3 A1 A3 c1 c3 w' := by
  have := fMay_any _ cs2 [0, 1] (some ⟨w.heap.size, 0, none⟩) 2 W (hx_hv (cs := cs2) rfl _) h.s (by decide)
  rw [Go.Proofs.Ytanihbflgolciaa.may2] at this
  exact this.mono fun e w' ⟨h1, h2⟩ => ⟨h1, h.below h2⟩
theorem AW.same2 : Calls Try.prog 14 #[.agg (hx cs2 (.slice A1 2 c1)), .agg (hx cs2 (.slice (some ⟨w.heap.size, 0, none⟩) 2 2))] W fun e w' => e = .returned (.bool true) ∧ AW w g1 g3 A1 A3 c1 c3 w' := by
  have := rSame_any _ _ cs2 cs2 [0, 1] [0, 1] A1 (some ⟨w.heap.size, 0, none⟩) c1 2 W (hx_hv (cs := cs2) rfl _) (hx_hv (cs := cs2) rfl _) rfl rfl h.r h.s (by decide) (by decide)
  rw [sameB_yes ⟨rfl, rfl⟩] at this
  exact this.mono fun e w' ⟨h1, h2⟩ => ⟨h1, h.below h2⟩
theorem AW.cost2 : Calls Try.prog 12 #[.agg (hx cs2 (.slice A1 2 c1)), .slice (some ⟨W.heap.size, 0, none⟩) 2 2] (W.alloc (.cells #[.int .i64 1, .int .i64 1] 3)) fun e w' => e = .returned (.int .i64 3) ∧ AW w g1 g3 A1 A3 c1 c3 w' := by
  have := fCost_any _ cs2 [0, 1] A1 c1 [1, 1] (some ⟨W.heap.size, 0, none⟩) 2 (W.alloc (.cells #[.int .i64 1, .int .i64 1] 3)) (hx_hv (cs := cs2) rfl _) (h.alloc _).r (by decide) rfl (Ri.lits W 3 _ [1, 1] rfl) (by decide)
  rw [Go.Proofs.Ytanihbflgolciaa.cost2] at this
  exact this.mono fun e w' ⟨h1, h2⟩ => ⟨h1, (h.alloc _).below h2⟩
theorem AW.same7 : Calls Try.prog 14 #[.agg (hx cs1 (.slice A3 1 c3)), .agg (lit7 W.heap.size)] (W.alloc (.cells #[.int .i64 7] 3)) fun e w' => e = .returned (.bool true) ∧ AW w g1 g3 A1 A3 c1 c3 w' := by
  have := rSame_any _ (lit7 W.heap.size) cs1 cs1 [7] [7] A3 (some ⟨W.heap.size, 0, none⟩) c3 1 (W.alloc (.cells #[.int .i64 7] 3)) (hx_hv (cs := cs1) rfl _) (hx_hv (cs := cs1) rfl _) rfl rfl (h.alloc _).q (Ri.lits W 3 _ [7] rfl) (by decide) (by decide)
  rw [sameB_yes ⟨rfl, rfl⟩] at this
  exact this.mono fun e w' ⟨h1, h2⟩ => ⟨h1, (h.alloc _).below h2⟩
theorem AW.three : Calls Try.prog 22 #[] W fun e w' => ∃ A c, e = .returned (.agg (hx cs3 (.slice A 3 c))) ∧ Ri w' A [5, 1, 9] ∧ AW w g1 g3 A1 A3 c1 c3 w' :=
  (three_any W).mono fun e w' ⟨A, c, h1, h2, h3⟩ => ⟨A, c, h1, h2, h.below h3⟩
theorem AW.codes {A : Option Addr} {c : Nat} (hr : Ri W A [5, 1, 9]) : Calls Try.prog 15 #[.agg (hx cs3 (.slice A 3 c))] W fun e w' => ∃ v, e = .returned v ∧ Oq w' W.heap.size v [(0, 2), (2, 3), (3, 3)] ∧ AW w g1 g3 A1 A3 c1 c3 w' := by
  have := fCod_any _ cs3 [5, 1, 9] A c W (hx_hv (cs := cs3) rfl _) hr (by decide) may3 rfl
  rw [cds3] at this
  exact this.mono fun e w' ⟨v, h1, h2, h3⟩ => ⟨v, h1, h2, h.below h3⟩
theorem AW.rows {v : Value} {B : Nat} (hq : Oq W B v [(0, 2), (2, 3), (3, 3)]) : Calls Try.prog 16 #[v, .slice (some ⟨W.heap.size, 0, none⟩) 3 3] (W.alloc (.cells #[.int .i64 0, .int .i64 2, .int .i64 2, .int .i64 3, .int .i64 3, .int .i64 3] 33)) fun e w' => e = .returned (.bool true) ∧ AW w g1 g3 A1 A3 c1 c3 w' := by
  have := lRows_any v (.slice (some ⟨W.heap.size, 0, none⟩) 3 3) [(0, 2), (2, 3), (3, 3)] [(0, 2), (2, 3), (3, 3)] B W.heap.size (W.alloc (.cells #[.int .i64 0, .int .i64 2, .int .i64 2, .int .i64 3, .int .i64 3, .int .i64 3] 33)) (World.ownsRow.alloc hq _) (World.ownsRow_lit W _ 3 (Nat.le_refl _) (by decide) rfl) (by decide)
  rw [rowsB_yes rfl] at this
  exact this.mono fun e w' ⟨h1, h2⟩ => ⟨h1, (h.alloc _).below h2⟩
end
end Go.Proofs.Ytanihbflgolciaa
