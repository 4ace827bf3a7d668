/- Contract of the order: the places of all steps. -/
import Derived.Test.YtlchdelhhnlgbaaDoorZVis
namespace Go.Proofs.YtlchdelhhnlgbaaDoor
open Go.RowKit Go.Shelf Go.Lib
attribute [local go_sem] Oper.semAt_some
set_option linter.unusedVariables false

/-- The order as ints. -/
def zi : List Int := zl.map fun (n : Nat) => (n : Int)
def fill (pre : List (Fin 64)) : List Int := pre.foldl (fun l m => l.set m.val ((za m.val : Nat) : Int)) (List.replicate 64 0)
theorem fill_snoc (pre : List (Fin 64)) (m : Fin 64) : fill (pre ++ [m]) = (fill pre).set m.val ((za m.val : Nat) : Int) := by simp [fill]
theorem fill_all : fill fr = zi := by decide +kernel
theorem fill_len (pre : List (Fin 64)) : (fill pre).length = 64 := by
  have : ∀ (l : List Int), (pre.foldl (fun l m => l.set m.val ((za m.val : Nat) : Int)) l).length = l.length := by
    induction pre with
    | nil => intro l; rfl
    | cons m pre ih => intro l; rw [List.foldl_cons, ih, List.length_set]
  rw [fill, this]; rfl
theorem zi_len : zi.length = 64 := by decide +kernel
theorem zi_at {m : Nat} (h : m < 64) : zi.getD m 0 = ((za m : Nat) : Int) := by
  have : ∀ m, m < 64 → zi.getD m 0 = ((za m : Nat) : Int) := by decide +kernel
  exact this m h
theorem Blk.own {β : Type} (g : Nat) (f : β → Array Value) : Own (fun (s : β) W => Blk W g (f s)) := fun s A B row hs hg hr => by
  obtain ⟨T, h⟩ := hs
  refine ⟨T, (hg.block g (Array.getElem?_eq_some_iff.1 h).1 (fun e => ?_)).trans h⟩
  obtain ⟨o, ho, hc⟩ := hr g e.symm
  rw [h] at ho; cases ho; cases hc
theorem zero64 : (Tryd.prog.info? 25).map (fun i => i.zero) = some (some (.agg (ia (List.replicate 64 0)))) := by kernel_rfl
theorem size64 : (Tryd.prog.info? 25).map (·.size) = some 64 := by kernel_rfl

end Go.Proofs.YtlchdelhhnlgbaaDoor
