/- Towards the document's Code: a specification loaded from a block, its code of a symbol. -/
import Derived.Test.YtanihbflgolciaaPCod
namespace Go.Proofs.Ytanihbflgolciaa
open Go.RowKit Go.Lib
set_option linter.unusedVariables false
set_option maxRecDepth 100000

/-- The document's code of a symbol; of length 0: none. -/
noncomputable def codeAt (cs l : List Int) (sym : Int) : Int × Nat := if mayB cs l then (cds (lensOf cs 16)).getD (l.findIdx (· == sym)) (0, 0) else (0, 0)

/-- A specification as it is loaded from a block. -/
def hvOf (cs : List Int) (s : Value) : Array Value := #[.int .i64 (cs.getD 0 0), .int .i64 (cs.getD 1 0), .int .i64 (cs.getD 2 0), .int .i64 (cs.getD 3 0), .int .i64 (cs.getD 4 0), .int .i64 (cs.getD 5 0), .int .i64 (cs.getD 6 0), .int .i64 (cs.getD 7 0), .int .i64 (cs.getD 8 0), .int .i64 (cs.getD 9 0), .int .i64 (cs.getD 10 0), .int .i64 (cs.getD 11 0), .int .i64 (cs.getD 12 0), .int .i64 (cs.getD 13 0), .int .i64 (cs.getD 14 0), .int .i64 (cs.getD 15 0), s]
theorem hvOf_hv (cs : List Int) (s : Value) : Hv (hvOf cs s) cs s := by
  refine ⟨fun k hk => ?_, rfl⟩
  rcases k with _ | _ | _ | _ | _ | _ | _ | _ | _ | _ | _ | _ | _ | _ | _ | _ | k
  all_goals first | rfl | omega
theorem Try.info25 : (Try.prog.info? 25).map (fun i => i.size) = some 17 := by kernel_rfl
theorem run_loadH {w : World} {b : Nat} {cs : List Int} {s : Value} (h : Hb w b cs s) : (loadCells ⟨b, 0, none⟩ 17).run Try.prog w = .ok (hvOf cs s) w := by
  have e0 := h.cnt 0 (by omega)
  have e1 := h.cnt 1 (by omega)
  have e2 := h.cnt 2 (by omega)
  have e3 := h.cnt 3 (by omega)
  have e4 := h.cnt 4 (by omega)
  have e5 := h.cnt 5 (by omega)
  have e6 := h.cnt 6 (by omega)
  have e7 := h.cnt 7 (by omega)
  have e8 := h.cnt 8 (by omega)
  have e9 := h.cnt 9 (by omega)
  have e10 := h.cnt 10 (by omega)
  have e11 := h.cnt 11 (by omega)
  have e12 := h.cnt 12 (by omega)
  have e13 := h.cnt 13 (by omega)
  have e14 := h.cnt 14 (by omega)
  have e15 := h.cnt 15 (by omega)
  have e16 := h.syms
  simp [loadCells, loadCellsFrom, Addr.add_lit, Result.andThen, e0, e1, e2, e3, e4, e5, e6, e7, e8, e9, e10, e11, e12, e13, e14, e15, e16, hvOf]

/-- The same with the cells' values as letters. -/
abbrev aggOf (x : Nat → Value) : Array Value := #[x 0, x 1, x 2, x 3, x 4, x 5, x 6, x 7, x 8, x 9, x 10, x 11, x 12, x 13, x 14, x 15, x 16]
theorem aggOf_hv {X : Array Value} {cs : List Int} {s : Value} (h : Hv X cs s) {x : Nat → Value} (hx : x = fun k => X.getD k undef) : Hv (aggOf x) cs s := by
  have e : ∀ k v, X[k]? = some v → x k = v := by
    intro k v hv
    rw [hx]
    show X.getD k undef = v
    rw [Array.getD_eq_getD_getElem?, hv]
    rfl
  refine ⟨fun k hk => ?_, by show some (x 16) = some s; rw [e 16 s h.syms]⟩
  rcases k with _ | _ | _ | _ | _ | _ | _ | _ | _ | _ | _ | _ | _ | _ | _ | _ | k
  all_goals first | (exact congrArg some (e _ _ (h.cnt _ (by omega)))) | omega
theorem cell_x {X : Array Value} {cs : List Int} {s : Value} (h : Hv X cs s) {x : Nat → Value} (hx : x = fun k => X.getD k undef) (k : Nat) (hk : k < 17) : X[k]? = some (x k) := by
  rw [hx]
  show X[k]? = some (X.getD k undef)
  have : ∃ v, X[k]? = some v := by
    by_cases h16 : k = 16
    · subst h16; exact ⟨_, h.syms⟩
    · exact ⟨_, h.cnt k (by omega)⟩
  obtain ⟨v, hv⟩ := this
  rw [Array.getD_eq_getD_getElem?, hv]
  rfl

end Go.Proofs.Ytanihbflgolciaa
