/- Several variables of array types, ints in each, as one list (as CB's Kn, for arrays of any length). REUSABLE in each seat. -/
import Derived.Test.YtefdimkiijmjbaaArr
namespace Go.Proofs.Ytefdimkiijmjbaa
open Go.RowKit Go.Lib
set_option linter.unusedVariables false
structure Kb (w : World) (L : List (Nat × List Int)) (W : World) : Prop where
  blk : ∀ g l, (g, l) ∈ L → Blk W g (ia l)
  be : Below w.heap.size w W
section
variable {w W W2 W3 : World} {L : List (Nat × List Int)}
theorem Kb.refl (w : World) : Kb w [] w := ⟨fun _ _ h => by simp at h, Below.refl _ w⟩
theorem Kb.get (h : Kb w L W) (n : Nat) {g : Nat} {l : List Int} (hn : L[n]? = some (g, l)) : Blk W g (ia l) := h.blk g l (List.mem_of_getElem? hn)
theorem Kb.cell (h : Kb w L W) (n : Nat) {g : Nat} {l : List Int} {k : Nat} {v : Int} (hn : L[n]? = some (g, l)) (hk : k < l.length) (hv : l.getD k 0 = v) : W.cell? ⟨g, k, none⟩ = some (.int .i64 v) := by
  rw [← hv]; exact (h.get n hn).cell (ia_at hk)
theorem Kb.call (h : Kb w L W) (hb : Below W.heap.size W W2) : Kb w L W2 := ⟨fun g l hg => (h.blk g l hg).below hb, h.be.trans (hb.mono h.be.size)⟩
theorem Kb.drew (h : Kb w L W) : Kb w L W.drew := ⟨h.blk, h.be.drew⟩
theorem Kb.drewN (h : Kb w L W) (n : Nat) : Kb w L (W.drewN n) := ⟨h.blk, dN h.be n⟩
theorem Kb.new (h : Kb w L W) (l : List Int) (T : TypeId) : Kb w (L ++ [(W.heap.size, l)]) (W.alloc (.cells (ia l) T)) := by
  refine ⟨fun g m hg => ?_, h.be.alloc h.be.size _⟩
  rcases List.mem_append.1 hg with hg | hg
  · exact (h.blk g m hg).alloc _
  · obtain ⟨rfl, rfl⟩ : g = W.heap.size ∧ m = l := by simpa using hg
    exact Blk.new W (ia m) T
theorem Kb.fresh (h : Kb w L W) : ∀ p ∈ L, p.1 < W.heap.size := fun p hp => (h.blk p.1 p.2 hp).lt
/-- A value stored in a variable that is the last one. -/
theorem Kb.put {g : Nat} {z r : List Int} (h : Kb w (L ++ [(g, z)]) W) (hL : ∀ p ∈ L, p.1 ≠ g) (hw : w.heap.size ≤ g) (hc : Chg (fun k => k = g) W W2) (hr : Blk W2 g (ia r)) : Kb w (L ++ [(g, r)]) W2 := by
  refine ⟨fun i m hi => ?_, h.be.trans (hc.below h.be.size fun i e => by omega)⟩
  rcases List.mem_append.1 hi with hi | hi
  · exact (h.blk i m (List.mem_append_left _ hi)).chg hc fun e => hL _ hi e
  · obtain ⟨rfl, rfl⟩ : i = g ∧ m = r := by simpa using hi
    exact hr
/-- A value stored in a new variable. -/
theorem Kb.push {T : TypeId} {z r : List Int} (h : Kb w L W) (hc : Chg (fun k => k = W.heap.size) (W.alloc (.cells (ia z) T)) W3) (hr : Blk W3 W.heap.size (ia r)) : Kb w (L ++ [(W.heap.size, r)]) W3 :=
  (h.new z T).put (fun p hp => Nat.ne_of_lt (h.fresh p hp)) h.be.size hc hr
/-- A value stored in any of the variables. -/
theorem Kb.upd {L' : List (Nat × List Int)} {g : Nat} {r : List Int} (h : Kb w L W) (hw : w.heap.size ≤ g) (hc : Chg (fun k => k = g) W W2) (hr : Blk W2 g (ia r)) (hL : ∀ p ∈ L', p = (g, r) ∨ (p ∈ L ∧ p.1 ≠ g)) : Kb w L' W2 := by
  refine ⟨fun i m hi => ?_, h.be.trans (hc.below h.be.size fun i e => by omega)⟩
  rcases hL _ hi with e | ⟨h1, h2⟩
  · injection e with e1 e2
    subst e1 e2
    exact hr
  · exact (h.blk i m h1).chg hc h2
theorem Kb.set {g : Nat} {l : List Int} (h : Kb w (L ++ [(g, l)]) W) (hL : ∀ p ∈ L, p.1 ≠ g) (hw : w.heap.size ≤ g) (k : Nat) (v : Int) : Kb w (L ++ [(g, l.set k v)]) (W.setCell ⟨g, k, none⟩ (.int .i64 v)) :=
  h.put hL hw ((Chg.refl (fun k => k = g) W).setCell (p := ⟨g, k, none⟩) (.inl rfl) _) ((h.blk g l (by simp)).set_int k v)
end
end Go.Proofs.Ytefdimkiijmjbaa
