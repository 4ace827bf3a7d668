/- Blocks of a law's own, in a row: what stands in them, behind calls, new ones, stores. -/
import Derived.Test.YtipmbffpokplgaaDoorQU
namespace Go.Proofs.YtipmbffpokplgaaDoor
open Go.RowKit Go.Lib
set_option linter.unusedVariables false
set_option maxRecDepth 100000
structure Kn (w : World) (L : List (Nat × List Int)) (W : World) : Prop where
  blk : ∀ g l, (g, l) ∈ L → Blk W g (ia l)
  be : Below w.heap.size w W
section
variable {w W W2 W3 : World} {L : List (Nat × List Int)}
theorem Kn.get (h : Kn w L W) (n : Nat) {g : Nat} {l : List Int} (hn : L[n]? = some (g, l)) : Blk W g (ia l) := h.blk g l (List.mem_of_getElem? hn)
theorem Kn.cell (h : Kn w L W) (n : Nat) {g : Nat} {l : List Int} {k : Nat} {v : Int} (hn : L[n]? = some (g, l)) (hk : k < l.length) (hv : l.getD k 0 = v) : W.cell? ⟨g, k, none⟩ = some (.int .i64 v) := by
  rw [← hv]; exact (h.get n hn).cell (ia_at hk)
theorem Kn.call (h : Kn w L W) (hb : Below W.heap.size W W2) : Kn w L W2 := ⟨fun g l hg => (h.blk g l hg).below hb, h.be.trans (hb.mono h.be.size)⟩
theorem Kn.drew (h : Kn w L W) : Kn w L W.drew := ⟨h.blk, h.be.drew⟩
theorem Kn.drewN (h : Kn w L W) (n : Nat) : Kn w L (W.drewN n) := ⟨h.blk, dN h.be n⟩
theorem Kn.new (h : Kn w L W) (l : List Int) (T : TypeId) : Kn w (L ++ [(W.heap.size, l)]) (W.alloc (.cells (ia l) T)) := by
  refine ⟨fun g m hg => ?_, h.be.alloc h.be.size _⟩
  rcases List.mem_append.1 hg with hg | hg
  · exact (h.blk g m hg).alloc _
  · obtain ⟨rfl, rfl⟩ : g = W.heap.size ∧ m = l := by simpa using hg
    exact Blk.new W (ia m) T
/-- A call's result, stored in a new variable. -/
theorem Kn.push {T : TypeId} {r : List Int} (h : Kn w L W) (hb : Below W.heap.size W W2) (hc : Chg (fun k => k = W2.heap.size) (W2.alloc (.cells (ia zeros) T)) W3) (hr : Blk W3 W2.heap.size (ia r)) : Kn w (L ++ [(W2.heap.size, r)]) W3 := by
  have h2 := h.call hb
  refine ⟨fun g m hg => ?_, (h2.be.alloc h2.be.size _).trans (hc.below (h2.be.alloc h2.be.size _).size fun i e => by have := h2.be.size; omega)⟩
  rcases List.mem_append.1 hg with hg | hg
  · exact ((h2.blk g m hg).alloc _).chg hc (fun e => by have := (h2.blk g m hg).lt; omega)
  · obtain ⟨rfl, rfl⟩ : g = W2.heap.size ∧ m = r := by simpa using hg
    exact hr
theorem Kn.set {g : Nat} {l : List Int} (h : Kn w (L ++ [(g, l)]) W) (hL : ∀ p ∈ L, p.1 < g) (hw : w.heap.size ≤ g) (k : Nat) (v : Int) : Kn w (L ++ [(g, l.set k v)]) (W.setCell ⟨g, k, none⟩ (.int .i64 v)) := by
  refine ⟨fun i m hi => ?_, h.be.setCell (p := ⟨g, k, none⟩) hw _⟩
  rcases List.mem_append.1 hi with hi | hi
  · exact (h.blk i m (List.mem_append_left _ hi)).other (by have := hL _ hi; simp only at this; show i ≠ g; omega) _
  · obtain ⟨rfl, rfl⟩ : i = g ∧ m = l.set k v := by simpa using hi
    exact (h.blk i l (List.mem_append_right _ (by simp))).set_int k v
theorem Kn.fresh (h : Kn w L W) : ∀ p ∈ L, p.1 < W.heap.size := fun p hp => (h.blk p.1 p.2 hp).lt
theorem Kn.ld (h : Kn w L W) (n : Nat) {g : Nat} {l : List Int} (hn : L[n]? = some (g, l)) (hl : l.length = 64) : (Instr.loadAt 23 (.pointer (some ⟨g, 0, none⟩))).run Tryd.prog W = .ok (.agg (ia l)) W := (h.get n hn).ld hl
end
end Go.Proofs.YtipmbffpokplgaaDoor
