/- Several variables of several cells as one list (as Kb, for any cells). REUSABLE in each seat. -/
import Derived.Test.YtogpnpcdghabmaaArr
namespace Go.Proofs.Ytogpnpcdghabmaa
open Go.RowKit Go.Lib
set_option linter.unusedVariables false
/-- A guarded operation whose guard holds. -/
theorem wpList_open {w : World} {ops : Array Oper} {rest : List Oper} {o : Oper} {a : Act} {Q : Exit → Act → World → Prop} (hw : Region.wanted o (yielded ops a.tmps) = true)
    (h : wpList Try.prog ops Q ({ o with guard := none } :: rest) a w) : wpList Try.prog ops Q (o :: rest) a w := by
  unfold wpList at h ⊢
  rw [if_pos hw]
  rw [if_pos (by simp [Region.wanted])] at h
  exact h
structure Kc (w : World) (L : List (Nat × Array Value)) (W : World) : Prop where
  blk : ∀ g X, (g, X) ∈ L → Blk W g X
  be : Below w.heap.size w W
section
variable {w W W2 W3 : World} {L : List (Nat × Array Value)}
theorem Kc.refl (w : World) : Kc w [] w := ⟨fun _ _ h => by simp at h, Below.refl _ w⟩
theorem Kc.get (h : Kc w L W) (n : Nat) {g : Nat} {X : Array Value} (hn : L[n]? = some (g, X)) : Blk W g X := h.blk g X (List.mem_of_getElem? hn)
theorem Kc.cell (h : Kc w L W) (n : Nat) {g : Nat} {X : Array Value} (k : Nat) {v : Value} (hn : L[n]? = some (g, X)) (hv : X[k]? = some v) : W.cell? ⟨g, k, none⟩ = some v := (h.get n hn).cell hv
theorem Kc.call (h : Kc w L W) (hb : Below W.heap.size W W2) : Kc w L W2 := ⟨fun g X hg => (h.blk g X hg).below hb, h.be.trans (hb.mono h.be.size)⟩
theorem Kc.drew (h : Kc w L W) : Kc w L W.drew := ⟨h.blk, h.be.drew⟩
theorem Kc.drewN (h : Kc w L W) (n : Nat) : Kc w L (W.drewN n) := ⟨h.blk, dN h.be n⟩
theorem Kc.new (h : Kc w L W) (X : Array Value) (T : TypeId) (g : Nat) (hg : W.heap.size = g) : Kc w (L ++ [(g, X)]) (W.alloc (.cells X T)) := by
  subst hg
  refine ⟨fun g m hg => ?_, h.be.alloc h.be.size _⟩
  rcases List.mem_append.1 hg with hg | hg
  · exact (h.blk g m hg).alloc _
  · obtain ⟨rfl, rfl⟩ : g = W.heap.size ∧ m = X := by simpa using hg
    exact Blk.new W m T
theorem Kc.any (h : Kc w L W) (o : Obj) : Kc w L (W.alloc o) := h.call ((Below.refl _ _).alloc (Nat.le_refl _) _)
theorem Kc.fresh (h : Kc w L W) : ∀ p ∈ L, p.1 < W.heap.size := fun p hp => (h.blk p.1 p.2 hp).lt
/-- A value stored in any of the variables. -/
theorem Kc.upd {L' : List (Nat × Array Value)} {g : Nat} {Y : Array Value} (h : Kc w L W) (hc : Chg (fun k => k = g) W W2) (hr : Blk W2 g Y) (hw : w.heap.size ≤ g) (hL : ∀ p ∈ L', p = (g, Y) ∨ (p ∈ L ∧ p.1 ≠ g)) : Kc w L' W2 := by
  refine ⟨fun i m hi => ?_, h.be.trans (hc.below h.be.size fun i e => by omega)⟩
  rcases hL _ hi with e | ⟨h1, h2⟩
  · injection e with e1 e2
    subst e1 e2
    exact hr
  · exact (h.blk i m h1).chg hc h2
/-- What else may have been written: none of the variables. -/
theorem Kc.chg {S : Nat → Prop} (h : Kc w L W) (hc : Chg S W W2) (hn : ∀ p ∈ L, ¬ S p.1) (hw : ∀ k, S k → w.heap.size ≤ k) : Kc w L W2 :=
  ⟨fun i m hi => (h.blk i m hi).chg hc (hn _ hi), h.be.trans (hc.below h.be.size hw)⟩
theorem Kc.sub {L' : List (Nat × Array Value)} (h : Kc w L W) (hL : ∀ p ∈ L', p ∈ L) : Kc w L' W := ⟨fun g X hg => h.blk g X (hL _ hg), h.be⟩
theorem Kc.rd (h : Kc w L W) {A : Option Addr} {l : List UInt8} (hr : Rd w A l) : Rd W A l := hr.below h.be
end
end Go.Proofs.Ytogpnpcdghabmaa
