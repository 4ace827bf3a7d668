/- make([]int, n). -/
import Derived.Test.YtanihbflgolciaaBlk
import Derived.Laws.OwnMore
namespace Go.Proofs.Ytanihbflgolciaa
open Go.RowKit Go.Lib
set_option linter.unusedVariables false
set_option maxRecDepth 100000
/-- Block g is the ints l, as []int's elements. -/
def BI (w : World) (g : Nat) (l : List Int) : Prop := w.heap[g]? = some (.cells (ia l) 3 (0, 0))
theorem BI.blk {w : World} {g : Nat} {l : List Int} (h : BI w g l) : Blk w g (ia l) := ⟨_, h⟩
theorem BI.chg {S : Nat → Prop} {w w' : World} {g : Nat} {l : List Int} (h : BI w g l) (hb : Chg S w w') (hn : ¬ S g) : BI w' g l := (hb.block g h.blk.lt hn).trans h
theorem BI.set {w : World} {g : Nat} {l : List Int} (h : BI w g l) (i : Nat) (x : Int) : BI (w.setCell ⟨g, i, none⟩ (.int .i64 x)) g (l.set i x) := by
  have := heap_setCell_same w g i (ia l) 3 (.int .i64 x) h
  rwa [ia_set] at this
theorem BI.oi {w : World} {g : Nat} {l : List Int} (h : BI w g l) {n B : Nat} (hn : n = l.length) (hB : B ≤ g) (hl : n ≤ 1000000) : Oi w B (.slice (some ⟨g, 0, none⟩) n n) l := by
  subst hn
  exact ⟨by simp, .inr ⟨g, l.length, ia l, rfl, hB, h, Nat.le_refl _, by unfold maxLen; omega, by simp [ia_size], by rw [List.take_of_length_le (by simp [ia])]; simp [ia]⟩⟩
theorem wpList_makeI (w : World) {ops : Array Oper} {rest : List Oper} {o : Oper} {a : Act} {Q : Exit → Act → World → Prop} (hg : o.guard = none) (l c : Operand) (hop : o.op = Op.makeSlice 23 l c)
    (n : Nat) (x y : Int) (hl : a.eval l = .int .i64 x) (hc : a.eval c = .int .i64 y) (hx : x = (n : Int)) (hy : y = (n : Int)) (hn : n ≤ 1000000)
    (hK : ∀ w', BI w' w.heap.size (List.replicate n 0) → w.grownBy w' none → wpList Try.prog ops Q rest (a.put o.dst (.slice (some ⟨w.heap.size, 0, none⟩) n n)) w') : wpList Try.prog ops Q (o :: rest) a w := by
  obtain ⟨i0, hi, hz0, hz1, hz2⟩ := info_parts Try.info3
  refine wpList_make_full w hg l c 23 hop w.heap.size 3 i0 _ 1 Try.underlying23 hi hz0 hz1 .i64 .i64 x y n hl hc hx hy (by rw [hz2]; omega) (by unfold maxLen; omega) (Nat.le_refl _) fun w' ho hgr => hK w' ?_ hgr
  rcases ho.2 with ⟨h, _⟩ | ⟨g, cap, cur, hv, hb, hh, h1, h2, h3, h4⟩
  · cases h
  · injection hv with hv1 _ hv3
    injection hv1 with hv1
    injection hv1 with hv1
    subst hv1 hv3
    show w'.heap[w.heap.size]? = _
    rw [hh]
    congr 2
    apply Array.ext'
    rw [List.take_of_length_le (by rw [Array.length_toList, h3]; exact Nat.le_refl _)] at h4
    rw [h4]
    rw [Nat.mul_one, show (Value.int IntKind.i64 0).cells = #[Value.int IntKind.i64 0] from rfl, toList_madeCells_one]
    simp [ia, iv, List.map_replicate]
end Go.Proofs.Ytanihbflgolciaa
