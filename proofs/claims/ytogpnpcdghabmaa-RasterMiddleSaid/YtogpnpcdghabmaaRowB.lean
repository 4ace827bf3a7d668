/- Rows of bytes of the call's own that are written in place; make([]byte, n). REUSABLE in each seat with bytes. -/
import Derived.Test.YtogpnpcdghabmaaMem
import Derived.Laws.OwnMore
import Derived.RegionTactic
namespace Go.Proofs.Ytogpnpcdghabmaa
open Go.RowKit
set_option linter.unusedVariables false
set_option maxRecDepth 100000
/-- Block g is a row of N bytes, the one at i is f i. -/
def Row (w : World) (g N : Nat) (f : Nat → Int) : Prop := w.heap[g]? = some (.cells ((List.range N).map fun i => Value.int .u8 (f i)).toArray 5 (0, 0))
def updF (f : Nat → Int) (i : Nat) (v : Int) : Nat → Int := fun j => if j = i then v else f j
theorem Row.cell {w : World} {g N : Nat} {f : Nat → Int} (h : Row w g N f) {i : Nat} (hi : i < N) : w.cell? ⟨g, i, none⟩ = some (.int .u8 (f i)) := by
  rw [cell_of_row _ _ _ _ _ _ h]
  simp [hi]
theorem Row.free {w : World} {g N : Nat} {f : Nat → Int} (h : Row w g N f) (i : Nat) : w.frozen? ⟨g, i, none⟩ = false := frozen_of_row _ _ _ _ _ h
theorem Row.lt {w : World} {g N : Nat} {f : Nat → Int} (h : Row w g N f) : g < w.heap.size := by
  rcases Nat.lt_or_ge g w.heap.size with hlt | hge
  · exact hlt
  · unfold Row at h; rw [Array.getElem?_eq_none hge] at h; cases h
theorem Row.drew {w : World} {g N : Nat} {f : Nat → Int} (h : Row w g N f) : Row w.drew g N f := h
theorem Row.drewN {w : World} {g N : Nat} {f : Nat → Int} (h : Row w g N f) (n : Nat) : Row (w.drewN n) g N f := h
theorem Row.set_ {w : World} {g N : Nat} {f : Nat → Int} (h : Row w g N f) (i : Nat) (v : Int) : Row (w.setCell ⟨g, i, none⟩ (.int .u8 v)) g N (updF f i v) := by
  unfold Row at h ⊢
  rw [heap_setCell_same _ _ _ _ _ _ h]
  congr 2
  apply Array.ext
  · simp
  · intro j h1 h2
    simp [updF]
    by_cases hj : i = j
    · simp [hj]
    · simp [hj]
      intro e; exact absurd e.symm hj
theorem Row.congr {w : World} {g N : Nat} {f f' : Nat → Int} (h : Row w g N f) (he : ∀ i, i < N → f i = f' i) : Row w g N f' := by
  unfold Row at h ⊢
  rw [h]
  congr 2
  apply Array.ext
  · simp
  · intro j h1 h2
    simp
    exact he j (by simpa using h1)
theorem Row.kept {w w' : World} {g N : Nat} {f : Nat → Int} (h : Row w g N f) (hb : Below w.heap.size w w') : Row w' g N f := (hb.block g h.lt).trans h
theorem Row.ob {w : World} {g base : Nat} {l : List UInt8} {f : Nat → Int} (h : Row w g l.length f) (hb : base ≤ g) (hm : l.length ≤ maxLen) (he : ∀ i, i < l.length → f i = bt l i) :
    Ob w base (.slice (some ⟨g, 0, none⟩) l.length l.length) l := by
  have h' := h.congr he
  refine ⟨by simp, .inr ⟨g, l.length, _, rfl, hb, h', Nat.le_refl _, hm, by simp, ?_⟩⟩
  apply List.ext_getElem
  · simp
  · intro i h1 h2
    simp at h2 ⊢
    exact (bv_bt l i h2).symm

def zeroRow (n : Nat) : Array Value := ((List.range n).map fun _ => Value.int .u8 0).toArray
theorem zero_made (n : Nat) : madeCells #[Value.int .u8 0] (n * 1) = zeroRow n := by
  apply Array.ext
  · simp [zeroRow, size_madeCells]
  · intro i h1 h2
    simp [zeroRow, madeCells, Nat.mod_one]
theorem run_makeB (n : Nat) (hn : n ≤ 65536) (w : World) :
    (Instr.makeSlice 22 (.int .i64 (n : Int)) (.int .i64 (n : Int))).run Try.prog w = .ok (.slice (some ⟨w.heap.size, 0, none⟩) n n) (w.alloc (.cells (zeroRow n) 5)) := by
  obtain ⟨i0, hi, hz0, hz1, hz2⟩ := info_parts Try.info5
  have hr := run_make (P := Try.prog) w 22 5 i0 (.int .u8 0) Try.underlying22 hi hz0 .i64 .i64 n n (by omega) (by omega) (by rw [hz2]; omega) (by omega)
  simp only [Int.toNat_natCast, hz1] at hr
  rw [← zero_made]
  exact hr
theorem Row.zero (w : World) (n : Nat) : Row (w.alloc (.cells (zeroRow n) 5)) w.heap.size n (fun _ => 0) := heap_alloc_new w _

end Go.Proofs.Ytogpnpcdghabmaa
