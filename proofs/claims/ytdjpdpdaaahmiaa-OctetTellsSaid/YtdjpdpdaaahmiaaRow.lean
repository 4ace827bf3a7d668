/- A row of bytes of the call's own that is written in place; slices.Reverse over a part of it. -/
import Derived.Test.YtdjpdpdaaahmiaaTurnN
import Derived.RegionTactic
import Derived.ChangeAlike
namespace Go.Proofs.Ytdjpdpdaaahmiaa
open Go.RowKit

/-- Block g is a row of N bytes, the one at i is f i. -/
def Row (w : World) (g N : Nat) (f : Nat → Int) : Prop := w.heap[g]? = some (.cells ((List.range N).map fun i => Value.int .u8 (f i)).toArray 5 (0, 0))
def upd (f : Nat → Int) (i : Nat) (v : Int) : Nat → Int := fun j => if j = i then v else f j
theorem Row.cell {w : World} {g N : Nat} {f : Nat → Int} (h : Row w g N f) {i : Nat} (hi : i < N) : w.cell? ⟨g, i, none⟩ = some (.int .u8 (f i)) := by
  rw [cell_of_row _ _ _ _ _ _ h]
  simp [hi]
theorem Row.free {w : World} {g N : Nat} {f : Nat → Int} (h : Row w g N f) (i : Nat) : w.frozen? ⟨g, i, none⟩ = false := frozen_of_row _ _ _ _ _ h
theorem Row.lt {w : World} {g N : Nat} {f : Nat → Int} (h : Row w g N f) : g < w.heap.size := by
  rcases Nat.lt_or_ge g w.heap.size with hlt | hge
  · exact hlt
  · unfold Row at h; rw [Array.getElem?_eq_none hge] at h; cases h
theorem Row.drew {w : World} {g N : Nat} {f : Nat → Int} (h : Row w g N f) : Row w.drew g N f := h
theorem Row.drewN {w : World} {g N : Nat} {f : Nat → Int} (h : Row w g N f) (n : Nat) : Row (w.drewN n) g N f := h
theorem Row.set_ {w : World} {g N : Nat} {f : Nat → Int} (h : Row w g N f) (i : Nat) (v : Int) : Row (w.setCell ⟨g, i, none⟩ (.int .u8 v)) g N (upd f i v) := by
  unfold Row at h ⊢
  rw [heap_setCell_same _ _ _ _ _ _ h]
  congr 2
  apply Array.ext
  · simp
  · intro j h1 h2
    simp [upd]
    by_cases hj : i = j
    · simp [hj]
    · simp [hj]
      intro e; exact absurd e.symm hj
theorem Row.congr {w : World} {g N : Nat} {f f' : Nat → Int} (h : Row w g N f) (he : ∀ i, i < N → f i = f' i) : Row w g N f' := by
  unfold Row at h ⊢
  rw [h]
  congr 2
  apply Array.ext
  · simp
  · intro j h1 h2
    simp
    exact he j (by simpa using h1)
theorem Row.kept {w w' : World} {g N : Nat} {f : Nat → Int} (h : Row w g N f) (hb : Below w.heap.size w w') : Row w' g N f := (hb.block g h.lt).trans h
theorem Row.ob {w : World} {g base : Nat} {l : List UInt8} {f : Nat → Int} (h : Row w g l.length f) (hb : base ≤ g) (hm : l.length ≤ maxLen) (he : ∀ i, i < l.length → f i = bt l i) :
    Ob w base (.slice (some ⟨g, 0, none⟩) l.length l.length) l := by
  have h' := h.congr he
  refine ⟨by simp, .inr ⟨g, l.length, _, rfl, hb, h', Nat.le_refl _, hm, by simp, ?_⟩⟩
  apply List.ext_getElem
  · simp
  · intro i h1 h2
    simp at h2 ⊢
    exact (bv_bt l i h2).symm

/-- What stands at i of a row behind the turning of its n bytes from o on. -/
def revF (f : Nat → Int) (o n : Nat) : Nat → Int := fun i => if o ≤ i ∧ i < o + n then f (o + (o + n - 1 - i)) else f i
/-- The same, k bytes from either end on. -/
def revK (f : Nat → Int) (o n k : Nat) : Nat → Int := fun i => if o ≤ i ∧ i < o + n ∧ (i < o + k ∨ o + n ≤ i + k) then f (o + (o + n - 1 - i)) else f i
theorem revK_zero (f : Nat → Int) (o n : Nat) : revK f o n 0 = f := by
  funext i; unfold revK; rw [if_neg (by omega)]
theorem revK_end (f : Nat → Int) (o n k : Nat) (h : n ≤ 2 * k + 1) : revK f o n k = revF f o n := by
  funext i
  unfold revK revF
  by_cases h1 : o ≤ i ∧ i < o + n
  · by_cases h2 : i < o + k ∨ o + n ≤ i + k
    · rw [if_pos ⟨h1.1, h1.2, h2⟩, if_pos h1]
    · rw [if_neg (by omega), if_pos h1]
      congr 1; omega
  · rw [if_neg (by omega), if_neg h1]
theorem revK_lo (f : Nat → Int) (o n k : Nat) (h : 2 * k + 1 < n) : revK f o n k (o + k) = f (o + k) := by
  unfold revK; rw [if_neg (by omega)]
theorem revK_hi (f : Nat → Int) (o n k : Nat) (h : 2 * k + 1 < n) : revK f o n k (o + (n - 1 - k)) = f (o + (n - 1 - k)) := by
  unfold revK; rw [if_neg (by omega)]
theorem revK_succ (f : Nat → Int) (o n k : Nat) (h : 2 * k + 1 < n) :
    upd (upd (revK f o n k) (o + k) (f (o + (n - 1 - k)))) (o + (n - 1 - k)) (f (o + k)) = revK f o n (k + 1) := by
  funext i
  unfold upd
  by_cases e1 : i = o + (n - 1 - k)
  · rw [if_pos e1]
    unfold revK
    rw [if_pos (by omega)]
    congr 1; omega
  · rw [if_neg e1]
    by_cases e2 : i = o + k
    · rw [if_pos e2]
      unfold revK
      rw [if_pos (by omega)]
      congr 1; omega
    · rw [if_neg e2]
      unfold revK
      by_cases h3 : o ≤ i ∧ i < o + n ∧ (i < o + k ∨ o + n ≤ i + k)
      · rw [if_pos h3, if_pos (by omega)]
      · rw [if_neg h3, if_neg (by omega)]
end Go.Proofs.Ytdjpdpdaaahmiaa
