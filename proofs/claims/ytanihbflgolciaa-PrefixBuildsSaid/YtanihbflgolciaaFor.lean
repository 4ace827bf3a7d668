/- A forest in memory (a heap of groups in a variable), and its methods. -/
import Derived.Test.YtanihbflgolciaaMemP
import Derived.Test.YtanihbflgolciaaBlk
import Derived.BigRegion
namespace Go.Proofs.Ytanihbflgolciaa
open Go.RowKit Go.Lib
set_option linter.unusedVariables false
set_option maxRecDepth 100000

/-- The cells of groups: a weight, a slice. -/
def gv : List (Int × Value) → List Value
  | [] => []
  | p :: t => .int .i64 p.1 :: p.2 :: gv t
theorem gv_len : ∀ l : List (Int × Value), (gv l).length = l.length * 2
  | [] => rfl
  | p :: t => by rw [gv, List.length_cons, List.length_cons, gv_len t, List.length_cons]; omega
theorem gv_append : ∀ a b : List (Int × Value), gv (a ++ b) = gv a ++ gv b
  | [], b => rfl
  | p :: t, b => by rw [List.cons_append, gv, gv_append t b, gv]; rfl
theorem gv_at : ∀ (l : List (Int × Value)) (i : Nat) (p : Int × Value), l[i]? = some p → (gv l)[i * 2]? = some (.int .i64 p.1) ∧ (gv l)[i * 2 + 1]? = some p.2
  | [], i, p, h => by simp at h
  | q :: t, 0, p, h => by
    simp only [List.getElem?_cons_zero, Option.some.injEq] at h
    subst h
    exact ⟨rfl, rfl⟩
  | q :: t, i + 1, p, h => by
    simp only [List.getElem?_cons_succ] at h
    have := gv_at t i p h
    rw [gv, show (i + 1) * 2 = i * 2 + 1 + 1 by omega]
    simp only [List.getElem?_cons_succ]
    exact this
theorem gv_one : ∀ l : List (Int × Value), (∀ p ∈ l, p.2.oneCell' = true) → ∀ u ∈ gv l, u.oneCell' = true
  | [], _, u, h => by cases h
  | p :: t, hp, u, h => by
    rw [gv, List.mem_cons, List.mem_cons] at h
    rcases h with rfl | rfl | h
    · rfl
    · exact hp p (List.mem_cons_self ..)
    · exact gv_one t (fun q hq => hp q (List.mem_cons_of_mem _ hq)) u h

/-- Block g is groups: d ahead, room for c. -/
structure Gr (w : World) (g c : Nat) (d : List (Int × Value)) : Prop where
  ex : ∃ cur, w.heap[g]? = some (.cells cur 68 (0, 0)) ∧ cur.size = c * 2 ∧ cur.toList.take (d.length * 2) = gv d
  fits : d.length ≤ c
  cap : c ≤ maxLen
  sl : ∀ p ∈ d, ∃ A n c, p.2 = Value.slice A n c
theorem Gr.one {w : World} {g c : Nat} {d : List (Int × Value)} (h : Gr w g c d) : ∀ p ∈ d, p.2.oneCell' = true := fun p hp => by
  obtain ⟨A, n, c, e⟩ := h.sl p hp
  rw [e]; rfl
theorem Gr.owns {w : World} {g c : Nat} {d : List (Int × Value)} (h : Gr w g c d) {B : Nat} (hB : B ≤ g) : w.ownsRow B 68 2 (.slice (some ⟨g, 0, none⟩) d.length c) d.length (gv d) := by
  obtain ⟨cur, h1, h2, h3⟩ := h.ex
  exact ⟨gv_len d, .inr ⟨g, c, cur, rfl, hB, h1, h.fits, h.cap, h2, h3⟩⟩
theorem Gr.of {w : World} {B : Nat} {v : Value} {d : List (Int × Value)} (h : w.ownsRow B 68 2 v d.length (gv d)) (h1 : ∀ p ∈ d, ∃ A n c, p.2 = Value.slice A n c) (hd : d ≠ []) : ∃ g c, v = .slice (some ⟨g, 0, none⟩) d.length c ∧ B ≤ g ∧ Gr w g c d := by
  rcases h.2 with ⟨_, h0⟩ | ⟨g, c, cur, rfl, hb, hh, hn, hc, hs, ht⟩
  · exact absurd (List.eq_nil_of_length_eq_zero h0) hd
  · exact ⟨g, c, rfl, hb, ⟨cur, hh, hs, ht⟩, hn, hc, h1⟩
theorem Gr.lt {w : World} {g c : Nat} {d : List (Int × Value)} (h : Gr w g c d) : g < w.heap.size := by
  obtain ⟨cur, h1, _⟩ := h.ex
  exact (Array.getElem?_eq_some_iff.1 h1).1
theorem Gr.chg {S : Nat → Prop} {w w' : World} {g c : Nat} {d : List (Int × Value)} (h : Gr w g c d) (hb : Chg S w w') (hn : ¬ S g) : Gr w' g c d := by
  have hl := h.lt
  obtain ⟨cur, h1, h2, h3⟩ := h.ex
  exact ⟨⟨cur, (hb.block g hl hn).trans h1, h2, h3⟩, h.fits, h.cap, h.sl⟩
theorem Gr.cells {w : World} {g c : Nat} {d : List (Int × Value)} (h : Gr w g c d) {i : Nat} {p : Int × Value} (hp : d[i]? = some p) : w.cell? ⟨g, i * 2, none⟩ = some (.int .i64 p.1) ∧ w.cell? ⟨g, i * 2 + 1, none⟩ = some p.2 := by
  obtain ⟨cur, h1, h2, h3⟩ := h.ex
  have hi : i < d.length := (List.getElem?_eq_some_iff.1 hp).1
  have hg := gv_at d i p hp
  rw [← h3] at hg
  rw [List.getElem?_take, List.getElem?_take, if_pos (by omega), if_pos (by omega)] at hg
  rw [cell_of_row w g _ cur _ _ h1, cell_of_row w g _ cur _ _ h1]
  simpa using hg
theorem Gr.frozen {w : World} {g c : Nat} {d : List (Int × Value)} (h : Gr w g c d) (j : Nat) : w.frozen? ⟨g, j, none⟩ = false := by
  obtain ⟨cur, h1, _⟩ := h.ex
  exact frozen_of_row w g j cur _ h1
/-- Two elements exchanged. -/
def swL (d : List (Int × Value)) (i j : Nat) (p q : Int × Value) : List (Int × Value) := (d.set i q).set j p
theorem gv_set : ∀ (l : List (Int × Value)) (i : Nat) (q : Int × Value), gv (l.set i q) = ((gv l).set (i * 2) (.int .i64 q.1)).set (i * 2 + 1) q.2
  | [], i, q => by simp [gv]
  | p :: t, 0, q => rfl
  | p :: t, i + 1, q => by
    rw [List.set_cons_succ, gv, gv_set t i q, gv, show (i + 1) * 2 = i * 2 + 1 + 1 by omega]
    rfl
theorem Gr.set {w : World} {g c : Nat} {d : List (Int × Value)} (h : Gr w g c d) {i : Nat} {q : Int × Value} (hi : i < d.length) (hq : ∃ A n c, q.2 = Value.slice A n c) : Gr ((w.setCell ⟨g, i * 2, none⟩ (.int .i64 q.1)).setCell ⟨g, i * 2 + 1, none⟩ q.2) g c (d.set i q) := by
  obtain ⟨cur, h1, h2, h3⟩ := h.ex
  refine ⟨⟨_, heap_setCell_same _ g (i * 2 + 1) _ _ _ (heap_setCell_same w g (i * 2) cur _ _ h1), by simpa using h2, ?_⟩, by simpa using h.fits, h.cap, ?_⟩
  · rw [gv_set, ← h3, List.length_set]
    simp only [Array.toList_setIfInBounds, List.take_set]
  · intro p hp
    rcases List.mem_or_eq_of_mem_set hp with hp | rfl
    · exact h.sl p hp
    · exact hq
end Go.Proofs.Ytanihbflgolciaa
