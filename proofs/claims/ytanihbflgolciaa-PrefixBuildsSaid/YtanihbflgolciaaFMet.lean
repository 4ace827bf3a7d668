/- A forest's methods Len, Less, Swap. -/
import Derived.Test.YtanihbflgolciaaFor
namespace Go.Proofs.Ytanihbflgolciaa
open Go.RowKit Go.Lib
set_option linter.unusedVariables false
set_option maxRecDepth 100000

theorem fLenM_any (A : Option Addr) (n c : Nat) (w : World) : Calls Try.prog 38 #[.slice A n c] w fun e w' => e = .returned (.int .i64 n) ∧ w = w' := by
  go_enter Try.func38, Try.ntmps38
  go_wp2
  go_ret
  exact ⟨rfl, rfl⟩
theorem fLess_any (g n c i j : Nat) (p q : Int × Value) (d : List (Int × Value)) (w : World) (h : Gr w g c d) (hn : n ≤ d.length) (hi : i < n) (hj : j < n) (hp : d[i]? = some p) (hq : d[j]? = some q) (hc : c ≤ 9223372036854775807) :
    Calls Try.prog 88 #[.slice (some ⟨g, 0, none⟩) n c, .int .i64 i, .int .i64 j] w fun e w' => e = .returned (.bool (decide (p.1 < q.1))) ∧ ∃ m, w' = w.drewN m := by
  have e1 := (h.cells hp).1
  have e2 := (h.cells hq).1
  have hf := h.fits
  clear h
  go_enter Try.func88, Try.ntmps88
  go_wp2
  go_quiet (fail)
  go_wp2
  go_ret
  exact ⟨rfl, _, rfl⟩
theorem set_some {w : World} {a b : Addr} {u v : Value} (h : w.cell? b = some v) : ∃ x, (w.setCell a u).cell? b = some x := by
  by_cases e : a = b
  · subst e; exact ⟨u, World.cell?_setCell_same _ _ _ h⟩
  · exact ⟨v, (World.cell?_setCell_other _ _ _ _ e).trans h⟩
theorem Gr.swap {w : World} {g c : Nat} {d : List (Int × Value)} (h : Gr w g c d) {i j : Nat} {p1 q1 : Int} {Ap Aq : Option Addr} {np cp nq cq : Nat} (hi : i < d.length) (hj : j < d.length) :
    Gr (((((w.setCell ⟨g, i * 2, none⟩ (.int .i64 q1)).setCell ⟨g, i * 2 + 1, none⟩ (.slice Aq nq cq)).setCell ⟨g, j * 2, none⟩ (.int .i64 p1)).setCell ⟨g, j * 2 + 1, none⟩ (.slice Ap np cp))).drew g c (swL d i j (p1, .slice Ap np cp) (q1, .slice Aq nq cq)) := by
  have h1 := h.set (i := i) (q := (q1, .slice Aq nq cq)) hi ⟨_, _, _, rfl⟩
  have h2 := h1.set (i := j) (q := (p1, .slice Ap np cp)) (by rw [List.length_set]; exact hj) ⟨_, _, _, rfl⟩
  obtain ⟨e1, e2, e3, e4⟩ := h2
  exact ⟨e1, e2, e3, e4⟩
theorem chg4 (w : World) (g a b c d : Nat) (x y z u : Value) : Chg (fun k => k = g) w ((((w.setCell ⟨g, a, none⟩ x).setCell ⟨g, b, none⟩ y).setCell ⟨g, c, none⟩ z).setCell ⟨g, d, none⟩ u).drew :=
  (((((Chg.refl (fun k => k = g) w).setCell (p := ⟨g, a, none⟩) (.inl rfl) x).setCell (p := ⟨g, b, none⟩) (.inl rfl) y).setCell (p := ⟨g, c, none⟩) (.inl rfl) z).setCell (p := ⟨g, d, none⟩) (.inl rfl) u).drew
theorem size4 (w : World) (g a b c d : Nat) (x y z u : Value) : ((((w.setCell ⟨g, a, none⟩ x).setCell ⟨g, b, none⟩ y).setCell ⟨g, c, none⟩ z).setCell ⟨g, d, none⟩ u).drew.heap.size = w.heap.size := by
  show ((((w.setCell ⟨g, a, none⟩ x).setCell ⟨g, b, none⟩ y).setCell ⟨g, c, none⟩ z).setCell ⟨g, d, none⟩ u).heap.size = _
  simp
set_option maxHeartbeats 1000000 in
theorem fSwap_any (g n c i j : Nat) (p q : Int × Value) (d : List (Int × Value)) (w : World) (h : Gr w g c d) (hn : n ≤ d.length) (hi : i < n) (hj : j < n) (hp : d[i]? = some p) (hq : d[j]? = some q) (hc : c ≤ 9223372036854775807) :
    Calls Try.prog 89 #[.slice (some ⟨g, 0, none⟩) n c, .int .i64 i, .int .i64 j] w fun e w' => e = .returned (.tuple #[]) ∧ Gr w' g c (swL d i j p q) ∧ Chg (fun k => k = g) w w' ∧ w'.heap.size = w.heap.size := by
  obtain ⟨p1, p2⟩ := p
  obtain ⟨q1, q2⟩ := q
  obtain ⟨e1, e2⟩ := h.cells hp
  obtain ⟨e3, e4⟩ := h.cells hq
  simp only at e1 e2 e3 e4
  have f1 := h.frozen (i * 2)
  have f2 := h.frozen (i * 2 + 1)
  have f3 := h.frozen (j * 2)
  have f4 := h.frozen (j * 2 + 1)
  have hf := h.fits
  obtain ⟨Ap, np, cp, rfl⟩ : ∃ A n c, p2 = Value.slice A n c := h.sl (p1, p2) (List.mem_of_getElem? hp)
  obtain ⟨Aq, nq, cq, rfl⟩ : ∃ A n c, q2 = Value.slice A n c := h.sl (q1, q2) (List.mem_of_getElem? hq)
  have H := Lib.hid h
  clear h
  obtain ⟨x3, e5⟩ : ∃ x, ((w.setCell ⟨g, i * 2, none⟩ (.int .i64 q1)).setCell ⟨g, i * 2 + 1, none⟩ (.slice Aq nq cq)).cell? ⟨g, j * 2, none⟩ = some x := by
    obtain ⟨y, hy⟩ := set_some (a := ⟨g, i * 2, none⟩) (u := .int .i64 q1) e3
    exact set_some hy
  obtain ⟨x4, e6⟩ : ∃ x, (((w.setCell ⟨g, i * 2, none⟩ (.int .i64 q1)).setCell ⟨g, i * 2 + 1, none⟩ (.slice Aq nq cq)).setCell ⟨g, j * 2, none⟩ (.int .i64 p1)).cell? ⟨g, j * 2 + 1, none⟩ = some x := by
    obtain ⟨y, hy⟩ := set_some (a := ⟨g, i * 2, none⟩) (u := .int .i64 q1) e4
    obtain ⟨z, hz⟩ := set_some (a := ⟨g, i * 2 + 1, none⟩) (u := .slice Aq nq cq) hy
    exact set_some hz
  go_enter Try.func89, Try.ntmps89
  go_wp2
  go_big_region
  go_end0
  exact ⟨rfl, Gr.swap H.out (by omega) (by omega), chg4 _ _ _ _ _ _ _ _ _ _, size4 _ _ _ _ _ _ _ _ _ _⟩
end Go.Proofs.Ytanihbflgolciaa
