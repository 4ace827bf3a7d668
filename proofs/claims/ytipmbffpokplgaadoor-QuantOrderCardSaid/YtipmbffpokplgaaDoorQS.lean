/- The walk of QuantOrder, first part: the pure facts; where nothing is asked. -/
import Derived.Test.YtipmbffpokplgaaDoorQV
import Derived.StillTailTactics
namespace Go.Proofs.YtipmbffpokplgaaDoor
open Go.RowKit Go.Lib
set_option linter.unusedVariables false
set_option maxRecDepth 100000
/-- The greater numbers, up to a place. -/
def mxP (m b : List Int) (k : Nat) : List Int := (List.range 64).map fun p => if p < k then max (m.getD p 0) (b.getD p 0) else m.getD p 0
theorem mxP_len (m b : List Int) (k : Nat) : (mxP m b k).length = 64 := map64_len _
theorem mxP_zero {m : List Int} (b : List Int) (hm : m.length = 64) : mxP m b 0 = m := ext64 (mxP_len _ _ _) hm fun k hk => by
  rw [mxP, map64_getD _ hk, if_neg (Nat.not_lt_zero _)]
theorem mxP_at (m b : List Int) {k : Nat} (hk : k < 64) : (mxP m b k).getD k 0 = m.getD k 0 := by rw [mxP, map64_getD _ hk, if_neg (Nat.lt_irrefl _)]
theorem mxP_next (m b : List Int) {k : Nat} (hk : k < 64) : (mxP m b k).set k (max (m.getD k 0) (b.getD k 0)) = mxP m b (k + 1) := by
  refine map64_set hk (if_pos (by omega)) fun p hp hne => ?_
  by_cases h2 : p < k
  · rw [if_pos h2, if_pos (by omega)]
  · rw [if_neg h2, if_neg (by omega)]
theorem mxP_ge (m b : List Int) {k : Nat} (hk : k < 64) : b.getD k 0 ≤ (mxP m b 64).getD k 0 := by
  rw [mxP, map64_getD _ hk, if_pos hk]; omega
theorem Kn.setN {w W : World} {L : List (Nat × List Int)} (h : Kn w L W) {n : Nat} {g : Nat} {l : List Int} (hn : L[n]? = some (g, l)) (hne : ∀ j p, L[j]? = some p → j ≠ n → p.1 ≠ g) (hw : w.heap.size ≤ g) (k : Nat) (v : Int) :
    Kn w (L.set n (g, l.set k v)) (W.setCell ⟨g, k, none⟩ (.int .i64 v)) := by
  refine ⟨fun i m hi => ?_, h.be.setCell (p := ⟨g, k, none⟩) hw _⟩
  obtain ⟨j, hj⟩ := List.getElem?_of_mem hi
  rw [List.getElem?_set] at hj
  split at hj
  · split at hj
    · injection hj with hj
      injection hj with h1 h2
      subst h1 h2
      exact (h.get n hn).set_int k v
    · cases hj
  · rename_i hjn
    exact (h.get j hj).other (by have := hne j _ hj (fun e => hjn e.symm); exact this) _
theorem three_kn (w : World) (a b c : List Int) (T : TypeId) : ∃ w1, w1 = ((w.alloc (.cells (ia a) T)).alloc (.cells (ia b) T)).alloc (.cells (ia c) T) ∧ Kn w [(w.heap.size, a), (w.heap.size + 1, b), (w.heap.size + 1 + 1, c)] w1 := by
  obtain ⟨w1, hw1, h0, h1, h2, hB⟩ := tre_blk w (ia a) (ia b) (ia c) T T T
  refine ⟨w1, hw1, fun g l hg => ?_, hB⟩
  rcases List.mem_cons.1 hg with e | e
  · injection e with e1 e2; subst e1 e2; exact h0
  · rcases List.mem_cons.1 e with e | e
    · injection e with e1 e2; subst e1 e2; exact h1
    · injection List.mem_singleton.1 e with e1 e2; subst e1 e2; exact h2
set_option maxHeartbeats 4000000 in
theorem qo_none (q b more : List Int) (hq : q.length = 64) (k j : Int) (hn : wiB q 1 255 = false ∨ wiB q 1 255 = true ∧ k < 1 ∨ wiB q 1 255 = true ∧ 1 ≤ k ∧ j < k ∨ wiB q 1 255 = true ∧ 1 ≤ k ∧ k ≤ j ∧ 100 < j) (w : World) (he : Env w) :
    Calls Tryd.prog 6 #[.agg (ia q), .agg (ia b), .agg (ia more), .int .i64 k, .int .i64 j] w fun e w' => e = .returned (.bool true) ∧ Below w.heap.size w w' := by
  have HSQ := Lib.hid (sizeB hq)
  have HMA := Lib.hid (may_any q hq)
  have HAW := Lib.hid awake_any
  have HEN := Lib.hid he
  clear he hq
  obtain ⟨w1, hw1, hK⟩ := three_kn w q b more 23
  have K := Lib.hid hK
  clear hK
  rcases hn with hm | ⟨hm, h1⟩ | ⟨hm, h1, h2⟩ | ⟨hm, h1, h2, h3⟩
  · rw [hm] at HMA
    clear hm
    go_enter Tryd.func6, Tryd.ntmps6
    go_wp2_with (first
      | (rw [← hw1]; (with_reducible refine wpList_loadB _ rfl 23 (.tmp 5) rfl _ Tryd.underlying23 rfl w.heap.size rfl (ia q) (K.out.get 0 rfl) HSQ.out ?_))
      | (go_at_call 10; (with_reducible refine (HMA.out _).mono ?_); rintro e w2 ⟨rfl, hb2⟩; replace hb2 : Below w1.heap.size w1 w2 := (by rw [hw1]; simpa using hb2); have K2 := Lib.hid (K.out.call hb2); clear hb2)
      | (go_at_call 12; (with_reducible refine (HAW.out _ (HEN.out.below K2.out.be)).mono ?_); rintro e w9 ⟨rfl, hb9⟩; have K3 := Lib.hid (K2.out.call hb9); clear hb9))
    go_ret
    exact ⟨rfl, K3.out.be⟩
  · rw [hm] at HMA
    clear hm
    have d1 : decide (k < 1) = true := decide_eq_true h1
    go_enter Tryd.func6, Tryd.ntmps6
    go_wp2_with (first
      | (rw [← hw1]; (with_reducible refine wpList_loadB _ rfl 23 (.tmp 5) rfl _ Tryd.underlying23 rfl w.heap.size rfl (ia q) (K.out.get 0 rfl) HSQ.out ?_))
      | (go_at_call 10; (with_reducible refine (HMA.out _).mono ?_); rintro e w2 ⟨rfl, hb2⟩; replace hb2 : Below w1.heap.size w1 w2 := (by rw [hw1]; simpa using hb2); have K2 := Lib.hid (K.out.call hb2); clear hb2)
      | (go_at_call 12; (with_reducible refine (HAW.out _ (HEN.out.below K2.out.be)).mono ?_); rintro e w9 ⟨rfl, hb9⟩; have K3 := Lib.hid (K2.out.call hb9); clear hb9))
    go_ret
    exact ⟨rfl, K3.out.be⟩
  · rw [hm] at HMA
    clear hm
    have d1 : decide (k < 1) = false := decide_eq_false (by omega)
    have d2 : decide (j < k) = true := decide_eq_true h2
    go_enter Tryd.func6, Tryd.ntmps6
    go_wp2_with (first
      | (rw [← hw1]; (with_reducible refine wpList_loadB _ rfl 23 (.tmp 5) rfl _ Tryd.underlying23 rfl w.heap.size rfl (ia q) (K.out.get 0 rfl) HSQ.out ?_))
      | (go_at_call 10; (with_reducible refine (HMA.out _).mono ?_); rintro e w2 ⟨rfl, hb2⟩; replace hb2 : Below w1.heap.size w1 w2 := (by rw [hw1]; simpa using hb2); have K2 := Lib.hid (K.out.call hb2); clear hb2)
      | (go_at_call 12; (with_reducible refine (HAW.out _ (HEN.out.below K2.out.be)).mono ?_); rintro e w9 ⟨rfl, hb9⟩; have K3 := Lib.hid (K2.out.call hb9); clear hb9))
    go_ret
    exact ⟨rfl, K3.out.be⟩
  · rw [hm] at HMA
    clear hm
    have d1 : decide (k < 1) = false := decide_eq_false (by omega)
    have d2 : decide (j < k) = false := decide_eq_false (by omega)
    have d3 : decide (100 < j) = true := decide_eq_true h3
    go_enter Tryd.func6, Tryd.ntmps6
    go_wp2_with (first
      | (rw [← hw1]; (with_reducible refine wpList_loadB _ rfl 23 (.tmp 5) rfl _ Tryd.underlying23 rfl w.heap.size rfl (ia q) (K.out.get 0 rfl) HSQ.out ?_))
      | (go_at_call 10; (with_reducible refine (HMA.out _).mono ?_); rintro e w2 ⟨rfl, hb2⟩; replace hb2 : Below w1.heap.size w1 w2 := (by rw [hw1]; simpa using hb2); have K2 := Lib.hid (K.out.call hb2); clear hb2)
      | (go_at_call 12; (with_reducible refine (HAW.out _ (HEN.out.below K2.out.be)).mono ?_); rintro e w9 ⟨rfl, hb9⟩; have K3 := Lib.hid (K2.out.call hb9); clear hb9))
    go_ret
    exact ⟨rfl, K3.out.be⟩
end Go.Proofs.YtipmbffpokplgaaDoor
