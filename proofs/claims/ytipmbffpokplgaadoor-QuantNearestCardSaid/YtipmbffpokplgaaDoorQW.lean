/- Contracts: is a block within bounds (isWithin, May, the document's Within). -/
import Derived.Test.YtipmbffpokplgaaDoorQP
import Derived.Test.YtipmbffpokplgaaDoorZEq
namespace Go.Proofs.YtipmbffpokplgaaDoor
open Go.RowKit Go.Lib
set_option linter.unusedVariables false
set_option maxRecDepth 100000
theorem clo_any (x a b : Int) (p1 p2 : Addr) (w : World) (c1 : w.cell? p1 = some (.int .i64 a)) (c2 : w.cell? p2 = some (.int .i64 b)) :
    Calls Tryd.prog 32 #[.int .i64 x, .pointer (some p1), .pointer (some p2)] w fun e w' => e = .returned (.bool (!(decide (a ≤ x) && decide (x ≤ b)))) ∧ w = w' := by
  by_cases h1 : x < a
  · have HF : Hid ((!(decide (a ≤ x) && decide (x ≤ b))) = true) := by show _ = _; simp; omega
    go_enter Tryd.func32, Tryd.ntmps32
    go_wp2
    go_ret
    rw [HF.out]
    exact ⟨rfl, rfl⟩
  · have HF : Hid ((!decide (x ≤ b)) = decide (b < x)) := by show _ = _; apply Bool.eq_iff_iff.2; simp
    go_enter Tryd.func32, Tryd.ntmps32
    go_wp2
    go_ret
    rw [HF.out]
    exact ⟨rfl, rfl⟩
theorem index_any (l : List Int) (hl : l.length = 64) (a b : Int) (g : Nat) (p1 p2 : Addr) (w : World) (c1 : w.cell? p1 = some (.int .i64 a)) (c2 : w.cell? p2 = some (.int .i64 b)) (hg : Blk w g (ia l)) :
    Calls Tryd.prog 36 #[.slice (some ⟨g, 0, none⟩) 64 64, .func (Fn.func 32) #[] #[.pointer (some p1), .pointer (some p2)]] w fun e w' => (∃ r : Int, decide (0 ≤ r) = (!wiB l a b) ∧ e = .returned (.int .i64 r)) ∧ w = w' := by
  have HC := Lib.hid hg
  have HL := Lib.hid hl
  clear hg hl
  go_enter Tryd.func36, Tryd.ntmps36
  go_wp2
  go_loop [8] (fun i => ∃ k : Nat, k ≤ 64 ∧ i = .int .i64 k ∧ Hid (∀ j, j < k → a ≤ l.getD j 0 ∧ l.getD j 0 ≤ b)) (fun i => 64 - (intOf i).toNat)
  case atStart => exact ⟨0, by omega, rfl, (show Hid _ from fun j hj => by omega)⟩
  case round =>
    obtain ⟨k, hk, rfl, HN⟩ := hrel
    by_cases hk4 : k < 64
    · have hcell := HC.out.cell (ia_at (l := l) (j := k) (by rw [HL.out]; exact hk4))
      have HX : Hid (∀ y, l.getD k 0 = y → True) := fun _ _ => trivial
      cases hy : (decide (a ≤ l.getD k 0) && decide (l.getD k 0 ≤ b)) with
      | false =>
        have HY : Hid (wiB l a b = false) := by
          show _ = _
          refine wiB_no (k := k) (by rw [HL.out]; exact hk4) ?_
          simp only [Bool.and_eq_false_iff, decide_eq_false_iff_not] at hy
          omega
        have hc := clo_any (l.getD k 0) a b p1 p2 w c1 c2
        rw [hy] at hc
        clear HN hy HX
        generalize l.getD k 0 = x at *
        go_wp2_with ((with_reducible refine hc.mono ?_); rintro e w' ⟨rfl, rfl⟩)
        go_ret
        exact ⟨⟨_, by rw [HY.out]; simp, rfl⟩, rfl⟩
      | true =>
        have HY := Lib.hid hy
        have hc := clo_any (l.getD k 0) a b p1 p2 w c1 c2
        rw [hy] at hc
        clear hy HX
        generalize hgx : l.getD k 0 = x at *
        have HGX := Lib.hid hgx
        clear hgx
        go_wp2_with ((with_reducible refine hc.mono ?_); rintro e w' ⟨rfl, rfl⟩)
        go_round
        case rel =>
          refine ⟨k + 1, by omega, by go_num, (show Hid _ from fun j hj => ?_)⟩
          by_cases hjk : j = k
          · subst hjk
            rw [HGX.out]
            have := HY.out
            simp only [Bool.and_eq_true, decide_eq_true_eq] at this
            exact this
          · exact HN.out j (by omega)
        case measure => simp [intOf]; omega
    · obtain rfl : k = 64 := by omega
      have HY : Hid (wiB l a b = true) := wiB_of fun j hj => HN.out j (by rw [HL.out] at hj; exact hj)
      go_wp2
      go_ret
      exact ⟨⟨_, by rw [HY.out]; rfl, rfl⟩, rfl⟩
theorem contains_any (l : List Int) (hl : l.length = 64) (a b : Int) (g : Nat) (p1 p2 : Addr) (w : World) (c1 : w.cell? p1 = some (.int .i64 a)) (c2 : w.cell? p2 = some (.int .i64 b)) (hg : Blk w g (ia l)) :
    Calls Tryd.prog 31 #[.slice (some ⟨g, 0, none⟩) 64 64, .func (Fn.func 32) #[] #[.pointer (some p1), .pointer (some p2)]] w fun e w' => e = .returned (.bool (!wiB l a b)) ∧ w = w' := by
  have HK := Lib.hid (index_any l hl a b g p1 p2 w c1 c2 hg)
  clear hg hl
  go_enter Tryd.func31, Tryd.ntmps31
  go_wp2_with (go_at_call 36; (with_reducible refine HK.out.mono ?_); rintro e w' ⟨⟨r, hr, rfl⟩, rfl⟩; have HR := Lib.hid hr; clear hr)
  go_ret
  exact ⟨by rw [← HR.out]; rfl, rfl⟩
/-- Three new variables: a block, two numbers. -/
theorem box3 (w : World) (X : Array Value) (T : TypeId) (a b : Int) (U : TypeId) : ∃ w1, w1 = ((w.alloc (.cells X T)).alloc (.cells #[.int .i64 a] U)).alloc (.cells #[.int .i64 b] U) ∧ Blk w1 w.heap.size X ∧ Blk w1 (w.heap.size + 1) #[.int .i64 a] ∧ Blk w1 (w.heap.size + 1 + 1) #[.int .i64 b] ∧ Below w.heap.size w w1 := by
  refine ⟨_, rfl, ((Blk.new w X T).alloc _).alloc _, ?_, ?_, ?_⟩
  · have := (Blk.new (w.alloc (.cells X T)) #[.int .i64 a] U).alloc (.cells #[.int .i64 b] U)
    rwa [World.size_alloc] at this
  · have := Blk.new ((w.alloc (.cells X T)).alloc (.cells #[.int .i64 a] U)) #[.int .i64 b] U
    simp only [World.size_alloc] at this
    exact this
  · exact (((Below.refl _ w).alloc (Nat.le_refl _) _).alloc (by simp) _).alloc (by simp; omega) _
theorem within_any (l : List Int) (hl : l.length = 64) (a b : Int) (w : World) : Calls Tryd.prog 22 #[.agg (ia l), .int .i64 a, .int .i64 b] w fun e w' => e = .returned (.bool (wiB l a b)) ∧ Below w.heap.size w w' := by
  obtain ⟨w1, hw1, hb0, hb1, hb2, hB⟩ := box3 w (ia l) 23 a b 3
  have HK := Lib.hid (contains_any l hl a b w.heap.size ⟨w.heap.size + 1, 0, none⟩ ⟨w.heap.size + 1 + 1, 0, none⟩ w1 (hb1.cell rfl) (hb2.cell rfl) hb0)
  have HB := Lib.hid hB
  clear hb0 hb1 hb2 hB
  go_enter Tryd.func22, Tryd.ntmps22
  go_wp2_with (go_at_call 31; rw [← hw1]; (with_reducible refine HK.out.mono ?_); rintro e w' ⟨rfl, rfl⟩)
  go_ret
  exact ⟨by simp, by rw [← hw1]; exact HB.out⟩
theorem may_any (l : List Int) (hl : l.length = 64) (w : World) : Calls Tryd.prog 10 #[.agg (ia l)] w fun e w' => e = .returned (.bool (wiB l 1 255)) ∧ Below w.heap.size w w' := by
  obtain ⟨w1, hw1⟩ : ∃ w1, w1 = w.alloc (.cells (ia l) 23) := ⟨_, rfl⟩
  have H0 : Hid (Blk w1 w.heap.size (ia l)) := by rw [hw1]; exact Blk.new w _ _
  have HB : Hid (Below w.heap.size w w1) := by rw [hw1]; exact (Below.refl _ w).alloc (Nat.le_refl _) _
  have HS := Lib.hid (sizeB hl)
  have HW := Lib.hid (within_any l hl 1 255)
  go_enter Tryd.func10, Tryd.ntmps10
  go_wp2_with (first
    | (rw [← hw1]; (with_reducible refine wpList_loadB _ rfl 23 (.tmp 1) rfl _ Tryd.underlying23 rfl w.heap.size rfl (ia l) H0.out HS.out ?_))
    | (go_at_call 22; (with_reducible refine (HW.out _).mono ?_); rintro e w2 ⟨rfl, hb2⟩))
  go_ret
  refine ⟨rfl, HB.out.trans (Below.mono ?_ HB.out.size)⟩
  rw [hw1]
  simpa using hb2
end Go.Proofs.YtipmbffpokplgaaDoor
