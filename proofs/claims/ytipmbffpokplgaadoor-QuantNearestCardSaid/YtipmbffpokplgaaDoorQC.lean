/- Contracts: percentages, quotients, products; the closures; what a closure computes, as a block (computed). -/
import Derived.Test.YtipmbffpokplgaaDoorQW
import Derived.Test.YtipmbffpokplgaaDoorDrw
namespace Go.Proofs.YtipmbffpokplgaaDoor
open Go.RowKit Go.Lib
set_option linter.unusedVariables false
set_option maxRecDepth 100000
theorem perc_any (k : Int) (h1 : 1 ≤ k) (h2 : k ≤ 100) (w : World) : Calls Tryd.prog 19 #[.int .i64 k] w fun e w' => e = .returned (.int .i64 (pcS k)) ∧ w = w' := by
  by_cases h : k < 50
  · have HF : Hid (pcS k = (5000 : Int).tdiv k) := by show _ = _; unfold pcS; rw [if_pos h]
    have hb := pc_bnd h1 h2
    rw [HF.out] at hb
    have h0 : ¬ k = 0 := by omega
    have hz : (k == 0) = false := by simp [h0]
    generalize hG : (5000 : Int).tdiv k = G at *
    go_enter Tryd.func19, Tryd.ntmps19
    go_wp2
    go_ret
    rw [HF.out]
    exact ⟨rfl, rfl⟩
  · have HF : Hid (pcS k = 2 * (100 - k)) := by show _ = _; unfold pcS; rw [if_neg h]
    go_enter Tryd.func19, Tryd.ntmps19
    go_wp2
    go_ret
    rw [HF.out]
    exact ⟨rfl, rfl⟩
theorem prod_any (x y : Int) (h1 : -1048576 ≤ x) (h2 : x ≤ 1048576) (h3 : 1 ≤ y) (h4 : y ≤ 255) (w : World) : Calls Tryd.prog 28 #[.int .i64 x, .int .i64 y] w fun e w' => e = .returned (.int .i64 (x * y)) ∧ w = w' := by
  have hb := mul_bnd h1 h2 h3 h4
  generalize hG : x * y = G at *
  obtain ⟨b1, b2⟩ := hb
  go_enter Tryd.func28, Tryd.ntmps28
  go_wp2
  go_ret
  exact ⟨rfl, rfl⟩
theorem quo_any (x y : Int) (h1 : -1048576 ≤ x) (h2 : x ≤ 1048576) (h3 : 1 ≤ y) (h4 : y ≤ 255) (w : World) : Calls Tryd.prog 27 #[.int .i64 x, .int .i64 y] w fun e w' => e = .returned (.int .i64 (qoE x y)) ∧ w = w' := by
  have hq := qo_bnd (x := x) h3 (B := 1048576) (by omega) h1 h2
  have hhb : 0 ≤ y.tdiv 2 ∧ y.tdiv 2 ≤ 127 := by rw [tdiv_pos (by omega)]; omega
  have h0 : ¬ y = 0 := by omega
  have hz : (y == 0) = false := by simp [h0]
  by_cases h : x < 0
  · have HF : Hid (qoE x y = (x + -(y.tdiv 2)).tdiv y) := by show _ = _; unfold qoE haE; rw [if_pos h]
    rw [HF.out] at hq
    generalize hH : y.tdiv 2 = H at *
    generalize hG : (x + -H).tdiv y = G at *
    obtain ⟨b1, b2⟩ := hq
    obtain ⟨b3, b4⟩ := hhb
    go_enter Tryd.func27, Tryd.ntmps27
    go_wp2
    go_ret
    rw [HF.out]
    exact ⟨rfl, rfl⟩
  · have HF : Hid (qoE x y = (x + y.tdiv 2).tdiv y) := by show _ = _; unfold qoE haE; rw [if_neg h]
    rw [HF.out] at hq
    generalize hH : y.tdiv 2 = H at *
    generalize hG : (x + H).tdiv y = G at *
    obtain ⟨b1, b2⟩ := hq
    obtain ⟨b3, b4⟩ := hhb
    go_enter Tryd.func27, Tryd.ntmps27
    go_wp2
    go_ret
    rw [HF.out]
    exact ⟨rfl, rfl⟩
theorem ret_i {k : IntKind} {a b : Int} (h : a = b) : Ending.returned (.int k a) = .returned (.int k b) := by rw [h]
/-- Scaled's closure. -/
theorem cloS_any (q : List Int) (hl : q.length = 64) (h : wiB q 1 255 = true) (p : Int) (hp0 : 0 ≤ p) (hp1 : p ≤ 5000) (g c : Nat) (k : Nat) (hk : k < 64) (w : World) (hg : Blk w g (ia q)) (hc : w.cell? ⟨c, 0, none⟩ = some (.int .i64 p)) :
    Calls Tryd.prog 21 #[.int .i64 k, .pointer (some ⟨g, 0, none⟩), .pointer (some ⟨c, 0, none⟩)] w fun e w' => e = .returned (.int .i64 (scE (q.getD k 0) p)) ∧ Below w.heap.size w w' := by
  have hcell := hg.cell (ia_at (l := q) (j := k) (by omega))
  have hx := wiB_at h (k := k) (by omega)
  have hb := mul_bnd2 hx.1 hx.2 hp0 hp1
  have HW := Lib.hid (Below.refl w.heap.size w)
  generalize q.getD k 0 = x at *
  have hd : 0 ≤ (x * p + 50).tdiv 100 ∧ (x * p + 50).tdiv 100 ≤ 12750 := by rw [tdiv_pos (by omega)]; omega
  have HF : Hid (scE x p = min (max ((x * p + 50).tdiv 100) 1) 255) := rfl
  clear h hg hx
  generalize hm : x * p = m at *
  generalize hG : (m + 50).tdiv 100 = G at *
  obtain ⟨b1, b2⟩ := hb
  obtain ⟨b3, b4⟩ := hd
  go_enter Tryd.func21, Tryd.ntmps21
  go_wp2
  go_quiet (fail)
  go_wp2
  all_goals
    go_ret
    refine ⟨ret_i ?_, dN HW.out _⟩
    have := HF.out
    omega
end Go.Proofs.YtipmbffpokplgaaDoor
