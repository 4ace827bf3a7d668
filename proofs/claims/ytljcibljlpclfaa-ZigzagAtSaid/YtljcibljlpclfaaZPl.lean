/- Contract of Place. -/
import Derived.Test.YtljcibljlpclfaaZOrd
namespace Go.Proofs.Ytljcibljlpclfaa
open Go.RowKit Go.Shelf Go.Lib
attribute [local go_sem] Oper.semAt_some
set_option linter.unusedVariables false

/-- The step of a place; the place of a step. -/
def placeS (x : Int) : Int := if 0 ≤ x ∧ x < 64 then ((zq x.toNat : Nat) : Int) else -1
def atS (x : Int) : Int := if 0 ≤ x ∧ x < 64 then ((za x.toNat : Nat) : Int) else -1
theorem placeS_of {m : Nat} (hm : m < 64) : placeS ((za m : Nat) : Int) = (m : Int) := by
  have h1 := za_lt m hm
  unfold placeS
  rw [if_pos (by omega), Int.toNat_natCast, zq_za m hm]
theorem placeS_none {x : Int} (h : ∀ m : Fin 64, ((za m.val : Nat) : Int) ≠ x) : placeS x = -1 := by
  unfold placeS
  split
  · rename_i hx
    have h1 := zq_lt x.toNat (by omega)
    have h2 := h ⟨zq x.toNat, h1⟩
    simp only [za_zq x.toNat (by omega)] at h2
    omega
  · rfl

set_option maxRecDepth 100000 in
set_option maxHeartbeats 2000000 in
theorem place_any (x : Int) (w : World) : Calls Try.prog 8 #[.int .i64 x] w fun e w' => e = .returned (.int .i64 (placeS x)) ∧ Below w.heap.size w w' := by
  refine (callsIn_wide (n := 3)).1 (callsIn_of_wp_marks (F := Fence.wide) (n := 3) Try.func8 rfl trivial ?_ rfl)
  refine wpIn_wide.2 ?_
  simp only [Try.ntmps8, List.size_toArray, List.length_cons, List.length_nil, Nat.reduceAdd, Nat.reduceSub, Array.replicate_succ, Array.replicate_zero, List.push_toArray, List.append_toArray, List.nil_append, List.cons_append]
  go_wp2
  have k0 := (Blk.new w #[.int .i64 x] 3).alloc (.cells #[.int .i64 0] 3)
  have k1 := Blk.new (w.alloc (.cells #[.int .i64 x] 3)) #[.int .i64 0] 3
  rw [World.size_alloc] at k1
  have c0 := k0.cell (j := 0) (v := .int .i64 x) rfl
  have c1 := k1.cell (j := 0) (v := .int .i64 0) rfl
  have c2 := k1.frozen 0
  clear k0 k1
  have hB0 : Below w.heap.size w ((w.alloc (.cells #[.int .i64 x] 3)).alloc (.cells #[.int .i64 0] 3)) := ((Below.refl _ w).alloc (Nat.le_refl _) _).alloc (by simp) _
  refine (wpIn_wide (n := 3)).1 ?_
  refine wpIn_rangeFunc_ownF rfl (by omega) (gf := 19) (lb := #[]) rfl trivial (enters_of Try.func19 (by kernel_rfl) rfl)
    (visits_stops Fence.wide 2 trivial rfl (by omega) _) (fun _ _ => trivial) (fun _ _ _ _ _ _ _ _ => trivial) (Below.refl _ _) (fun _ => rfl)
    (fun pre W => ((∀ m ∈ pre, ((za m.val : Nat) : Int) ≠ x) ∧ W.cell? ⟨w.heap.size, 0, none⟩ = some (.int .i64 x) ∧ W.cell? ⟨w.heap.size + 1, 0, none⟩ = some (.int .i64 0) ∧ W.frozen? ⟨w.heap.size + 1, 0, none⟩ = false) ∧ Below w.heap.size w W)
    (fun c pre W => (c = .ret ∧ ∃ m : Fin 64, ((za m.val : Nat) : Int) = x ∧ W.cell? ⟨w.heap.size + 1, 0, none⟩ = some (.int .i64 (m.val : Int))) ∧ Below w.heap.size w W)
    (OwnFrom.and (Own.from (fun s A B row hs hg hr => ⟨hs.1, cell_kept hs.2.1 hg hr, cell_kept hs.2.2.1 hg hr, (frozen_kept hs.2.2.1 hg hr).trans hs.2.2.2⟩) _) (ownFrom_below (Nat.le_refl _) (by simp; omega)))
    (fun c => OwnFrom.and (Own.from (fun s A B row hs hg hr => by obtain ⟨hc, m, hm, hcell⟩ := hs; exact ⟨hc, m, hm, cell_kept hcell hg hr⟩) _) (ownFrom_below (Nat.le_refl _) (by simp; omega)))
    ⟨⟨by simp, c0, c1, c2⟩, hB0⟩
    (fun m => { tmps := #[.int .i64 x, .pointer (some ⟨w.heap.size, 0, none⟩), .pointer (some ⟨w.heap.size + 1, 0, none⟩), .int .i64 (m.val : Int), .int .i64 ((za m.val : Nat) : Int), .int .i64 (m.val : Int), .int .i64 ((za m.val : Nat) : Int), undef, undef, undef, undef], defers := [] }) ?assign ?body ?done ?stop
  case assign =>
    intro l m W K hK
    gi_wp2
    exact hK
  case body =>
    rintro l pre ⟨m, hm⟩ W ⟨⟨hp, hcx, hcr, hfr⟩, hB⟩ _
    have HP := Lib.hid hp
    clear hp
    dsimp only
    generalize hz : za m = z at *
    have HZ := Lib.hid hz
    clear hz
    by_cases hzx : (z : Int) = x
    · have hb : ((z : Int) == x) = true := by simp [hzx]
      have HX := Lib.hid hzx
      clear hzx
      gi_wp2
      refine ⟨KeepsOthers.setCell _ _ _, ⟨rfl, ⟨m, hm⟩, by show ((za m : Nat) : Int) = x; rw [HZ.out]; exact HX.out, World.cell?_setCell_same' _ _ _ (by rw [hcr]; rfl)⟩, hB.setCell (p := ⟨w.heap.size + 1, 0, none⟩) (by simp) _⟩
    · have hb : ((z : Int) == x) = false := by simp [hzx]
      have HX := Lib.hid hzx
      clear hzx
      gi_wp2
      refine ⟨KeepsOthers.refl _, trivial, ⟨fun m' h' => ?_, hcx, hcr, hfr⟩, hB⟩
      rcases List.mem_append.1 h' with h' | h'
      · exact HP.out m' h'
      · obtain rfl : m' = ⟨m, hm⟩ := by simpa using h'
        show ((za m : Nat) : Int) ≠ x
        rw [HZ.out]; exact HX.out
  case done =>
    rintro D ys W hD rfl ⟨⟨hne, _, hcr, hfr⟩, hB⟩ hK
    have hf := Lib.hid (placeS_none (x := x) fun m => hne m (by unfold fr; exact List.mem_finRange m))
    clear hne
    go_wp2
    have hK' := (KeepsOthers.setCell W ⟨w.heap.size + 1, 0, none⟩ (.int .i64 (-1))).same D _ hK rfl
    refine ⟨by simp, .inl ⟨_, _, rfl, run_takeDeferred hK', ?_⟩⟩
    have hc5 := cell_kept (World.cell?_setCell_same' W ⟨w.heap.size + 1, 0, none⟩ (.int .i64 (-1)) (by rw [hcr]; rfl)) (grownBy_putObj' _ D (.deferred none)) (fun r e => by cases e; exact ⟨_, hK', rfl⟩)
    refine ⟨.int .i64 (-1), ?_, by rw [hf.out], (hB.setCell (p := ⟨w.heap.size + 1, 0, none⟩) (by simp) _).trans (belowK_b (w := w) (Nat.le_refl _) _ D _ _ (by simp at hD; omega) hK' rfl rfl)⟩
    simp [results, Try.f8, go_sem, hc5]
  case stop =>
    rintro D c pre W hD hpre ⟨⟨rfl, m, hm, hcr⟩, hB⟩ hK
    have hf : placeS x = (m.val : Int) := by rw [← hm]; exact placeS_of m.isLt
    refine wpIn_wide.2 ?_
    go_wp2
    refine ⟨by simp, .inl ⟨_, _, rfl, run_takeDeferred hK, ?_⟩⟩
    have hc5 := cell_kept hcr (grownBy_putObj' _ D (.deferred none)) (fun r e => by cases e; exact ⟨_, hK, rfl⟩)
    refine ⟨.int .i64 (m.val : Int), ?_, by rw [hf], hB.trans (belowK_b (w := w) (Nat.le_refl _) W D _ _ (by simp at hD; omega) hK rfl rfl)⟩
    simp [results, Try.f8, go_sem, hc5]
end Go.Proofs.Ytljcibljlpclfaa
