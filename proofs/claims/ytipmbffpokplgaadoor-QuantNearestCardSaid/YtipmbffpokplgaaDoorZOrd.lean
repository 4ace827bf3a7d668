/- Contract of the order: the places of all steps. -/
import Derived.Test.YtipmbffpokplgaaDoorZVis
namespace Go.Proofs.YtipmbffpokplgaaDoor
open Go.RowKit Go.Shelf Go.Lib
attribute [local go_sem] Oper.semAt_some
set_option linter.unusedVariables false

/-- The order as ints. -/
def zi : List Int := zl.map fun (n : Nat) => (n : Int)
def fill (pre : List (Fin 64)) : List Int := pre.foldl (fun l m => l.set m.val ((za m.val : Nat) : Int)) (List.replicate 64 0)
theorem fill_snoc (pre : List (Fin 64)) (m : Fin 64) : fill (pre ++ [m]) = (fill pre).set m.val ((za m.val : Nat) : Int) := by simp [fill]
theorem fill_all : fill fr = zi := by decide +kernel
theorem fill_len (pre : List (Fin 64)) : (fill pre).length = 64 := by
  have : ∀ (l : List Int), (pre.foldl (fun l m => l.set m.val ((za m.val : Nat) : Int)) l).length = l.length := by
    induction pre with
    | nil => intro l; rfl
    | cons m pre ih => intro l; rw [List.foldl_cons, ih, List.length_set]
  rw [fill, this]; rfl
theorem zi_len : zi.length = 64 := by decide +kernel
theorem zi_at {m : Nat} (h : m < 64) : zi.getD m 0 = ((za m : Nat) : Int) := by
  have : ∀ m, m < 64 → zi.getD m 0 = ((za m : Nat) : Int) := by decide +kernel
  exact this m h
theorem Blk.own {β : Type} (g : Nat) (f : β → Array Value) : Own (fun (s : β) W => Blk W g (f s)) := fun s A B row hs hg hr => by
  obtain ⟨T, h⟩ := hs
  refine ⟨T, (hg.block g (Array.getElem?_eq_some_iff.1 h).1 (fun e => ?_)).trans h⟩
  obtain ⟨o, ho, hc⟩ := hr g e.symm
  rw [h] at ho; cases ho; cases hc
theorem zero64 : (Tryd.prog.info? 22).map (fun i => i.zero) = some (some (.agg (ia (List.replicate 64 0)))) := by kernel_rfl
theorem size64 : (Tryd.prog.info? 22).map (·.size) = some 64 := by kernel_rfl

set_option maxRecDepth 100000 in
set_option maxHeartbeats 2000000 in
theorem order_any (w : World) : Calls Tryd.prog 30 #[] w fun e w' => e = .returned (.agg (ia zi)) ∧ Below w.heap.size w w' := by
  refine (callsIn_wide (n := 3)).1 (callsIn_of_wp_marks (F := Fence.wide) (n := 3) Tryd.func30 rfl trivial ?_ rfl)
  refine wpIn_wide.2 ?_
  simp only [Tryd.ntmps30, List.size_toArray, List.length_nil, Nat.reduceSub, Array.replicate_succ, Array.replicate_zero, List.push_toArray, List.append_toArray, List.nil_append, List.cons_append]
  have HZ := Lib.hid zero64
  have HB0 := Lib.hid ((Blk.new w (ia (List.replicate 64 0)) 22).alloc (.cells (ia (List.replicate 64 0)) 22))
  have HB1 := Lib.hid (Blk.new (w.alloc (.cells (ia (List.replicate 64 0)) 22)) (ia (List.replicate 64 0)) 22)
  rw [World.size_alloc] at HB1
  have HW := Lib.hid (((Below.refl w.heap.size w).alloc (Nat.le_refl _) (.cells (ia (List.replicate 64 0)) 22)).alloc (by simp) (.cells (ia (List.replicate 64 0)) 22))
  go_wp2_with (first
    | (with_reducible refine wpList_allocZ _ rfl 22 rfl (ia (List.replicate 64 0)) HZ.out ?_))
  go_frame
  simp only [World.size_alloc]
  obtain ⟨w2, hw2⟩ : ∃ w2, w2 = (w.alloc (.cells (ia (List.replicate 64 0)) 22)).alloc (.cells (ia (List.replicate 64 0)) 22) := ⟨_, rfl⟩
  have hsz : w2.heap.size = w.heap.size + 1 + 1 := by rw [hw2]; simp
  rw [← hw2] at HB0 HB1 HW ⊢
  clear hw2 HZ
  refine (wpIn_wide (n := 3)).1 ?_
  refine wpIn_rangeFunc_ownF rfl (by omega) (gf := 35) (lb := #[]) rfl trivial (enters_of Tryd.func35 (by kernel_rfl) rfl)
    (visits_stops Fence.wide 2 trivial rfl (by omega) _) (fun _ _ => trivial) (fun _ _ _ _ _ _ _ _ => trivial) (Below.refl _ _) (fun _ => rfl)
    (fun pre W => (Blk W w.heap.size (ia (List.replicate 64 0)) ∧ Blk W (w.heap.size + 1) (ia (fill pre))) ∧ Below w.heap.size w W)
    (fun _ _ _ => False)
    (OwnFrom.and (OwnFrom.and ((Blk.own _ fun _ => _).from _) ((Blk.own _ fun pre => ia (fill pre)).from _)) (ownFrom_below (Nat.le_refl _) (by omega)))
    (fun _ _ _ _ _ hs _ _ => hs)
    ⟨⟨HB0.out, HB1.out⟩, HW.out⟩
    (fun x => { tmps := #[.pointer (some ⟨w.heap.size, 0, none⟩), .pointer (some ⟨w.heap.size + 1, 0, none⟩), .int .i64 (x.val : Int), .int .i64 ((za x.val : Nat) : Int), .int .i64 (x.val : Int), .int .i64 ((za x.val : Nat) : Int), undef, undef, undef, undef], defers := [] }) ?assign ?body ?done ?stop
  case assign =>
    intro l x W K hK
    gi_wp2
    exact hK
  case body =>
    rintro l pre ⟨m, hm⟩ W ⟨⟨h0, h1⟩, hB⟩ _
    have hc := h1.cell (ia_at (j := m) (by rw [fill_len]; exact hm))
    have hf := h1.frozen m
    have H0 := Lib.hid h0
    have H1 := Lib.hid h1
    clear h0 h1
    dsimp only
    generalize hz : za m = z at *
    have HZ := Lib.hid hz
    clear hz
    gi_wp2
    refine ⟨KeepsOthers.setCell _ _ _, trivial, ⟨H0.out.other (by simp) _, ?_⟩, hB.setCell (p := ⟨w.heap.size + 1, m, none⟩) (by simp) _⟩
    rw [fill_snoc]
    show Blk _ _ (ia ((fill pre).set m ((za m : Nat) : Int)))
    rw [HZ.out]
    exact H1.out.set_int m z
  case done =>
    rintro D ys W hD rfl ⟨⟨h0, h1⟩, hB⟩ hK
    rw [fill_all] at h1
    have H0 := Lib.hid h0
    have H1 := Lib.hid h1
    have HI : Hid ((Tryd.prog.info? 22).map (·.size) = some (ia zi).size) := by show _ = _; rw [ia_size, zi_len]; exact size64
    have HS : Hid ((ia (List.replicate 64 0)).size = (ia zi).size) := by show _ = _; rw [ia_size, ia_size, zi_len]; rfl
    have HO : Hid (∀ v ∈ (ia zi).toList, v.oneCell' = true) := iv_one zi
    clear h0 h1
    go_wp2_with (first
      | (with_reducible refine wpList_loadB _ rfl 22 (.tmp 1) rfl _ Tryd.underlying22 rfl (w.heap.size + 1) rfl (ia zi) H1.out HI.out ?_)
      | ((with_reducible refine wpList_storeB _ rfl 22 (.tmp 0) (.tmp 9) rfl w.heap.size rfl (ia (List.replicate 64 0)) H0.out (ia zi) rfl HI.out HS.out HO.out ?_)
         intro w3 hb3 hc3 hs3))
    have hD2 : D < W.heap.size := (Array.getElem?_eq_some_iff.1 hK).1
    have hK3 : w3.heap[D]? = some (.deferred (some [])) := (hc3.block D hD2 (by omega)).trans hK
    have hB3 : Below w.heap.size w w3 := hB.trans (hc3.below hB.size (fun i e => by omega))
    refine ⟨by simp, .inl ⟨_, _, rfl, run_takeDeferred hK3, ?_⟩⟩
    refine ⟨.agg (ia zi), ?_, rfl, hB3.trans (belowK_b (w := w) (Nat.le_refl _) w3 D _ _ (by omega) hK3 rfl rfl)⟩
    refine results_cell rfl _ _ _ Tryd.underlying22 rfl w.heap.size (ia zi) rfl (fun j v hv => ?_) HI.out
    exact (Blk.own w.heap.size (fun _ => ia zi) () w3 _ (some D) hb3 (grownBy_putObj' w3 D _) (fun r e => by cases e; exact ⟨_, hK3, rfl⟩)).cell hv
  case stop =>
    rintro D c pre W _ _ h _
    exact h.elim
end Go.Proofs.YtipmbffpokplgaaDoor
