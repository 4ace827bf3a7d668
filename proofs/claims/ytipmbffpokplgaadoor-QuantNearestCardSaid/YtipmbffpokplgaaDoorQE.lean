/- Contracts: Scaled, combined, Divide, Multiply. -/
import Derived.Test.YtipmbffpokplgaaDoorQD
namespace Go.Proofs.YtipmbffpokplgaaDoor
open Go.RowKit Go.Lib
set_option linter.unusedVariables false
set_option maxRecDepth 100000
/-- What comes back: a variable of several cells, and a slot. -/
theorem results_cs {fn : Func} {p q : Tmp} {ty : TypeId} (h : fn.results = #[.cell p ty, .tmp q]) (tmps : Array Value) (w : World) (d : TypeDesc) (hu : Tryd.prog.underlying ty = some d) (hd : aggD d = true) (g : Nat) (X : Array Value) (v : Value)
    (hp : tmps.getD p undef = .pointer (some ⟨g, 0, none⟩)) (hq : tmps.getD q undef = v) (hg : ∀ (j : Nat) (v : Value), X[j]? = some v → w.cell? ⟨g, j, none⟩ = some v) (hi : (Tryd.prog.info? ty).map (·.size) = some X.size) :
    (results fn tmps).run Tryd.prog w = .ok (.tuple #[.agg X, v]) w := by
  have hp' : tmps[p]?.getD undef = .pointer (some ⟨g, 0, none⟩) := by simpa using hp
  have hq' : tmps[q]?.getD undef = v := by simpa using hq
  have hl := run_loadVarP w ty d hu hd g 0 X (fun j v hv => by rw [Nat.zero_add]; exact hg j v hv) hi
  simp [results, h, hp', hq', asAddr, hl]
theorem zeros_len : zeros.length = 64 := by decide +kernel
theorem same_size {l m : List Int} (hl : l.length = 64) (hm : m.length = 64) : (ia l).size = (ia m).size := by rw [ia_size, ia_size, hl, hm]
/-- Four new variables. -/
theorem four_blk (w : World) (X0 X1 X2 X3 : Array Value) (T0 T1 T2 T3 : TypeId) : ∃ w1, w1 = (((w.alloc (.cells X0 T0)).alloc (.cells X1 T1)).alloc (.cells X2 T2)).alloc (.cells X3 T3) ∧ Blk w1 w.heap.size X0 ∧ Blk w1 (w.heap.size + 1) X1 ∧ Blk w1 (w.heap.size + 1 + 1) X2 ∧ Blk w1 (w.heap.size + 1 + 1 + 1) X3 ∧ Below w.heap.size w w1 := by
  refine ⟨_, rfl, (((Blk.new w X0 T0).alloc _).alloc _).alloc _, ?_, ?_, ?_, ?_⟩
  · have := ((Blk.new (w.alloc (.cells X0 T0)) X1 T1).alloc (.cells X2 T2)).alloc (.cells X3 T3)
    rwa [World.size_alloc] at this
  · have := (Blk.new ((w.alloc (.cells X0 T0)).alloc (.cells X1 T1)) X2 T2).alloc (.cells X3 T3)
    simp only [World.size_alloc] at this
    exact this
  · have := Blk.new (((w.alloc (.cells X0 T0)).alloc (.cells X1 T1)).alloc (.cells X2 T2)) X3 T3
    simp only [World.size_alloc] at this
    exact this
  · exact ((((Below.refl _ w).alloc (Nat.le_refl _) _).alloc (by simp) _).alloc (by simp; omega) _).alloc (by simp; omega) _
set_option maxHeartbeats 2000000 in
theorem comb_no (f : Nat) (b q : List Int) (hb : b.length = 64) (hq : q.length = 64) (hn : wiB q 1 255 = true → wiB b (-1048576) 1048576 = false) (w : World) :
    Calls Tryd.prog 26 #[.agg (ia b), .agg (ia q), .func (Fn.func f) #[] #[]] w fun e w' => e = .returned (.tuple #[.agg (ia zeros), .int .i64 1]) ∧ Below w.heap.size w w' := by
  obtain ⟨w1, hw1, hb0, hb1, hb2, hb3, hB⟩ := four_blk w (ia b) (ia q) #[.func (Fn.func f) #[] #[]] (ia zeros) 23 23 44 23
  have HZ := Lib.hid zeroB
  have HSB := Lib.hid (sizeB hb)
  have HSQ := Lib.hid (sizeB hq)
  have HSZ := Lib.hid (sizeB zeros_len)
  have HO := Lib.hid (one_ia zeros)
  have HM := Lib.hid (may_any q hq)
  have HWI := Lib.hid (within_any b hb (-1048576) 1048576)
  have K0 := Lib.hid hb0
  have K1 := Lib.hid hb1
  have K3 := Lib.hid hb3
  have KB := Lib.hid hB
  have HN := Lib.hid hn
  clear hb0 hb1 hb2 hb3 hB hb hq hn
  go_enter Tryd.func26, Tryd.ntmps26
  cases hm : wiB q 1 255 with
  | false =>
    rw [hm] at HM
    clear HN
    go_wp2_with (first
      | (with_reducible refine wpList_allocZ _ rfl 23 rfl (ia zeros) HZ.out ?_)
      | (rw [← hw1]; (with_reducible refine wpList_loadB _ rfl 23 (.tmp 4) rfl _ Tryd.underlying23 rfl (w.heap.size + 1) rfl (ia q) K1.out HSQ.out ?_))
      | (go_at_call 10; (with_reducible refine (HM.out _).mono ?_); rintro e w2 ⟨rfl, hb2⟩; replace hb2 : Below w1.heap.size w1 w2 := (by rw [hw1]; simpa using hb2); have J3 := Lib.hid (K3.out.below hb2); have JB := Lib.hid (KB.out.trans (hb2.mono KB.out.size)); clear hb2)
      | ((refine wpList_storeB _ rfl 23 (.tmp 6) (.tmp 16) rfl (w.heap.size + 1 + 1 + 1) rfl (ia zeros) J3.out (ia zeros) (by rfl) HSZ.out rfl HO.out ?_)
         intro w3 hb3 hc3 hs3))
    refine bodyPost_ret (results_cs rfl _ _ _ Tryd.underlying23 rfl (w.heap.size + 1 + 1 + 1) (ia zeros) (.int .i64 1) rfl rfl (fun j v hv => hb3.cell hv) HSZ.out) rfl ?_
    exact ⟨rfl, JB.out.trans (hc3.below JB.out.size (fun i e => by omega))⟩
  | true =>
    rw [hm] at HM
    rw [HN.out hm] at HWI
    clear HN
    go_wp2_with (first
      | (with_reducible refine wpList_allocZ _ rfl 23 rfl (ia zeros) HZ.out ?_)
      | (rw [← hw1]; (with_reducible refine wpList_loadB _ rfl 23 (.tmp 4) rfl _ Tryd.underlying23 rfl (w.heap.size + 1) rfl (ia q) K1.out HSQ.out ?_))
      | (go_at_call 10; (with_reducible refine (HM.out _).mono ?_); rintro e w2 ⟨rfl, hb2⟩; replace hb2 : Below w1.heap.size w1 w2 := (by rw [hw1]; simpa using hb2); have J0 := Lib.hid (K0.out.below hb2); have J3 := Lib.hid (K3.out.below hb2); have JB := Lib.hid (KB.out.trans (hb2.mono KB.out.size)); clear hb2)
      | (refine wpList_open (by rfl) (wpList_loadB _ rfl 23 (.tmp 3) rfl _ Tryd.underlying23 rfl w.heap.size rfl (ia b) J0.out HSB.out ?_))
      | (go_at_call 22; (with_reducible refine (HWI.out _).mono ?_); rintro e w3 ⟨rfl, hb3⟩; have L3 := Lib.hid (J3.out.below hb3); have LB := Lib.hid (JB.out.trans (hb3.mono JB.out.size)); clear hb3)
      | ((refine wpList_storeB _ rfl 23 (.tmp 6) (.tmp 16) rfl (w.heap.size + 1 + 1 + 1) rfl (ia zeros) L3.out (ia zeros) (by rfl) HSZ.out rfl HO.out ?_)
         intro w4 hb4 hc4 hs4))
    refine bodyPost_ret (results_cs rfl _ _ _ Tryd.underlying23 rfl (w.heap.size + 1 + 1 + 1) (ia zeros) (.int .i64 1) rfl rfl (fun j v hv => hb4.cell hv) HSZ.out) rfl ?_
    exact ⟨rfl, LB.out.trans (hc4.below LB.out.size (fun i e => by omega))⟩
set_option maxHeartbeats 2000000 in
theorem combQ_yes (b q : List Int) (hb : b.length = 64) (hq : q.length = 64) (h1 : wiB q 1 255 = true) (h2 : wiB b (-1048576) 1048576 = true) (w : World) :
    Calls Tryd.prog 26 #[.agg (ia b), .agg (ia q), .func (Fn.func 27) #[] #[]] w fun e w' => e = .returned (.tuple #[.agg (ia (dvL b q)), .int .i64 0]) ∧ Below w.heap.size w w' := by
  obtain ⟨w1, hw1, hb0, hb1, hb2, hb3, hB⟩ := four_blk w (ia b) (ia q) #[.func (Fn.func 27) #[] #[]] (ia zeros) 23 23 44 23
  have HZ := Lib.hid zeroB
  have HSB := Lib.hid (sizeB hb)
  have HSQ := Lib.hid (sizeB hq)
  have HSZ := Lib.hid (sizeB (mapB_len (fun i => qoE (b.getD i 0) (q.getD i 0))))
  have HE : Hid ((ia zeros).size = (ia (mapB (fun i => qoE (b.getD i 0) (q.getD i 0)))).size) := same_size zeros_len (mapB_len _)
  have HO := Lib.hid (one_ia (mapB (fun i => qoE (b.getD i 0) (q.getD i 0))))
  have HM := Lib.hid (may_any q hq)
  have HWI := Lib.hid (within_any b hb (-1048576) 1048576)
  have HCO := Lib.hid (fun W hc => compQ_any b q hb hq h1 h2 (w.heap.size + 1 + 1) w.heap.size (w.heap.size + 1) W hc)
  have KC : Hid (Cq 27 (w.heap.size + 1 + 1) w.heap.size (w.heap.size + 1) b q w1) := ⟨hb2, hb0, hb1⟩
  have K3 := Lib.hid hb3
  have KB := Lib.hid hB
  rw [h1] at HM
  rw [h2] at HWI
  have HR : Hid (dvL b q = mapB (fun i => qoE (b.getD i 0) (q.getD i 0))) := rfl
  clear hb0 hb1 hb2 hb3 hB hb hq h1 h2
  generalize mapB (fun i => qoE (b.getD i 0) (q.getD i 0)) = r at *
  go_enter Tryd.func26, Tryd.ntmps26
  go_wp2_with (first
    | (with_reducible refine wpList_allocZ _ rfl 23 rfl (ia zeros) HZ.out ?_)
    | (rw [← hw1]; (with_reducible refine wpList_loadB _ rfl 23 (.tmp 4) rfl _ Tryd.underlying23 rfl (w.heap.size + 1) rfl (ia q) KC.out.qb HSQ.out ?_))
    | (go_at_call 10; (with_reducible refine (HM.out _).mono ?_); rintro e w2 ⟨rfl, hb2⟩; replace hb2 : Below w1.heap.size w1 w2 := (by rw [hw1]; simpa using hb2); have JC := Lib.hid (KC.out.below hb2); have J3 := Lib.hid (K3.out.below hb2); have JB := Lib.hid (KB.out.trans (hb2.mono KB.out.size)); clear hb2)
    | (refine wpList_open (by rfl) (wpList_loadB _ rfl 23 (.tmp 3) rfl _ Tryd.underlying23 rfl w.heap.size rfl (ia b) JC.out.bb HSB.out ?_))
    | (go_at_call 22; (with_reducible refine (HWI.out _).mono ?_); rintro e w3 ⟨rfl, hb3⟩; have LC := Lib.hid (JC.out.below hb3); have L3 := Lib.hid (J3.out.below hb3); have LB := Lib.hid (JB.out.trans (hb3.mono JB.out.size)); clear hb3)
    | (go_at_call 20; (with_reducible refine (HCO.out _ LC.out).mono ?_); rintro e w4 ⟨rfl, hb4⟩; have M3 := Lib.hid (L3.out.below hb4); have MB := Lib.hid (LB.out.trans (hb4.mono LB.out.size)); clear hb4)
    | ((with_reducible refine wpList_storeB _ rfl 23 (.tmp 6) (.tmp 18) rfl (w.heap.size + 1 + 1 + 1) rfl (ia zeros) M3.out (ia r) rfl HSZ.out HE.out HO.out ?_)
       intro w5 hb5 hc5 hs5))
  refine bodyPost_ret (results_cs rfl _ _ _ Tryd.underlying23 rfl (w.heap.size + 1 + 1 + 1) (ia r) (.int .i64 0) rfl rfl (fun j v hv => hb5.cell hv) HSZ.out) rfl ?_
  rw [HR.out]
  exact ⟨rfl, MB.out.trans (hc5.below MB.out.size (fun i e => by omega))⟩
set_option maxHeartbeats 2000000 in
theorem combP_yes (b q : List Int) (hb : b.length = 64) (hq : q.length = 64) (h1 : wiB q 1 255 = true) (h2 : wiB b (-1048576) 1048576 = true) (w : World) :
    Calls Tryd.prog 26 #[.agg (ia b), .agg (ia q), .func (Fn.func 28) #[] #[]] w fun e w' => e = .returned (.tuple #[.agg (ia (mlL b q)), .int .i64 0]) ∧ Below w.heap.size w w' := by
  obtain ⟨w1, hw1, hb0, hb1, hb2, hb3, hB⟩ := four_blk w (ia b) (ia q) #[.func (Fn.func 28) #[] #[]] (ia zeros) 23 23 44 23
  have HZ := Lib.hid zeroB
  have HSB := Lib.hid (sizeB hb)
  have HSQ := Lib.hid (sizeB hq)
  have HSZ := Lib.hid (sizeB (mapB_len (fun i => b.getD i 0 * q.getD i 0)))
  have HE : Hid ((ia zeros).size = (ia (mapB (fun i => b.getD i 0 * q.getD i 0))).size) := same_size zeros_len (mapB_len _)
  have HO := Lib.hid (one_ia (mapB (fun i => b.getD i 0 * q.getD i 0)))
  have HM := Lib.hid (may_any q hq)
  have HWI := Lib.hid (within_any b hb (-1048576) 1048576)
  have HCO := Lib.hid (fun W hc => compP_any b q hb hq h1 h2 (w.heap.size + 1 + 1) w.heap.size (w.heap.size + 1) W hc)
  have KC : Hid (Cq 28 (w.heap.size + 1 + 1) w.heap.size (w.heap.size + 1) b q w1) := ⟨hb2, hb0, hb1⟩
  have K3 := Lib.hid hb3
  have KB := Lib.hid hB
  rw [h1] at HM
  rw [h2] at HWI
  have HR : Hid (mlL b q = mapB (fun i => b.getD i 0 * q.getD i 0)) := rfl
  clear hb0 hb1 hb2 hb3 hB hb hq h1 h2
  generalize mapB (fun i => b.getD i 0 * q.getD i 0) = r at *
  go_enter Tryd.func26, Tryd.ntmps26
  go_wp2_with (first
    | (with_reducible refine wpList_allocZ _ rfl 23 rfl (ia zeros) HZ.out ?_)
    | (rw [← hw1]; (with_reducible refine wpList_loadB _ rfl 23 (.tmp 4) rfl _ Tryd.underlying23 rfl (w.heap.size + 1) rfl (ia q) KC.out.qb HSQ.out ?_))
    | (go_at_call 10; (with_reducible refine (HM.out _).mono ?_); rintro e w2 ⟨rfl, hb2⟩; replace hb2 : Below w1.heap.size w1 w2 := (by rw [hw1]; simpa using hb2); have JC := Lib.hid (KC.out.below hb2); have J3 := Lib.hid (K3.out.below hb2); have JB := Lib.hid (KB.out.trans (hb2.mono KB.out.size)); clear hb2)
    | (refine wpList_open (by rfl) (wpList_loadB _ rfl 23 (.tmp 3) rfl _ Tryd.underlying23 rfl w.heap.size rfl (ia b) JC.out.bb HSB.out ?_))
    | (go_at_call 22; (with_reducible refine (HWI.out _).mono ?_); rintro e w3 ⟨rfl, hb3⟩; have LC := Lib.hid (JC.out.below hb3); have L3 := Lib.hid (J3.out.below hb3); have LB := Lib.hid (JB.out.trans (hb3.mono JB.out.size)); clear hb3)
    | (go_at_call 20; (with_reducible refine (HCO.out _ LC.out).mono ?_); rintro e w4 ⟨rfl, hb4⟩; have M3 := Lib.hid (L3.out.below hb4); have MB := Lib.hid (LB.out.trans (hb4.mono LB.out.size)); clear hb4)
    | ((with_reducible refine wpList_storeB _ rfl 23 (.tmp 6) (.tmp 18) rfl (w.heap.size + 1 + 1 + 1) rfl (ia zeros) M3.out (ia r) rfl HSZ.out HE.out HO.out ?_)
       intro w5 hb5 hc5 hs5))
  refine bodyPost_ret (results_cs rfl _ _ _ Tryd.underlying23 rfl (w.heap.size + 1 + 1 + 1) (ia r) (.int .i64 0) rfl rfl (fun j v hv => hb5.cell hv) HSZ.out) rfl ?_
  rw [HR.out]
  exact ⟨rfl, MB.out.trans (hc5.below MB.out.size (fun i e => by omega))⟩
end Go.Proofs.YtipmbffpokplgaaDoor
