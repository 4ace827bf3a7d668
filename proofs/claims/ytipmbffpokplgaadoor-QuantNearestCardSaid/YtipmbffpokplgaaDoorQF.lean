/- Contracts: Divide, Multiply, Scaled. -/
import Derived.Test.YtipmbffpokplgaaDoorQE
namespace Go.Proofs.YtipmbffpokplgaaDoor
open Go.RowKit Go.Lib
set_option linter.unusedVariables false
set_option maxRecDepth 100000
theorem tre_blk (w : World) (X0 X1 X2 : Array Value) (T0 T1 T2 : TypeId) : ∃ w1, w1 = ((w.alloc (.cells X0 T0)).alloc (.cells X1 T1)).alloc (.cells X2 T2) ∧ Blk w1 w.heap.size X0 ∧ Blk w1 (w.heap.size + 1) X1 ∧ Blk w1 (w.heap.size + 1 + 1) X2 ∧ Below w.heap.size w w1 := by
  refine ⟨_, rfl, ((Blk.new w X0 T0).alloc _).alloc _, ?_, ?_, ?_⟩
  · have := (Blk.new (w.alloc (.cells X0 T0)) X1 T1).alloc (.cells X2 T2)
    rwa [World.size_alloc] at this
  · have := Blk.new ((w.alloc (.cells X0 T0)).alloc (.cells X1 T1)) X2 T2
    simp only [World.size_alloc] at this
    exact this
  · exact (((Below.refl _ w).alloc (Nat.le_refl _) _).alloc (by simp) _).alloc (by simp; omega) _
set_option maxHeartbeats 2000000 in
theorem div_yes (b q : List Int) (hb : b.length = 64) (hq : q.length = 64) (h1 : wiB q 1 255 = true) (h2 : wiB b (-1048576) 1048576 = true) (w : World) :
    Calls Tryd.prog 14 #[.agg (ia b), .agg (ia q)] w fun e w' => e = .returned (.tuple #[.agg (ia (dvL b q)), .int .i64 0]) ∧ Below w.heap.size w w' := by
  obtain ⟨w1, hw1, hb0, hb1, hb2, hB⟩ := tre_blk w (ia b) (ia q) (ia zeros) 23 23 23
  have HZ := Lib.hid zeroB
  have HSB := Lib.hid (sizeB hb)
  have HSQ := Lib.hid (sizeB hq)
  have HCO := Lib.hid (combQ_yes b q hb hq h1 h2)
  have HLR : Hid (((dvL b q)).length = 64) := mapB_len _
  have K0 := Lib.hid hb0
  have K1 := Lib.hid hb1
  have K2 := Lib.hid hb2
  have KB := Lib.hid hB
  clear hb0 hb1 hb2 hB hb hq h1 h2
  generalize hR : (dvL b q) = r at *
  have HSR := Lib.hid (sizeB HLR.out)
  have HE : Hid ((ia zeros).size = (ia r).size) := same_size zeros_len HLR.out
  have HO := Lib.hid (one_ia r)
  clear hR HLR
  go_enter Tryd.func14, Tryd.ntmps14
  go_wp2_with (first
    | (with_reducible refine wpList_allocZ _ rfl 23 rfl (ia zeros) HZ.out ?_)
    | (rw [← hw1]; (with_reducible refine wpList_loadB _ rfl 23 (.tmp 2) rfl _ Tryd.underlying23 rfl w.heap.size rfl (ia b) K0.out HSB.out ?_))
    | (with_reducible refine wpList_loadB _ rfl 23 (.tmp 3) rfl _ Tryd.underlying23 rfl (w.heap.size + 1) rfl (ia q) K1.out HSQ.out ?_)
    | (go_at_call 26; (with_reducible refine (HCO.out _).mono ?_); rintro e w2 ⟨rfl, hb2⟩; replace hb2 : Below w1.heap.size w1 w2 := (by rw [hw1]; simpa using hb2); have J2 := Lib.hid (K2.out.below hb2); have JB := Lib.hid (KB.out.trans (hb2.mono KB.out.size)); clear hb2)
    | ((with_reducible refine wpList_storeB _ rfl 23 (.tmp 4) (.tmp 9) rfl (w.heap.size + 1 + 1) rfl (ia zeros) J2.out (ia r) rfl HSR.out HE.out HO.out ?_)
       intro w5 hb5 hc5 hs5))
  refine bodyPost_ret (results_cs rfl _ _ _ Tryd.underlying23 rfl (w.heap.size + 1 + 1) (ia r) (.int .i64 0) rfl rfl (fun j v hv => hb5.cell hv) HSR.out) rfl ?_
  exact ⟨rfl, JB.out.trans (hc5.below JB.out.size (fun i e => by omega))⟩
set_option maxHeartbeats 2000000 in
theorem mul_yes (b q : List Int) (hb : b.length = 64) (hq : q.length = 64) (h1 : wiB q 1 255 = true) (h2 : wiB b (-1048576) 1048576 = true) (w : World) :
    Calls Tryd.prog 15 #[.agg (ia b), .agg (ia q)] w fun e w' => e = .returned (.tuple #[.agg (ia (mlL b q)), .int .i64 0]) ∧ Below w.heap.size w w' := by
  obtain ⟨w1, hw1, hb0, hb1, hb2, hB⟩ := tre_blk w (ia b) (ia q) (ia zeros) 23 23 23
  have HZ := Lib.hid zeroB
  have HSB := Lib.hid (sizeB hb)
  have HSQ := Lib.hid (sizeB hq)
  have HCO := Lib.hid (combP_yes b q hb hq h1 h2)
  have HLR : Hid (((mlL b q)).length = 64) := mapB_len _
  have K0 := Lib.hid hb0
  have K1 := Lib.hid hb1
  have K2 := Lib.hid hb2
  have KB := Lib.hid hB
  clear hb0 hb1 hb2 hB hb hq h1 h2
  generalize hR : (mlL b q) = r at *
  have HSR := Lib.hid (sizeB HLR.out)
  have HE : Hid ((ia zeros).size = (ia r).size) := same_size zeros_len HLR.out
  have HO := Lib.hid (one_ia r)
  clear hR HLR
  go_enter Tryd.func15, Tryd.ntmps15
  go_wp2_with (first
    | (with_reducible refine wpList_allocZ _ rfl 23 rfl (ia zeros) HZ.out ?_)
    | (rw [← hw1]; (with_reducible refine wpList_loadB _ rfl 23 (.tmp 2) rfl _ Tryd.underlying23 rfl w.heap.size rfl (ia b) K0.out HSB.out ?_))
    | (with_reducible refine wpList_loadB _ rfl 23 (.tmp 3) rfl _ Tryd.underlying23 rfl (w.heap.size + 1) rfl (ia q) K1.out HSQ.out ?_)
    | (go_at_call 26; (with_reducible refine (HCO.out _).mono ?_); rintro e w2 ⟨rfl, hb2⟩; replace hb2 : Below w1.heap.size w1 w2 := (by rw [hw1]; simpa using hb2); have J2 := Lib.hid (K2.out.below hb2); have JB := Lib.hid (KB.out.trans (hb2.mono KB.out.size)); clear hb2)
    | ((with_reducible refine wpList_storeB _ rfl 23 (.tmp 4) (.tmp 9) rfl (w.heap.size + 1 + 1) rfl (ia zeros) J2.out (ia r) rfl HSR.out HE.out HO.out ?_)
       intro w5 hb5 hc5 hs5))
  refine bodyPost_ret (results_cs rfl _ _ _ Tryd.underlying23 rfl (w.heap.size + 1 + 1) (ia r) (.int .i64 0) rfl rfl (fun j v hv => hb5.cell hv) HSR.out) rfl ?_
  exact ⟨rfl, JB.out.trans (hc5.below JB.out.size (fun i e => by omega))⟩
set_option maxHeartbeats 2000000 in
theorem div_no (b q : List Int) (hb : b.length = 64) (hq : q.length = 64) (hn : wiB q 1 255 = true → wiB b (-1048576) 1048576 = false) (w : World) :
    Calls Tryd.prog 14 #[.agg (ia b), .agg (ia q)] w fun e w' => e = .returned (.tuple #[.agg (ia zeros), .int .i64 1]) ∧ Below w.heap.size w w' := by
  obtain ⟨w1, hw1, hb0, hb1, hb2, hB⟩ := tre_blk w (ia b) (ia q) (ia zeros) 23 23 23
  have HZ := Lib.hid zeroB
  have HSB := Lib.hid (sizeB hb)
  have HSQ := Lib.hid (sizeB hq)
  have HCO := Lib.hid (comb_no 27 b q hb hq hn)
  have K0 := Lib.hid hb0
  have K1 := Lib.hid hb1
  have K2 := Lib.hid hb2
  have KB := Lib.hid hB
  clear hb0 hb1 hb2 hB hb hq hn
  have HSR := Lib.hid (sizeB zeros_len)
  have HO := Lib.hid (one_ia zeros)
  go_enter Tryd.func14, Tryd.ntmps14
  go_wp2_with (first
    | (with_reducible refine wpList_allocZ _ rfl 23 rfl (ia zeros) HZ.out ?_)
    | (rw [← hw1]; (with_reducible refine wpList_loadB _ rfl 23 (.tmp 2) rfl _ Tryd.underlying23 rfl w.heap.size rfl (ia b) K0.out HSB.out ?_))
    | (with_reducible refine wpList_loadB _ rfl 23 (.tmp 3) rfl _ Tryd.underlying23 rfl (w.heap.size + 1) rfl (ia q) K1.out HSQ.out ?_)
    | (go_at_call 26; (with_reducible refine (HCO.out _).mono ?_); rintro e w2 ⟨rfl, hb2⟩; replace hb2 : Below w1.heap.size w1 w2 := (by rw [hw1]; simpa using hb2); have J2 := Lib.hid (K2.out.below hb2); have JB := Lib.hid (KB.out.trans (hb2.mono KB.out.size)); clear hb2)
    | ((with_reducible refine wpList_storeB _ rfl 23 (.tmp 4) (.tmp 9) rfl (w.heap.size + 1 + 1) rfl (ia zeros) J2.out (ia zeros) rfl HSR.out rfl HO.out ?_)
       intro w5 hb5 hc5 hs5))
  refine bodyPost_ret (results_cs rfl _ _ _ Tryd.underlying23 rfl (w.heap.size + 1 + 1) (ia zeros) (.int .i64 1) rfl rfl (fun j v hv => hb5.cell hv) HSR.out) rfl ?_
  exact ⟨rfl, JB.out.trans (hc5.below JB.out.size (fun i e => by omega))⟩
set_option maxHeartbeats 2000000 in
theorem mul_no (b q : List Int) (hb : b.length = 64) (hq : q.length = 64) (hn : wiB q 1 255 = true → wiB b (-1048576) 1048576 = false) (w : World) :
    Calls Tryd.prog 15 #[.agg (ia b), .agg (ia q)] w fun e w' => e = .returned (.tuple #[.agg (ia zeros), .int .i64 1]) ∧ Below w.heap.size w w' := by
  obtain ⟨w1, hw1, hb0, hb1, hb2, hB⟩ := tre_blk w (ia b) (ia q) (ia zeros) 23 23 23
  have HZ := Lib.hid zeroB
  have HSB := Lib.hid (sizeB hb)
  have HSQ := Lib.hid (sizeB hq)
  have HCO := Lib.hid (comb_no 28 b q hb hq hn)
  have K0 := Lib.hid hb0
  have K1 := Lib.hid hb1
  have K2 := Lib.hid hb2
  have KB := Lib.hid hB
  clear hb0 hb1 hb2 hB hb hq hn
  have HSR := Lib.hid (sizeB zeros_len)
  have HO := Lib.hid (one_ia zeros)
  go_enter Tryd.func15, Tryd.ntmps15
  go_wp2_with (first
    | (with_reducible refine wpList_allocZ _ rfl 23 rfl (ia zeros) HZ.out ?_)
    | (rw [← hw1]; (with_reducible refine wpList_loadB _ rfl 23 (.tmp 2) rfl _ Tryd.underlying23 rfl w.heap.size rfl (ia b) K0.out HSB.out ?_))
    | (with_reducible refine wpList_loadB _ rfl 23 (.tmp 3) rfl _ Tryd.underlying23 rfl (w.heap.size + 1) rfl (ia q) K1.out HSQ.out ?_)
    | (go_at_call 26; (with_reducible refine (HCO.out _).mono ?_); rintro e w2 ⟨rfl, hb2⟩; replace hb2 : Below w1.heap.size w1 w2 := (by rw [hw1]; simpa using hb2); have J2 := Lib.hid (K2.out.below hb2); have JB := Lib.hid (KB.out.trans (hb2.mono KB.out.size)); clear hb2)
    | ((with_reducible refine wpList_storeB _ rfl 23 (.tmp 4) (.tmp 9) rfl (w.heap.size + 1 + 1) rfl (ia zeros) J2.out (ia zeros) rfl HSR.out rfl HO.out ?_)
       intro w5 hb5 hc5 hs5))
  refine bodyPost_ret (results_cs rfl _ _ _ Tryd.underlying23 rfl (w.heap.size + 1 + 1) (ia zeros) (.int .i64 1) rfl rfl (fun j v hv => hb5.cell hv) HSR.out) rfl ?_
  exact ⟨rfl, JB.out.trans (hc5.below JB.out.size (fun i e => by omega))⟩
set_option maxHeartbeats 2000000 in
theorem scl_yes (q : List Int) (hq : q.length = 64) (h1 : wiB q 1 255 = true) (k : Int) (hk1 : 1 ≤ k) (hk2 : k ≤ 100) (w : World) :
    Calls Tryd.prog 9 #[.agg (ia q), .int .i64 k] w fun e w' => e = .returned (.tuple #[.agg (ia (scL q k)), .int .i64 0]) ∧ Below w.heap.size w w' := by
  obtain ⟨w1, hw1, hb0, hb1, hB⟩ := two_blk w (ia q) (ia zeros) 23 23
  have HZ := Lib.hid zeroB
  have HSQ := Lib.hid (sizeB hq)
  have HSR : Hid ((Tryd.prog.info? 23).map (·.size) = some (ia (scL q k)).size) := sizeB (mapB_len _)
  have HE : Hid ((ia zeros).size = (ia (scL q k)).size) := same_size zeros_len (mapB_len _)
  have HO := Lib.hid (one_ia (scL q k))
  have HM := Lib.hid (may_any q hq)
  rw [h1] at HM
  have HP := Lib.hid (perc_any k hk1 hk2)
  have hpb := pc_bnd hk1 hk2
  have HR : Hid (scL q k = mapB fun i => scE (q.getD i 0) (pcS k)) := rfl
  have HCO := Lib.hid (fun (c : Nat) W hc => compS_any q hq h1 (pcS k) hpb.1 hpb.2 w.heap.size c W hc)
  have K0 := Lib.hid hb0
  have K1 := Lib.hid hb1
  have KB := Lib.hid hB
  rw [← HR.out] at HCO
  clear hb0 hb1 hB hq h1 HR
  generalize scL q k = r at *
  generalize pcS k = p at *
  have hk3 : ¬ k < 1 := by omega
  have hk4 : ¬ 100 < k := by omega
  go_enter Tryd.func9, Tryd.ntmps9
  go_wp2_with (first
    | (with_reducible refine wpList_allocZ _ rfl 23 rfl (ia zeros) HZ.out ?_)
    | (rw [← hw1]; (with_reducible refine wpList_loadB _ rfl 23 (.tmp 2) rfl _ Tryd.underlying23 rfl w.heap.size rfl (ia q) K0.out HSQ.out ?_))
    | (go_at_call 10; (with_reducible refine (HM.out _).mono ?_); rintro e w2 ⟨rfl, hb2⟩; replace hb2 : Below w1.heap.size w1 w2 := (by rw [hw1]; simpa using hb2); have J0 := Lib.hid (K0.out.below hb2); have J1 := Lib.hid (K1.out.below hb2); have JB := Lib.hid (KB.out.trans (hb2.mono KB.out.size)); clear hb2)
    | (go_at_call 19; (with_reducible refine (HP.out _).mono ?_); rintro e w3 ⟨rfl, rfl⟩
       have L0 := Lib.hid (J0.out.alloc (.cells #[.int .i64 p] 3))
       have L1 := Lib.hid (J1.out.alloc (.cells #[.int .i64 p] 3))
       have L2 := Lib.hid (Blk.new w2 #[.int .i64 p] 3)
       have LB := Lib.hid (JB.out.alloc JB.out.size (.cells #[.int .i64 p] 3)))
    | (go_at_call 20; (with_reducible refine (HCO.out w2.heap.size _ ⟨L0.out, L2.out⟩).mono ?_); rintro e w4 ⟨rfl, hb4⟩; have M1 := Lib.hid (L1.out.below hb4); have MB := Lib.hid (LB.out.trans (hb4.mono LB.out.size)); clear hb4)
    | ((with_reducible refine wpList_storeB _ rfl 23 (.tmp 4) (.tmp 22) rfl (w.heap.size + 1) rfl (ia zeros) M1.out (ia r) rfl HSR.out HE.out HO.out ?_)
       intro w5 hb5 hc5 hs5))
  refine bodyPost_ret (results_cs rfl _ _ _ Tryd.underlying23 rfl (w.heap.size + 1) (ia r) (.int .i64 0) rfl rfl (fun j v hv => hb5.cell hv) HSR.out) rfl ?_
  exact ⟨rfl, MB.out.trans (hc5.below MB.out.size (fun i e => by omega))⟩
set_option maxHeartbeats 2000000 in
theorem scl_no (q : List Int) (hq : q.length = 64) (k : Int) (hn : wiB q 1 255 = true → k < 1 ∨ 100 < k) (w : World) :
    Calls Tryd.prog 9 #[.agg (ia q), .int .i64 k] w fun e w' => e = .returned (.tuple #[.agg (ia zeros), .int .i64 1]) ∧ Below w.heap.size w w' := by
  obtain ⟨w1, hw1, hb0, hb1, hB⟩ := two_blk w (ia q) (ia zeros) 23 23
  have HZ := Lib.hid zeroB
  have HSQ := Lib.hid (sizeB hq)
  have HSZ := Lib.hid (sizeB zeros_len)
  have HO := Lib.hid (one_ia zeros)
  have HM := Lib.hid (may_any q hq)
  have K0 := Lib.hid hb0
  have K1 := Lib.hid hb1
  have KB := Lib.hid hB
  have main : ∀ (m : Bool), wiB q 1 255 = m → (m = false ∨ k < 1 ∨ 100 < k) → Calls Tryd.prog 9 #[.agg (ia q), .int .i64 k] w fun e w' => e = .returned (.tuple #[.agg (ia zeros), .int .i64 1]) ∧ Below w.heap.size w w' := by
    intro m hm hc
    rw [hm] at HM
    clear hn hb0 hb1 hB hq hm
    rcases hc with rfl | hk | hk
    all_goals
      (try cases m)
      all_goals
        first
          | (have hk1 : ¬ k < 1 := by omega)
          | skip
        go_enter Tryd.func9, Tryd.ntmps9
        go_wp2_with (first
          | (with_reducible refine wpList_allocZ _ rfl 23 rfl (ia zeros) HZ.out ?_)
          | (rw [← hw1]; (with_reducible refine wpList_loadB _ rfl 23 (.tmp 2) rfl _ Tryd.underlying23 rfl w.heap.size rfl (ia q) K0.out HSQ.out ?_))
          | (go_at_call 10; (with_reducible refine (HM.out _).mono ?_); rintro e w2 ⟨rfl, hb2⟩; replace hb2 : Below w1.heap.size w1 w2 := (by rw [hw1]; simpa using hb2); have J1 := Lib.hid (K1.out.below hb2); have JB := Lib.hid (KB.out.trans (hb2.mono KB.out.size)); clear hb2)
          | ((refine wpList_storeB _ rfl 23 (.tmp 4) (.tmp 18) rfl (w.heap.size + 1) rfl (ia zeros) J1.out (ia zeros) (by rfl) HSZ.out rfl HO.out ?_)
             intro w5 hb5 hc5 hs5))
        refine bodyPost_ret (results_cs rfl _ _ _ Tryd.underlying23 rfl (w.heap.size + 1) (ia zeros) (.int .i64 1) rfl rfl (fun j v hv => hb5.cell hv) HSZ.out) rfl ?_
        exact ⟨rfl, JB.out.trans (hc5.below JB.out.size (fun i e => by omega))⟩
  cases hm : wiB q 1 255 with
  | false => exact main false hm (.inl rfl)
  | true => exact main true hm (.inr (hn hm))
end Go.Proofs.YtipmbffpokplgaaDoor
