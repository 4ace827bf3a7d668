/- The walk of QuantTables. -/
import Derived.Test.YtipmbffpokplgaaDoorQU
namespace Go.Proofs.YtipmbffpokplgaaDoor
open Go.RowKit Go.Lib
set_option linter.unusedVariables false
set_option maxRecDepth 100000
/-- Three blocks of the law's own. -/
structure K3 (w : World) (B C : Nat) (l m n : List Int) (W : World) : Prop where
  a : Blk W w.heap.size (ia l)
  b : Blk W B (ia m)
  c : Blk W C (ia n)
  be : Below w.heap.size w W
theorem K3.call {w : World} {B C : Nat} {l m n : List Int} {W W' : World} (h : K3 w B C l m n W) (hb : Below W.heap.size W W') : K3 w B C l m n W' :=
  ⟨h.a.below hb, h.b.below hb, h.c.below hb, h.be.trans (hb.mono h.be.size)⟩
theorem K3.drew {w : World} {B C : Nat} {l m n : List Int} {W : World} (h : K3 w B C l m n W) : K3 w B C l m n W.drew := ⟨h.a, h.b, h.c, h.be.drew⟩
set_option maxHeartbeats 16000000 in
theorem qt_core (q bl sl : List Int) (hq : q.length = 64) (hbl : bl.length = 64) (hsl : sl.length = 64) (kind quality er : Int) (ok m : Bool) (w : World) (he : Env w)
    (HB : ∀ W, Env W → Calls Tryd.prog 8 #[.int .i64 kind] W fun e w' => e = .returned (.tuple #[.agg (ia bl), .bool ok]) ∧ Below W.heap.size W w')
    (HS : ∀ W, Calls Tryd.prog 9 #[.agg (ia q), .int .i64 quality] W fun e w' => e = .returned (.tuple #[.agg (ia sl), .int .i64 er]) ∧ Below W.heap.size W w')
    (hm : wiB q 1 255 = m)
    (ck : (ok = true ∧ (kind = 0 ∨ kind = 1) ∧ ∀ W, Calls Tryd.prog 11 #[.int .i64 kind] W fun e w' => e = .returned (.agg (ia bl)) ∧ Below W.heap.size W w') ∨ (ok = false ∧ kind ≠ 0 ∧ kind ≠ 1 ∧ bl = zeros))
    (cs : (m = true ∧ 1 ≤ quality ∧ quality ≤ 100 ∧ er = 0 ∧ ∀ W, Calls Tryd.prog 13 #[.agg (ia q), .int .i64 quality] W fun e w' => e = .returned (.agg (ia sl)) ∧ Below W.heap.size W w') ∨ ((m = false ∨ m = true ∧ quality < 1 ∨ m = true ∧ 100 < quality) ∧ er = 1 ∧ sl = zeros)) :
    Calls Tryd.prog 3 #[.agg (ia q), .int .i64 kind, .int .i64 quality] w fun e w' => e = .returned (.bool true) ∧ Below w.heap.size w w' := by
  have HZ := Lib.hid zeroB
  have HSQ := Lib.hid (sizeB hq)
  have HSB := Lib.hid (sizeB hbl)
  have HSS := Lib.hid (sizeB hsl)
  have HEB : Hid ((ia zeros).size = (ia bl).size) := same_size zeros_len hbl
  have HES : Hid ((ia zeros).size = (ia sl).size) := same_size zeros_len hsl
  have HOB := Lib.hid (one_ia bl)
  have HOS := Lib.hid (one_ia sl)
  have HWI := Lib.hid (rwi_any q hq 1 255)
  have HMA := Lib.hid (may_any q hq)
  rw [hm] at HWI HMA
  have HBH := Lib.hid HB
  have HSH := Lib.hid HS
  have HL : Hid (q.length = 64 ∧ bl.length = 64 ∧ sl.length = 64) := ⟨hq, hbl, hsl⟩
  have HAW := Lib.hid awake_any
  have HEN := Lib.hid he
  clear HB HS hm he hq hbl hsl
  obtain ⟨w1, hw1⟩ : ∃ w1, w1 = w.alloc (.cells (ia q) 23) := ⟨_, rfl⟩
  have H0 : Hid (Blk w1 w.heap.size (ia q)) := by rw [hw1]; exact Blk.new w _ _
  have B0 : Hid (Below w.heap.size w w1) := by rw [hw1]; exact (Below.refl _ w).alloc (Nat.le_refl _) _
  go_enter Tryd.func3, Tryd.ntmps3
  go_upto_region 4 with (first
    | (rw [← hw1]; (with_reducible refine wpList_loadB _ rfl 23 (.tmp 3) rfl _ Tryd.underlying23 rfl w.heap.size rfl (ia q) H0.out HSQ.out ?_))
    | (go_at_call 7; (with_reducible refine (HWI.out _).mono ?_); rintro e w2 ⟨rfl, hb2⟩
       replace hb2 : Below w1.heap.size w1 w2 := (by rw [hw1]; simpa using hb2)
       have Q2 := Lib.hid (H0.out.below hb2); have B2 := Lib.hid (B0.out.trans (hb2.mono B0.out.size)); clear hb2)
    | (go_at_call 8; (with_reducible refine (HBH.out _ (HEN.out.below B2.out)).mono ?_); rintro e w3 ⟨rfl, hb3⟩
       have Q3 := Lib.hid ((Q2.out.below hb3).alloc (.cells (ia zeros) 23)); have N3 := Lib.hid (Blk.new w3 (ia zeros) 23)
       have z3 := Lib.hid (Nat.le_trans B2.out.size hb3.size); have y3 := Lib.hid (Q2.out.below hb3).lt
       have B3 := Lib.hid ((B2.out.trans (hb3.mono B2.out.size)).alloc z3.out (.cells (ia zeros) 23)); clear hb3)
    | (with_reducible refine wpList_allocZ _ rfl 23 rfl (ia zeros) HZ.out ?_)
    | ((with_reducible refine wpList_storeB _ rfl 23 (.tmp 8) (.tmp 17) rfl w3.heap.size rfl (ia zeros) N3.out (ia bl) rfl HSB.out HEB.out HOB.out ?_)
       intro w4 hb4 hc4 hs4; have Q4 := Lib.hid (Q3.out.chg hc4 (fun e => by have := y3.out; omega)); have N4 := Lib.hid hb4; have B4 := Lib.hid (B3.out.trans (hc4.below B3.out.size (fun i e => by have := z3.out; omega))); clear hb4 hc4 hs4)
    | (with_reducible refine wpList_loadB _ rfl 23 (.tmp 3) rfl _ Tryd.underlying23 rfl w.heap.size rfl (ia q) Q4.out HSQ.out ?_)
    | (go_at_call 9; (with_reducible refine (HSH.out _).mono ?_); rintro e w5 ⟨rfl, hb5⟩
       have Q5 := Lib.hid ((Q4.out.below hb5).alloc (.cells (ia zeros) 23)); have N5 := Lib.hid ((N4.out.below hb5).alloc (.cells (ia zeros) 23)); have M5 := Lib.hid (Blk.new w5 (ia zeros) 23)
       have z5 := Lib.hid (Nat.le_trans B4.out.size hb5.size); have y5 := Lib.hid (Q4.out.below hb5).lt; have x5 := Lib.hid (N4.out.below hb5).lt
       have B5 := Lib.hid ((B4.out.trans (hb5.mono B4.out.size)).alloc z5.out (.cells (ia zeros) 23)); clear hb5)
    | ((with_reducible refine wpList_storeB _ rfl 23 (.tmp 10) (.tmp 23) rfl w5.heap.size rfl (ia zeros) M5.out (ia sl) rfl HSS.out HES.out HOS.out ?_)
       intro w6 hb6 hc6 hs6; have K : Hid (K3 w w3.heap.size w5.heap.size q bl sl w6) := ⟨Q5.out.chg hc6 (fun e => by have := y5.out; omega), N5.out.chg hc6 (fun e => by have := x5.out; omega), hb6, B5.out.trans (hc6.below B5.out.size (fun i e => by have := z5.out; omega))⟩; clear hb6 hc6 hs6))
  generalize w3.heap.size = Bb at *
  generalize w5.heap.size = Cc at *
  clear Q2 B2 Q3 N3 z3 y3 B3 Q4 N4 B4 Q5 N5 M5 z5 y5 x5 B5 HBH HSH HWI HSB HSS HEB HES HOB HOS H0 B0 hw1 HZ
  have HSZ := Lib.hid (sizeB zeros_len)
  have hG : ∀ W o x y l m, (eqGuard o 23 x y (.agg (ia l)) (.agg (ia m))).run Tryd.prog W = .ok () W := fun W o x y l m => run_eqGuard_agg W o 23 x y _ _ (by kernel_rfl)
  have hGZ : ∀ W o x y l, (eqGuard o 23 x y (.agg (ia l)) (.agg #[.int .i64 0, .int .i64 0, .int .i64 0, .int .i64 0, .int .i64 0, .int .i64 0, .int .i64 0, .int .i64 0, .int .i64 0, .int .i64 0, .int .i64 0, .int .i64 0, .int .i64 0, .int .i64 0, .int .i64 0, .int .i64 0, .int .i64 0, .int .i64 0, .int .i64 0, .int .i64 0, .int .i64 0, .int .i64 0, .int .i64 0, .int .i64 0, .int .i64 0, .int .i64 0, .int .i64 0, .int .i64 0, .int .i64 0, .int .i64 0, .int .i64 0, .int .i64 0, .int .i64 0, .int .i64 0, .int .i64 0, .int .i64 0, .int .i64 0, .int .i64 0, .int .i64 0, .int .i64 0, .int .i64 0, .int .i64 0, .int .i64 0, .int .i64 0, .int .i64 0, .int .i64 0, .int .i64 0, .int .i64 0, .int .i64 0, .int .i64 0, .int .i64 0, .int .i64 0, .int .i64 0, .int .i64 0, .int .i64 0, .int .i64 0, .int .i64 0, .int .i64 0, .int .i64 0, .int .i64 0, .int .i64 0, .int .i64 0, .int .i64 0, .int .i64 0])).run Tryd.prog W = .ok () W := fun W o x y l => run_eqGuard_agg W o 23 x y _ _ (by kernel_rfl)
  have hE1 : ∀ W, (Op.equalIn 10000 23 (.agg (ia bl)) (.agg (ia bl))).run Tryd.prog W = .ok true W := fun W => eqs64 HL.out.2.1
  have hE2 : ∀ W, (Op.equalIn 10000 23 (.agg (ia sl)) (.agg (ia sl))).run Tryd.prog W = .ok true W := fun W => eqs64 HL.out.2.2
  have hE3 : ∀ W, (Op.equalIn 10000 23 (.agg (ia zeros)) (.agg #[.int .i64 0, .int .i64 0, .int .i64 0, .int .i64 0, .int .i64 0, .int .i64 0, .int .i64 0, .int .i64 0, .int .i64 0, .int .i64 0, .int .i64 0, .int .i64 0, .int .i64 0, .int .i64 0, .int .i64 0, .int .i64 0, .int .i64 0, .int .i64 0, .int .i64 0, .int .i64 0, .int .i64 0, .int .i64 0, .int .i64 0, .int .i64 0, .int .i64 0, .int .i64 0, .int .i64 0, .int .i64 0, .int .i64 0, .int .i64 0, .int .i64 0, .int .i64 0, .int .i64 0, .int .i64 0, .int .i64 0, .int .i64 0, .int .i64 0, .int .i64 0, .int .i64 0, .int .i64 0, .int .i64 0, .int .i64 0, .int .i64 0, .int .i64 0, .int .i64 0, .int .i64 0, .int .i64 0, .int .i64 0, .int .i64 0, .int .i64 0, .int .i64 0, .int .i64 0, .int .i64 0, .int .i64 0, .int .i64 0, .int .i64 0, .int .i64 0, .int .i64 0, .int .i64 0, .int .i64 0, .int .i64 0, .int .i64 0, .int .i64 0, .int .i64 0])).run Tryd.prog W = .ok true W := fun W => eqs64 zeros_len
  rcases ck with ⟨rfl, hkind, hrb⟩ | ⟨rfl, hk0, hk1, rfl⟩
  · have HRB := Lib.hid hrb
    clear hrb
    rcases hkind with rfl | rfl
    all_goals
      rcases cs with ⟨rfl, hq1, hq2, rfl, hrs⟩ | ⟨hcs, rfl, rfl⟩
      · have HRS := Lib.hid hrs
        have d1 : decide (quality < 1) = false := decide_eq_false (by omega)
        have d2 : decide (100 < quality) = false := decide_eq_false (by omega)
        clear hrs
        go_upto_region 6 with (first
          | (with_reducible refine wpList_loadB _ rfl 23 (.tmp 3) rfl _ Tryd.underlying23 rfl w.heap.size rfl (ia q) K.out.a HSQ.out ?_)
          | (go_at_call 10; (with_reducible refine (HMA.out _).mono ?_); rintro e w7 ⟨rfl, hb7⟩; replace K := Lib.hid (K.out.call hb7); clear hb7))
        refine wp_region_seq (K3 w Bb Cc q bl sl) (by kernel_rfl) (by kernel_rfl) (by kernel_rfl) K.out.drew ?_
        repeat (
          first
        | (refine seq_off (by rfl) ?_)
        | (refine seq_load 23 (.tmp 3) _ (.agg (ia q)) (by rfl) rfl rfl (fun W hS => hS.a.ld HL.out.1) ?_)
        | (refine seq_load 23 (.tmp 8) _ (.agg (ia bl)) (by rfl) rfl rfl (fun W hS => hS.b.ld HL.out.2.1) ?_)
        | (refine seq_load 23 (.tmp 10) _ (.agg (ia sl)) (by rfl) rfl rfl (fun W hS => hS.c.ld HL.out.2.2) ?_)
        | (refine seq_callF 11 _ _ [.int .i64 _] (by rfl) rfl (enters_of Tryd.func11 (by kernel_rfl) rfl) rfl (fun W hS => (HRB.out W).mono fun e w' h => ⟨h.1, hS.call h.2⟩) ?_)
        | (refine seq_callF 13 _ _ [.agg (ia q), .int .i64 _] (by rfl) rfl (enters_of Tryd.func13 (by kernel_rfl) rfl) rfl (fun W hS => (HRS.out W).mono fun e w' h => ⟨h.1, hS.call h.2⟩) ?_)
        | (refine seq_callF 12 _ _ [] (by rfl) rfl (enters_of Tryd.func12 (by kernel_rfl) rfl) rfl (fun W hS => (HAW.out W (HEN.out.below hS.be)).mono fun e w' h => ⟨h.1, hS.call h.2⟩) ?_)
        | (apply seq_val (by rfl)
           focus (intro W hS; go_simp; try with_reducible rfl))
          simp only [Act.put, List.setIfInBounds_toArray, List.set_cons_zero, List.set_cons_succ])
        refine seq_nil fun W hS => ?_
        replace K := Lib.hid hS
        clear hS
        go_upto_region 10 with fail
        refine wp_region_seq (K3 w Bb Cc q bl sl) (by kernel_rfl) (by kernel_rfl) (by kernel_rfl) K.out.drew ?_
        repeat (
          first
        | (refine seq_off (by rfl) ?_)
        | (refine seq_load 23 (.tmp 3) _ (.agg (ia q)) (by rfl) rfl rfl (fun W hS => hS.a.ld HL.out.1) ?_)
        | (refine seq_load 23 (.tmp 8) _ (.agg (ia bl)) (by rfl) rfl rfl (fun W hS => hS.b.ld HL.out.2.1) ?_)
        | (refine seq_load 23 (.tmp 10) _ (.agg (ia sl)) (by rfl) rfl rfl (fun W hS => hS.c.ld HL.out.2.2) ?_)
        | (refine seq_callF 11 _ _ [.int .i64 _] (by rfl) rfl (enters_of Tryd.func11 (by kernel_rfl) rfl) rfl (fun W hS => (HRB.out W).mono fun e w' h => ⟨h.1, hS.call h.2⟩) ?_)
        | (refine seq_callF 13 _ _ [.agg (ia q), .int .i64 _] (by rfl) rfl (enters_of Tryd.func13 (by kernel_rfl) rfl) rfl (fun W hS => (HRS.out W).mono fun e w' h => ⟨h.1, hS.call h.2⟩) ?_)
        | (refine seq_callF 12 _ _ [] (by rfl) rfl (enters_of Tryd.func12 (by kernel_rfl) rfl) rfl (fun W hS => (HAW.out W (HEN.out.below hS.be)).mono fun e w' h => ⟨h.1, hS.call h.2⟩) ?_)
        | (apply seq_val (by rfl)
           focus (intro W hS; go_simp; try with_reducible rfl))
          simp only [Act.put, List.setIfInBounds_toArray, List.set_cons_zero, List.set_cons_succ])
        refine seq_nil fun W hS => ?_
        go_wp2
        go_ret
        exact ⟨rfl, hS.be⟩
      · rcases hcs with rfl | ⟨rfl, hq1⟩ | ⟨rfl, hq1⟩
        · skip
          go_upto_region 6 with (first
            | (with_reducible refine wpList_loadB _ rfl 23 (.tmp 3) rfl _ Tryd.underlying23 rfl w.heap.size rfl (ia q) K.out.a HSQ.out ?_)
            | (go_at_call 10; (with_reducible refine (HMA.out _).mono ?_); rintro e w7 ⟨rfl, hb7⟩; replace K := Lib.hid (K.out.call hb7); clear hb7))
          refine wp_region_seq (K3 w Bb Cc q bl zeros) (by kernel_rfl) (by kernel_rfl) (by kernel_rfl) K.out.drew ?_
          repeat (
            first
          | (refine seq_off (by rfl) ?_)
          | (refine seq_load 23 (.tmp 3) _ (.agg (ia q)) (by rfl) rfl rfl (fun W hS => hS.a.ld HL.out.1) ?_)
          | (refine seq_load 23 (.tmp 8) _ (.agg (ia bl)) (by rfl) rfl rfl (fun W hS => hS.b.ld HL.out.2.1) ?_)
          | (refine seq_load 23 (.tmp 10) _ (.agg (ia zeros)) (by rfl) rfl rfl (fun W hS => hS.c.ld HL.out.2.2) ?_)
          | (refine seq_callF 11 _ _ [.int .i64 _] (by rfl) rfl (enters_of Tryd.func11 (by kernel_rfl) rfl) rfl (fun W hS => (HRB.out W).mono fun e w' h => ⟨h.1, hS.call h.2⟩) ?_)
          | (refine seq_callF 13 _ _ [.agg (ia q), .int .i64 _] (by rfl) rfl (enters_of Tryd.func13 (by kernel_rfl) rfl) rfl (fun W hS => (HRS.out W).mono fun e w' h => ⟨h.1, hS.call h.2⟩) ?_)
          | (refine seq_callF 12 _ _ [] (by rfl) rfl (enters_of Tryd.func12 (by kernel_rfl) rfl) rfl (fun W hS => (HAW.out W (HEN.out.below hS.be)).mono fun e w' h => ⟨h.1, hS.call h.2⟩) ?_)
          | (apply seq_val (by rfl)
             focus (intro W hS; go_simp; try with_reducible rfl))
            simp only [Act.put, List.setIfInBounds_toArray, List.set_cons_zero, List.set_cons_succ])
          refine seq_nil fun W hS => ?_
          replace K := Lib.hid hS
          clear hS
          go_wp2_with (first
            | (with_reducible refine wpList_loadB _ rfl 23 (.tmp 10) rfl _ Tryd.underlying23 rfl Cc rfl (ia zeros) K.out.c HSZ.out ?_)
            | (go_at_call 12; (with_reducible refine (HAW.out _ (HEN.out.below K.out.be)).mono ?_); rintro e w8 ⟨rfl, hb8⟩; replace K := Lib.hid (K.out.call hb8); clear hb8))
          go_ret
          exact ⟨rfl, K.out.be⟩
        · have d1 : decide (quality < 1) = true := decide_eq_true hq1
          go_upto_region 6 with (first
            | (with_reducible refine wpList_loadB _ rfl 23 (.tmp 3) rfl _ Tryd.underlying23 rfl w.heap.size rfl (ia q) K.out.a HSQ.out ?_)
            | (go_at_call 10; (with_reducible refine (HMA.out _).mono ?_); rintro e w7 ⟨rfl, hb7⟩; replace K := Lib.hid (K.out.call hb7); clear hb7))
          refine wp_region_seq (K3 w Bb Cc q bl zeros) (by kernel_rfl) (by kernel_rfl) (by kernel_rfl) K.out.drew ?_
          repeat (
            first
          | (refine seq_off (by rfl) ?_)
          | (refine seq_load 23 (.tmp 3) _ (.agg (ia q)) (by rfl) rfl rfl (fun W hS => hS.a.ld HL.out.1) ?_)
          | (refine seq_load 23 (.tmp 8) _ (.agg (ia bl)) (by rfl) rfl rfl (fun W hS => hS.b.ld HL.out.2.1) ?_)
          | (refine seq_load 23 (.tmp 10) _ (.agg (ia zeros)) (by rfl) rfl rfl (fun W hS => hS.c.ld HL.out.2.2) ?_)
          | (refine seq_callF 11 _ _ [.int .i64 _] (by rfl) rfl (enters_of Tryd.func11 (by kernel_rfl) rfl) rfl (fun W hS => (HRB.out W).mono fun e w' h => ⟨h.1, hS.call h.2⟩) ?_)
          | (refine seq_callF 13 _ _ [.agg (ia q), .int .i64 _] (by rfl) rfl (enters_of Tryd.func13 (by kernel_rfl) rfl) rfl (fun W hS => (HRS.out W).mono fun e w' h => ⟨h.1, hS.call h.2⟩) ?_)
          | (refine seq_callF 12 _ _ [] (by rfl) rfl (enters_of Tryd.func12 (by kernel_rfl) rfl) rfl (fun W hS => (HAW.out W (HEN.out.below hS.be)).mono fun e w' h => ⟨h.1, hS.call h.2⟩) ?_)
          | (apply seq_val (by rfl)
             focus (intro W hS; go_simp; try with_reducible rfl))
            simp only [Act.put, List.setIfInBounds_toArray, List.set_cons_zero, List.set_cons_succ])
          refine seq_nil fun W hS => ?_
          replace K := Lib.hid hS
          clear hS
          go_wp2_with (first
            | (with_reducible refine wpList_loadB _ rfl 23 (.tmp 10) rfl _ Tryd.underlying23 rfl Cc rfl (ia zeros) K.out.c HSZ.out ?_)
            | (go_at_call 12; (with_reducible refine (HAW.out _ (HEN.out.below K.out.be)).mono ?_); rintro e w8 ⟨rfl, hb8⟩; replace K := Lib.hid (K.out.call hb8); clear hb8))
          go_ret
          exact ⟨rfl, K.out.be⟩
        · have d1 : decide (quality < 1) = false := decide_eq_false (by omega)
          have d2 : decide (100 < quality) = true := decide_eq_true hq1
          go_upto_region 6 with (first
            | (with_reducible refine wpList_loadB _ rfl 23 (.tmp 3) rfl _ Tryd.underlying23 rfl w.heap.size rfl (ia q) K.out.a HSQ.out ?_)
            | (go_at_call 10; (with_reducible refine (HMA.out _).mono ?_); rintro e w7 ⟨rfl, hb7⟩; replace K := Lib.hid (K.out.call hb7); clear hb7))
          refine wp_region_seq (K3 w Bb Cc q bl zeros) (by kernel_rfl) (by kernel_rfl) (by kernel_rfl) K.out.drew ?_
          repeat (
            first
          | (refine seq_off (by rfl) ?_)
          | (refine seq_load 23 (.tmp 3) _ (.agg (ia q)) (by rfl) rfl rfl (fun W hS => hS.a.ld HL.out.1) ?_)
          | (refine seq_load 23 (.tmp 8) _ (.agg (ia bl)) (by rfl) rfl rfl (fun W hS => hS.b.ld HL.out.2.1) ?_)
          | (refine seq_load 23 (.tmp 10) _ (.agg (ia zeros)) (by rfl) rfl rfl (fun W hS => hS.c.ld HL.out.2.2) ?_)
          | (refine seq_callF 11 _ _ [.int .i64 _] (by rfl) rfl (enters_of Tryd.func11 (by kernel_rfl) rfl) rfl (fun W hS => (HRB.out W).mono fun e w' h => ⟨h.1, hS.call h.2⟩) ?_)
          | (refine seq_callF 13 _ _ [.agg (ia q), .int .i64 _] (by rfl) rfl (enters_of Tryd.func13 (by kernel_rfl) rfl) rfl (fun W hS => (HRS.out W).mono fun e w' h => ⟨h.1, hS.call h.2⟩) ?_)
          | (refine seq_callF 12 _ _ [] (by rfl) rfl (enters_of Tryd.func12 (by kernel_rfl) rfl) rfl (fun W hS => (HAW.out W (HEN.out.below hS.be)).mono fun e w' h => ⟨h.1, hS.call h.2⟩) ?_)
          | (apply seq_val (by rfl)
             focus (intro W hS; go_simp; try with_reducible rfl))
            simp only [Act.put, List.setIfInBounds_toArray, List.set_cons_zero, List.set_cons_succ])
          refine seq_nil fun W hS => ?_
          replace K := Lib.hid hS
          clear hS
          go_wp2_with (first
            | (with_reducible refine wpList_loadB _ rfl 23 (.tmp 10) rfl _ Tryd.underlying23 rfl Cc rfl (ia zeros) K.out.c HSZ.out ?_)
            | (go_at_call 12; (with_reducible refine (HAW.out _ (HEN.out.below K.out.be)).mono ?_); rintro e w8 ⟨rfl, hb8⟩; replace K := Lib.hid (K.out.call hb8); clear hb8))
          go_ret
          exact ⟨rfl, K.out.be⟩
  · have b0 : (kind == 0) = false := by simp [hk0]
    have b1 : (kind == 1) = false := by simp [hk1]
    clear hk0 hk1
    all_goals
      rcases cs with ⟨rfl, hq1, hq2, rfl, hrs⟩ | ⟨hcs, rfl, rfl⟩
      · have HRS := Lib.hid hrs
        have d1 : decide (quality < 1) = false := decide_eq_false (by omega)
        have d2 : decide (100 < quality) = false := decide_eq_false (by omega)
        clear hrs
        go_upto_region 6 with (first
          | (with_reducible refine wpList_loadB _ rfl 23 (.tmp 3) rfl _ Tryd.underlying23 rfl w.heap.size rfl (ia q) K.out.a HSQ.out ?_)
          | (go_at_call 10; (with_reducible refine (HMA.out _).mono ?_); rintro e w7 ⟨rfl, hb7⟩; replace K := Lib.hid (K.out.call hb7); clear hb7))
        refine wp_region_seq (K3 w Bb Cc q zeros sl) (by kernel_rfl) (by kernel_rfl) (by kernel_rfl) K.out.drew ?_
        repeat (
          first
        | (refine seq_off (by rfl) ?_)
        | (refine seq_load 23 (.tmp 3) _ (.agg (ia q)) (by rfl) rfl rfl (fun W hS => hS.a.ld HL.out.1) ?_)
        | (refine seq_load 23 (.tmp 8) _ (.agg (ia zeros)) (by rfl) rfl rfl (fun W hS => hS.b.ld HL.out.2.1) ?_)
        | (refine seq_load 23 (.tmp 10) _ (.agg (ia sl)) (by rfl) rfl rfl (fun W hS => hS.c.ld HL.out.2.2) ?_)
        | (refine seq_callF 11 _ _ [.int .i64 _] (by rfl) rfl (enters_of Tryd.func11 (by kernel_rfl) rfl) rfl (fun W hS => (HRB.out W).mono fun e w' h => ⟨h.1, hS.call h.2⟩) ?_)
        | (refine seq_callF 13 _ _ [.agg (ia q), .int .i64 _] (by rfl) rfl (enters_of Tryd.func13 (by kernel_rfl) rfl) rfl (fun W hS => (HRS.out W).mono fun e w' h => ⟨h.1, hS.call h.2⟩) ?_)
        | (refine seq_callF 12 _ _ [] (by rfl) rfl (enters_of Tryd.func12 (by kernel_rfl) rfl) rfl (fun W hS => (HAW.out W (HEN.out.below hS.be)).mono fun e w' h => ⟨h.1, hS.call h.2⟩) ?_)
        | (apply seq_val (by rfl)
           focus (intro W hS; go_simp; try with_reducible rfl))
          simp only [Act.put, List.setIfInBounds_toArray, List.set_cons_zero, List.set_cons_succ])
        refine seq_nil fun W hS => ?_
        replace K := Lib.hid hS
        clear hS
        go_upto_region 10 with fail
        refine wp_region_seq (K3 w Bb Cc q zeros sl) (by kernel_rfl) (by kernel_rfl) (by kernel_rfl) K.out.drew ?_
        repeat (
          first
        | (refine seq_off (by rfl) ?_)
        | (refine seq_load 23 (.tmp 3) _ (.agg (ia q)) (by rfl) rfl rfl (fun W hS => hS.a.ld HL.out.1) ?_)
        | (refine seq_load 23 (.tmp 8) _ (.agg (ia zeros)) (by rfl) rfl rfl (fun W hS => hS.b.ld HL.out.2.1) ?_)
        | (refine seq_load 23 (.tmp 10) _ (.agg (ia sl)) (by rfl) rfl rfl (fun W hS => hS.c.ld HL.out.2.2) ?_)
        | (refine seq_callF 11 _ _ [.int .i64 _] (by rfl) rfl (enters_of Tryd.func11 (by kernel_rfl) rfl) rfl (fun W hS => (HRB.out W).mono fun e w' h => ⟨h.1, hS.call h.2⟩) ?_)
        | (refine seq_callF 13 _ _ [.agg (ia q), .int .i64 _] (by rfl) rfl (enters_of Tryd.func13 (by kernel_rfl) rfl) rfl (fun W hS => (HRS.out W).mono fun e w' h => ⟨h.1, hS.call h.2⟩) ?_)
        | (refine seq_callF 12 _ _ [] (by rfl) rfl (enters_of Tryd.func12 (by kernel_rfl) rfl) rfl (fun W hS => (HAW.out W (HEN.out.below hS.be)).mono fun e w' h => ⟨h.1, hS.call h.2⟩) ?_)
        | (apply seq_val (by rfl)
           focus (intro W hS; go_simp; try with_reducible rfl))
          simp only [Act.put, List.setIfInBounds_toArray, List.set_cons_zero, List.set_cons_succ])
        refine seq_nil fun W hS => ?_
        go_wp2
        go_ret
        exact ⟨rfl, hS.be⟩
      · rcases hcs with rfl | ⟨rfl, hq1⟩ | ⟨rfl, hq1⟩
        · skip
          go_upto_region 6 with (first
            | (with_reducible refine wpList_loadB _ rfl 23 (.tmp 3) rfl _ Tryd.underlying23 rfl w.heap.size rfl (ia q) K.out.a HSQ.out ?_)
            | (go_at_call 10; (with_reducible refine (HMA.out _).mono ?_); rintro e w7 ⟨rfl, hb7⟩; replace K := Lib.hid (K.out.call hb7); clear hb7))
          refine wp_region_seq (K3 w Bb Cc q zeros zeros) (by kernel_rfl) (by kernel_rfl) (by kernel_rfl) K.out.drew ?_
          repeat (
            first
          | (refine seq_off (by rfl) ?_)
          | (refine seq_load 23 (.tmp 3) _ (.agg (ia q)) (by rfl) rfl rfl (fun W hS => hS.a.ld HL.out.1) ?_)
          | (refine seq_load 23 (.tmp 8) _ (.agg (ia zeros)) (by rfl) rfl rfl (fun W hS => hS.b.ld HL.out.2.1) ?_)
          | (refine seq_load 23 (.tmp 10) _ (.agg (ia zeros)) (by rfl) rfl rfl (fun W hS => hS.c.ld HL.out.2.2) ?_)
          | (refine seq_callF 11 _ _ [.int .i64 _] (by rfl) rfl (enters_of Tryd.func11 (by kernel_rfl) rfl) rfl (fun W hS => (HRB.out W).mono fun e w' h => ⟨h.1, hS.call h.2⟩) ?_)
          | (refine seq_callF 13 _ _ [.agg (ia q), .int .i64 _] (by rfl) rfl (enters_of Tryd.func13 (by kernel_rfl) rfl) rfl (fun W hS => (HRS.out W).mono fun e w' h => ⟨h.1, hS.call h.2⟩) ?_)
          | (refine seq_callF 12 _ _ [] (by rfl) rfl (enters_of Tryd.func12 (by kernel_rfl) rfl) rfl (fun W hS => (HAW.out W (HEN.out.below hS.be)).mono fun e w' h => ⟨h.1, hS.call h.2⟩) ?_)
          | (apply seq_val (by rfl)
             focus (intro W hS; go_simp; try with_reducible rfl))
            simp only [Act.put, List.setIfInBounds_toArray, List.set_cons_zero, List.set_cons_succ])
          refine seq_nil fun W hS => ?_
          replace K := Lib.hid hS
          clear hS
          go_wp2_with (first
            | (with_reducible refine wpList_loadB _ rfl 23 (.tmp 10) rfl _ Tryd.underlying23 rfl Cc rfl (ia zeros) K.out.c HSZ.out ?_)
            | (go_at_call 12; (with_reducible refine (HAW.out _ (HEN.out.below K.out.be)).mono ?_); rintro e w8 ⟨rfl, hb8⟩; replace K := Lib.hid (K.out.call hb8); clear hb8))
          go_ret
          exact ⟨rfl, K.out.be⟩
        · have d1 : decide (quality < 1) = true := decide_eq_true hq1
          go_upto_region 6 with (first
            | (with_reducible refine wpList_loadB _ rfl 23 (.tmp 3) rfl _ Tryd.underlying23 rfl w.heap.size rfl (ia q) K.out.a HSQ.out ?_)
            | (go_at_call 10; (with_reducible refine (HMA.out _).mono ?_); rintro e w7 ⟨rfl, hb7⟩; replace K := Lib.hid (K.out.call hb7); clear hb7))
          refine wp_region_seq (K3 w Bb Cc q zeros zeros) (by kernel_rfl) (by kernel_rfl) (by kernel_rfl) K.out.drew ?_
          repeat (
            first
          | (refine seq_off (by rfl) ?_)
          | (refine seq_load 23 (.tmp 3) _ (.agg (ia q)) (by rfl) rfl rfl (fun W hS => hS.a.ld HL.out.1) ?_)
          | (refine seq_load 23 (.tmp 8) _ (.agg (ia zeros)) (by rfl) rfl rfl (fun W hS => hS.b.ld HL.out.2.1) ?_)
          | (refine seq_load 23 (.tmp 10) _ (.agg (ia zeros)) (by rfl) rfl rfl (fun W hS => hS.c.ld HL.out.2.2) ?_)
          | (refine seq_callF 11 _ _ [.int .i64 _] (by rfl) rfl (enters_of Tryd.func11 (by kernel_rfl) rfl) rfl (fun W hS => (HRB.out W).mono fun e w' h => ⟨h.1, hS.call h.2⟩) ?_)
          | (refine seq_callF 13 _ _ [.agg (ia q), .int .i64 _] (by rfl) rfl (enters_of Tryd.func13 (by kernel_rfl) rfl) rfl (fun W hS => (HRS.out W).mono fun e w' h => ⟨h.1, hS.call h.2⟩) ?_)
          | (refine seq_callF 12 _ _ [] (by rfl) rfl (enters_of Tryd.func12 (by kernel_rfl) rfl) rfl (fun W hS => (HAW.out W (HEN.out.below hS.be)).mono fun e w' h => ⟨h.1, hS.call h.2⟩) ?_)
          | (apply seq_val (by rfl)
             focus (intro W hS; go_simp; try with_reducible rfl))
            simp only [Act.put, List.setIfInBounds_toArray, List.set_cons_zero, List.set_cons_succ])
          refine seq_nil fun W hS => ?_
          replace K := Lib.hid hS
          clear hS
          go_wp2_with (first
            | (with_reducible refine wpList_loadB _ rfl 23 (.tmp 10) rfl _ Tryd.underlying23 rfl Cc rfl (ia zeros) K.out.c HSZ.out ?_)
            | (go_at_call 12; (with_reducible refine (HAW.out _ (HEN.out.below K.out.be)).mono ?_); rintro e w8 ⟨rfl, hb8⟩; replace K := Lib.hid (K.out.call hb8); clear hb8))
          go_ret
          exact ⟨rfl, K.out.be⟩
        · have d1 : decide (quality < 1) = false := decide_eq_false (by omega)
          have d2 : decide (100 < quality) = true := decide_eq_true hq1
          go_upto_region 6 with (first
            | (with_reducible refine wpList_loadB _ rfl 23 (.tmp 3) rfl _ Tryd.underlying23 rfl w.heap.size rfl (ia q) K.out.a HSQ.out ?_)
            | (go_at_call 10; (with_reducible refine (HMA.out _).mono ?_); rintro e w7 ⟨rfl, hb7⟩; replace K := Lib.hid (K.out.call hb7); clear hb7))
          refine wp_region_seq (K3 w Bb Cc q zeros zeros) (by kernel_rfl) (by kernel_rfl) (by kernel_rfl) K.out.drew ?_
          repeat (
            first
          | (refine seq_off (by rfl) ?_)
          | (refine seq_load 23 (.tmp 3) _ (.agg (ia q)) (by rfl) rfl rfl (fun W hS => hS.a.ld HL.out.1) ?_)
          | (refine seq_load 23 (.tmp 8) _ (.agg (ia zeros)) (by rfl) rfl rfl (fun W hS => hS.b.ld HL.out.2.1) ?_)
          | (refine seq_load 23 (.tmp 10) _ (.agg (ia zeros)) (by rfl) rfl rfl (fun W hS => hS.c.ld HL.out.2.2) ?_)
          | (refine seq_callF 11 _ _ [.int .i64 _] (by rfl) rfl (enters_of Tryd.func11 (by kernel_rfl) rfl) rfl (fun W hS => (HRB.out W).mono fun e w' h => ⟨h.1, hS.call h.2⟩) ?_)
          | (refine seq_callF 13 _ _ [.agg (ia q), .int .i64 _] (by rfl) rfl (enters_of Tryd.func13 (by kernel_rfl) rfl) rfl (fun W hS => (HRS.out W).mono fun e w' h => ⟨h.1, hS.call h.2⟩) ?_)
          | (refine seq_callF 12 _ _ [] (by rfl) rfl (enters_of Tryd.func12 (by kernel_rfl) rfl) rfl (fun W hS => (HAW.out W (HEN.out.below hS.be)).mono fun e w' h => ⟨h.1, hS.call h.2⟩) ?_)
          | (apply seq_val (by rfl)
             focus (intro W hS; go_simp; try with_reducible rfl))
            simp only [Act.put, List.setIfInBounds_toArray, List.set_cons_zero, List.set_cons_succ])
          refine seq_nil fun W hS => ?_
          replace K := Lib.hid hS
          clear hS
          go_wp2_with (first
            | (with_reducible refine wpList_loadB _ rfl 23 (.tmp 10) rfl _ Tryd.underlying23 rfl Cc rfl (ia zeros) K.out.c HSZ.out ?_)
            | (go_at_call 12; (with_reducible refine (HAW.out _ (HEN.out.below K.out.be)).mono ?_); rintro e w8 ⟨rfl, hb8⟩; replace K := Lib.hid (K.out.call hb8); clear hb8))
          go_ret
          exact ⟨rfl, K.out.be⟩
theorem qt_any (q : List Int) (hq : q.length = 64) (kind quality : Int) (w : World) (he : Env w) :
    Calls Tryd.prog 3 #[.agg (ia q), .int .i64 kind, .int .i64 quality] w fun e w' => e = .returned (.bool true) ∧ Below w.heap.size w w' := by
  have base : ∃ bl ok, bl.length = 64 ∧ (∀ W, Env W → Calls Tryd.prog 8 #[.int .i64 kind] W fun e w' => e = .returned (.tuple #[.agg (ia bl), .bool ok]) ∧ Below W.heap.size W w') ∧
      ((ok = true ∧ (kind = 0 ∨ kind = 1) ∧ ∀ W, Calls Tryd.prog 11 #[.int .i64 kind] W fun e w' => e = .returned (.agg (ia bl)) ∧ Below W.heap.size W w') ∨ (ok = false ∧ kind ≠ 0 ∧ kind ≠ 1 ∧ bl = zeros)) := by
    by_cases h : kind = 0 ∨ kind = 1
    · obtain ⟨k, hk, rfl⟩ : ∃ k : Nat, k < 2 ∧ kind = (k : Int) := ⟨kind.toNat, by omega, by omega⟩
      exact ⟨bsL k, true, bsL_len k, fun W hW => base_yes k hk W hW, .inl ⟨rfl, h, fun W => rbase_any k hk W⟩⟩
    · exact ⟨zeros, false, zeros_len, fun W _ => base_no kind (by omega) W, .inr ⟨rfl, by omega, by omega, rfl⟩⟩
  have scl : ∃ sl er, sl.length = 64 ∧ (∀ W, Calls Tryd.prog 9 #[.agg (ia q), .int .i64 quality] W fun e w' => e = .returned (.tuple #[.agg (ia sl), .int .i64 er]) ∧ Below W.heap.size W w') ∧
      ((wiB q 1 255 = true ∧ 1 ≤ quality ∧ quality ≤ 100 ∧ er = 0 ∧ ∀ W, Calls Tryd.prog 13 #[.agg (ia q), .int .i64 quality] W fun e w' => e = .returned (.agg (ia sl)) ∧ Below W.heap.size W w') ∨
        ((wiB q 1 255 = false ∨ wiB q 1 255 = true ∧ quality < 1 ∨ wiB q 1 255 = true ∧ 100 < quality) ∧ er = 1 ∧ sl = zeros)) := by
    cases hm : wiB q 1 255 with
    | false => exact ⟨zeros, 1, zeros_len, fun W => scl_no q hq quality (fun h => by rw [hm] at h; cases h) W, .inr ⟨.inl rfl, rfl, rfl⟩⟩
    | true =>
      by_cases h : 1 ≤ quality ∧ quality ≤ 100
      · exact ⟨scL q quality, 0, mapB_len _, fun W => scl_yes q hq hm quality h.1 h.2 W, .inl ⟨rfl, h.1, h.2, rfl, fun W => rscl_any q hq hm quality h.1 h.2 W⟩⟩
      · exact ⟨zeros, 1, zeros_len, fun W => scl_no q hq quality (fun _ => by omega) W, .inr ⟨.inr (by by_cases h1 : quality < 1; exact .inl ⟨rfl, h1⟩; exact .inr ⟨rfl, by omega⟩), rfl, rfl⟩⟩
  obtain ⟨bl, ok, hbl, HB, ck⟩ := base
  obtain ⟨sl, er, hsl, HS, cs⟩ := scl
  exact qt_core q bl sl hq hbl hsl kind quality er ok (wiB q 1 255) w he HB HS rfl ck cs
end Go.Proofs.YtipmbffpokplgaaDoor
