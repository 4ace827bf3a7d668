/- The walk of QuantNearest. -/
import Derived.Test.YtipmbffpokplgaaDoorQV
namespace Go.Proofs.YtipmbffpokplgaaDoor
open Go.RowKit Go.Lib
set_option linter.unusedVariables false
set_option maxRecDepth 100000
set_option maxHeartbeats 8000000 in
theorem qn_no (b q : List Int) (hb : b.length = 64) (hq : q.length = 64) (hn : wiB q 1 255 = true → wiB b (-1048576) 1048576 = false) (w : World) (he : Env w) :
    Calls Tryd.prog 5 #[.agg (ia b), .agg (ia q)] w fun e w' => e = .returned (.bool true) ∧ Below w.heap.size w w' := by
  have HZ := Lib.hid zeroB
  have HSZ := Lib.hid (sizeB zeros_len)
  have HSB := Lib.hid (sizeB hb)
  have HSQ := Lib.hid (sizeB hq)
  have HOZ := Lib.hid (one_ia zeros)
  have HDV := Lib.hid (div_no b q hb hq hn)
  have HAW := Lib.hid awake_any
  have HEN := Lib.hid he
  clear hn he hb hq
  obtain ⟨w1, hw1, hb0, hb1, hB⟩ := two_blk w (ia b) (ia q) 23 23
  have K : Hid (Kn w [(w.heap.size, b), (w.heap.size + 1, q)] w1) := ⟨fun g l hg => by
    rcases List.mem_cons.1 hg with e | e
    · injection e with e1 e2; subst e1 e2; exact hb0
    · injection List.mem_singleton.1 e with e1 e2; subst e1 e2; exact hb1, hB⟩
  clear hb0 hb1 hB
  have hG : ∀ W o x y l, (eqGuard o 23 x y (.agg (ia l)) (.agg #[.int .i64 0, .int .i64 0, .int .i64 0, .int .i64 0, .int .i64 0, .int .i64 0, .int .i64 0, .int .i64 0, .int .i64 0, .int .i64 0, .int .i64 0, .int .i64 0, .int .i64 0, .int .i64 0, .int .i64 0, .int .i64 0, .int .i64 0, .int .i64 0, .int .i64 0, .int .i64 0, .int .i64 0, .int .i64 0, .int .i64 0, .int .i64 0, .int .i64 0, .int .i64 0, .int .i64 0, .int .i64 0, .int .i64 0, .int .i64 0, .int .i64 0, .int .i64 0, .int .i64 0, .int .i64 0, .int .i64 0, .int .i64 0, .int .i64 0, .int .i64 0, .int .i64 0, .int .i64 0, .int .i64 0, .int .i64 0, .int .i64 0, .int .i64 0, .int .i64 0, .int .i64 0, .int .i64 0, .int .i64 0, .int .i64 0, .int .i64 0, .int .i64 0, .int .i64 0, .int .i64 0, .int .i64 0, .int .i64 0, .int .i64 0, .int .i64 0, .int .i64 0, .int .i64 0, .int .i64 0, .int .i64 0, .int .i64 0, .int .i64 0, .int .i64 0])).run Tryd.prog W = .ok () W := fun W o x y l => run_eqGuard_agg W o 23 x y _ _ (by kernel_rfl)
  have hE3 : ∀ W, (Op.equalIn 10000 23 (.agg (ia zeros)) (.agg #[.int .i64 0, .int .i64 0, .int .i64 0, .int .i64 0, .int .i64 0, .int .i64 0, .int .i64 0, .int .i64 0, .int .i64 0, .int .i64 0, .int .i64 0, .int .i64 0, .int .i64 0, .int .i64 0, .int .i64 0, .int .i64 0, .int .i64 0, .int .i64 0, .int .i64 0, .int .i64 0, .int .i64 0, .int .i64 0, .int .i64 0, .int .i64 0, .int .i64 0, .int .i64 0, .int .i64 0, .int .i64 0, .int .i64 0, .int .i64 0, .int .i64 0, .int .i64 0, .int .i64 0, .int .i64 0, .int .i64 0, .int .i64 0, .int .i64 0, .int .i64 0, .int .i64 0, .int .i64 0, .int .i64 0, .int .i64 0, .int .i64 0, .int .i64 0, .int .i64 0, .int .i64 0, .int .i64 0, .int .i64 0, .int .i64 0, .int .i64 0, .int .i64 0, .int .i64 0, .int .i64 0, .int .i64 0, .int .i64 0, .int .i64 0, .int .i64 0, .int .i64 0, .int .i64 0, .int .i64 0, .int .i64 0, .int .i64 0, .int .i64 0, .int .i64 0])).run Tryd.prog W = .ok true W := fun W => eqs64 zeros_len
  go_enter Tryd.func5, Tryd.ntmps5
  go_wp2_with (first
    | (rw [← hw1]; (with_reducible refine wpList_loadB _ rfl 23 (.tmp 2) rfl _ Tryd.underlying23 rfl w.heap.size rfl (ia b) (K.out.get 0 rfl) HSB.out ?_))
    | (with_reducible refine wpList_loadB _ rfl 23 (.tmp 3) rfl _ Tryd.underlying23 rfl (w.heap.size + 1) rfl (ia q) (K.out.get 1 rfl) HSQ.out ?_)
    | (go_at_call 14; (with_reducible refine (HDV.out _).mono ?_); rintro e w2 ⟨rfl, hb2⟩
       replace hb2 : Below w1.heap.size w1 w2 := (by rw [hw1]; simpa using hb2)
       have Hb2 := Lib.hid hb2
       clear hb2)
    | (with_reducible refine wpList_allocZ _ rfl 23 rfl (ia zeros) HZ.out ?_)
    | ((refine wpList_storeB _ rfl 23 (.tmp 5) (.tmp 23) rfl w2.heap.size rfl (ia zeros) (Blk.new w2 (ia zeros) 23) (ia zeros) rfl HSZ.out rfl HOZ.out ?_)
       intro w3 hb3 hc3 hs3; have K2 := Lib.hid (K.out.push Hb2.out hc3 hb3); clear hb3 hc3 hs3)
    | (with_reducible refine wpList_loadB _ rfl 23 (.tmp 5) rfl _ Tryd.underlying23 rfl w2.heap.size rfl (ia zeros) (K2.out.get 2 rfl) HSZ.out ?_)
    | (go_at_call 12; (with_reducible refine (HAW.out _ (HEN.out.below K2.out.be)).mono ?_); rintro e w9 ⟨rfl, hb9⟩; have K3 := Lib.hid (K2.out.call hb9); clear hb9))
  go_ret
  exact ⟨rfl, K3.out.be⟩
theorem getD_map64 (F : Nat → Int) {k : Nat} (h : k < 64) : (mapB F).getD k 0 = F k := mapB_at F h
set_option maxHeartbeats 16000000 in
theorem qn_yes (b q : List Int) (hb : b.length = 64) (hq : q.length = 64) (h1 : wiB q 1 255 = true) (h2 : wiB b (-1048576) 1048576 = true) (w : World) (he : Env w) :
    Calls Tryd.prog 5 #[.agg (ia b), .agg (ia q)] w fun e w' => e = .returned (.bool true) ∧ Below w.heap.size w w' := by
  have HZ := Lib.hid zeroB
  have HSB := Lib.hid (sizeB hb)
  have HSQ := Lib.hid (sizeB hq)
  have ht : (mapB fun i => -(b.getD i 0)).length = 64 := mapB_len _
  have hd : (dvL b q).length = 64 := mapB_len _
  have hm : (mlL b q).length = 64 := mapB_len _
  have hk : (mlL (dvL b q) q).length = 64 := mapB_len _
  have ho : (dvL (mapB fun i => -(b.getD i 0)) q).length = 64 := mapB_len _
  have wt : wiB (mapB fun i => -(b.getD i 0)) (-1048576) 1048576 = true := wiB_of fun k hk => by
    rw [mapB_len] at hk
    rw [mapB_at _ hk]
    have := wiB_at h2 (k := k) (by omega)
    omega
  have wd := dvL_ok hb hq h1 h2
  have HDV := Lib.hid (div_yes b q hb hq h1 h2)
  have HMK := Lib.hid (mul_yes (dvL b q) q hd hq h1 wd)
  have HMM := Lib.hid (mul_yes b q hb hq h1 h2)
  have HDO := Lib.hid (div_yes (mapB fun i => -(b.getD i 0)) q ht hq h1 wt)
  have HAGN := Lib.hid (fun (hn : wiB (mlL b q) (-1048576) 1048576 = false) => div_no (mlL b q) q hm hq (fun _ => hn))
  have HAGY := Lib.hid (fun (hy : wiB (mlL b q) (-1048576) 1048576 = true) => dv_ml hb hq h1 ▸ div_yes (mlL b q) q hm hq h1 hy)
  have HPT : Hid (∀ k, k < 64 → ((1 ≤ q.getD k 0 ∧ q.getD k 0 ≤ 255) ∧ (-1048576 ≤ b.getD k 0 ∧ b.getD k 0 ≤ 1048576) ∧ (-1048576 ≤ (dvL b q).getD k 0 ∧ (dvL b q).getD k 0 ≤ 1048576)) ∧
      ((mlL (dvL b q) q).getD k 0 = (dvL b q).getD k 0 * q.getD k 0 ∧ (mlL b q).getD k 0 = b.getD k 0 * q.getD k 0 ∧ (dvL (mapB fun i => -(b.getD i 0)) q).getD k 0 = -((dvL b q).getD k 0)) ∧
      2 * ((dvL b q).getD k 0 * q.getD k 0 - b.getD k 0) ≤ q.getD k 0 ∧ 2 * (b.getD k 0 - (dvL b q).getD k 0 * q.getD k 0) ≤ q.getD k 0) := by
    show ∀ k, _
    intro k hk
    have c1 := wiB_at h1 (k := k) (by omega)
    have c2 := wiB_at h2 (k := k) (by omega)
    have c3 := wiB_at wd (k := k) (by omega)
    have e1 : (dvL b q).getD k 0 = qoE (b.getD k 0) (q.getD k 0) := mapB_at _ hk
    refine ⟨⟨c1, c2, c3⟩, ⟨mapB_at _ hk, mapB_at _ hk, ?_⟩, ?_⟩
    · rw [dvL, mapB_at _ hk, mapB_at _ hk, e1]
      exact qo_opp c1.1
    · rw [e1]; exact qo_near c1.1
  have HF : Hid (∀ k, k < 64 → (-1048576 ≤ b.getD k 0 ∧ b.getD k 0 ≤ 1048576)) := fun k hk => wiB_at h2 (by omega)
  generalize hTT : (mapB fun i => -(b.getD i 0)) = tn at *
  have HTN := Lib.hid hTT
  generalize dvL b q = d at *
  generalize mlL b q = m at *
  generalize mlL d q = bk at *
  generalize dvL tn q = ot at *
  have HSD := Lib.hid (sizeB hd)
  have HSM := Lib.hid (sizeB hm)
  have HSK := Lib.hid (sizeB hk)
  have HSO := Lib.hid (sizeB ho)
  have HST := Lib.hid (sizeB ht)
  have HED : Hid ((ia zeros).size = (ia d).size) := same_size zeros_len hd
  have HEM : Hid ((ia zeros).size = (ia m).size) := same_size zeros_len hm
  have HEK : Hid ((ia zeros).size = (ia bk).size) := same_size zeros_len hk
  have HEO : Hid ((ia zeros).size = (ia ot).size) := same_size zeros_len ho
  have HOD := Lib.hid (one_ia d)
  have HOM := Lib.hid (one_ia m)
  have HOK := Lib.hid (one_ia bk)
  have HOO := Lib.hid (one_ia ot)
  have HLL : Hid ((b.length = 64 ∧ q.length = 64 ∧ d.length = 64) ∧ bk.length = 64 ∧ m.length = 64 ∧ ot.length = 64) := ⟨⟨hb, hq, hd⟩, hk, hm, ho⟩
  have HAW := Lib.hid awake_any
  have HEN := Lib.hid he
  clear he hb hq hd hm hk ho ht hTT h1 h2 wt wd
  obtain ⟨w1, hw1, hb0, hb1, hB⟩ := two_blk w (ia b) (ia q) 23 23
  have K : Hid (Kn w [(w.heap.size, b), (w.heap.size + 1, q)] w1) := ⟨fun g l hg => by
    rcases List.mem_cons.1 hg with e | e
    · injection e with e1 e2; subst e1 e2; exact hb0
    · injection List.mem_singleton.1 e with e1 e2; subst e1 e2; exact hb1, hB⟩
  clear hb0 hb1 hB
  go_enter Tryd.func5, Tryd.ntmps5
  go_wp2_with (first
    | (with_reducible refine wpList_allocZ _ rfl 23 rfl (ia zeros) HZ.out ?_)
    | (rw [← hw1]; (with_reducible refine wpList_loadB _ rfl 23 (.tmp 2) rfl _ Tryd.underlying23 rfl w.heap.size rfl (ia b) (K.out.get 0 rfl) HSB.out ?_))
    | ((with_reducible refine wpList_loadB _ rfl 23 (.tmp 3) rfl _ Tryd.underlying23 rfl (w.heap.size + 1) rfl (ia q) (K.out.get 1 rfl) HSQ.out ?_))
    | (go_at_call 14; (with_reducible refine (HDV.out _).mono ?_); rintro e w2 ⟨rfl, hb2⟩
       replace hb2 : Below w1.heap.size w1 w2 := (by rw [hw1]; simpa using hb2)
       have Hb2 := Lib.hid hb2
       clear hb2)
    | ((with_reducible refine wpList_storeB _ rfl 23 (.tmp 5) (.tmp 23) rfl w2.heap.size rfl (ia zeros) (Blk.new w2 (ia zeros) 23) (ia d) rfl HSD.out HED.out HOD.out ?_)
       intro v2 hb2 hc2 hs2; have K2 := Lib.hid (K.out.push Hb2.out hc2 hb2); clear hb2 hc2 hs2)
    | ((with_reducible refine wpList_loadB _ rfl 23 (.tmp 5) rfl _ Tryd.underlying23 rfl w2.heap.size rfl (ia d) (K2.out.get 2 rfl) HSD.out ?_))
    | ((with_reducible refine wpList_loadB _ rfl 23 (.tmp 3) rfl _ Tryd.underlying23 rfl (w.heap.size + 1) rfl (ia q) (K2.out.get 1 rfl) HSQ.out ?_))
    | (go_at_call 15; (with_reducible refine (HMK.out _).mono ?_); rintro e w3 ⟨rfl, hb3⟩
       have Hb3 := Lib.hid hb3
       clear hb3)
    | ((with_reducible refine wpList_storeB _ rfl 23 (.tmp 7) (.tmp 37) rfl w3.heap.size rfl (ia zeros) (Blk.new w3 (ia zeros) 23) (ia bk) rfl HSK.out HEK.out HOK.out ?_)
       intro v3 hb3 hc3 hs3; have K3 := Lib.hid (K2.out.push Hb3.out hc3 hb3); clear hb3 hc3 hs3)
    | ((with_reducible refine wpList_loadB _ rfl 23 (.tmp 2) rfl _ Tryd.underlying23 rfl w.heap.size rfl (ia b) (K3.out.get 0 rfl) HSB.out ?_))
    | ((with_reducible refine wpList_loadB _ rfl 23 (.tmp 3) rfl _ Tryd.underlying23 rfl (w.heap.size + 1) rfl (ia q) (K3.out.get 1 rfl) HSQ.out ?_))
    | (go_at_call 15; (with_reducible refine (HMM.out _).mono ?_); rintro e w4 ⟨rfl, hb4⟩
       have Hb4 := Lib.hid hb4
       clear hb4)
    | ((with_reducible refine wpList_storeB _ rfl 23 (.tmp 9) (.tmp 43) rfl w4.heap.size rfl (ia zeros) (Blk.new w4 (ia zeros) 23) (ia m) rfl HSM.out HEM.out HOM.out ?_)
       intro v4 hb4 hc4 hs4; have K4 := Lib.hid (K3.out.push Hb4.out hc4 hb4); clear hb4 hc4 hs4))
  have K5 := Lib.hid (K4.out.new zeros 23)
  have HFR := Lib.hid K4.out.fresh
  have HGW := Lib.hid K4.out.be.size
  generalize v4.alloc (.cells (ia zeros) 23) = v5 at *
  generalize v4.heap.size = g5 at *
  clear K K2 K3 K4 Hb2 Hb3 Hb4 HDV HMK HMM hw1
  generalize w2.heap.size = g2 at *
  generalize w3.heap.size = g3 at *
  generalize w4.heap.size = g4 at *
  have HL4 : Hid (∃ L4, L4 = [(w.heap.size, b), (w.heap.size + 1, q)] ++ [(g2, d)] ++ [(g3, bk)] ++ [(g4, m)]) := ⟨_, rfl⟩
  obtain ⟨L4, hL4⟩ := HL4.out
  have HL4 := Lib.hid hL4
  rw [← hL4] at K5 HFR
  clear hL4
  have G0 : Hid (L4[0]? = some (w.heap.size, b)) := by show _ = _; rw [HL4.out]; rfl
  have G1 : Hid (L4[1]? = some (w.heap.size + 1, q)) := by show _ = _; rw [HL4.out]; rfl
  have hbl := HLL.out.1.1
  have HBL := Lib.hid hbl
  clear hbl
  go_loopw [12] (fun i wr => ∃ (k : Nat), k ≤ 64 ∧ i = .int .i64 k ∧ Hid (Kn w (L4 ++ [(g5, partK (fun i => -(b.getD i 0)) k)]) wr)) (fun i _ => 64 - (RowKit.intOf i).toNat)
  case atStart => exact ⟨0, by omega, rfl, (show Hid _ from by show Kn _ _ _; rw [partK_zero]; exact K5.out)⟩
  case round =>
    clear K5
    obtain ⟨k, hk, rfl, K5⟩ := hrel
    by_cases hlt : k < 64
    · have HN : Hid ((partK (fun i => -(b.getD i 0)) k).set k (-(b.getD k 0)) = partK (fun i => -(b.getD i 0)) (k + 1)) := partK_next (fun i => -(b.getD i 0)) hlt
      have HP := Lib.hid (partK_len (fun i => -(b.getD i 0)) k)
      have e0 := K5.out.cell 0 (k := k) (by rw [List.getElem?_append_left (by rw [HL4.out]; simp)]; exact G0.out) (by rw [HBL.out]; exact hlt) rfl
      have hd1 := (K5.out.blk g5 (partK (fun i => -(b.getD i 0)) k) (List.mem_append_right _ (List.mem_singleton.2 rfl))).cell (ia_at (j := k) (by rw [HP.out]; exact hlt))
      have hf1 := (K5.out.blk g5 (partK (fun i => -(b.getD i 0)) k) (List.mem_append_right _ (List.mem_singleton.2 rfl))).frozen k
      obtain ⟨c1, c2⟩ := HF.out k hlt
      have HS : Hid (∀ v, Kn w (L4 ++ [(g5, (partK (fun i => -(b.getD i 0)) k).set k v)]) (wr.setCell ⟨g5, k, none⟩ (.int .i64 v))) := fun v => K5.out.set HFR.out HGW.out k v
      generalize (partK (fun i => -(b.getD i 0)) k).getD k 0 = o at *
      generalize b.getD k 0 = x at *
      go_wp2
      go_roundw
      case rel => exact ⟨k + 1, by omega, by go_num, (show Hid _ from by show Kn _ _ _; rw [← HN.out]; exact HS.out _)⟩
      case measure => simp [RowKit.intOf]; omega
    · obtain rfl : k = 64 := by omega
      have HA : Hid (partK (fun i => -(b.getD i 0)) 64 = tn) := by show _ = _; rw [partK_all]; exact HTN.out
      rw [HA.out] at K5
      clear HA HTN HF
      have T1 : Hid ((L4 ++ [(g5, tn)])[1]? = some (w.heap.size + 1, q)) := by show _ = _; rw [HL4.out]; rfl
      have T5 : Hid ((L4 ++ [(g5, tn)])[5]? = some (g5, tn)) := by show _ = _; rw [HL4.out]; rfl
      go_wp2_with (first
        | (with_reducible refine wpList_loadB _ rfl 23 (.tmp 11) rfl _ Tryd.underlying23 rfl g5 rfl (ia tn) (K5.out.get 5 T5.out) HST.out ?_)
        | (with_reducible refine wpList_loadB _ rfl 23 (.tmp 3) rfl _ Tryd.underlying23 rfl (w.heap.size + 1) rfl (ia q) (K5.out.get 1 T1.out) HSQ.out ?_)
        | (go_at_call 14; (with_reducible refine (HDO.out _).mono ?_); rintro e w6 ⟨rfl, hb6⟩; have Hb6 := Lib.hid hb6; clear hb6)
        | (with_reducible refine wpList_allocZ _ rfl 23 rfl (ia zeros) HZ.out ?_)
        | ((with_reducible refine wpList_storeB _ rfl 23 (.tmp 13) (.tmp 59) rfl w6.heap.size rfl (ia zeros) (Blk.new w6 (ia zeros) 23) (ia ot) rfl HSO.out HEO.out HOO.out ?_)
           intro v6 hb6 hc6 hs6; have K6 := Lib.hid (K5.out.push Hb6.out hc6 hb6); clear hb6 hc6 hs6))
      clear K5 Hb6 HDO HSO HEO HOO HST
      generalize w6.heap.size = g6 at *
      have HL7 : Hid (∃ L7, L7 = L4 ++ [(g5, tn)] ++ [(g6, ot)]) := ⟨_, rfl⟩
      obtain ⟨L7, hL7⟩ := HL7.out
      rw [← hL7] at K6
      have G0 : Hid (L7[0]? = some (w.heap.size, b)) := by show _ = _; rw [hL7, HL4.out]; rfl
      have G1 : Hid (L7[1]? = some (w.heap.size + 1, q)) := by show _ = _; rw [hL7, HL4.out]; rfl
      have G2 : Hid (L7[2]? = some (g2, d)) := by show _ = _; rw [hL7, HL4.out]; rfl
      have G3 : Hid (L7[3]? = some (g3, bk)) := by show _ = _; rw [hL7, HL4.out]; rfl
      have G4 : Hid (L7[4]? = some (g4, m)) := by show _ = _; rw [hL7, HL4.out]; rfl
      have G6 : Hid (L7[6]? = some (g6, ot)) := by show _ = _; rw [hL7, HL4.out]; rfl
      clear hL7 HL7 HL4 T1 T5
      go_loopw [15] (fun i wr => ∃ (k : Nat), k ≤ 64 ∧ i = .int .i64 k ∧ Hid (Kn w L7 wr)) (fun i _ => 64 - (RowKit.intOf i).toNat)
      case atStart => exact ⟨0, by omega, rfl, K6⟩
      case round =>
        clear K6
        obtain ⟨k, hk, rfl, K6⟩ := hrel
        by_cases hlt : k < 64
        · obtain ⟨⟨⟨c1, c2⟩, ⟨c3, c4⟩, c5, c6⟩, ⟨p1, p2, p3⟩, n1, n2⟩ := HPT.out k hlt
          have E1 : Hid (∀ W, Kn w L7 W → W.cell? ⟨w.heap.size, k, none⟩ = some (.int .i64 (b.getD k 0))) := fun W hS => hS.cell 0 G0.out (by rw [HLL.out.1.1]; exact hlt) rfl
          have E2 : Hid (∀ W, Kn w L7 W → W.cell? ⟨w.heap.size + 1, k, none⟩ = some (.int .i64 (q.getD k 0))) := fun W hS => hS.cell 1 G1.out (by rw [HLL.out.1.2.1]; exact hlt) rfl
          have E3 : Hid (∀ W, Kn w L7 W → W.cell? ⟨g2, k, none⟩ = some (.int .i64 (d.getD k 0))) := fun W hS => hS.cell 2 G2.out (by rw [HLL.out.1.2.2]; exact hlt) rfl
          have E4 : Hid (∀ W, Kn w L7 W → W.cell? ⟨g3, k, none⟩ = some (.int .i64 (d.getD k 0 * q.getD k 0))) := fun W hS => hS.cell 3 G3.out (by rw [HLL.out.2.1]; exact hlt) p1
          have E5 : Hid (∀ W, Kn w L7 W → W.cell? ⟨g4, k, none⟩ = some (.int .i64 (b.getD k 0 * q.getD k 0))) := fun W hS => hS.cell 4 G4.out (by rw [HLL.out.2.2.1]; exact hlt) p2
          have E6 : Hid (∀ W, Kn w L7 W → W.cell? ⟨g6, k, none⟩ = some (.int .i64 (-(d.getD k 0)))) := fun W hS => hS.cell 6 G6.out (by rw [HLL.out.2.2.2]; exact hlt) p3
          clear p1 p2 p3
          have u1 := mul_bnd c5 c6 c1 c2
          have u2 := mul_bnd c3 c4 c1 c2
          generalize q.getD k 0 = y at *
          generalize d.getD k 0 = dk at *
          generalize b.getD k 0 = x at *
          generalize hbk : dk * y = xk at *
          generalize hmk : x * y = mk at *
          have WR := Lib.hid (IntWalk.wrap64_in mk (by omega))
          have hM : ∃ M, IntKind.i64.wrap (2 * if IntKind.i64.wrap (xk - x) < IntKind.i64.wrap (x - xk) then IntKind.i64.wrap (x - xk) else IntKind.i64.wrap (xk - x)) = M ∧ M ≤ y := by
            refine ⟨_, rfl, ?_⟩
            rw [IntWalk.i64_in (xk - x) (by omega), IntWalk.i64_in (x - xk) (by omega)]
            split
            · rw [IntWalk.i64_in _ (by omega)]; omega
            · rw [IntWalk.i64_in _ (by omega)]; omega
          obtain ⟨M, hM1, hM2⟩ := hM
          have HM1 := Lib.hid hM1
          have d1 : decide (y < M) = false := decide_eq_false (by omega)
          have W4 : IntKind.i64.wrap (-dk) = -dk := IntWalk.i64_in _ (by omega)
          have W5 : IntKind.i64.wrap mk = mk := IntWalk.i64_in _ (by omega)
          clear hM1
          have hk0 : 0 ≤ (k : Int) := by omega
          have hk1 : (k : Int) < 64 := by omega
          go_upto_region 17 with fail
          refine wp_region_seq (Kn w L7) (by kernel_rfl) (by kernel_rfl) (by kernel_rfl) K6.out.drew ?_
          repeat (
            first
              | (refine seq_off (by rfl) ?_)
              | (apply seq_val (by rfl)
                 focus (intro W hS; have e1 := E1.out W hS; have e2 := E2.out W hS; have e3 := E3.out W hS; have e4 := E4.out W hS; have e5 := E5.out W hS; have e6 := E6.out W hS; go_simp; try with_reducible rfl; done))
            simp only [Act.put, List.setIfInBounds_toArray, List.set_cons_zero, List.set_cons_succ])
          refine seq_nil fun W hS => ?_
          replace K6 := Lib.hid hS
          clear hS
          rw [HM1.out]
          go_upto_region 18 with fail
          refine wp_region_seq (Kn w L7) (by kernel_rfl) (by kernel_rfl) (by kernel_rfl) K6.out.drew ?_
          repeat (
            first
              | (refine seq_off (by rfl) ?_)
              | (apply seq_val (by rfl)
                 focus (intro W hS; have e1 := E1.out W hS; have e2 := E2.out W hS; have e3 := E3.out W hS; have e4 := E4.out W hS; have e5 := E5.out W hS; have e6 := E6.out W hS; go_simp; try with_reducible rfl; done))
            simp only [Act.put, List.setIfInBounds_toArray, List.set_cons_zero, List.set_cons_succ])
          refine seq_nil fun W hS => ?_
          replace K6 := Lib.hid hS
          clear hS
          go_wp2
          go_roundw
          case rel => exact ⟨k + 1, by omega, by go_num, K6⟩
          case measure => simp [RowKit.intOf]; omega
        · obtain rfl : k = 64 := by omega
          have hG : ∀ W o x y l m, (eqGuard o 23 x y (.agg (ia l)) (.agg (ia m))).run Tryd.prog W = .ok () W := fun W o x y l m => run_eqGuard_agg W o 23 x y _ _ (by kernel_rfl)
          have hE1 : ∀ W, (Op.equalIn 10000 23 (.agg (ia b)) (.agg (ia b))).run Tryd.prog W = .ok true W := fun W => eqs64 HLL.out.1.1
          have HOB := Lib.hid (one_ia b)
          have HEB : Hid ((ia zeros).size = (ia b).size) := same_size zeros_len HLL.out.1.1
          have HSZ := Lib.hid (sizeB zeros_len)
          have HOZ := Lib.hid (one_ia zeros)
          clear HPT
          cases hmw : wiB m (-1048576) 1048576 with
          | true =>
            have HAG := Lib.hid (HAGY.out hmw)
            clear HAGY HAGN hmw
            go_wp2_with (first
              | (with_reducible refine wpList_loadB _ rfl 23 (.tmp 9) rfl _ Tryd.underlying23 rfl g4 rfl (ia m) (K6.out.get 4 G4.out) HSM.out ?_)
              | (with_reducible refine wpList_loadB _ rfl 23 (.tmp 3) rfl _ Tryd.underlying23 rfl (w.heap.size + 1) rfl (ia q) (K6.out.get 1 G1.out) HSQ.out ?_)
              | (go_at_call 14; (with_reducible refine (HAG.out _).mono ?_); rintro e w7 ⟨rfl, hb7⟩; have Hb7 := Lib.hid hb7; clear hb7)
              | (with_reducible refine wpList_allocZ _ rfl 23 rfl (ia zeros) HZ.out ?_)
              | ((with_reducible refine wpList_storeB _ rfl 23 (.tmp 17) (.tmp 123) rfl w7.heap.size rfl (ia zeros) (Blk.new w7 (ia zeros) 23) (ia b) rfl HSB.out HEB.out HOB.out ?_)
                 intro v7 hb7 hc7 hs7; have H7 := Lib.hid hb7; have K7 := Lib.hid (K6.out.push Hb7.out hc7 hb7); clear hb7 hc7 hs7)
              | (refine wpList_open (by rfl) (wpList_loadB _ rfl 23 (.tmp 17) rfl _ Tryd.underlying23 rfl w7.heap.size rfl (ia b) H7.out HSB.out ?_))
              | (refine wpList_open (by rfl) (wpList_loadB _ rfl 23 (.tmp 2) rfl _ Tryd.underlying23 rfl w.heap.size rfl (ia b) (K7.out.blk w.heap.size b (List.mem_append_left _ (List.mem_of_getElem? G0.out))) HSB.out ?_))
              | (go_at_call 12; (with_reducible refine (HAW.out _ (HEN.out.below K7.out.be)).mono ?_); rintro e w8 ⟨rfl, hb8⟩; have K8 := Lib.hid (K7.out.call hb8); clear hb8))
            go_ret
            exact ⟨rfl, K8.out.be⟩
          | false =>
            have HAG := Lib.hid (HAGN.out hmw)
            clear HAGY HAGN hmw
            go_wp2_with (first
              | (with_reducible refine wpList_loadB _ rfl 23 (.tmp 9) rfl _ Tryd.underlying23 rfl g4 rfl (ia m) (K6.out.get 4 G4.out) HSM.out ?_)
              | (with_reducible refine wpList_loadB _ rfl 23 (.tmp 3) rfl _ Tryd.underlying23 rfl (w.heap.size + 1) rfl (ia q) (K6.out.get 1 G1.out) HSQ.out ?_)
              | (go_at_call 14; (with_reducible refine (HAG.out _).mono ?_); rintro e w7 ⟨rfl, hb7⟩; have Hb7 := Lib.hid hb7; clear hb7)
              | (with_reducible refine wpList_allocZ _ rfl 23 rfl (ia zeros) HZ.out ?_)
              | ((refine wpList_storeB _ rfl 23 (.tmp 17) (.tmp 123) rfl w7.heap.size rfl (ia zeros) (Blk.new w7 (ia zeros) 23) (ia zeros) rfl HSZ.out rfl HOZ.out ?_)
                 intro v7 hb7 hc7 hs7; have K7 := Lib.hid (K6.out.push Hb7.out hc7 hb7); clear hb7 hc7 hs7)
              | (go_at_call 12; (with_reducible refine (HAW.out _ (HEN.out.below K7.out.be)).mono ?_); rintro e w8 ⟨rfl, hb8⟩; have K8 := Lib.hid (K7.out.call hb8); clear hb8))
            go_ret
            exact ⟨rfl, K8.out.be⟩
theorem qn_any (b q : List Int) (hb : b.length = 64) (hq : q.length = 64) (w : World) (he : Env w) :
    Calls Tryd.prog 5 #[.agg (ia b), .agg (ia q)] w fun e w' => e = .returned (.bool true) ∧ Below w.heap.size w w' := by
  cases h1 : wiB q 1 255 with
  | false => exact qn_no b q hb hq (fun h => by rw [h1] at h; cases h) w he
  | true =>
    cases h2 : wiB b (-1048576) 1048576 with
    | false => exact qn_no b q hb hq (fun _ => h2) w he
    | true => exact qn_yes b q hb hq h1 h2 w he
end Go.Proofs.YtipmbffpokplgaaDoor
