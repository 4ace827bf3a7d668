/- bytes.Replace of all instances of one byte by two, of two by one. -/
import Derived.Test.YtkkkonmbbdhdhaaGreatDoorRepl
namespace Go.Proofs.YtkkkonmbbdhdhaaGreatDoor
open Go.RowKit Go.Lib
set_option linter.unusedVariables false
set_option maxRecDepth 100000

set_option maxRecDepth 100000 in
set_option maxHeartbeats 3200000 in
theorem repl_12 (l : List UInt8) (A : Option Addr) (c b2 o2 d b3 o3 e3 K N : Nat) (o nw : List UInt8) (w : World) (hw : Env w) (hr : Rd w A l) (hcap : l.length ≤ c) (hA : A = none → c = 0) (ho : o.length = 1) (hn : nw.length = 2)
    (hr2 : Rd w (some ⟨b2, o2, none⟩) o) (hr3 : Rd w (some ⟨b3, o3, none⟩) nw) (hl : l.length ≤ 100000000) (hK0 : 1 ≤ K) (hK : Hid (count l o = K)) (hN : N = l.length + K) (hKr : 1 * K ≤ l.length) (hNl : Hid ((replaceK o nw K l).length = N)) :
    Calls Tryz.prog 50 #[.slice A l.length c, .slice (some ⟨b2, o2, none⟩) 1 d, .slice (some ⟨b3, o3, none⟩) 2 e3, .int .i64 (-1)] w fun e w' => ∃ v, e = .returned v ∧ Ob w' w.heap.size v (replaceK o nw K l) ∧ Below w.heap.size w w' := by
  have hc := count_any l A c b2 o2 d o w hw hr hcap hA (by omega) (by omega) hr2 (by omega)
  rw [hK.out, ho] at hc
  have hne : ((K : Int) == 0) = false := by rw [beq_eq_false_iff_ne]; omega
  have hmk0 : ∀ W : World, (Instr.makeSlice 26 (.int .i64 ((l.length : Int) + (K : Int))) (.int .i64 ((l.length : Int) + (K : Int)))).run Tryz.prog W = .ok (.slice (some ⟨W.heap.size, 0, none⟩) N N) (W.alloc (.cells (zeroRow N) 5)) := fun W => run_makeB N _ (by omega) (by omega) W
  have HO := Lib.hid ho
  have HN := Lib.hid hn
  have HNN := Lib.hid hN
  clear ho hn hN
  have hNle : N ≤ 200000000 := by rw [HNN.out]; omega
  go_enter Tryz.func50, Tryz.ntmps50
  go_wp2_with ((with_reducible refine hc.mono ?_); rintro e w' ⟨rfl, q, hq⟩; subst hq)
  have HB0 := Lib.hid (BufR.start (w.drewN q) N)
  have Hw0 : Hid (Below w.heap.size w ((w.drewN q).alloc (.cells (zeroRow N) 5))) := (below_drewN w q).alloc (Nat.le_refl _) _
  have hC0 : K - 0 ≤ count (l.drop 0) o := by rw [List.drop_zero, hK.out]; exact Nat.sub_le _ _
  clear hc hmk0
  go_loopw [11, 12, 49] (fun s11 s12 s49 wx => ∃ (i start : Nat) (acc : List UInt8), i ≤ K ∧ s49 = .int .i64 i ∧ s12 = .int .i64 start ∧ s11 = .int .i64 acc.length ∧ start ≤ l.length ∧ Hid (BufR wx w.heap.size N acc) ∧ Hid (Below w.heap.size w wx) ∧
      Hid (acc ++ replaceK o nw (K - i) (l.drop start) = replaceK o nw K l) ∧ K - i ≤ count (l.drop start) o) (fun _ _ i _ => K - (RowKit.intOf i).toNat)
  case atStart => exact ⟨0, 0, [], Nat.zero_le _, rfl, rfl, rfl, Nat.zero_le _, HB0, Hw0, (show Hid _ from by show [] ++ _ = _; simp), hC0⟩
  case round =>
    clear HB0 Hw0 hC0
    obtain ⟨i, start, acc, hi, rfl, rfl, rfl, hst, HB, HW, HR, hgc⟩ := hrel
    have hlen1 : acc.length + (replaceK o nw (K - i) (l.drop start)).length = N := by rw [← List.length_append, HR.out, hNl.out]
    have one : o ≠ [] := fun e => by have := HO.out; rw [e] at this; simp at this
    have hrkl := rk_len one nw (K - i) (l.drop start) hgc
    rw [HO.out, HN.out, List.length_drop] at hrkl
    have zB := HW.out.size
    have rA := Lib.hid (hr.below HW.out)
    have r2 := Lib.hid (hr2.below HW.out)
    have r3 := Lib.hid (hr3.below HW.out)
    have ew := Lib.hid (hw.below HW.out)
    by_cases hlt : i < K
    · obtain ⟨j, hj⟩ := index_of_count (s := l.drop start) (old := o) (by omega)
      have hroom := index_room (l.drop start) o (by rw [hj]; omega)
      rw [hj, List.length_drop, HO.out] at hroom
      have hcnt := count_hit one hj
      have hstep := replaceK_hit o nw (K - (i + 1)) (l.drop start) j hj
      rw [show K - (i + 1) + 1 = K - i by omega] at hstep
      rw [HO.out, List.drop_drop] at hcnt hstep
      have htl : ((l.drop start).take j).length = j := by rw [List.length_take, List.length_drop]; omega
      have hRl := congrArg List.length hstep
      rw [List.length_append, List.length_append, htl, HN.out] at hRl
      have hidx := index_any (l.drop start) (winA A c start) (c - start) b2 o2 d o wr ew.out (by have := rA.out.win c start (l.drop start).length hcap; rwa [List.take_length] at this) (by rw [List.length_drop]; omega) (by rw [List.length_drop]; omega) (by rw [HO.out]; omega) (by rw [HO.out]; omega) r2.out (by rw [List.length_drop]; omega)
      rw [hj, List.length_drop, HO.out] at hidx
      have hs1 := fun W => run_win_l A l.length c start (start : Int) rfl hst W
      have hs2 : ∀ W : World, (Instr.slice 26 (.slice (some ⟨w.heap.size, 0, none⟩) N N) (some (.int .i64 (acc.length : Int))) none none).run Tryz.prog W = .ok (tailV w.heap.size N acc.length) W := fun W => by
        rw [run_win_l _ N N acc.length _ rfl (by omega) W, tailV_eq]
      have hs3 : ∀ W : World, (Instr.slice 26 (.slice A l.length c) (some (.int .i64 (start : Int))) (some (.int .i64 ((start : Int) + (j : Int)))) none).run Tryz.prog W = .ok (.slice (winA A c start) j (c - start)) W := fun W => by
        rw [run_win_lh A l.length c start (start + j) _ _ rfl (by omega) (by omega) (by omega) W, Nat.add_sub_cancel_left]
      have hs4 : ∀ W : World, (Instr.slice 26 (.slice (some ⟨w.heap.size, 0, none⟩) N N) (some (.int .i64 ((acc.length : Int) + (j : Int)))) none none).run Tryz.prog W = .ok (tailV w.heap.size N (acc.length + j)) W := fun W => by
        rw [run_win_l _ N N (acc.length + j) _ (by omega) (by omega) W, tailV_eq]
      obtain ⟨T1, hT1⟩ : ∃ T, T = tailV w.heap.size N acc.length := ⟨_, rfl⟩
      obtain ⟨T2, hT2⟩ : ∃ T, T = tailV w.heap.size N (acc.length + j) := ⟨_, rfl⟩
      rw [← hT1] at hs2
      rw [← hT2] at hs4
      have HT1 := Lib.hid hT1
      have HT2 := Lib.hid hT2
      clear hT1 hT2
      have bnd1 : acc.length + j + 2 ≤ N := by omega
      have HJ := Lib.hid hj
      have HC := Lib.hid hcnt
      have HS := Lib.hid hstep
      have HT := Lib.hid htl
      clear hj hcnt hstep htl hrkl hlen1 hRl
      go_wp2_with ((with_reducible refine hidx.mono ?_); rintro e w' ⟨rfl, q2, hq⟩; subst hq)
      have HB2 := Lib.hid (HB.out.drewN q2).drew
      have HW2 := Lib.hid (dN HW.out q2).drew
      have R2 := Lib.hid ((rA.out.drewN q2).win c start j hcap)
      have R3 := Lib.hid (r3.out.drewN q2)
      clear HB rA r3 hidx
      go_region_law (refine step_copyT (by rfl) (.tmp 61) (.tmp 65) (by rfl) w.heap.size N acc.length acc (winA A c start) ((l.drop start).take j) j (c - start) T1 (.slice (winA A c start) j (c - start)) (by go_simp) (by go_simp) HT1.out rfl rfl HT.out.symm HB2.out R2.out.drew (by rw [HT.out]; omega) w.heap.size w HW2.out (Nat.le_refl _) ?_; intro w3 hb3 hw3)
      clear HB2 R2 HT1
      go_wp2_with ((with_reducible refine wpList_copyT _ rfl (.tmp 71) (.tmp 72) rfl w.heap.size N (acc.length + j) (acc ++ (l.drop start).take j) (some ⟨b3, o3, none⟩) nw 2 e3 T2 (.slice (some ⟨b3, o3, none⟩) 2 e3) rfl rfl HT2.out rfl (by rw [List.length_append, HT.out]) HN.out.symm hb3 (hr3.below hw3) (by rw [List.length_append, HT.out, HN.out]; omega) w.heap.size w hw3 (Nat.le_refl _) ?_); intro w4 hb4 hw4)
      have HB4 := Lib.hid hb4
      have HW4 := Lib.hid hw4
      clear hb3 hw3 hb4 hw4
      go_roundw
      case rel =>
        refine ⟨i + 1, start + j + 1, acc ++ (l.drop start).take j ++ nw, by omega, by go_num, by go_num, ?_, by omega, HB4, HW4, ?_, ?_⟩
        · rw [List.length_append, List.length_append, HT.out, HN.out]; go_num
        · show _ = _
          rw [← HR.out, HS.out, Nat.add_assoc]
          simp only [List.append_assoc]
        · rw [Nat.add_assoc]
          have := HC.out
          omega
      case measure => simp [RowKit.intOf]; omega
    · obtain rfl : i = K := by omega
      have hfin : acc ++ l.drop start = replaceK o nw i l := by have := HR.out; rwa [Nat.sub_self] at this
      have hlenF : acc.length + (l.length - start) = N := by
        have := hNl.out
        rw [← hfin, List.length_append, List.length_drop] at this
        exact this
      have hs1 := fun W => run_win_l A l.length c start (start : Int) rfl hst W
      have hs2 : ∀ W : World, (Instr.slice 26 (.slice (some ⟨w.heap.size, 0, none⟩) N N) (some (.int .i64 (acc.length : Int))) none none).run Tryz.prog W = .ok (tailV w.heap.size N acc.length) W := fun W => by
        rw [run_win_l _ N N acc.length _ rfl (by omega) W, tailV_eq]
      have hs5 : ∀ W : World, (Instr.slice 26 (.slice (some ⟨w.heap.size, 0, none⟩) N N) (some (.int .i64 0)) (some (.int .i64 ((acc.length : Int) + ((l.length - start : Nat) : Int)))) none).run Tryz.prog W = .ok (.slice (some ⟨w.heap.size, 0, none⟩) N N) W := fun W => by
        rw [run_win_lh (some ⟨w.heap.size, 0, none⟩) N N 0 N 0 ((acc.length : Int) + ((l.length - start : Nat) : Int)) (by rfl) (by omega) (Nat.zero_le _) (Nat.le_refl _) W]
        unfold winA
        simp [Addr.add]
      obtain ⟨T1, hT1⟩ : ∃ T, T = tailV w.heap.size N acc.length := ⟨_, rfl⟩
      rw [← hT1] at hs2
      have HT1 := Lib.hid hT1
      have HF := Lib.hid hfin
      have HLF := Lib.hid hlenF
      have R2 := Lib.hid (rA.out.win c start (l.drop start).length hcap)
      rw [List.take_length] at R2
      have hb0 : acc.length + (l.length - start) ≤ N := by omega
      clear hT1 hfin hlenF hrkl hlen1 rA r3 HR
      go_wp2
      have HB2 := Lib.hid HB.out.drew
      have HW2 := Lib.hid HW.out.drew
      clear HB
      go_region_law (refine step_copyT (by rfl) (.tmp 123) (.tmp 126) (by rfl) w.heap.size N acc.length acc (winA A c start) (l.drop start) (l.length - start) (c - start) T1 (.slice (winA A c start) (l.length - start) (c - start)) (by go_simp) (by go_simp) HT1.out rfl rfl (by rw [List.length_drop]) HB2.out R2.out.drew (by rw [List.length_drop]; omega) w.heap.size w HW2.out (Nat.le_refl _) ?_; intro w3 hb3 hw3)
      rw [HF.out] at hb3
      have HB3 := Lib.hid hb3
      have HW3 := Lib.hid hw3
      clear hb3 hw3 HB2 R2
      go_wp2
      go_ret
      refine ⟨_, rfl, ?_, HW3.out⟩
      have := BufR.full (base := w.heap.size) (l := replaceK o nw i l) (by rw [hNl.out]; exact HB3.out) (Nat.le_refl _) (by rw [hNl.out]; unfold maxLen; omega)
      rwa [hNl.out] at this

set_option maxRecDepth 100000 in
set_option maxHeartbeats 3200000 in
theorem repl_21 (l : List UInt8) (A : Option Addr) (c b2 o2 d b3 o3 e3 K N : Nat) (o nw : List UInt8) (w : World) (hw : Env w) (hr : Rd w A l) (hcap : l.length ≤ c) (hA : A = none → c = 0) (ho : o.length = 2) (hn : nw.length = 1)
    (hr2 : Rd w (some ⟨b2, o2, none⟩) o) (hr3 : Rd w (some ⟨b3, o3, none⟩) nw) (hl : l.length ≤ 100000000) (hK0 : 1 ≤ K) (hK : Hid (count l o = K)) (hN : N = l.length - K) (hKr : 2 * K ≤ l.length) (hNl : Hid ((replaceK o nw K l).length = N)) :
    Calls Tryz.prog 50 #[.slice A l.length c, .slice (some ⟨b2, o2, none⟩) 2 d, .slice (some ⟨b3, o3, none⟩) 1 e3, .int .i64 (-1)] w fun e w' => ∃ v, e = .returned v ∧ Ob w' w.heap.size v (replaceK o nw K l) ∧ Below w.heap.size w w' := by
  have hc := count_any l A c b2 o2 d o w hw hr hcap hA (by omega) (by omega) hr2 (by omega)
  rw [hK.out, ho] at hc
  have hne : ((K : Int) == 0) = false := by rw [beq_eq_false_iff_ne]; omega
  have hmk0 : ∀ W : World, (Instr.makeSlice 26 (.int .i64 ((l.length : Int) - (K : Int))) (.int .i64 ((l.length : Int) - (K : Int)))).run Tryz.prog W = .ok (.slice (some ⟨W.heap.size, 0, none⟩) N N) (W.alloc (.cells (zeroRow N) 5)) := fun W => run_makeB N _ (by omega) (by omega) W
  have hmk1 : ∀ W : World, (Instr.makeSlice 26 (.int .i64 ((l.length : Int) + -(K : Int))) (.int .i64 ((l.length : Int) + -(K : Int)))).run Tryz.prog W = .ok (.slice (some ⟨W.heap.size, 0, none⟩) N N) (W.alloc (.cells (zeroRow N) 5)) := fun W => run_makeB N _ (by omega) (by omega) W
  have HO := Lib.hid ho
  have HN := Lib.hid hn
  have HNN := Lib.hid hN
  clear ho hn hN
  have hNle : N ≤ 200000000 := by rw [HNN.out]; omega
  go_enter Tryz.func50, Tryz.ntmps50
  go_wp2_with ((with_reducible refine hc.mono ?_); rintro e w' ⟨rfl, q, hq⟩; subst hq)
  have HB0 := Lib.hid (BufR.start (w.drewN q) N)
  have Hw0 : Hid (Below w.heap.size w ((w.drewN q).alloc (.cells (zeroRow N) 5))) := (below_drewN w q).alloc (Nat.le_refl _) _
  have hC0 : K - 0 ≤ count (l.drop 0) o := by rw [List.drop_zero, hK.out]; exact Nat.sub_le _ _
  clear hc hmk0 hmk1
  go_loopw [11, 12, 49] (fun s11 s12 s49 wx => ∃ (i start : Nat) (acc : List UInt8), i ≤ K ∧ s49 = .int .i64 i ∧ s12 = .int .i64 start ∧ s11 = .int .i64 acc.length ∧ start ≤ l.length ∧ Hid (BufR wx w.heap.size N acc) ∧ Hid (Below w.heap.size w wx) ∧
      Hid (acc ++ replaceK o nw (K - i) (l.drop start) = replaceK o nw K l) ∧ K - i ≤ count (l.drop start) o) (fun _ _ i _ => K - (RowKit.intOf i).toNat)
  case atStart => exact ⟨0, 0, [], Nat.zero_le _, rfl, rfl, rfl, Nat.zero_le _, HB0, Hw0, (show Hid _ from by show [] ++ _ = _; simp), hC0⟩
  case round =>
    clear HB0 Hw0 hC0
    obtain ⟨i, start, acc, hi, rfl, rfl, rfl, hst, HB, HW, HR, hgc⟩ := hrel
    have hlen1 : acc.length + (replaceK o nw (K - i) (l.drop start)).length = N := by rw [← List.length_append, HR.out, hNl.out]
    have one : o ≠ [] := fun e => by have := HO.out; rw [e] at this; simp at this
    have hrkl := rk_len one nw (K - i) (l.drop start) hgc
    rw [HO.out, HN.out, List.length_drop] at hrkl
    have zB := HW.out.size
    have rA := Lib.hid (hr.below HW.out)
    have r2 := Lib.hid (hr2.below HW.out)
    have r3 := Lib.hid (hr3.below HW.out)
    have ew := Lib.hid (hw.below HW.out)
    by_cases hlt : i < K
    · obtain ⟨j, hj⟩ := index_of_count (s := l.drop start) (old := o) (by omega)
      have hroom := index_room (l.drop start) o (by rw [hj]; omega)
      rw [hj, List.length_drop, HO.out] at hroom
      have hcnt := count_hit one hj
      have hstep := replaceK_hit o nw (K - (i + 1)) (l.drop start) j hj
      rw [show K - (i + 1) + 1 = K - i by omega] at hstep
      rw [HO.out, List.drop_drop] at hcnt hstep
      have htl : ((l.drop start).take j).length = j := by rw [List.length_take, List.length_drop]; omega
      have hRl := congrArg List.length hstep
      rw [List.length_append, List.length_append, htl, HN.out] at hRl
      have hidx := index_any (l.drop start) (winA A c start) (c - start) b2 o2 d o wr ew.out (by have := rA.out.win c start (l.drop start).length hcap; rwa [List.take_length] at this) (by rw [List.length_drop]; omega) (by rw [List.length_drop]; omega) (by rw [HO.out]; omega) (by rw [HO.out]; omega) r2.out (by rw [List.length_drop]; omega)
      rw [hj, List.length_drop, HO.out] at hidx
      have hs1 := fun W => run_win_l A l.length c start (start : Int) rfl hst W
      have hs2 : ∀ W : World, (Instr.slice 26 (.slice (some ⟨w.heap.size, 0, none⟩) N N) (some (.int .i64 (acc.length : Int))) none none).run Tryz.prog W = .ok (tailV w.heap.size N acc.length) W := fun W => by
        rw [run_win_l _ N N acc.length _ rfl (by omega) W, tailV_eq]
      have hs3 : ∀ W : World, (Instr.slice 26 (.slice A l.length c) (some (.int .i64 (start : Int))) (some (.int .i64 ((start : Int) + (j : Int)))) none).run Tryz.prog W = .ok (.slice (winA A c start) j (c - start)) W := fun W => by
        rw [run_win_lh A l.length c start (start + j) _ _ rfl (by omega) (by omega) (by omega) W, Nat.add_sub_cancel_left]
      have hs4 : ∀ W : World, (Instr.slice 26 (.slice (some ⟨w.heap.size, 0, none⟩) N N) (some (.int .i64 ((acc.length : Int) + (j : Int)))) none none).run Tryz.prog W = .ok (tailV w.heap.size N (acc.length + j)) W := fun W => by
        rw [run_win_l _ N N (acc.length + j) _ (by omega) (by omega) W, tailV_eq]
      obtain ⟨T1, hT1⟩ : ∃ T, T = tailV w.heap.size N acc.length := ⟨_, rfl⟩
      obtain ⟨T2, hT2⟩ : ∃ T, T = tailV w.heap.size N (acc.length + j) := ⟨_, rfl⟩
      rw [← hT1] at hs2
      rw [← hT2] at hs4
      have HT1 := Lib.hid hT1
      have HT2 := Lib.hid hT2
      clear hT1 hT2
      have bnd1 : acc.length + j + 1 ≤ N := by omega
      have HJ := Lib.hid hj
      have HC := Lib.hid hcnt
      have HS := Lib.hid hstep
      have HT := Lib.hid htl
      clear hj hcnt hstep htl hrkl hlen1 hRl
      go_wp2_with ((with_reducible refine hidx.mono ?_); rintro e w' ⟨rfl, q2, hq⟩; subst hq)
      have HB2 := Lib.hid (HB.out.drewN q2).drew
      have HW2 := Lib.hid (dN HW.out q2).drew
      have R2 := Lib.hid ((rA.out.drewN q2).win c start j hcap)
      have R3 := Lib.hid (r3.out.drewN q2)
      clear HB rA r3 hidx
      go_region_law (refine step_copyT (by rfl) (.tmp 61) (.tmp 65) (by rfl) w.heap.size N acc.length acc (winA A c start) ((l.drop start).take j) j (c - start) T1 (.slice (winA A c start) j (c - start)) (by go_simp) (by go_simp) HT1.out rfl rfl HT.out.symm HB2.out R2.out.drew (by rw [HT.out]; omega) w.heap.size w HW2.out (Nat.le_refl _) ?_; intro w3 hb3 hw3)
      clear HB2 R2 HT1
      go_wp2_with ((with_reducible refine wpList_copyT _ rfl (.tmp 71) (.tmp 72) rfl w.heap.size N (acc.length + j) (acc ++ (l.drop start).take j) (some ⟨b3, o3, none⟩) nw 1 e3 T2 (.slice (some ⟨b3, o3, none⟩) 1 e3) rfl rfl HT2.out rfl (by rw [List.length_append, HT.out]) HN.out.symm hb3 (hr3.below hw3) (by rw [List.length_append, HT.out, HN.out]; omega) w.heap.size w hw3 (Nat.le_refl _) ?_); intro w4 hb4 hw4)
      have HB4 := Lib.hid hb4
      have HW4 := Lib.hid hw4
      clear hb3 hw3 hb4 hw4
      go_roundw
      case rel =>
        refine ⟨i + 1, start + j + 2, acc ++ (l.drop start).take j ++ nw, by omega, by go_num, by go_num, ?_, by omega, HB4, HW4, ?_, ?_⟩
        · rw [List.length_append, List.length_append, HT.out, HN.out]; go_num
        · show _ = _
          rw [← HR.out, HS.out, Nat.add_assoc]
          simp only [List.append_assoc]
        · rw [Nat.add_assoc]
          have := HC.out
          omega
      case measure => simp [RowKit.intOf]; omega
    · obtain rfl : i = K := by omega
      have hfin : acc ++ l.drop start = replaceK o nw i l := by have := HR.out; rwa [Nat.sub_self] at this
      have hlenF : acc.length + (l.length - start) = N := by
        have := hNl.out
        rw [← hfin, List.length_append, List.length_drop] at this
        exact this
      have hs1 := fun W => run_win_l A l.length c start (start : Int) rfl hst W
      have hs2 : ∀ W : World, (Instr.slice 26 (.slice (some ⟨w.heap.size, 0, none⟩) N N) (some (.int .i64 (acc.length : Int))) none none).run Tryz.prog W = .ok (tailV w.heap.size N acc.length) W := fun W => by
        rw [run_win_l _ N N acc.length _ rfl (by omega) W, tailV_eq]
      have hs5 : ∀ W : World, (Instr.slice 26 (.slice (some ⟨w.heap.size, 0, none⟩) N N) (some (.int .i64 0)) (some (.int .i64 ((acc.length : Int) + ((l.length - start : Nat) : Int)))) none).run Tryz.prog W = .ok (.slice (some ⟨w.heap.size, 0, none⟩) N N) W := fun W => by
        rw [run_win_lh (some ⟨w.heap.size, 0, none⟩) N N 0 N 0 ((acc.length : Int) + ((l.length - start : Nat) : Int)) (by rfl) (by omega) (Nat.zero_le _) (Nat.le_refl _) W]
        unfold winA
        simp [Addr.add]
      obtain ⟨T1, hT1⟩ : ∃ T, T = tailV w.heap.size N acc.length := ⟨_, rfl⟩
      rw [← hT1] at hs2
      have HT1 := Lib.hid hT1
      have HF := Lib.hid hfin
      have HLF := Lib.hid hlenF
      have R2 := Lib.hid (rA.out.win c start (l.drop start).length hcap)
      rw [List.take_length] at R2
      have hb0 : acc.length + (l.length - start) ≤ N := by omega
      clear hT1 hfin hlenF hrkl hlen1 rA r3 HR
      go_wp2
      have HB2 := Lib.hid HB.out.drew
      have HW2 := Lib.hid HW.out.drew
      clear HB
      go_region_law (refine step_copyT (by rfl) (.tmp 123) (.tmp 126) (by rfl) w.heap.size N acc.length acc (winA A c start) (l.drop start) (l.length - start) (c - start) T1 (.slice (winA A c start) (l.length - start) (c - start)) (by go_simp) (by go_simp) HT1.out rfl rfl (by rw [List.length_drop]) HB2.out R2.out.drew (by rw [List.length_drop]; omega) w.heap.size w HW2.out (Nat.le_refl _) ?_; intro w3 hb3 hw3)
      rw [HF.out] at hb3
      have HB3 := Lib.hid hb3
      have HW3 := Lib.hid hw3
      clear hb3 hw3 HB2 R2
      go_wp2
      go_ret
      refine ⟨_, rfl, ?_, HW3.out⟩
      have := BufR.full (base := w.heap.size) (l := replaceK o nw i l) (by rw [hNl.out]; exact HB3.out) (Nat.le_refl _) (by rw [hNl.out]; unfold maxLen; omega)
      rwa [hNl.out] at this

/-- With 00 behind each FF. -/
theorem replStuff (l : List UInt8) (A : Option Addr) (c b2 o2 d b3 o3 e3 : Nat) (w : World) (hw : Env w) (hr : Rd w A l) (hcap : l.length ≤ c) (hA : A = none → c = 0)
    (hr2 : Rd w (some ⟨b2, o2, none⟩) [255]) (hr3 : Rd w (some ⟨b3, o3, none⟩) [255, 0]) (hl : l.length ≤ 100000000) :
    Calls Tryz.prog 40 #[.slice A l.length c, .slice (some ⟨b2, o2, none⟩) 1 d, .slice (some ⟨b3, o3, none⟩) 2 e3] w fun e w' => ∃ v, e = .returned v ∧ Ob w' w.heap.size v (stf l) ∧ Below w.heap.size w w' := by
  have h : Calls Tryz.prog 50 #[.slice A l.length c, .slice (some ⟨b2, o2, none⟩) 1 d, .slice (some ⟨b3, o3, none⟩) 2 e3, .int .i64 (-1)] w fun e w' => ∃ v, e = .returned v ∧ Ob w' w.heap.size v (stf l) ∧ Below w.heap.size w w' := by
    rw [← stf_rk l]
    by_cases h0 : count l [255] = 0
    · rw [h0]
      exact repl_none l A c b2 o2 d b3 o3 e3 [255] [255, 0] w hw hr hcap hA (by decide) (by decide) hr2 hl h0
    · have h1 := rk_len (old := [255]) (by simp) [255, 0] (count l [255]) l (Nat.le_refl _)
      have h2 := ct_room (old := [255]) (by simp) l
      simp only [List.length_cons, List.length_nil] at h1 h2
      exact repl_12 l A c b2 o2 d b3 o3 e3 (count l [255]) _ [255] [255, 0] w hw hr hcap hA rfl rfl hr2 hr3 hl (by omega) rfl rfl (by omega) (show _ = _ by omega)
  go_enter Tryz.func40, Tryz.ntmps40
  go_wp2_with ((with_reducible refine h.mono ?_); rintro e w' ⟨v, rfl, hv, hb⟩)
  go_ret
  exact ⟨v, rfl, hv, hb⟩
/-- Without 00 behind FF. -/
theorem replPlain (l : List UInt8) (A : Option Addr) (c b2 o2 d b3 o3 e3 : Nat) (w : World) (hw : Env w) (hr : Rd w A l) (hcap : l.length ≤ c) (hA : A = none → c = 0)
    (hr2 : Rd w (some ⟨b2, o2, none⟩) [255, 0]) (hr3 : Rd w (some ⟨b3, o3, none⟩) [255]) (hl : l.length ≤ 100000000) :
    Calls Tryz.prog 40 #[.slice A l.length c, .slice (some ⟨b2, o2, none⟩) 2 d, .slice (some ⟨b3, o3, none⟩) 1 e3] w fun e w' => ∃ v, e = .returned v ∧ Ob w' w.heap.size v (ustF false l) ∧ Below w.heap.size w w' := by
  have h : Calls Tryz.prog 50 #[.slice A l.length c, .slice (some ⟨b2, o2, none⟩) 2 d, .slice (some ⟨b3, o3, none⟩) 1 e3, .int .i64 (-1)] w fun e w' => ∃ v, e = .returned v ∧ Ob w' w.heap.size v (ustF false l) ∧ Below w.heap.size w w' := by
    rw [← ust_rk _ l (Nat.le_refl _)]
    by_cases h0 : count l [255, 0] = 0
    · rw [h0]
      exact repl_none l A c b2 o2 d b3 o3 e3 [255, 0] [255] w hw hr hcap hA (by decide) (by decide) hr2 hl h0
    · have h1 := rk_len (old := [255, 0]) (by simp) [255] (count l [255, 0]) l (Nat.le_refl _)
      have h2 := ct_room (old := [255, 0]) (by simp) l
      simp only [List.length_cons, List.length_nil] at h1 h2
      exact repl_21 l A c b2 o2 d b3 o3 e3 (count l [255, 0]) _ [255, 0] [255] w hw hr hcap hA rfl rfl hr2 hr3 hl (by omega) rfl rfl (by omega) (show _ = _ by omega)
  go_enter Tryz.func40, Tryz.ntmps40
  go_wp2_with ((with_reducible refine h.mono ?_); rintro e w' ⟨v, rfl, hv, hb⟩)
  go_ret
  exact ⟨v, rfl, hv, hb⟩
end Go.Proofs.YtkkkonmbbdhdhaaGreatDoor
