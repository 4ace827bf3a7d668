/- PrefixTells: the law's walk. -/
import Derived.Test.YtkkkonmbbdhdhaaTelC
import Derived.Shelf.Abstract
namespace Go.Proofs.Ytkkkonmbbdhdhaa
open Go.RowKit Go.Lib Go.Sort
set_option linter.unusedVariables false
set_option maxRecDepth 100000
set_option maxHeartbeats 8000000 in
theorem tells_any (cs l t : List Int) (A Bd : Option Addr) (c d : Nat) (sym : Int) (w : World) (hcs : cs.length = 16) (hr : Ri w A l) (ht : Ri w Bd t) (hs0 : -9223372036854775808 ≤ sym) (hs1 : sym ≤ 9223372036854775807) :
    Calls Try.prog 3 #[.agg (hx cs (.slice A l.length c)), .int .i64 sym, .slice Bd t.length d] w fun e w' => e = .returned (.bool true) ∧ Below w.heap.size w w' := by
  obtain ⟨n, hn⟩ : ∃ n, n = l.length := ⟨_, rfl⟩
  obtain ⟨m, hm⟩ : ∃ m, m = t.length := ⟨_, rfl⟩
  rw [← hn, ← hm]
  obtain ⟨w1, hw1⟩ : ∃ w1, w1 = w.alloc (.cells (hx cs (.slice A n c)) 25) := ⟨_, rfl⟩
  have HW0 : Hid (Below w.heap.size w w1) := by rw [hw1]; exact (Below.refl w.heap.size w).alloc (Nat.le_refl _) _
  have HK0 : Hid (Blk w1 w.heap.size (hx cs (.slice A n c))) := by rw [hw1]; exact Blk.new w _ _
  have HZ1 : w1.heap.size = w.heap.size + 1 := by rw [hw1]; simp
  have HR0 := Lib.hid (hr.below HW0.out)
  have HT0 := Lib.hid (ht.below HW0.out)
  have e16 := HK0.out.cell (j := 16) (v := .slice A n c) (by have := hx_last cs (.slice A n c); rwa [hcs] at this)
  rw [hw1] at e16
  have HN := Lib.hid hn
  have HM := Lib.hid hm
  have HCS := Lib.hid hcs
  have HAL := Lib.hid awake_any
  clear hr ht hn hm hcs
  go_enter Try.func3, Try.ntmps3
  by_cases hn3 : 300 < n
  · have hn' : (300 : Int) < (n : Int) := by omega
    go_wp2_with (first
      | ((with_reducible refine (HAL.out _).mono ?_)
         rintro e w2 ⟨rfl, hb2⟩))
    go_ret
    rw [← hw1] at hb2
    exact ⟨rfl, below_le HW0.out hb2 HW0.out.size⟩
  have hn' : ¬ (300 : Int) < (n : Int) := by omega
  by_cases hm3 : 300 < m
  · have hm' : (300 : Int) < (m : Int) := by omega
    go_wp2_with (first
      | ((with_reducible refine (HAL.out _).mono ?_)
         rintro e w2 ⟨rfl, hb2⟩))
    go_ret
    rw [← hw1] at hb2
    exact ⟨rfl, below_le HW0.out hb2 HW0.out.size⟩
  have hm' : ¬ (300 : Int) < (m : Int) := by omega
  go_upto_region 3 with fail
  rw [← hw1]
  clear e16 hw1
  refine wp_region_seqG 11 (Below w1.heap.size w1) (fun W W' => Below W.heap.size W W') (hs3 w.heap.size cs l t A Bd n c m d) (by kernel_rfl) (by kernel_rfl) hs3_st (Below.refl _ _).drew ?_
  simp only [List.take_succ_cons, List.take_zero, List.drop_succ_cons, List.drop_zero]
  refine seqG_cons (by rfl) (fun W hS hp => ⟨.pointer (some ⟨w.heap.size, 0, none⟩), W, by go_simp, Below.refl _ _, hS, rfl⟩) (fun v0 => ?_)
  simp only [Act.put, List.setIfInBounds_toArray, List.set_cons_zero, List.set_cons_succ]
  refine seqG_cons (by rfl) (fun W hS hp => ?_) (fun v1 => ?_)
  · have p0 : v0 = .pointer (some ⟨w.heap.size, 0, none⟩) := hp { on := 0, ground := .data } (by simp) rfl
    subst p0
    exact ⟨.agg (ia cs), W, exec_load _ _ _ _ rfl rfl (ld_c HCS.out (HK0.out.below hS)), Below.refl _ _, hS, rfl⟩
  simp only [Act.put, List.setIfInBounds_toArray, List.set_cons_zero, List.set_cons_succ]
  refine seqG_cons (by rfl) (fun W hS hp => ⟨.slice (some ⟨W.heap.size, 0, none⟩) 0 0, W.alloc (.cells #[] 3), by go_simp, (Below.refl _ _).alloc (Nat.le_refl _) _, hS.alloc hS.size _, ⟨_, rfl⟩⟩) (fun v2 => ?_)
  simp only [Act.put, List.setIfInBounds_toArray, List.set_cons_zero, List.set_cons_succ]
  refine seqG_cons (by rfl) (fun W hS hp => ⟨.pointer (some ⟨w.heap.size, 16, none⟩), W, by go_simp, Below.refl _ _, hS, rfl⟩) (fun v3 => ?_)
  simp only [Act.put, List.setIfInBounds_toArray, List.set_cons_zero, List.set_cons_succ]
  refine seqG_cons (by rfl) (fun W hS hp => ?_) (fun v4 => ?_)
  · have p3 : v3 = .pointer (some ⟨w.heap.size, 16, none⟩) := hp { on := 3, ground := .data } (by simp) rfl
    subst p3
    have e16 := (HK0.out.below hS).cell (j := 16) (v := .slice A n c) (by have := hx_last cs (.slice A n c); rwa [HCS.out] at this)
    exact ⟨.slice A n c, W, by go_simp, Below.refl _ _, hS, rfl⟩
  simp only [Act.put, List.setIfInBounds_toArray, List.set_cons_zero, List.set_cons_succ]
  refine seqG_cons (by rfl) (fun W hS hp => ?_) (fun v5 => ?_)
  · have p2 : ∃ g, v2 = .slice (some ⟨g, 0, none⟩) 0 0 := hp { on := 2, ground := .data } (by simp) rfl
    have p4 : v4 = .slice A n c := hp { on := 4, ground := .data } (by simp) rfl
    obtain ⟨g, rfl⟩ := p2
    subst p4
    obtain ⟨A', c', W', h1, h2, h4, h3⟩ := run_appE0 W g A n c l HN.out (HR0.out.below hS) (by have := HN.out; omega) 23
    exact ⟨.slice A' n c', W', exec_app _ _ _ _ _ _ rfl rfl rfl h1, h3, hS.trans (h3.mono hS.size), ⟨A', c', rfl, h2, h4⟩⟩
  simp only [Act.put, List.setIfInBounds_toArray, List.set_cons_zero, List.set_cons_succ]
  refine seqG_cons (by rfl) (fun W hS hp => ?_) (fun v6 => ?_)
  · have p1 : v1 = .agg (ia cs) := hp { on := 1, ground := .data } (by simp) rfl
    have p5 : ∃ A' c', v5 = .slice A' n c' ∧ Ri W A' l ∧ Ty W A' l := hp { on := 5, ground := .data } (by simp) rfl
    obtain ⟨A', c', rfl, _⟩ := p5
    subst p1
    exact ⟨.agg (hx cs (.slice A' n c')), W, exec_build cs _ _ _ _ _ rfl rfl rfl HCS.out, Below.refl _ _, hS, ⟨A', c', rfl, rfl⟩⟩
  simp only [Act.put, List.setIfInBounds_toArray, List.set_cons_zero, List.set_cons_succ]
  refine seqG_cons (by rfl) (fun W hS hp => ⟨.slice (some ⟨W.heap.size, 0, none⟩) 0 0, W.alloc (.cells #[] 3), by go_simp, (Below.refl _ _).alloc (Nat.le_refl _) _, hS.alloc hS.size _, ⟨_, rfl⟩⟩) (fun v7 => ?_)
  simp only [Act.put, List.setIfInBounds_toArray, List.set_cons_zero, List.set_cons_succ]
  refine seqG_cons (by rfl) (fun W hS hp => ⟨.slice Bd m d, W, by go_simp, Below.refl _ _, hS, rfl⟩) (fun v8 => ?_)
  simp only [Act.put, List.setIfInBounds_toArray, List.set_cons_zero, List.set_cons_succ]
  refine seqG_cons (by rfl) (fun W hS hp => ?_) (fun v9 => ?_)
  · have p7 : ∃ g, v7 = .slice (some ⟨g, 0, none⟩) 0 0 := hp { on := 7, ground := .data } (by simp) rfl
    have p8 : v8 = .slice Bd m d := hp { on := 8, ground := .data } (by simp) rfl
    obtain ⟨g, rfl⟩ := p7
    subst p8
    obtain ⟨A', c', W', h1, h2, h4, h3⟩ := run_appE0 W g Bd m d t HM.out (HT0.out.below hS) (by have := HM.out; omega) 23
    exact ⟨.slice A' m c', W', exec_app _ _ _ _ _ _ rfl rfl rfl h1, h3, hS.trans (h3.mono hS.size), ⟨A', c', rfl, h2, h4⟩⟩
  simp only [Act.put, List.setIfInBounds_toArray, List.set_cons_zero, List.set_cons_succ]
  refine seqG_cons (by rfl) (fun W hS hp => ⟨.pointer (some ⟨W.heap.size, 0, none⟩), W.alloc (.cells (hx (zeroL 16) (.slice none 0 0)) 25), exec_alloc _ rfl _ infoH, (Below.refl _ _).alloc (Nat.le_refl _) _, hS.alloc hS.size _, ⟨_, rfl, by have := hS.size; omega, heap_alloc_new _ _⟩⟩) (fun v10 => ?_)
  simp only [Act.put, List.setIfInBounds_toArray, List.set_cons_zero, List.set_cons_succ]
  refine seqG_nil fun W hS hF => ?_
  have f0 : v0 = .pointer (some ⟨w.heap.size, 0, none⟩) := hF 0 (by decide)
  have f1 : v1 = .agg (ia cs) := hF 1 (by decide)
  have f5 : ∃ A' c', v5 = .slice A' n c' ∧ Ri W A' l ∧ Ty W A' l := hF 5 (by decide)
  have f6 : ∃ A' c', [v1, v5] = [.agg (ia cs), .slice A' n c'] ∧ v6 = .agg (hx cs (.slice A' n c')) := hF 6 (by decide)
  have f9 : ∃ A' c', v9 = .slice A' m c' ∧ Ri W A' t ∧ Ty W A' t := hF 9 (by decide)
  have f10 : ∃ g, v10 = .pointer (some ⟨g, 0, none⟩) ∧ w.heap.size < g ∧ W.heap[g]? = some (.cells (hx (zeroL 16) (.slice none 0 0)) 25 (0, 0)) := hF 10 (by decide)
  clear hF
  obtain ⟨A1, c1, rfl, r1, y1⟩ := f5
  obtain ⟨A2, c2, rfl, r2, y2⟩ := f9
  obtain ⟨g, rfl, hg, hb⟩ := f10
  obtain ⟨A3, c3, f6a, rfl⟩ := f6
  obtain ⟨rfl, rfl⟩ : A3 = A1 ∧ c3 = c1 := by simp at f6a; exact ⟨f6a.2.1.symm, f6a.2.2.symm⟩
  clear f6a f0 f1
  have HBG : Hid (Blk W g (hx (zeroL 16) (.slice none 0 0))) := ⟨_, hb⟩
  have HSZ : Hid ((Try.prog.info? 25).map (·.size) = some (hx cs (.slice A3 n c3)).size) := sizeH (by rw [hx_size, HCS.out])
  have HEQ : Hid ((hx (zeroL 16) (.slice none 0 0)).size = (hx cs (.slice A3 n c3)).size) := by show _ = _; rw [hx_size, hx_size, HCS.out]; rfl
  have HON := Lib.hid (hx_one cs A3 n c3)
  go_upto_region 4 with (first
    | ((with_reducible refine wpList_storeB _ rfl 25 (.tmp 7) (.tmp 33) rfl g rfl _ HBG.out (hx cs (.slice A3 n c3)) rfl HSZ.out HEQ.out HON.out ?_)
       intro w3 hb3 hc3 hs3))
  have K : Hid (KT w g cs l t A Bd A3 A2 n c m d c3 c2 w3) :=
    ⟨(HK0.out.below hS).chg hc3 (by omega), hb3, ri_old HR0.out hS hc3 (by omega), ri_new r1 y1 hc3 hb, ri_old HT0.out hS hc3 (by omega), ri_new r2 y2 hc3 hb, (HW0.out.trans (hS.mono HW0.out.size)).trans (hc3.below (B := w.heap.size) (Nat.le_trans HW0.out.size hS.size) (fun i e => by omega))⟩
  clear HBG HSZ HEQ HON hb3 hc3 hs3 hb r1 r2 y1 y2 hS HW0 HK0 HR0 HT0 HZ1
  have HSO : Hid ((Try.prog.info? 25).map (·.size) = some (hx cs (.slice A3 n c3)).size) := sizeH (by rw [hx_size, HCS.out])
  have HSH : Hid ((Try.prog.info? 25).map (·.size) = some (hx cs (.slice A n c)).size) := sizeH (by rw [hx_size, HCS.out])
  cases hmay : mayB cs l with
  | true =>
    have HNew := Lib.hid (KT.newY (w := w) (g := g) (A := A) (Bd := Bd) (A1 := A3) (A2 := A2) (c := c) (d := d) (c1 := c3) (c2 := c2) HN.out HM.out HCS.out hn3 hm3 hmay)
    have HMay := Lib.hid (KT.rMay (w := w) (g := g) (A := A) (Bd := Bd) (A1 := A3) (A2 := A2) (c := c) (d := d) (c1 := c3) (c2 := c2) HN.out HM.out HCS.out hn3 hm3)
    have HCode := Lib.hid (KT.rCode (w := w) (g := g) (A := A) (Bd := Bd) (A1 := A3) (A2 := A2) (c := c) (d := d) (c1 := c3) (c2 := c2) HN.out HM.out HCS.out hn3 hm3 sym)
    rw [hmay] at HMay
    have HFC := Lib.hid (fun b W (h : Tbl W b cs l) => fCode_any b cs l sym W h hs0 hs1)
    generalize codeAt cs l sym = p at *
    obtain ⟨pv, pn⟩ := p
    simp only at HCode HFC
    go_upto_region 8 with (first
      | (with_reducible refine wpList_loadB _ rfl 25 (.tmp 7) rfl _ Try.underlying25 rfl g rfl _ K.out.o HSO.out ?_)
      | (with_reducible refine wpList_loadB _ rfl 25 (.tmp 3) rfl _ Try.underlying25 rfl w.heap.size rfl _ K.out.h HSH.out ?_)
      | (go_at_call 7; (with_reducible refine (HNew.out _ K.out).mono ?_); rintro e w4 ⟨b, rfl, hT, hk⟩; replace K := Lib.hid hk; have HT := Lib.hid hT; clear hk hT)
      | (go_at_call 8; (with_reducible refine (HMay.out _ K.out).mono ?_); rintro e w5 ⟨rfl, hb⟩; replace K := Lib.hid (K.out.call hb); replace HT := Lib.hid (HT.out.below hb); clear hb)
      | (go_at_call 9; (with_reducible refine (HFC.out _ _ HT.out).mono ?_); rintro e w6 ⟨rfl, hb⟩; replace K := Lib.hid (K.out.call hb); have K6 := Lib.hid (K.out.alloc (.cells #[.int .i64 pv, .int .i64 (pn : Int)] 33)); have HB6 := Lib.hid (Blk.new w6 #[.int .i64 pv, .int .i64 (pn : Int)] 33); clear hb HT)
      | (with_reducible refine wpList_loadB _ rfl 25 (.tmp 3) rfl _ Try.underlying25 rfl w.heap.size rfl _ K6.out.h HSH.out ?_)
      | (go_at_call 10; (with_reducible refine (HCode.out _ K6.out).mono ?_); rintro e w7 ⟨rfl, hb⟩; replace K := Lib.hid (K6.out.call hb); replace HB6 := Lib.hid (HB6.out.below hb); clear hb))
    have K7 := Lib.hid (K.out.alloc (.cells #[.int .i64 pv, .int .i64 (pn : Int)] 33))
    have HBx := Lib.hid (HB6.out.alloc (.cells #[.int .i64 pv, .int .i64 (pn : Int)] 33))
    have HBy := Lib.hid (Blk.new w7 #[.int .i64 pv, .int .i64 (pn : Int)] 33)
    generalize w7.alloc (.cells #[.int .i64 pv, .int .i64 (pn : Int)] 33) = w8 at *
    generalize w6.heap.size = b6 at *
    generalize w7.heap.size = b7 at *
    have HKB : Hid (KB w g cs l t A Bd A3 A2 n c m d c3 c2 b6 b7 pv pn w8) := ⟨K7.out, HBx.out, HBy.out⟩
    clear K K6 HB6 K7 HBx HBy HNew HMay HCode HFC
    have HFM := Lib.hid (KT.fMay (w := w) (g := g) (A := A) (Bd := Bd) (A1 := A3) (A2 := A2) (c := c) (d := d) (c1 := c3) (c2 := c2) HN.out HM.out HCS.out hn3 hm3)
    have HFC := Lib.hid (KT.fCost (w := w) (g := g) (A := A) (Bd := Bd) (A1 := A3) (A2 := A2) (c := c) (d := d) (c1 := c3) (c2 := c2) HN.out HM.out HCS.out hn3 hm3)
    have HRC := Lib.hid (KT.rCost (w := w) (g := g) (A := A) (Bd := Bd) (A1 := A3) (A2 := A2) (c := c) (d := d) (c1 := c3) (c2 := c2) HN.out HM.out HCS.out hn3 hm3)
    have HRS := Lib.hid (KT.rSame (w := w) (g := g) (A := A) (Bd := Bd) (A1 := A3) (A2 := A2) (c := c) (d := d) (c1 := c3) (c2 := c2) HN.out HM.out HCS.out hn3 hm3)
    rw [hmay] at HFM
    generalize costB cs l t = cost at *
    have hpn : (decide (0 < pn) != decide ((0 : Int) < (pn : Int))) = false := by simp
    refine wp_region_seq (KB w g cs l t A Bd A3 A2 n c m d c3 c2 b6 b7 pv pn) (by kernel_rfl) (by kernel_rfl) (by kernel_rfl) HKB.out.drew ?_
    repeat (
      first
        | (refine seq_off (by rfl) ?_)
        | (refine seq_load 25 (.tmp 7) _ (.agg (hx cs (.slice A3 n c3))) (by rfl) rfl rfl (fun W hS => ld_h HCS.out hS.k.o) ?_)
        | (refine seq_load 25 (.tmp 3) _ (.agg (hx cs (.slice A n c))) (by rfl) rfl rfl (fun W hS => ld_h HCS.out hS.k.h) ?_)
        | (refine seq_load 33 (.tmp 12) _ (.agg #[.int .i64 pv, .int .i64 (pn : Int)]) (by rfl) rfl rfl (fun W hS => ld_b hS.x) ?_)
        | (refine seq_load 33 (.tmp 14) _ (.agg #[.int .i64 pv, .int .i64 (pn : Int)]) (by rfl) rfl rfl (fun W hS => ld_b hS.y) ?_)
        | (refine seq_callF 11 _ _ [.agg (hx cs (.slice A3 n c3))] (by rfl) rfl (enters_of Try.func11 (by kernel_rfl) rfl) rfl (fun W hS => (HFM.out W hS.k).mono fun e w' h => ⟨h.1, hS.call h.2⟩) ?_)
        | (refine seq_callF 12 _ _ [.agg (hx cs (.slice A3 n c3)), .slice A2 m c2] (by rfl) rfl (enters_of Try.func12 (by kernel_rfl) rfl) rfl (fun W hS => (HFC.out W hS.k).mono fun e w' h => ⟨h.1, hS.call h.2⟩) ?_)
        | (refine seq_callF 13 _ _ [.agg (hx cs (.slice A n c)), .slice Bd m d] (by rfl) rfl (enters_of Try.func13 (by kernel_rfl) rfl) rfl (fun W hS => (HRC.out W hS.k).mono fun e w' h => ⟨h.1, hS.call h.2⟩) ?_)
        | (refine seq_callF 14 _ _ [.agg (hx cs (.slice A3 n c3)), .agg (hx cs (.slice A n c))] (by rfl) rfl (enters_of Try.func14 (by kernel_rfl) rfl) rfl (fun W hS => (HRS.out W hS.k).mono fun e w' h => ⟨h.1, hS.call h.2⟩) ?_)
        | (apply seq_val (by rfl)
           focus (intro W hS; have e1 := hS.y.cell (j := 1) rfl; go_simp; try with_reducible rfl))
      simp only [Act.put, List.setIfInBounds_toArray, List.set_cons_zero, List.set_cons_succ])
    refine seq_nil fun W hS => ?_
    have K := Lib.hid hS.k
    clear hS HKB HFM HFC HRC HRS
    have HCY := Lib.hid (KT.codY (w := w) (g := g) (A := A) (Bd := Bd) (A1 := A3) (A2 := A2) (c := c) (d := d) (c1 := c3) (c2 := c2) HN.out HM.out HCS.out hn3 hm3 hmay)
    have HRC := Lib.hid (KT.rCod (w := w) (g := g) (A := A) (Bd := Bd) (A1 := A3) (A2 := A2) (c := c) (d := d) (c1 := c3) (c2 := c2) HN.out HM.out HCS.out hn3 hm3 hmay)
    have hpl : Hid ((cds (lensOf cs 16)).length ≤ 100000) := by show _ ≤ _; rw [MayP.codes_len (mayB_iff.1 hmay), ← HN.out]; omega
    generalize cds (lensOf cs 16) = ps at *
    go_wp2
    go_loopw [15] (fun i wr => ∃ (k : Nat), k ≤ m ∧ i = .int .i64 k ∧ Hid (KT w g cs l t A Bd A3 A2 n c m d c3 c2 wr)) (fun i _ => m - (RowKit.intOf i).toNat)
    case atStart => exact ⟨0, Nat.zero_le _, rfl, K⟩
    case round =>
      clear K
      obtain ⟨k, hk, rfl, K⟩ := hrel
      by_cases hlt : k < m
      · have hkt : k < t.length := by rw [← HM.out]; exact hlt
        obtain ⟨p, o, hAb, hc⟩ : ∃ b o, A2 = some ⟨b, o, none⟩ ∧ ∀ i, i < t.length → wr.cell? ⟨b, o + i, none⟩ = some (.int .i64 (t.getD i 0)) := by
          rcases K.out.t2 with h | h
          · rw [h] at hkt; simp at hkt
          · exact h
        obtain ⟨p2, o2, hBb, hc2⟩ : ∃ b o, Bd = some ⟨b, o, none⟩ ∧ ∀ i, i < t.length → wr.cell? ⟨b, o + i, none⟩ = some (.int .i64 (t.getD i 0)) := by
          rcases K.out.tt with h | h
          · rw [h] at hkt; simp at hkt
          · exact h
        subst hAb hBb
        have f1 := hc k hkt
        have f2 := hc2 k hkt
        clear hc hc2 hkt
        generalize t.getD k 0 = x at *
        go_wp2
        go_quiet (fail)
        go_wp2
        go_roundw
        case rel => exact ⟨k + 1, by omega, by go_num, K.out.drewN _⟩
        case measure => simp [RowKit.intOf]; omega
      · obtain rfl : k = m := by omega
        go_wp2_with (first
          | (with_reducible refine wpList_loadB _ rfl 25 (.tmp 7) rfl _ Try.underlying25 rfl g rfl _ K.out.o HSO.out ?_)
          | (go_at_call 15; (with_reducible refine (HCY.out _ K.out).mono ?_); rintro e wA ⟨vA, rfl, hO, hk⟩; have K9 := Lib.hid hk; have HO := Lib.hid hO; clear hk hO)
          | (with_reducible refine wpList_loadB _ rfl 25 (.tmp 3) rfl _ Try.underlying25 rfl w.heap.size rfl _ K9.out.h HSH.out ?_)
          | (go_at_call 17; (with_reducible refine (HRC.out _ K9.out).mono ?_); rintro e wB ⟨vB, rfl, hO2, hb⟩; replace HO := Lib.hid (HO.out.below hb); have HO2 := Lib.hid hO2; replace K9 := Lib.hid (K9.out.call hb); clear hb hO2)
          | (go_at_call 16; (with_reducible refine (lRows_any _ _ ps ps _ _ _ HO.out HO2.out hpl.out).mono ?_); rw [rowsB_yes rfl]; rintro e wC ⟨rfl, hb⟩; replace K9 := Lib.hid (K9.out.call hb); clear hb)
          | (go_at_call 6; (with_reducible refine (HAL.out _).mono ?_); rintro e wD ⟨rfl, hb⟩; replace K9 := Lib.hid (K9.out.call hb); clear hb))
        go_ret
        exact ⟨rfl, K9.out.be⟩
  | false =>
    have HNew := Lib.hid (KT.newN (w := w) (g := g) (A := A) (Bd := Bd) (A1 := A3) (A2 := A2) (c := c) (d := d) (c1 := c3) (c2 := c2) HN.out HM.out HCS.out hn3 hm3 hmay)
    have HMay := Lib.hid (KT.rMay (w := w) (g := g) (A := A) (Bd := Bd) (A1 := A3) (A2 := A2) (c := c) (d := d) (c1 := c3) (c2 := c2) HN.out HM.out HCS.out hn3 hm3)
    have HCode := Lib.hid (KT.rCode (w := w) (g := g) (A := A) (Bd := Bd) (A1 := A3) (A2 := A2) (c := c) (d := d) (c1 := c3) (c2 := c2) HN.out HM.out HCS.out hn3 hm3 sym)
    rw [hmay] at HMay
    have HFC := Lib.hid (fun W => fCode_nil sym W)
    rw [codeAt_not hmay] at HCode
    simp only at HCode
    go_upto_region 8 with (first
      | (with_reducible refine wpList_loadB _ rfl 25 (.tmp 7) rfl _ Try.underlying25 rfl g rfl _ K.out.o HSO.out ?_)
      | (with_reducible refine wpList_loadB _ rfl 25 (.tmp 3) rfl _ Try.underlying25 rfl w.heap.size rfl _ K.out.h HSH.out ?_)
      | (go_at_call 7; (with_reducible refine (HNew.out _ K.out).mono ?_); rintro e w4 ⟨rfl, hk⟩; replace K := Lib.hid hk; clear hk)
      | (go_at_call 8; (with_reducible refine (HMay.out _ K.out).mono ?_); rintro e w5 ⟨rfl, hb⟩; replace K := Lib.hid (K.out.call hb); clear hb)
      | (go_at_call 9; (with_reducible refine (HFC.out _).mono ?_); rintro e w6 ⟨rfl, hb⟩; replace K := Lib.hid (K.out.call hb); have K6 := Lib.hid (K.out.alloc (.cells #[.int .i64 0, .int .i64 0] 33)); have HB6 := Lib.hid (Blk.new w6 #[.int .i64 0, .int .i64 0] 33); clear hb)
      | (with_reducible refine wpList_loadB _ rfl 25 (.tmp 3) rfl _ Try.underlying25 rfl w.heap.size rfl _ K6.out.h HSH.out ?_)
      | (go_at_call 10; (with_reducible refine (HCode.out _ K6.out).mono ?_); rintro e w7 ⟨rfl, hb⟩; replace K := Lib.hid (K6.out.call hb); replace HB6 := Lib.hid (HB6.out.below hb); clear hb))
    have K7 := Lib.hid (K.out.alloc (.cells #[.int .i64 0, .int .i64 0] 33))
    have HBx := Lib.hid (HB6.out.alloc (.cells #[.int .i64 0, .int .i64 0] 33))
    have HBy := Lib.hid (Blk.new w7 #[.int .i64 0, .int .i64 0] 33)
    generalize w7.alloc (.cells #[.int .i64 0, .int .i64 0] 33) = w8 at *
    generalize w6.heap.size = b6 at *
    generalize w7.heap.size = b7 at *
    have HKB : Hid (KB w g cs l t A Bd A3 A2 n c m d c3 c2 b6 b7 0 0 w8) := ⟨K7.out, HBx.out, HBy.out⟩
    clear K K6 HB6 K7 HBx HBy HNew HMay HCode HFC
    have HFM := Lib.hid (KT.fMay (w := w) (g := g) (A := A) (Bd := Bd) (A1 := A3) (A2 := A2) (c := c) (d := d) (c1 := c3) (c2 := c2) HN.out HM.out HCS.out hn3 hm3)
    have HFC := Lib.hid (KT.fCost (w := w) (g := g) (A := A) (Bd := Bd) (A1 := A3) (A2 := A2) (c := c) (d := d) (c1 := c3) (c2 := c2) HN.out HM.out HCS.out hn3 hm3)
    have HRC := Lib.hid (KT.rCost (w := w) (g := g) (A := A) (Bd := Bd) (A1 := A3) (A2 := A2) (c := c) (d := d) (c1 := c3) (c2 := c2) HN.out HM.out HCS.out hn3 hm3)
    have HRS := Lib.hid (KT.rSame (w := w) (g := g) (A := A) (Bd := Bd) (A1 := A3) (A2 := A2) (c := c) (d := d) (c1 := c3) (c2 := c2) HN.out HM.out HCS.out hn3 hm3)
    rw [hmay] at HFM
    generalize costB cs l t = cost at *
    refine wp_region_seq (KB w g cs l t A Bd A3 A2 n c m d c3 c2 b6 b7 0 0) (by kernel_rfl) (by kernel_rfl) (by kernel_rfl) HKB.out.drew ?_
    repeat (
      first
        | (refine seq_off (by rfl) ?_)
        | (refine seq_load 25 (.tmp 7) _ (.agg (hx cs (.slice A3 n c3))) (by rfl) rfl rfl (fun W hS => ld_h HCS.out hS.k.o) ?_)
        | (refine seq_load 25 (.tmp 3) _ (.agg (hx cs (.slice A n c))) (by rfl) rfl rfl (fun W hS => ld_h HCS.out hS.k.h) ?_)
        | (refine seq_load 33 (.tmp 12) _ (.agg #[.int .i64 0, .int .i64 0]) (by rfl) rfl rfl (fun W hS => ld_b hS.x) ?_)
        | (refine seq_load 33 (.tmp 14) _ (.agg #[.int .i64 0, .int .i64 0]) (by rfl) rfl rfl (fun W hS => ld_b hS.y) ?_)
        | (refine seq_callF 11 _ _ [.agg (hx cs (.slice A3 n c3))] (by rfl) rfl (enters_of Try.func11 (by kernel_rfl) rfl) rfl (fun W hS => (HFM.out W hS.k).mono fun e w' h => ⟨h.1, hS.call h.2⟩) ?_)
        | (refine seq_callF 12 _ _ [.agg (hx cs (.slice A3 n c3)), .slice A2 m c2] (by rfl) rfl (enters_of Try.func12 (by kernel_rfl) rfl) rfl (fun W hS => (HFC.out W hS.k).mono fun e w' h => ⟨h.1, hS.call h.2⟩) ?_)
        | (refine seq_callF 13 _ _ [.agg (hx cs (.slice A n c)), .slice Bd m d] (by rfl) rfl (enters_of Try.func13 (by kernel_rfl) rfl) rfl (fun W hS => (HRC.out W hS.k).mono fun e w' h => ⟨h.1, hS.call h.2⟩) ?_)
        | (refine seq_callF 14 _ _ [.agg (hx cs (.slice A3 n c3)), .agg (hx cs (.slice A n c))] (by rfl) rfl (enters_of Try.func14 (by kernel_rfl) rfl) rfl (fun W hS => (HRS.out W hS.k).mono fun e w' h => ⟨h.1, hS.call h.2⟩) ?_)
        | (apply seq_val (by rfl)
           focus (intro W hS; have e1 := hS.y.cell (j := 1) rfl; go_simp; try with_reducible rfl))
      simp only [Act.put, List.setIfInBounds_toArray, List.set_cons_zero, List.set_cons_succ])
    refine seq_nil fun W hS => ?_
    have K := Lib.hid hS.k
    clear hS HKB HFM HFC HRC HRS
    have HCY := Lib.hid (KT.codN (w := w) (g := g) (A := A) (Bd := Bd) (A1 := A3) (A2 := A2) (c := c) (d := d) (c1 := c3) (c2 := c2) HN.out HM.out HCS.out hn3 hm3 hmay)
    go_wp2
    go_loopw [15] (fun i wr => ∃ (k : Nat), k ≤ m ∧ i = .int .i64 k ∧ Hid (KT w g cs l t A Bd A3 A2 n c m d c3 c2 wr)) (fun i _ => m - (RowKit.intOf i).toNat)
    case atStart => exact ⟨0, Nat.zero_le _, rfl, K⟩
    case round =>
      clear K
      obtain ⟨k, hk, rfl, K⟩ := hrel
      by_cases hlt : k < m
      · have hkt : k < t.length := by rw [← HM.out]; exact hlt
        obtain ⟨p, o, hAb, hc⟩ : ∃ b o, A2 = some ⟨b, o, none⟩ ∧ ∀ i, i < t.length → wr.cell? ⟨b, o + i, none⟩ = some (.int .i64 (t.getD i 0)) := by
          rcases K.out.t2 with h | h
          · rw [h] at hkt; simp at hkt
          · exact h
        obtain ⟨p2, o2, hBb, hc2⟩ : ∃ b o, Bd = some ⟨b, o, none⟩ ∧ ∀ i, i < t.length → wr.cell? ⟨b, o + i, none⟩ = some (.int .i64 (t.getD i 0)) := by
          rcases K.out.tt with h | h
          · rw [h] at hkt; simp at hkt
          · exact h
        subst hAb hBb
        have f1 := hc k hkt
        have f2 := hc2 k hkt
        clear hc hc2 hkt
        generalize t.getD k 0 = x at *
        go_wp2
        go_quiet (fail)
        go_wp2
        go_roundw
        case rel => exact ⟨k + 1, by omega, by go_num, K.out.drewN _⟩
        case measure => simp [RowKit.intOf]; omega
      · obtain rfl : k = m := by omega
        go_wp2_with (first
          | (with_reducible refine wpList_loadB _ rfl 25 (.tmp 7) rfl _ Try.underlying25 rfl g rfl _ K.out.o HSO.out ?_)
          | (go_at_call 15; (with_reducible refine (HCY.out _ K.out).mono ?_); rintro e wA ⟨rfl, hk⟩; have K9 := Lib.hid hk; clear hk)
          | (go_at_call 6; (with_reducible refine (HAL.out _).mono ?_); rintro e wD ⟨rfl, hb⟩; replace K9 := Lib.hid (K9.out.call hb); clear hb))
        go_ret
        exact ⟨rfl, K9.out.be⟩
end Go.Proofs.Ytkkkonmbbdhdhaa
