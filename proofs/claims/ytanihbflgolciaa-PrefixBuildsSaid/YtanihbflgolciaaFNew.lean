/- Contracts of prefix.New, of a Table's Code. -/
import Derived.Test.YtanihbflgolciaaTab
namespace Go.Proofs.Ytanihbflgolciaa
open Go.RowKit Go.Lib Go.Maps
set_option linter.unusedVariables false
set_option maxRecDepth 100000

theorem below_le {B : Nat} {a b c : World} (h1 : Below B a b) (h2 : Below b.heap.size b c) (hB : B ≤ b.heap.size) : Below B a c := h1.trans ⟨h2.os, h2.tape, h2.output, h2.size, fun k hk => h2.block k (Nat.lt_of_lt_of_le hk hB)⟩

theorem fNew_no (X : Array Value) (cs : List Int) (l : List Int) (A : Option Addr) (c : Nat) (w : World) (hX : Hv X cs (.slice A l.length c)) (hr : Ri w A l) (hl : l.length ≤ 100000) (hm : mayB cs l = false) (hx17 : X.size = 17) :
    Calls Try.prog 7 #[.agg X] w fun e w' => e = .returned (.tuple #[.pointer none, .int .i64 2]) ∧ Below w.heap.size w w' := by
  have HX := Lib.hid hX
  have HW := Lib.hid ((Below.refl w.heap.size w).alloc (Nat.le_refl _) (.cells X 25))
  have HBL := Lib.hid (Blk.new w X 25)
  have HSZ : Hid ((Try.prog.info? 25).map (·.size) = some X.size) := by show _ = _; rw [hx17]; kernel_rfl
  have HMY := Lib.hid (fMay_any X cs l A c (w.alloc (.cells X 25)) hX (hr.below HW.out) hl)
  rw [hm] at HMY
  clear hX hr hm hx17
  go_enter Try.func7, Try.ntmps7
  go_wp2_with (first
    | (with_reducible refine wpList_loadB _ rfl 25 (.tmp 1) rfl _ Try.underlying25 rfl w.heap.size rfl X HBL.out HSZ.out ?_)
    | ((go_at_call 11; refine HMY.out.mono ?_)
       rintro e w2 ⟨rfl, hb2⟩
       have HB2 := Lib.hid hb2
       clear hb2))
  go_ret2
  exact ⟨rfl, below_le HW.out HB2.out HW.out.size⟩

theorem undrew {w w' : World} {r : Option Nat} (h : World.grownBy w.drew w' r) : World.grownBy w w' r := ⟨h.os, h.tape, h.output, h.size, h.block⟩
set_option maxHeartbeats 2000000 in
theorem fNew_yes (X : Array Value) (cs : List Int) (l : List Int) (A : Option Addr) (c : Nat) (w : World) (hX : Hv X cs (.slice A l.length c)) (hr : Ri w A l) (hl : l.length ≤ 100000) (hm : mayB cs l = true) (hx17 : X.size = 17) :
    Calls Try.prog 7 #[.agg X] w fun e w' => ∃ b, e = .returned (.tuple #[.pointer (some ⟨b, 0, none⟩), .int .i64 0]) ∧ w.heap.size ≤ b ∧ Tbl w' b cs l ∧ Below w.heap.size w w' := by
  have hmm := @run_makeMap Try.prog
  have HX := Lib.hid hX
  have HP := Lib.hid (mayB_iff.1 hm)
  have HM := Lib.hid hm
  have HX17 := Lib.hid hx17
  have HR := Lib.hid hr
  have HW := Lib.hid ((Below.refl w.heap.size w).alloc (Nat.le_refl _) (.cells X 25))
  have HBL := Lib.hid (Blk.new w X 25)
  have HSZ : Hid ((Try.prog.info? 25).map (·.size) = some X.size) := by show _ = _; rw [hx17]; kernel_rfl
  have HMY := Lib.hid (fMay_any X cs l A c (w.alloc (.cells X 25)) hX (hr.below HW.out) hl)
  rw [hm] at HMY
  clear hX hr hm hx17
  go_enter Try.func7, Try.ntmps7
  go_wp2_with (first
    | (with_reducible refine wpList_loadB _ rfl 25 (.tmp 1) rfl _ Try.underlying25 rfl w.heap.size rfl X HBL.out HSZ.out ?_)
    | ((go_at_call 11; refine HMY.out.mono ?_)
       rintro e w2 ⟨rfl, hb2⟩
       have HB2 := Lib.hid hb2
       obtain ⟨w4, hw4⟩ : ∃ w4, w4 = ((w2.alloc (.map #[] 0)).alloc (.map #[] 0)).alloc (.cells #[.map (some w2.heap.size), .map (some (w2.heap.size + 1))] 53) := ⟨_, rfl⟩
       have HW4 := Lib.hid hw4
       have HBL4 : Hid (Blk w4 w.heap.size X) := by show Blk w4 _ _; rw [hw4]; exact (((HBL.out.below hb2).alloc _).alloc _).alloc _
       have F := Lib.hid (fCod_any X cs l A c w4 HX.out (by rw [hw4]; exact (((((HR.out.below HW.out).below hb2).below ((Below.refl _ _).alloc (Nat.le_refl _) _)).below ((Below.refl _ _).alloc (Nat.le_refl _) _)).below ((Below.refl _ _).alloc (Nat.le_refl _) _))) hl HM.out HX17.out)
       clear hb2 hw4)
    | (rw [← HW4.out]; with_reducible refine wpList_loadB _ rfl 25 (.tmp 1) rfl _ Try.underlying25 rfl w.heap.size rfl X HBL4.out HSZ.out ?_)
    | ((go_at_call 15; refine F.out.mono ?_)
       rintro e w5 ⟨v5, rfl, ho5, hb5⟩
       have HO5 := Lib.hid ho5
       have HB5 := Lib.hid hb5
       obtain ⟨A5, c5, hv5, _⟩ := ho5.open
       subst hv5
       clear hb5 ho5))
  -- what stands ahead of the loop
  have HS2 := HB2.out.size
  have HS1 := HW.out.size
  have hz4 : w4.heap.size = w2.heap.size + 3 := by rw [HW4.out]; simp
  obtain ⟨m1, hm1⟩ : ∃ m1, m1 = w2.heap.size := ⟨_, rfl⟩
  have B4 : Hid (Below w.heap.size w w4) := by
    show Below _ _ _
    rw [HW4.out]
    exact (((below_le HW.out HB2.out HS1).alloc (by omega) _).alloc (by simp; omega) _).alloc (by simp; omega) _
  have B5 := Lib.hid (below_le B4.out HB5.out B4.out.size)
  have M1 : Hid (w5.ownsMap Try.prog 3 RB m1 0 (.map [])) := by
    show w5.ownsMap _ _ _ _ _ _
    refine World.ownsMap.kept (w := w4) ?_ (grown_of HB5.out) (by simp)
    rw [HW4.out, hm1]
    exact ((World.ownsMap_made w2 _ _ _).alloc _).alloc _
  have M2 : Hid (w5.ownsMap Try.prog 33 RI (m1 + 1) 0 (.map [])) := by
    show w5.ownsMap _ _ _ _ _ _
    refine World.ownsMap.kept (w := w4) ?_ (grown_of HB5.out) (by simp)
    rw [HW4.out, hm1]
    have := World.ownsMap_made (w2.alloc (.map #[] 0)) Try.prog 33 RI
    simp only [World.size_alloc] at this
    exact this.alloc _
  have T0 : Hid (w5.cell? ⟨m1 + 2, 0, none⟩ = some (.map (some m1)) ∧ w5.cell? ⟨m1 + 2, 1, none⟩ = some (.map (some (m1 + 1))) ∧ w5.cell? ⟨w.heap.size, 16, none⟩ = some (.slice A l.length c)) := by
    show _ ∧ _ ∧ _
    refine ⟨cell_later HB5.out ?_, cell_later HB5.out ?_, (HBL4.out.below HB5.out).cell HX.out.syms⟩
    · rw [HW4.out, hm1]; go_cell
    · rw [HW4.out, hm1]; go_cell
  have hb1 : w.heap.size + 1 ≤ m1 := by rw [hm1]; simp at HS2; omega
  have hmw5 : m1 + 3 ≤ w5.heap.size := by have := HB5.out.size; omega
  rw [← hm1] at hz4 ⊢
  clear HW4 hm1 HBL HBL4 HB2 HW HSZ HMY F HS1 HS2
  go_loopw [17] (fun i wr => ∃ (k : Nat) (D1 D2 : DataW Unit), k ≤ l.length ∧ i = .int .i64 k ∧ Hid (wr.ownsMap Try.prog 3 RB m1 k D1) ∧ Hid (Tc D1 l (cds (lensOf cs 16)) k) ∧ Hid (wr.ownsMap Try.prog 33 RI (m1 + 1) k D2) ∧ Hid (Ts D2 l (cds (lensOf cs 16)) k) ∧
    Hid (Chg (fun i => i = m1 ∨ i = m1 + 1) w5 wr) ∧ Hid (Below w.heap.size w wr)) (fun i _ => l.length - (RowKit.intOf i).toNat)
  case atStart => exact ⟨0, _, _, Nat.zero_le _, rfl, M1, Tc.start _ _, M2, Ts.start _ _, Chg.refl _ _, B5⟩
  case round =>
    obtain ⟨k, D1, D2, hk, rfl, O1, C1, O2, C2, HC, HBw⟩ := hrel
    clear M1 M2
    have hlc := cds_many HP.out
    by_cases hlt : k < l.length
    · have hlp : k < (cds (lensOf cs 16)).length := by rw [hlc]; exact hlt
      obtain ⟨p, hp⟩ : ∃ p, p = (cds (lensOf cs 16)).getD k (0, 0) := ⟨_, rfl⟩
      have hp' : (cds (lensOf cs 16))[k]? = some p := by rw [hp, List.getD_eq_getElem?_getD, List.getElem?_eq_getElem hlp]; rfl
      have HPK := Lib.hid hp
      have hsm := cds_small HP.out k
      rw [← hp] at hsm
      have HOq := Lib.hid ((HO5.out.chg HC.out (fun j hj => by have := (HO5.out.at j hj).1; omega)).open)
      obtain ⟨A6, c6, hA6, hrd⟩ := HOq.out
      injection hA6 with hA6 hA6n hA6c
      subst hA6 hA6c
      obtain ⟨g, hA5, hg1, hg2, e1, e2⟩ := hrd k p hp'
      subst hA5
      clear hrd HOq hp hp' hA6n
      obtain ⟨b, o, hAb, hc⟩ : ∃ b o, A = some ⟨b, o, none⟩ ∧ ∀ i, i < l.length → wr.cell? ⟨b, o + i, none⟩ = some (.int .i64 (l.getD i 0)) := by
        rcases (HR.out.below HBw.out) with h | h
        · rw [h] at hlt; simp at hlt
        · exact h
      subst hAb
      have e3 := hc k hlt
      have hbw : b < w.heap.size := by
        rcases HR.out with h | ⟨b', o', hA', hc'⟩
        · rw [h] at hlt; simp at hlt
        · cases hA'
          exact World.block_lt_of_cell? _ _ (hc' k hlt)
      clear hc
      obtain ⟨x, hx⟩ : ∃ x, x = l.getD k 0 := ⟨_, rfl⟩
      rw [← hx] at e3
      have HXk := Lib.hid hx
      have hxr := HP.out.sym k hlt
      rw [← hx] at hxr
      clear hx
      have e4 := HC.out.cellv T0.out.1 (by simp)
      have e5 := HC.out.cellv T0.out.2.1 (by simp)
      have e6 := HC.out.cellv T0.out.2.2 (by show ¬ (w.heap.size = m1 ∨ w.heap.size = m1 + 1); omega)
      have hwr : m1 + 3 ≤ wr.heap.size := by have := HC.out.size; omega
      obtain ⟨p1, p2⟩ := p
      simp only at e1 e2 hsm
      -- the world behind the code's variable
      have G : Hid (∀ w6, w6 = wr.alloc (.cells #[.int .i64 p1, .int .i64 (p2 : Int)] 33) →
          Below wr.heap.size wr w6 ∧ w6.cell? ⟨wr.heap.size, 0, none⟩ = some (.int .i64 p1) ∧ w6.cell? ⟨wr.heap.size, 1, none⟩ = some (.int .i64 (p2 : Int)) ∧ w6.heap.size = wr.heap.size + 1) := by
        show ∀ w6, _
        rintro w6 rfl
        refine ⟨(Below.refl _ _).alloc (Nat.le_refl _) _, by go_cell, by go_cell, by simp⟩
      go_wp2
      generalize hw6 : wr.alloc (.cells #[.int .i64 p1, .int .i64 (p2 : Int)] 33) = w6
      obtain ⟨g1, g2, g3, g4⟩ := G.out w6 hw6.symm
      have G1 := Lib.hid g1
      clear G hw6 g1 e1 e2
      have e3' := cell_later G1.out e3
      have e4' := cell_later G1.out e4
      have e5' := cell_later G1.out e5
      have e6' := cell_later G1.out e6
      clear e3 e4 e5 e6
      have O1' := Lib.hid (O1.out.kept (grown_of G1.out) (by simp))
      have O2' := Lib.hid (O2.out.kept (grown_of G1.out) (by simp))
      have C6 := Lib.hid (HC.out.trans (Chg.of_below (S := fun _ => False) G1.out) (fun i _ h => h.elim))
      have B6 := Lib.hid (below_le HBw.out G1.out HBw.out.size)
      clear O1 O2 HC HBw G1
      have hkx : keyOf Try.prog 3 (.int .i64 x) = some (.int .i64 x) := keyOf_int_mk Try.underlying3 (wf64 (by omega) (by omega))
      have HKX := Lib.hid hkx
      clear hkx
      go_still_tail 10, (by kernel_rfl)
      change wpList _ _ _ _ _ (World.drew w6)
      have O1d : Hid (World.ownsMap w6.drew Try.prog 3 RB m1 k D1) := O1'
      have kl : k < maxLen := by unfold maxLen; omega
      refine wpList_mapUpdate_own _ rfl _ _ _ 50 rfl 3 33 int_law Try.underlying50 RB m1 k D1 rfl O1d.out kl _ _ _ rfl rfl HKX.out (bd (p1, p2)) [] (RB_mk (p1, p2)) ?_
      intro w7 ho7 hg7
      have O7 := Lib.hid ho7
      have G7 : Hid (w6.grownBy w7 (some m1)) := undrew hg7
      clear ho7 hg7
      go_wp2
      have i3 := G7.out.cell e3' (by show some b ≠ some m1; intro he; injection he; omega)
      have i4 := G7.out.cell e4' (by simp)
      have i5 := G7.out.cell e5' (by simp)
      have i6 := G7.out.cell e6' (by show some w.heap.size ≠ some m1; intro he; injection he; omega)
      have i1 := G7.out.cell g2 (by show some wr.heap.size ≠ some m1; intro he; injection he; omega)
      have i2 := G7.out.cell g3 (by show some wr.heap.size ≠ some m1; intro he; injection he; omega)
      have O2'' := Lib.hid (O2'.out.kept G7.out (by simp))
      clear e3' e4' e5' e6' g2 g3 O2' O1' O1d
      have C7 := Lib.hid (C6.out.grown G7.out (fun j hj => by cases hj; exact .inl (.inl rfl)))
      have B7 := Lib.hid (B6.out.grown G7.out B6.out.size (fun j hj => by cases hj; omega))
      clear C6 B6
      have HKP := Lib.hid (keyOf_bits (p := (p1, p2)) (by simpa using hsm.1) (by simp only; omega) (by simp only; omega))
      go_still_tail 10, (by kernel_rfl)
      change wpList _ _ _ _ _ (World.drew w7)
      have O2d : Hid (World.ownsMap w7.drew Try.prog 33 RI (m1 + 1) k D2) := O2''
      have HVX : Hid (RI (.int .i64 x) = some (.lit (.int .i64 x), [])) := plainElem_int Try.underlying3 (wf64 (by omega) (by omega))
      refine wpList_mapUpdate_own _ rfl _ _ _ 51 rfl 33 3 bits_law Try.underlying51 RI (m1 + 1) k D2 rfl O2d.out kl _ _ _ rfl rfl HKP.out (.lit (.int .i64 x)) [] HVX.out ?_
      intro w8 ho8 hg8
      have O8 := Lib.hid ho8
      have G8 : Hid (w7.grownBy w8 (some (m1 + 1))) := undrew hg8
      clear ho8 hg8
      go_wp2
      go_roundw
      case rel =>
        refine ⟨_, _, _, ⟨k + 1, by omega, rfl, _, O7.out.kept G8.out (by simp), ?_, _, O8.out, ?_, C7.out.grown G8.out (fun j hj => by cases hj; exact .inl (.inr rfl)), B7.out.grown G8.out B7.out.size (fun j hj => by cases hj; omega)⟩, rfl, rfl, by go_num⟩
        · have := C1.out.step (HP.out.sym k hlt) (fun j hj => HP.out.dif k j hlt hj)
          rw [← HPK.out, ← HXk.out] at this
          exact this
        · have := C2.out.step (fun j hj => by have := cds_small HP.out j; omega) (fun j hj => cds_dif HP.out j k hj hlp)
          rw [← HPK.out, ← HXk.out] at this
          exact this
      case measure => simp [RowKit.intOf]; omega
    · go_wp2
      go_ret2
      obtain rfl : k = l.length := by omega
      exact ⟨m1 + 2, by first | rfl | go_num, by omega, ⟨HP.out, m1, m1 + 1, _, _, D1, D2, HC.out.cellv T0.out.1 (by simp), HC.out.cellv T0.out.2.1 (by simp), O1.out, O2.out, C1.out, C2.out⟩, HBw.out⟩

/-- A Table's Code. -/
theorem fCode_any (b : Nat) (cs l : List Int) (s : Int) (w : World) (hT : Tbl w b cs l) (h0 : -9223372036854775808 ≤ s) (h1 : s ≤ 9223372036854775807) :
    Calls Try.prog 9 #[.pointer (some ⟨b, 0, none⟩), .int .i64 s] w fun e w' => e = .returned (.tuple #[.agg #[.int .i64 (codeAt cs l s).1, .int .i64 ((codeAt cs l s).2 : Int)], .bool (decide (0 < (codeAt cs l s).2))]) ∧ Below w.heap.size w w' := by
  have HT := Lib.hid (hT.below ((Below.refl _ _).alloc (Nat.le_refl _) (.cells #[.int .i64 0, .int .i64 0] 33)))
  clear hT
  obtain ⟨m1, e1, hrun⟩ := HT.out.look s h0 h1
  generalize hp : codeAt cs l s = p at *
  obtain ⟨p1, p2⟩ := p
  simp only at hrun ⊢
  have HF := Lib.hid (Below.refl w.heap.size w)
  generalize decide (0 < p2) = bb at *
  go_enter Try.func9, Try.ntmps9
  go_wp2
  (try simp only [Exit.inBlock, Exit.then])
  refine bodyPost_ret (results_cell_tmp rfl _ _ _ Try.underlying33 rfl w.heap.size #[.int .i64 p1, .int .i64 (p2 : Int)] (.bool bb) rfl rfl (pair_cells (by go_cell) (by go_cell)) (by kernel_rfl)) rfl ?_
  refine ⟨rfl, ?_⟩
  go_grown
theorem fCode_nil (s : Int) (w : World) :
    Calls Try.prog 9 #[.pointer none, .int .i64 s] w fun e w' => e = .returned (.tuple #[.agg #[.int .i64 0, .int .i64 0], .bool false]) ∧ Below w.heap.size w w' := by
  go_enter Try.func9, Try.ntmps9
  go_wp2
  (try simp only [Exit.inBlock, Exit.then])
  refine bodyPost_ret (results_cell_tmp rfl _ _ _ Try.underlying33 rfl w.heap.size #[.int .i64 0, .int .i64 0] (.bool false) rfl rfl (pair_cells (by go_cell) (by go_cell)) (by kernel_rfl)) rfl ?_
  refine ⟨rfl, ?_⟩
  go_grown
end Go.Proofs.Ytanihbflgolciaa
