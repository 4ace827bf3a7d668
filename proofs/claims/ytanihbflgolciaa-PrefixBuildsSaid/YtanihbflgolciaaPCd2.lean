/- Contract of the document's Code. -/
import Derived.Test.YtanihbflgolciaaPCde
namespace Go.Proofs.Ytanihbflgolciaa
open Go.RowKit Go.Lib
set_option linter.unusedVariables false
set_option maxRecDepth 100000

theorem ret_bits (tmps : Array Value) (w : World) (g : Nat) (v0 v1 : Value) (hp : tmps.getD 4 undef = .pointer (some ⟨g, 0, none⟩)) (h0 : w.cell? ⟨g, 0, none⟩ = some v0) (h1 : w.cell? ⟨g, 1, none⟩ = some v1) : (results Try.f10 tmps).run Try.prog w = .ok (.agg #[v0, v1]) w := by
  have hp' : tmps[4]?.getD undef = .pointer (some ⟨g, 0, none⟩) := by simpa using hp
  simp [results, Try.results10, go_sem, hp', h0, h1, asAddr]
theorem find_at {l : List Int} {sym : Int} {k : Nat} (hk : k < l.length) (h : l.getD k 0 = sym) (hb : ∀ j, j < k → l.getD j 0 ≠ sym) : l.findIdx (· == sym) = k := by
  rw [List.findIdx_eq hk]
  refine ⟨by rw [List.getD_eq_getElem?_getD, List.getElem?_eq_getElem hk] at h; simpa using h, fun j hj => ?_⟩
  have := hb j hj
  rw [List.getD_eq_getElem?_getD, List.getElem?_eq_getElem (by omega)] at this
  simpa using this
theorem find_none {l : List Int} {sym : Int} (hb : ∀ j, j < l.length → l.getD j 0 ≠ sym) : l.findIdx (· == sym) = l.length := by
  rw [List.findIdx_eq_length]
  intro x hx
  obtain ⟨j, hj, rfl⟩ := List.mem_iff_getElem.1 hx
  have := hb j hj
  rw [List.getD_eq_getElem?_getD, List.getElem?_eq_getElem hj] at this
  simpa using this

set_option maxHeartbeats 2000000 in
theorem rCode_any (X : Array Value) (cs : List Int) (l : List Int) (A : Option Addr) (c : Nat) (sym : Int) (w : World) (hX : Hv X cs (.slice A l.length c)) (hr : Ri w A l) (hl : l.length ≤ 300) :
    Calls Try.prog 10 #[.agg X, .int .i64 sym] w fun e w' => e = .returned (.agg #[.int .i64 (codeAt cs l sym).1, .int .i64 ((codeAt cs l sym).2 : Int)]) ∧ Below w.heap.size w w' := by
  obtain ⟨x, hx⟩ : ∃ x : Nat → Value, x = fun k => X.getD k undef := ⟨_, rfl⟩
  have HV := Lib.hid (aggOf_hv hX hx)
  have HXh := Lib.hid hX
  have HC := Lib.hid (cell_x hX hx)
  clear hX hx
  go_enter Try.func10, Try.ntmps10
  have HB := Lib.hid (HXh.out.box w 25)
  have HW := Lib.hid ((Below.refl w.heap.size w).alloc (Nat.le_refl _) (.cells X 25))
  have e0 := HC.out 0 (by omega)
  have e1 := HC.out 1 (by omega)
  have e2 := HC.out 2 (by omega)
  have e3 := HC.out 3 (by omega)
  have e4 := HC.out 4 (by omega)
  have e5 := HC.out 5 (by omega)
  have e6 := HC.out 6 (by omega)
  have e7 := HC.out 7 (by omega)
  have e8 := HC.out 8 (by omega)
  have e9 := HC.out 9 (by omega)
  have e10 := HC.out 10 (by omega)
  have e11 := HC.out 11 (by omega)
  have e12 := HC.out 12 (by omega)
  have e13 := HC.out 13 (by omega)
  have e14 := HC.out 14 (by omega)
  have e15 := HC.out 15 (by omega)
  have e16 := HC.out 16 (by omega)
  have hr1 := Lib.hid ((hr.below HW.out).below ((Below.refl _ _).alloc (Nat.le_refl _) (.cells #[.int .i64 0, .int .i64 0] 33)))
  have HM := Lib.hid (rMay_any (aggOf x) cs l A c ((w.alloc (.cells X 25)).alloc (.cells #[.int .i64 0, .int .i64 0] 33)) HV.out hr1.out hl)
  have HBx : Hid (∀ w2, Below ((w.alloc (.cells X 25)).alloc (.cells #[.int .i64 0, .int .i64 0] 33)).heap.size ((w.alloc (.cells X 25)).alloc (.cells #[.int .i64 0, .int .i64 0] 33)) w2 →
      (∀ k, k < 17 → w2.cell? ⟨w.heap.size, k, none⟩ = some (x k)) ∧ w2.cell? ⟨w.heap.size + 1, 0, none⟩ = some (.int .i64 0) ∧ w2.cell? ⟨w.heap.size + 1, 1, none⟩ = some (.int .i64 0) ∧ w2.frozen? ⟨w.heap.size + 1, 0, none⟩ = false ∧ w2.frozen? ⟨w.heap.size + 1, 1, none⟩ = false ∧ Below w.heap.size w w2 ∧ w.heap.size + 1 < w2.heap.size) := by
    show ∀ w2, _
    intro w2 h2
    refine ⟨fun k hk => cell_later h2 ?_, cell_later h2 (by go_cell), cell_later h2 (by go_cell), ?_, ?_, ?_, ?_⟩
    · rw [World.cell?_alloc_old _ _ _ (by simp)]
      rw [World.cell?_alloc_at _ _ _ _ rfl]
      exact HC.out k hk
    · exact (World.frozen?_of_block (a := ⟨w.heap.size + 1, 0, none⟩) (h2.block (w.heap.size + 1) (by simp))).trans (by go_cell)
    · exact (World.frozen?_of_block (a := ⟨w.heap.size + 1, 1, none⟩) (h2.block (w.heap.size + 1) (by simp))).trans (by go_cell)
    · exact ((HW.out.alloc (by simp) _).trans ⟨h2.os, h2.tape, h2.output, h2.size, fun k hk => h2.block k (by simp; omega)⟩)
    · have := h2.size; simp at this; omega
  clear HC hr
  cases hmb : mayB cs l with
  | false =>
    have HMB := Lib.hid hmb
    have hca : Hid (codeAt cs l sym = (0, 0)) := by show codeAt cs l sym = (0, 0); unfold codeAt; rw [hmb]; rfl
    rw [hmb] at HM
    clear hmb
    go_wp2_with (
      ((go_at_call 8; refine HM.out.mono ?_)
       rintro e w2 ⟨rfl, hb2⟩
       obtain ⟨f1, f2, f3, f4, f5, f6, f7⟩ := HBx.out w2 hb2
       have HF6 := Lib.hid f6
       have HF1 := Lib.hid f1
       clear f1 f6 hb2))
    (try simp only [Exit.inBlock, Exit.then])
    refine bodyPost_ret (ret_bits _ _ (w.heap.size + 1) (.int .i64 0) (.int .i64 0) rfl (by go_cell) (by go_cell)) rfl ?_
    rw [hca.out]
    refine ⟨rfl, (HF6.out.setCell (by simp) _).setCell (by simp) _⟩
  | true =>
    have HMB := Lib.hid hmb
    have HMP := Lib.hid (mayB_iff.1 hmb)
    rw [hmb] at HM
    clear hmb
    go_wp2_with (first
      | ((go_at_call 8; refine HM.out.mono ?_)
         rintro e w2 ⟨rfl, hb2⟩
         obtain ⟨f1, f2, f3, f4, f5, f6, f7⟩ := HBx.out w2 hb2
         have HF6 := Lib.hid f6
         have HF1 := Lib.hid f1
         have HB2 := Lib.hid hb2
         have g0 := f1 0 (by omega)
         have g1 := f1 1 (by omega)
         have g2 := f1 2 (by omega)
         have g3 := f1 3 (by omega)
         have g4 := f1 4 (by omega)
         have g5 := f1 5 (by omega)
         have g6 := f1 6 (by omega)
         have g7 := f1 7 (by omega)
         have g8 := f1 8 (by omega)
         have g9 := f1 9 (by omega)
         have g10 := f1 10 (by omega)
         have g11 := f1 11 (by omega)
         have g12 := f1 12 (by omega)
         have g13 := f1 13 (by omega)
         have g14 := f1 14 (by omega)
         have g15 := f1 15 (by omega)
         have g16 := f1 16 (by omega)
         clear f1 f6 hb2)
      | ((go_at_call 17; refine (rCod_any (aggOf x) cs l A c w2 HV.out HMP.out hl).mono ?_)
         rintro e w3 ⟨vc, rfl, ho3, hb3⟩
         have HO3 := Lib.hid ho3
         have HB3 := Lib.hid hb3
         clear ho3 hb3))
    have hlen : (cds (lensOf cs 16)).length = l.length := by
      have h1 := lens_many 16 (fun j hj => (HMP.out.cnt j hj).1)
      have h2 := HMP.out.many
      rw [cds_len]
      omega
    have hx16 : x 16 = .slice A l.length c := by
      have := HV.out.syms
      simpa using this
    have b16 := cell_later HB3.out (hx16 ▸ g16)
    have b2 := cell_later HB3.out f2
    have b3 := cell_later HB3.out f3
    have b4 := (World.frozen?_of_block (a := ⟨w.heap.size + 1, 0, none⟩) (HB3.out.block (w.heap.size + 1) f7)).trans f4
    have b5 := (World.frozen?_of_block (a := ⟨w.heap.size + 1, 1, none⟩) (HB3.out.block (w.heap.size + 1) f7)).trans f5
    have hz3 := HB3.out.size
    have hr3 := Lib.hid ((hr1.out.below HB2.out).below HB3.out)
    have HW3 := Lib.hid (HF6.out.trans ⟨HB3.out.os, HB3.out.tape, HB3.out.output, HB3.out.size, fun k hk => HB3.out.block k (by omega)⟩ : Below w.heap.size w w3)
    clear g0 g1 g2 g3 g4 g5 g6 g7 g8 g9 g10 g11 g12 g13 g14 g15 g16 f2 f3 f4 f5 e0 e1 e2 e3 e4 e5 e6 e7 e8 e9 e10 e11 e12 e13 e14 e15 e16 hx16 HBx HM HB HXh
    obtain ⟨Ac, cc, hvc, hrd⟩ := HO3.out.open
    subst hvc
    have hdef : ∀ i, l.findIdx (· == sym) = i → codeAt cs l sym = (cds (lensOf cs 16)).getD i (0, 0) := by
      intro i hi
      unfold codeAt
      rw [HMB.out, if_pos rfl, hi]
    have HDF := Lib.hid hdef
    have HRD := Lib.hid hrd
    clear hdef hrd
    generalize hL : cds (lensOf cs 16) = L at *
    clear hL
    generalize hn : L.length = n at *
    subst hlen
    have HN := Lib.hid hn
    clear hn
    go_loopw [6] (fun i wr => ∃ (k : Nat), k ≤ l.length ∧ i = .int .i64 k ∧ Hid (∀ j, j < k → l.getD j 0 ≠ sym) ∧ wr = w3) (fun i _ => l.length - (RowKit.intOf i).toNat)
    case atStart => exact ⟨0, Nat.zero_le _, rfl, (show Hid _ from fun j hj => absurd hj (Nat.not_lt_zero _)), rfl⟩
    case round =>
      obtain ⟨k, hk, rfl, HE, hw⟩ := hrel
      subst hw
      by_cases hlt : k < l.length
      · obtain ⟨b, o, hAb, hc⟩ : ∃ b o, A = some ⟨b, o, none⟩ ∧ ∀ i, i < l.length → wr.cell? ⟨b, o + i, none⟩ = some (.int .i64 (l.getD i 0)) := by
          rcases hr3.out with h | h
          · rw [h] at hlt; simp at hlt
          · exact h
        subst hAb
        have c1 := hc k hlt
        generalize hy : l.getD k 0 = y at *
        have HY := Lib.hid hy
        clear hy hc
        by_cases hys : y = sym
        · have hkL : k < L.length := by rw [HN.out]; exact hlt
          obtain ⟨g, hAc, hg1, hg2, d1, d2⟩ := HRD.out k L[k] (List.getElem?_eq_getElem hkL)
          have hcode : Hid (codeAt cs l sym = L[k]) := by
            show codeAt cs l sym = L[k]
            rw [HDF.out k (find_at hlt (by rw [HY.out]; exact hys) HE.out), List.getD_eq_getElem?_getD, List.getElem?_eq_getElem hkL]
            rfl
          generalize L[k] = pr at *
          obtain ⟨p1, p2⟩ := pr
          simp only at d1 d2
          subst hAc
          subst hys
          go_wp2
          (try simp only [Exit.inBlock, Exit.then])
          refine bodyPost_ret (ret_bits _ _ (w.heap.size + 1) (.int .i64 p1) (.int .i64 (p2 : Int)) rfl (by go_cell) (by go_cell)) rfl ?_
          rw [hcode.out]
          exact ⟨rfl, (HW3.out.setCell (by simp) _).setCell (by simp) _⟩
        · have hq : (y == sym) = false := by rw [beq_eq_false_iff_ne]; exact hys
          have HNy := Lib.hid hys
          clear hys
          go_wp2
          go_roundw
          case rel =>
            refine ⟨k + 1, by omega, by go_num, (show Hid _ from fun j hj => ?_), trivial⟩
            by_cases hjk : j = k
            · subst hjk
              rw [HY.out]
              exact HNy.out
            · exact HE.out j (by omega)
          case measure => simp [RowKit.intOf]; omega
      · obtain rfl : k = l.length := by omega
        have hcode : Hid (codeAt cs l sym = (0, 0)) := by
          show codeAt cs l sym = (0, 0)
          rw [HDF.out l.length (find_none HE.out), List.getD_eq_getElem?_getD, List.getElem?_eq_none (by rw [HN.out]; exact Nat.le_refl _)]
          rfl
        go_wp2
        (try simp only [Exit.inBlock, Exit.then])
        refine bodyPost_ret (ret_bits _ _ (w.heap.size + 1) (.int .i64 0) (.int .i64 0) rfl (by go_cell) (by go_cell)) rfl ?_
        rw [hcode.out]
        exact ⟨rfl, (HW3.out.setCell (by simp) _).setCell (by simp) _⟩
end Go.Proofs.Ytanihbflgolciaa
