/- Contracts of prefix.lenAt, areSyms, May. -/
import Derived.Test.YtanihbflgolciaaBlk
import Derived.Test.YtanihbflgolciaaPMay
namespace Go.Proofs.Ytanihbflgolciaa
open Go.RowKit Go.Lib
set_option linter.unusedVariables false
set_option maxRecDepth 100000

/-- The symbols are from 0 to 255, and no two are one. -/
structure SymP (l : List Int) : Prop where
  sym : ∀ i, i < l.length → 0 ≤ l.getD i 0 ∧ l.getD i 0 ≤ 255
  dif : ∀ i k, i < l.length → k < i → l.getD k 0 ≠ l.getD i 0
noncomputable def symB (l : List Int) : Bool := @decide (SymP l) (Classical.propDecidable _)
theorem symB_true {l : List Int} (h : SymP l) : symB l = true := by unfold symB; exact @decide_eq_true _ (Classical.propDecidable _) h
theorem symB_false {l : List Int} (h : ¬ SymP l) : symB l = false := by unfold symB; exact @decide_eq_false _ (Classical.propDecidable _) h
theorem symB_iff {l : List Int} : symB l = true ↔ SymP l := by unfold symB; exact @decide_eq_true_iff _ (Classical.propDecidable _)
/-- Which symbols the first k are. -/
def sawB (l : List Int) (k s : Nat) : Bool := (l.take k).any (fun x => decide (x = (s : Int)))
theorem sawB_iff {l : List Int} {k s : Nat} (hk : k ≤ l.length) : sawB l k s = true ↔ ∃ j, j < k ∧ l.getD j 0 = (s : Int) := by
  unfold sawB
  rw [List.any_eq_true]
  constructor
  · rintro ⟨x, hx, he⟩
    obtain ⟨j, hj, rfl⟩ := List.mem_iff_getElem.1 hx
    have hj' : j < k ∧ j < l.length := by rw [List.length_take] at hj; omega
    refine ⟨j, hj'.1, ?_⟩
    rw [List.getElem_take] at he
    rw [List.getD_eq_getElem?_getD, List.getElem?_eq_getElem hj'.2]
    exact of_decide_eq_true he
  · rintro ⟨j, hj, he⟩
    have hjl : j < l.length := by omega
    refine ⟨l[j], ?_, ?_⟩
    · rw [List.mem_iff_getElem]
      exact ⟨j, by rw [List.length_take]; omega, by rw [List.getElem_take]⟩
    · rw [List.getD_eq_getElem?_getD, List.getElem?_eq_getElem hjl] at he
      exact decide_eq_true he
theorem sawB_succ {l : List Int} {k : Nat} (hk : k < l.length) (s : Nat) : sawB l (k + 1) s = (sawB l k s || decide (l.getD k 0 = (s : Int))) := by
  unfold sawB
  rw [List.take_add_one, List.any_append, List.getElem?_eq_getElem hk, List.getD_eq_getElem?_getD, List.getElem?_eq_getElem hk]
  simp
/-- The array of what has been seen. -/
def Saw (l : List Int) (k : Nat) (X : Array Value) : Prop := X.size = 256 ∧ ∀ s, s < 256 → X[s]? = some (.bool (sawB l k s))
theorem Saw.start (l : List Int) : Saw l 0 (Array.replicate 256 (.bool false)) := ⟨by simp, fun s hs => by simp [hs, sawB]⟩
theorem Saw.step {l : List Int} {k : Nat} {X : Array Value} (h : Saw l k X) (hk : k < l.length) {s : Nat} (hs : s < 256) (he : l.getD k 0 = (s : Int)) : Saw l (k + 1) (X.setIfInBounds s (.bool true)) := by
  refine ⟨by simp [h.1], fun t ht => ?_⟩
  rw [sawB_succ hk, he, Array.getElem?_setIfInBounds]
  by_cases e : s = t
  · subst e
    simp [h.1, hs]
  · rw [if_neg e, h.2 t ht]
    have : ¬ (s : Int) = (t : Int) := by omega
    simp [this]

set_option maxHeartbeats 1000000 in
theorem fSyms_any (l : List Int) (A : Option Addr) (c : Nat) (w : World) (hr : Ri w A l) (hl : l.length ≤ 100000) :
    Calls Try.prog 24 #[.slice A l.length c] w fun e w' => e = .returned (.bool (symB l)) ∧ Below w.heap.size w w' := by
  obtain ⟨Z, hZ⟩ : ∃ Z, Z = Array.replicate 256 (Value.bool false) := ⟨_, rfl⟩
  have HZ : Hid ((Try.prog.info? 63).map (fun i => i.zero) = some (some (.agg Z))) := by show _ = _; rw [hZ]; kernel_rfl
  have HS : Hid (Saw l 0 Z) := by show Saw l 0 Z; rw [hZ]; exact Saw.start l
  have HW := Lib.hid ((Below.refl w.heap.size w).alloc (Nat.le_refl _) (.cells Z 63))
  have HB := Lib.hid (Blk.new w Z 63)
  clear hZ
  go_enter Try.func24, Try.ntmps24
  go_wp2_with (first
    | (with_reducible refine wpList_allocZ _ rfl 63 rfl Z HZ.out ?_))
  obtain ⟨w1, hw1⟩ : ∃ w1, w1 = w.alloc (.cells Z 63) := ⟨_, rfl⟩
  rw [← hw1] at HB HW ⊢
  clear hw1
  have hr0 := Lib.hid hr
  clear hr
  go_loopw [5, 8] (fun _ i wr => ∃ (k : Nat) (X : Array Value), k ≤ l.length ∧ i = .int .i64 k ∧ Hid (Blk wr w.heap.size X) ∧ Hid (Saw l k X) ∧ Hid (∀ j, j < k → 0 ≤ l.getD j 0 ∧ l.getD j 0 ≤ 255) ∧ Hid (∀ i j, i < k → j < i → l.getD j 0 ≠ l.getD i 0) ∧ Hid (Below w.heap.size w wr)) (fun _ i _ => l.length - (RowKit.intOf i).toNat)
  case atStart => exact ⟨0, Z, Nat.zero_le _, rfl, HB, HS, (show Hid _ from fun j hj => absurd hj (Nat.not_lt_zero _)), (show Hid _ from fun i j hi _ => absurd hi (Nat.not_lt_zero _)), HW⟩
  case round =>
    obtain ⟨k, X, hk, rfl, HBk, HSk, HA, HD, HWk⟩ := hrel
    have HR := Lib.hid (hr0.out.below HWk.out)
    by_cases hlt : k < l.length
    · obtain ⟨b, o, hAb, hc⟩ : ∃ b o, A = some ⟨b, o, none⟩ ∧ ∀ i, i < l.length → wr.cell? ⟨b, o + i, none⟩ = some (.int .i64 (l.getD i 0)) := by
        rcases HR.out with h | h
        · rw [h] at hlt; simp at hlt
        · exact h
      subst hAb
      have e1 := hc k hlt
      generalize hx : l.getD k 0 = x at *
      have HX := Lib.hid hx
      clear hx hc
      by_cases h0 : x < 0
      · have hf := Lib.hid (symB_false (l := l) fun h => by
          have := (h.sym k hlt).1
          rw [HX.out] at this
          omega)
        go_wp2
        go_ret
        rw [hf.out]
        exact ⟨rfl, HWk.out⟩
      · by_cases h1 : 256 ≤ x
        · have hf := Lib.hid (symB_false (l := l) fun h => by
            have := (h.sym k hlt).2
            rw [HX.out] at this
            omega)
          go_wp2
          go_ret
          rw [hf.out]
          exact ⟨rfl, HWk.out⟩
        · obtain ⟨s, rfl⟩ : ∃ s : Nat, x = (s : Int) := ⟨x.toNat, by omega⟩
          have hs : s < 256 := by omega
          have e2 := HBk.out.cell (HSk.out.2 s hs)
          have e3 := HBk.out.frozen s
          cases hb : sawB l k s with
          | true =>
            have hf : Hid (symB l = false) := symB_false fun h => by
              obtain ⟨j, hj, he⟩ := (sawB_iff hk).1 hb
              exact h.dif k j hlt hj (he.trans HX.out.symm)
            rw [hb] at e2
            clear hb
            go_wp2
            go_ret
            rw [hf.out]
            exact ⟨rfl, HWk.out⟩
          | false =>
            have hn : Hid (∀ j, j < k → l.getD j 0 ≠ (s : Int)) := by
              show ∀ j, j < k → l.getD j 0 ≠ (s : Int)
              intro j hj he
              have := (sawB_iff hk).2 ⟨j, hj, he⟩
              rw [hb] at this
              cases this
            rw [hb] at e2
            clear hb
            have g1 := Lib.hid (HBk.out.set s (.bool true))
            have g2 := Lib.hid (HSk.out.step hlt hs HX.out)
            have g5 := Lib.hid (HWk.out.setCell (p := ⟨w.heap.size, s, none⟩) (Nat.le_refl _) (.bool true))
            go_wp2
            go_roundw
            case rel =>
              refine ⟨k + 1, _, by omega, by go_num, g1, g2, (show Hid _ from fun j hj => ?_), (show Hid _ from fun i j hi hj => ?_), g5⟩
              · by_cases hjk : j = k
                · subst hjk
                  rw [HX.out]
                  omega
                · exact HA.out j (by omega)
              · by_cases hik : i = k
                · subst hik
                  rw [HX.out]
                  exact hn.out j hj
                · exact HD.out i j (by omega) hj
            case measure => simp [RowKit.intOf]; omega
    · obtain rfl : k = l.length := by omega
      have hf := Lib.hid (symB_true ⟨HA.out, HD.out⟩)
      go_wp2
      go_ret
      rw [hf.out]
      exact ⟨rfl, HWk.out⟩

/-- Sixteen counts loaded. -/
theorem Hv.counts {X : Array Value} {cs : List Int} {s : Value} (h : Hv X cs s) : ∃ Y : Array Value, Y.size = 16 ∧ (∀ k, k < 16 → Y[k]? = some (.int .i64 (cs.getD k 0))) ∧ ∀ (j : Nat) (v : Value), Y[j]? = some v → X[j]? = some v := by
  have h15 := h.cnt 15 (by omega)
  have hs : 15 < X.size := (Array.getElem?_eq_some_iff.1 h15).1
  refine ⟨X.extract 0 16, by simp; omega, fun k hk => ?_, fun j v hv => ?_⟩
  · rw [Array.getElem?_extract]
    simp only [Nat.zero_add]
    rw [if_pos (by omega)]
    exact h.cnt k hk
  · rw [Array.getElem?_extract] at hv
    split at hv
    · simpa using hv
    · cases hv

theorem fLen_any (i : Int) (w : World) (h0 : 0 ≤ i) (h1 : i ≤ 1000) : Calls Try.prog 23 #[.int .i64 i] w fun e w' => e = .returned (.int .i64 (i + 1)) ∧ w = w' := by
  go_enter Try.func23, Try.ntmps23
  go_wp2
  go_ret
  exact ⟨rfl, rfl⟩

/-- What the counts leave of the room. -/
theorem room_is (cs : List Int) : ∀ k, (65536 : Int) - sumS cs k = 65536 - sumS cs k := fun _ => rfl

set_option maxHeartbeats 1000000 in
theorem fMay_any (X : Array Value) (cs : List Int) (l : List Int) (A : Option Addr) (c : Nat) (w : World) (hX : Hv X cs (.slice A l.length c)) (hr : Ri w A l) (hl : l.length ≤ 100000) :
    Calls Try.prog 11 #[.agg X] w fun e w' => e = .returned (.bool (mayB cs l)) ∧ Below w.heap.size w w' := by
  obtain ⟨Y, hY1, hY2, hY3⟩ := hX.counts
  have HY1 := Lib.hid hY1
  have HY2 := Lib.hid hY2
  have HY3 := Lib.hid hY3
  have HX := Lib.hid hX
  have HR0 := Lib.hid hr
  clear hX hY1 hY2 hY3 hr
  go_enter Try.func11, Try.ntmps11
  have HW := Lib.hid ((Below.refl w.heap.size w).alloc (Nat.le_refl _) (.cells X 25))
  have HB := Lib.hid (HX.out.box w 25)
  have HBL := Lib.hid (Blk.new w X 25)
  have HLD : Hid (∀ (j : Nat) (v : Value), Y[j]? = some v → (w.alloc (.cells X 25)).cell? ⟨w.heap.size, 0 + j, none⟩ = some v) := by
    show ∀ (j : Nat) (v : Value), _
    intro j v hv
    rw [Nat.zero_add]
    exact HBL.out.cell (HY3.out j v hv)
  have HSZ : Hid ((Try.prog.info? 22).map (·.size) = some Y.size) := by show _ = _; rw [HY1.out]; kernel_rfl
  go_wp2_with (first
    | (with_reducible refine wpList_loadP _ rfl 22 (.tmp 7) rfl _ Try.underlying22 rfl w.heap.size 0 rfl Y HLD.out HSZ.out ?_))
  clear HLD HSZ HBL
  obtain ⟨w1, hw1⟩ : ∃ w1, w1 = w.alloc (.cells X 25) := ⟨_, rfl⟩
  rw [← hw1] at HB HW ⊢
  clear hw1
  go_loopw [3, 4, 9] (fun many room i wr => ∃ (k : Nat), k ≤ 16 ∧ i = .int .i64 k ∧ many = .int .i64 (manyS cs k) ∧ room = .int .i64 (65536 - sumS cs k) ∧ Hid (∀ j, j < k → 0 ≤ cs.getD j 0 ∧ cs.getD j 0 ≤ 256) ∧ wr = w1) (fun _ _ i _ => 16 - (RowKit.intOf i).toNat)
  case atStart => exact ⟨0, Nat.zero_le _, rfl, rfl, rfl, (show Hid _ from fun j hj => absurd hj (Nat.not_lt_zero _)), rfl⟩
  case round =>
    obtain ⟨k, hk, rfl, rfl, rfl, HC, hw⟩ := hrel
    subst hw
    by_cases hlt : k < 16
    · have e1 := HY2.out k hlt
      generalize hx : cs.getD k 0 = x at *
      have HX := Lib.hid hx
      clear hx
      have hb1 := many_rng k HC.out
      have hb2 := sum_rng k hk HC.out
      by_cases h0 : x < 0
      · have hf := Lib.hid (mayB_false (cs := cs) (l := l) fun h => by
          have := (h.cnt k hlt).1
          rw [HX.out] at this
          omega)
        go_wp2_with (first
          | (with_reducible refine wpList_indexA _ rfl 22 (.tmp 8) (.tmp 9) rfl 16 3 .i64 Try.underlying22 Try.underlying3 (by kernel_rfl) Y rfl k rfl hlt _ e1 ?_))
        go_ret
        rw [hf.out]
        exact ⟨rfl, HW.out⟩
      · by_cases h1 : 256 < x
        · have hf := Lib.hid (mayB_false (cs := cs) (l := l) fun h => by
            have := (h.cnt k hlt).2
            rw [HX.out] at this
            omega)
          go_wp2_with (first
            | (with_reducible refine wpList_indexA _ rfl 22 (.tmp 8) (.tmp 9) rfl 16 3 .i64 Try.underlying22 Try.underlying3 (by kernel_rfl) Y rfl k rfl hlt _ e1 ?_))
          go_ret
          rw [hf.out]
          exact ⟨rfl, HW.out⟩
        · obtain ⟨P, G, hP, hP1, hP2, hG, hG1, hG2, HG⟩ := pow_case hlt (by omega : 0 ≤ x) (by omega)
          go_wp2_with (first
            | (with_reducible refine wpList_indexA _ rfl 22 (.tmp 8) (.tmp 9) rfl 16 3 .i64 Try.underlying22 Try.underlying3 (by kernel_rfl) Y rfl k rfl hlt _ e1 ?_)
            | ((go_at_call 23; refine (fLen_any _ _ (by omega) (by omega)).mono ?_)
               rintro e w2 ⟨rfl, rfl⟩))
          go_roundw
          case rel =>
            refine ⟨k + 1, by omega, by go_num, ?_, ?_, (show Hid _ from fun j hj => ?_), trivial⟩
            · rw [manyS, HX.out]
            · rw [sumS, HX.out, hP, hG]
              rw [IntWalk.wrap64_in G (by omega), IntWalk.wrap64_in _ (by omega)]
              congr 1
              omega
            · by_cases hjk : j = k
              · subst hjk
                rw [HX.out]
                omega
              · exact HC.out j (by omega)
          case measure => simp [RowKit.intOf]; omega
    · obtain rfl : k = 16 := by omega
      have hb1 := many_rng 16 HC.out
      have hb2 := sum_rng 16 (Nat.le_refl _) HC.out
      have e16 := HB.out.syms
      generalize hm : manyS cs 16 = mm at *
      generalize hsm : sumS cs 16 = ss at *
      have HM := Lib.hid hm
      have HS := Lib.hid hsm
      clear hm hsm
      have hiff : Hid (mayB cs l = (decide (ss < 65536) && (decide (0 < mm) && (decide (mm = l.length) && symB l)))) := by
        show mayB cs l = _
        by_cases h1 : ss < 65536
        · by_cases h2 : 0 < mm
          · by_cases h3 : mm = l.length
            · rw [decide_eq_true h1, decide_eq_true h2, decide_eq_true h3]
              simp only [Bool.true_and]
              cases hs : symB l with
              | true =>
                have hp := symB_iff.1 hs
                exact mayB_true ⟨HC.out, hp.sym, hp.dif, by rw [HM.out]; exact h3, by omega, by rw [HS.out]; exact h1⟩
              | false =>
                refine mayB_false fun h => ?_
                have := symB_true ⟨h.sym, h.dif⟩
                rw [this] at hs
                cases hs
            · rw [decide_eq_false h3]
              simp only [Bool.false_and, Bool.and_false]
              exact mayB_false fun h => h3 (by have := h.many; rwa [HM.out] at this)
          · rw [decide_eq_false h2]
            simp only [Bool.false_and, Bool.and_false]
            exact mayB_false fun h => h2 (by have := h.many; have := h.some; rw [HM.out] at *; omega)
        · rw [decide_eq_false h1]
          simp only [Bool.false_and]
          exact mayB_false fun h => h1 (by have := h.sum; rwa [HS.out] at this)
      have HA := Lib.hid (fSyms_any l A c wr (HR0.out.below HW.out) hl)
      by_cases h1 : ss < 65536
      · by_cases h2 : 0 < mm
        · by_cases h3 : mm = l.length
          · have hf : Hid (mayB cs l = symB l) := by show mayB cs l = symB l; rw [hiff.out, decide_eq_true h1, decide_eq_true h2, decide_eq_true h3]; rfl
            go_wp2_with (first
              | ((go_at_call 24; refine HA.out.mono ?_)
                 rintro e w2 ⟨rfl, hb2⟩
                 have HB2 := Lib.hid hb2
                 clear hb2))
            go_ret
            rw [hf.out]
            exact ⟨rfl, HW.out.trans ⟨HB2.out.os, HB2.out.tape, HB2.out.output, HB2.out.size, fun k hk => HB2.out.block k (Nat.lt_of_lt_of_le hk HW.out.size)⟩⟩
          · have hf : Hid (mayB cs l = false) := by show mayB cs l = false; rw [hiff.out, decide_eq_false h3]; simp
            go_wp2
            go_ret
            rw [hf.out]
            exact ⟨rfl, HW.out⟩
        · have hf : Hid (mayB cs l = false) := by show mayB cs l = false; rw [hiff.out, decide_eq_false h2]; simp
          go_wp2
          go_ret
          rw [hf.out]
          exact ⟨rfl, HW.out⟩
      · have hf : Hid (mayB cs l = false) := by show mayB cs l = false; rw [hiff.out, decide_eq_false h1]; simp
        go_wp2
        go_ret
        rw [hf.out]
        exact ⟨rfl, HW.out⟩
end Go.Proofs.Ytanihbflgolciaa
