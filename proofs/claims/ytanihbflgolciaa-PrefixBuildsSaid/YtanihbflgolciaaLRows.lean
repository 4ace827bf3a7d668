/- Contract of the law's own rows: are two rows of codes the same? -/
import Derived.Test.YtanihbflgolciaaFCod
namespace Go.Proofs.Ytanihbflgolciaa
open Go.RowKit Go.Lib
set_option linter.unusedVariables false
set_option maxRecDepth 100000
def rowsB (ps qs : List (Int × Nat)) : Bool := decide (ps = qs)
theorem rowsB_no {ps qs : List (Int × Nat)} (h : ps ≠ qs) : rowsB ps qs = false := decide_eq_false h
theorem rowsB_yes {ps qs : List (Int × Nat)} (h : ps = qs) : rowsB ps qs = true := decide_eq_true h
set_option maxHeartbeats 2000000 in
theorem lRows_any (v u : Value) (ps qs : List (Int × Nat)) (B1 B2 : Nat) (w : World) (hv : Oq w B1 v ps) (hu : Oq w B2 u qs) (hl : ps.length ≤ 100000) :
    Calls Try.prog 16 #[v, u] w fun e w' => e = .returned (.bool (rowsB ps qs)) ∧ Below w.heap.size w w' := by
  obtain ⟨A, c, rfl, hA⟩ := hv.open
  obtain ⟨B, d, rfl, hB⟩ := hu.open
  have HA := Lib.hid hA
  have HB := Lib.hid hB
  have HW := Lib.hid (Below.refl w.heap.size w)
  clear hA hB hv hu
  go_enter Try.func16, Try.ntmps16
  by_cases hlm : ps.length = qs.length
  · go_wp2
    go_loopw [5] (fun i wr => ∃ (k : Nat), k ≤ ps.length ∧ i = .int .i64 k ∧ Hid (∀ j, j < k → ps[j]? = qs[j]?) ∧ ∃ N, wr = w.drewN N) (fun i _ => ps.length - (RowKit.intOf i).toNat)
    case atStart => exact ⟨0, Nat.zero_le _, rfl, (show Hid _ from fun j hj => absurd hj (Nat.not_lt_zero _)), 0, rfl⟩
    case round =>
      obtain ⟨k, hk, rfl, HE, N, rfl⟩ := hrel
      by_cases hlt : k < ps.length
      · obtain ⟨p, hp⟩ : ∃ p, ps[k]? = some p := ⟨_, List.getElem?_eq_getElem hlt⟩
        obtain ⟨q, hq⟩ : ∃ q, qs[k]? = some q := ⟨_, List.getElem?_eq_getElem (show k < qs.length by omega)⟩
        have HP := Lib.hid hp
        have HQ := Lib.hid hq
        obtain ⟨g1, hA1, _, _, e1, e2⟩ := HA.out k p hp
        obtain ⟨g2, hB1, _, _, f1, f2⟩ := HB.out k q hq
        subst hA1 hB1
        clear hp hq
        obtain ⟨p1, p2⟩ := p
        obtain ⟨q1, q2⟩ := q
        simp only at e1 e2 f1 f2
        have hkq : k < qs.length := by omega
        have hno : Hid ((p1, p2) ≠ (q1, q2) → rowsB ps qs = false) := by
          show _ → _
          intro hne
          refine rowsB_no ?_
          rintro rfl
          exact hne (Option.some.inj (HP.out.symm.trans HQ.out))
        by_cases h1 : p1 = q1
        · by_cases h2 : p2 = q2
          · have b1 : (p1 == q1) = true := by simp [h1]
            have b2 : ((p2 : Int) == (q2 : Int)) = true := by simp [h2]
            have HEQ : Hid (ps[k]? = qs[k]?) := by show _ = _; rw [HP.out, HQ.out, h1, h2]
            clear h1 h2 hno
            go_wp2
            go_quiet (fail)
            go_wp2
            go_roundw
            case rel =>
              refine ⟨k + 1, by omega, by go_num, (show Hid _ from fun j hj => ?_), _, rfl⟩
              by_cases hjk : j = k
              · subst hjk
                exact HEQ.out
              · exact HE.out j (by omega)
            case measure => simp [RowKit.intOf]; omega
          · have b1 : (p1 == q1) = true := by simp [h1]
            have b2 : ((p2 : Int) == (q2 : Int)) = false := by simp; omega
            have hf := Lib.hid (hno.out (by intro he; injection he with _ he; exact h2 he))
            clear h1 h2 hno
            go_wp2
            go_quiet (fail)
            go_wp2
            go_ret
            rw [hf.out]
            exact ⟨rfl, dN (dN HW.out _) _⟩
        · have b1 : (p1 == q1) = false := by simp [h1]
          have hf := Lib.hid (hno.out (by intro he; injection he with he _; exact h1 he))
          clear h1 hno
          go_wp2
          go_quiet (fail)
          go_wp2
          go_ret
          rw [hf.out]
          exact ⟨rfl, dN (dN HW.out _) _⟩
      · obtain rfl : k = ps.length := by omega
        have hf : Hid (rowsB ps qs = true) := by
          refine rowsB_yes (List.ext_getElem? fun i => ?_)
          by_cases hi : i < ps.length
          · exact HE.out i hi
          · rw [List.getElem?_eq_none (by omega), List.getElem?_eq_none (by omega)]
        go_wp2
        go_ret
        rw [hf.out]
        exact ⟨rfl, dN HW.out _⟩
  · have hf := Lib.hid (rowsB_no (ps := ps) (qs := qs) fun he => hlm (by rw [he]))
    have hq : ((ps.length : Int) != (qs.length : Int)) = true := by
      have : (ps.length : Int) ≠ (qs.length : Int) := by omega
      simp [this]
    clear hlm
    go_wp2
    go_ret
    rw [hf.out]
    exact ⟨rfl, HW.out⟩
end Go.Proofs.Ytanihbflgolciaa
