/- The chapter's examples, in plain numbers. -/
import Derived.Test.YtanihbflgolciaaFBld
import Derived.Test.YtanihbflgolciaaPCst
import Derived.Test.YtanihbflgolciaaPSame
import Derived.Test.YtanihbflgolciaaLRows
namespace Go.Proofs.Ytanihbflgolciaa
open Go.RowKit Go.Lib Go.Sort
set_option linter.unusedVariables false
set_option maxRecDepth 100000
def cs3 : List Int := [0, 1, 2, 0, 0, 0, 0, 0, 0, 0, 0, 0, 0, 0, 0, 0]
def cs2 : List Int := [1, 1, 0, 0, 0, 0, 0, 0, 0, 0, 0, 0, 0, 0, 0, 0]
def csN : List Int := [2, 0, 0, 0, 0, 0, 0, 0, 0, 0, 0, 0, 0, 0, 0, 0]
def cs1 : List Int := [1, 0, 0, 0, 0, 0, 0, 0, 0, 0, 0, 0, 0, 0, 0, 0]
def t7 : List Int := [0, 0, 0, 0, 0, 0, 0, 5]
theorem pos2 : posS (talS [1, 1]) 256 = [0, 1] := by decide +kernel
theorem pos7 : posS (talS t7) 256 = [7] := by decide +kernel
theorem cnt2 : cntB [1, 1] = true := by decide +kernel
theorem cnt7 : cntB t7 = true := by decide +kernel
theorem insOne (lt : Fin 256 → Fin 256 → Bool) (x : Fin 256) : insertionSort lt #[x] 0 1 = #[x] := by
  unfold insertionSort
  rw [insOuter_stop _ _ _ _ _ (by omega)]
theorem insTwo (lt : Fin 256 → Fin 256 → Bool) (x y : Fin 256) (h : lt y x = false) : insertionSort lt #[x, y] 0 2 = #[x, y] := by
  unfold insertionSort
  rw [insOuter_go _ _ _ _ _ (by omega), insInner_stop _ _ _ _ (Or.inr h), insOuter_stop _ _ _ _ _ (by omega)]
theorem srt2 : srtS (talS [1, 1]) = [0, 1] := by
  unfold srtS
  have e : dS (talS [1, 1]) = #[fin256 0, fin256 1] := by unfold dS; rw [pos2]; rfl
  have z : (dS (talS [1, 1])).size = 2 := by rw [e]; rfl
  rw [z, e, insTwo]
  · rfl
  · rw [ltOf_cf]; decide +kernel
theorem srt7 : srtS (talS t7) = [7] := by
  unfold srtS
  have e : dS (talS t7) = #[fin256 7] := by unfold dS; rw [pos7]; rfl
  have z : (dS (talS t7)).size = 1 := by rw [e]; rfl
  rw [z, e, insOne]
  rfl
theorem lg2 : lgW (talS [1, 1]) [0, 1] = [1, 1, 0] := by decide +kernel
theorem lg7 : lgW (talS t7) [7] = [5, 0] := by decide +kernel
theorem awk_dep {r : Tr} (h : HT (lfT [1, 1, 0]) r) {dp : List Int} (hd : ∀ q ∈ r.lf, dp.getD q.1 0 = (q.2 : Int)) : (dp.getD 0 0 = 1 ∧ dp.getD 1 0 = 2) ∨ (dp.getD 0 0 = 2 ∧ dp.getD 1 0 = 1) := by
  obtain ⟨L0, h0⟩ : ∃ L0 : Tr, L0 = ⟨1, 0, [(0, 0)]⟩ := ⟨_, rfl⟩
  obtain ⟨L1, h1⟩ : ∃ L1 : Tr, L1 = ⟨1, 0, [(1, 0)]⟩ := ⟨_, rfl⟩
  obtain ⟨L2, h2⟩ : ∃ L2 : Tr, L2 = ⟨0, 0, [(2, 0)]⟩ := ⟨_, rfl⟩
  have e : lfT [1, 1, 0] = [L0, L1, L2] := by rw [h0, h1, h2]; rfl
  rw [e] at h
  unfold HT at h
  cases h with
  | step hp ha hb hh =>
    rename_i t a b
    have hl := hp.length_eq
    simp only [List.length_cons, List.length_nil] at hl
    obtain ⟨c, rfl⟩ : ∃ c, t = [c] := List.length_eq_one_iff.1 (by omega)
    have hr : ∃ a' b', [jn a b, c].Perm [a', b'] ∧ r = jn a' b' := by
      cases hh with
      | step hp2 _ _ hh2 =>
        rename_i t' a' b' x1 x2
        have hl2 := hp2.length_eq
        simp only [List.length_cons, List.length_nil] at hl2
        obtain rfl : t' = [] := List.eq_nil_of_length_eq_zero (by omega)
        refine ⟨a', b', hp2, ?_⟩
        cases hh2 with
        | one => rfl
        | step hp3 _ _ _ => have := hp3.length_eq; simp at this
    obtain ⟨a', b', hp2, rfl⟩ := hr
    have up : ∀ u ∈ [jn a b, c], ∀ q ∈ u.lf, dp.getD q.1 0 = (q.2 : Int) + 1 := by
      intro u hu q hq
      have hu2 := hp2.subset hu
      have : (q.1, q.2 + 1) ∈ (jn a' b').lf := by
        simp only [jn]
        refine List.mem_map.2 ⟨q, ?_, rfl⟩
        rcases List.mem_cons.1 hu2 with rfl | hu2
        · exact List.mem_append_left _ hq
        · rw [List.mem_singleton] at hu2
          subst hu2
          exact List.mem_append_right _ hq
      have := hd _ this
      push_cast at this
      exact this
    have upc : ∀ q ∈ c.lf, dp.getD q.1 0 = (q.2 : Int) + 1 := up c (by simp)
    have upab : ∀ u, u = a ∨ u = b → ∀ q ∈ u.lf, dp.getD q.1 0 = (q.2 : Int) + 2 := by
      intro u hu q hq
      have hm : (q.1, q.2 + 1) ∈ (jn a b).lf := by
        simp only [jn]
        refine List.mem_map.2 ⟨q, ?_, rfl⟩
        rcases hu with rfl | rfl
        · exact List.mem_append_left _ hq
        · exact List.mem_append_right _ hq
      have := up (jn a b) (by simp) _ hm
      push_cast at this
      omega
    have in0 : L0 = a ∨ L0 = b ∨ L0 = c := by have := hp.subset (show L0 ∈ [L0, L1, L2] by simp); simpa using this
    have in1 : L1 = a ∨ L1 = b ∨ L1 = c := by have := hp.subset (show L1 ∈ [L0, L1, L2] by simp); simpa using this
    have hbc := hb c (by simp)
    have hab := ha b (by simp)
    have f0 : L0.f = 1 := by rw [h0]
    have f1 : L1.f = 1 := by rw [h1]
    have m0 : ((0 : Nat), (0 : Nat)) ∈ L0.lf := by rw [h0]; simp
    have m1 : ((1 : Nat), (0 : Nat)) ∈ L1.lf := by rw [h1]; simp
    have n01 : L0 ≠ L1 := by rw [h0, h1]; intro e; injection e with _ _ e; simp at e
    by_cases c0 : L0 = c
    · left
      have d0 := upc _ (c0 ▸ m0)
      have d1 := upab L1 (by rcases in1 with e | e | e; exact .inl e; exact .inr e; exact absurd (c0.trans e.symm) n01) _ m1
      simp only at d0 d1
      omega
    · by_cases c1 : L1 = c
      · right
        have d1 := upc _ (c1 ▸ m1)
        have d0 := upab L0 (by rcases in0 with e | e | e; exact .inl e; exact .inr e; exact absurd e c0) _ m0
        simp only at d0 d1
        omega
      · exfalso
        have hc2 : c = L2 := by
          have := hp.symm.subset (show c ∈ [a, b, c] by simp)
          simp only [List.mem_cons, List.not_mem_nil, or_false] at this
          rcases this with e | e | e
          · exact absurd e.symm c0
          · exact absurd e.symm c1
          · exact e
        have fc : c.f = 0 := by rw [hc2, h2]
        have fb : b.f = 0 := by omega
        have fa : a.f = 0 := by omega
        rcases in0 with e | e | e
        · rw [e] at f0; omega
        · rw [e] at f0; omega
        · exact c0 e
theorem bld2 {r : Tr} {dp : List Int} (h : HT (lfT (lgW (talS [1, 1]) (srtS (talS [1, 1])))) r) (hd : ∀ q ∈ r.lf, dp.getD q.1 0 = (q.2 : Int)) : incL (zeroL 16) (dsL dp (posS (talS [1, 1]) 256).length) = cs2 := by
  rw [srt2, lg2] at h
  rw [pos2]
  have e : dsL dp 2 = [(dp.getD 0 0).toNat - 1, (dp.getD 1 0).toNat - 1] := by unfold dsL; rfl
  show incL (zeroL 16) (dsL dp 2) = cs2
  rw [e]
  rcases awk_dep h hd with ⟨e1, e2⟩ | ⟨e1, e2⟩
  · rw [e1, e2]; decide +kernel
  · rw [e1, e2]; decide +kernel
theorem bld7 {r : Tr} {dp : List Int} (h : HT (lfT (lgW (talS t7) (srtS (talS t7)))) r) (hp : (r.lf.map Prod.fst).Perm (List.range ((posS (talS t7) 256).length + 1))) (hd : ∀ q ∈ r.lf, dp.getD q.1 0 = (q.2 : Int)) : incL (zeroL 16) (dsL dp (posS (talS t7) 256).length) = cs1 := by
  rw [pos7] at hp
  have := dep_rng h (n := 1) (by rw [lgW_len, srt7]; rfl) (Nat.le_refl _) hp hd 0 (by omega)
  rw [pos7]
  have e : dsL dp 1 = [(dp.getD 0 0).toNat - 1] := by unfold dsL; rfl
  show incL (zeroL 16) (dsL dp 1) = cs1
  rw [e, show dp.getD 0 0 = 1 by omega]
  decide +kernel
theorem dif3 : ∀ i, i < [(5 : Int), 1, 9].length → ∀ k, k < i → [(5 : Int), 1, 9].getD k 0 ≠ [(5 : Int), 1, 9].getD i 0 := by decide
theorem dif2 : ∀ i, i < [(0 : Int), 1].length → ∀ k, k < i → [(0 : Int), 1].getD k 0 ≠ [(0 : Int), 1].getD i 0 := by decide
theorem may3 : mayB cs3 [5, 1, 9] = true := mayB_true ⟨by decide, by decide, fun i k h1 h2 => dif3 i h1 k h2, by decide, by decide, by decide⟩
theorem may2 : mayB cs2 [0, 1] = true := mayB_true ⟨by decide, by decide, fun i k h1 h2 => dif2 i h1 k h2, by decide, by decide, by decide⟩
theorem mayN : mayB csN [0, 1] = false := mayB_false fun h => by have := h.sum; revert this; decide
theorem cds3 : cds (lensOf cs3 16) = [(0, 2), (2, 3), (3, 3)] := by decide +kernel
theorem cost2 : costB cs2 [0, 1] [1, 1] = 3 := by
  have c0 : codeAt cs2 [0, 1] ((0 : Nat) : Int) = (0, 1) := by unfold codeAt; rw [may2, if_pos rfl]; decide +kernel
  have c1 : codeAt cs2 [0, 1] ((1 : Nat) : Int) = (2, 2) := by unfold codeAt; rw [may2, if_pos rfl]; decide +kernel
  unfold costB
  rw [may2, cnt2, okB_true]
  · show costN cs2 [0, 1] [1, 1] 2 = 3
    rw [costN, costN, costN, c0, c1]
    rfl
  · intro s hs
    right
    have : s = 0 ∨ s = 1 := by simp at hs; omega
    rcases this with rfl | rfl
    · rw [c0]; decide
    · rw [c1]; decide
end Go.Proofs.Ytanihbflgolciaa
