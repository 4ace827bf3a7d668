/- Pure: merging trees out of a heap: what stays so, round by round; what the depths are in the end. -/
import Derived.Test.YtanihbflgolciaaHufP0
import Derived.Test.YtanihbflgolciaaHeapP
import Derived.Test.YtanihbflgolciaaFDown
namespace Go.Proofs.Ytanihbflgolciaa
open Go.Sort
set_option linter.unusedVariables false

/-- A tree: its weight, its cost, its leaves with their depths. -/
structure Tr where
  f : Nat
  c : Nat
  lf : List (Nat × Nat)
def jn (a b : Tr) : Tr := ⟨a.f + b.f, a.c + b.c + (a.f + b.f), (a.lf ++ b.lf).map (fun q => (q.1, q.2 + 1))⟩
abbrev HT : List Tr → Tr → Prop := Huf Tr.f jn

theorem ltw_swo : SWO ltw := by
  refine ⟨fun x => ?_, fun x y z => ?_, fun x y z => ?_⟩
  · simp [ltw]
  · simp only [ltw, decide_eq_true_eq]; omega
  · simp only [ltw, decide_eq_false_iff_not]; omega

/-- Of a heap that is not empty the first is popped: what comes out, what is left. -/
theorem heap_out {n : Nat} {d : Array (Int × Value)} (hs : d.size = n + 1) (hh : Heap ltw (n + 1) d) :
    Heap ltw n (popped ltw n d).pop ∧ (popped ltw n d).pop.size = n ∧ d.toList.Perm ((popped ltw n d)[n]! :: (popped ltw n d).pop.toList) ∧ ∀ y ∈ (popped ltw n d).pop.toList, (popped ltw n d)[n]!.1 ≤ y.1 := by
  obtain ⟨h1, h2, h3, h4⟩ := heap_pop ltw_swo hs hh
  generalize popped ltw n d = e at *
  have hpop : ∀ k, k < n → e.pop[k]! = e[k]! := by
    intro k hk
    rw [getElem!_pos e.pop k (by rw [Array.size_pop]; omega), getElem!_pos e k (by omega), Array.getElem_pop]
  have hl : e.toList = e.pop.toList ++ [e[n]!] := by
    apply List.ext_getElem?
    intro i
    by_cases hi : i < n
    · rw [List.getElem?_append_left (by simp; omega), Array.getElem?_toList, Array.getElem?_toList, Array.getElem?_pop, if_pos (by omega)]
    · by_cases hin : i = n
      · subst hin
        rw [List.getElem?_append_right (by simp; omega)]
        simp only [Array.length_toList, Array.size_pop, h2, Nat.add_sub_cancel, Nat.sub_self]
        rw [Array.getElem?_toList, Array.getElem?_eq_getElem (by omega), getElem!_pos e i (by omega)]
        rfl
      · rw [List.getElem?_eq_none (by simp; omega), List.getElem?_eq_none (by simp; omega)]
  have hp : d.toList.Perm (e[n]! :: e.pop.toList) := by
    refine h4.symm.trans ?_
    rw [hl]
    exact List.perm_append_singleton _ _
  refine ⟨fun i hi k hk hkn => ?_, by rw [Array.size_pop, h2]; rfl, hp, fun y hy => ?_⟩
  · have := h1 i hi k hk hkn
    rw [hpop _ (by omega), hpop _ (by omega)]
    exact this
  · have hy' : y ∈ d.toList := hp.symm.subset (List.mem_cons_of_mem _ hy)
    obtain ⟨i, hi, rfl⟩ := List.mem_iff_getElem.1 hy'
    have hi' : i < n + 1 := by rw [Array.length_toList, hs] at hi; exact hi
    have hmin := heap_min ltw_swo hh hi'
    rw [h3]
    rw [getElem!_pos d i (by omega)] at hmin
    simp only [ltw, decide_eq_false_iff_not] at hmin
    simp only [Array.getElem_toList]
    omega

theorem of_fstG {α β : Type} {q : List (α × β)} {a : α} {t : List α} (h : (q.map Prod.fst).Perm (a :: t)) : ∃ d q0, q.Perm ((a, d) :: q0) ∧ (q0.map Prod.fst).Perm t := by
  have hm : a ∈ q.map Prod.fst := h.symm.subset (List.mem_cons_self ..)
  obtain ⟨p, hp, rfl⟩ := List.mem_map.1 hm
  obtain ⟨s, r, rfl⟩ := List.append_of_mem hp
  have hq : (s ++ p :: r).Perm (p :: (s ++ r)) := List.perm_middle
  exact ⟨p.2, s ++ r, hq, ((hq.map Prod.fst).symm.trans h).cons_inv⟩
/-- The sum of the weights. -/
def wsum (T : List ((Int × Value) × Tr)) : Nat := (T.map (fun t => t.2.f)).sum
/-- What is so at each round. -/
structure Inv (ws : List Tr) (n S : Nat) (D : Array (Int × Value)) (T : List ((Int × Value) × Tr)) (dp : List Int) : Prop where
  mem : (T.map Prod.fst).Perm D.toList
  wt : ∀ t ∈ T, t.1.1 = (t.2.f : Int)
  sum : wsum T = S
  huf : ∀ r, HT (T.map Prod.snd) r → HT ws r
  lv : ((T.flatMap (fun t => t.2.lf)).map Prod.fst).Perm (List.range n)
  dep : ∀ t ∈ T, ∀ q ∈ t.2.lf, dp.getD q.1 0 = (q.2 : Int)
  len : dp.length = n
theorem wsum_perm {T U : List ((Int × Value) × Tr)} (h : T.Perm U) : wsum T = wsum U := (h.map _).sum_nat
/-- Two are taken out. -/
theorem Inv.two {ws : List Tr} {n S : Nat} {D D2 : Array (Int × Value)} {T : List ((Int × Value) × Tr)} {dp : List Int} (h : Inv ws n S D T dp) {x y : Int × Value} (hp : D.toList.Perm (x :: y :: D2.toList)) :
    ∃ tx ty T2, T.Perm ((x, tx) :: (y, ty) :: T2) ∧ (T2.map Prod.fst).Perm D2.toList := by
  obtain ⟨tx, T1, h1, h2⟩ := of_fstG (h.mem.trans hp)
  obtain ⟨ty, T2, h3, h4⟩ := of_fstG h2
  exact ⟨tx, ty, T2, h1.trans (h3.cons _), h4⟩
/-- They are joined, and put in again. -/
theorem Inv.next {ws : List Tr} {n S : Nat} {D D2 D3 : Array (Int × Value)} {T T2 : List ((Int × Value) × Tr)} {dp dq : List Int} (h : Inv ws n S D T dp) {x y : Int × Value} {tx ty : Tr} (hT : T.Perm ((x, tx) :: (y, ty) :: T2)) (h2 : (T2.map Prod.fst).Perm D2.toList)
    (hx : ∀ z ∈ y :: D2.toList, x.1 ≤ z.1) (hy : ∀ z ∈ D2.toList, y.1 ≤ z.1) {v : Value} (h3 : D3.toList.Perm (D2.toList ++ [(x.1 + y.1, v)])) (hl : dq.length = n)
    (hq : ∀ i, dq.getD i 0 = dp.getD i 0 + (if i ∈ (tx.lf ++ ty.lf).map Prod.fst then 1 else 0)) :
    Inv ws n S D3 (((x.1 + y.1, v), jn tx ty) :: T2) dq := by
  have wx := h.wt (x, tx) (hT.symm.subset (by simp))
  have wy := h.wt (y, ty) (hT.symm.subset (by simp))
  simp only at wx wy
  have hlv := h.lv
  have hfl : ((T.flatMap (fun t => t.2.lf)).map Prod.fst).Perm ((tx.lf ++ ty.lf).map Prod.fst ++ (T2.flatMap (fun t => t.2.lf)).map Prod.fst) := by
    refine ((hT.flatMap_right _).map _).trans ?_
    simp only [List.flatMap_cons, List.map_append, List.append_assoc]
    exact .refl _
  have hnd : ((tx.lf ++ ty.lf).map Prod.fst ++ (T2.flatMap (fun t => t.2.lf)).map Prod.fst).Nodup := (hfl.symm.trans hlv).symm.nodup List.nodup_range
  refine ⟨?_, ?_, ?_, ?_, ?_, ?_, hl⟩
  · refine List.Perm.trans ?_ h3.symm
    simp only [List.map_cons]
    exact (h2.cons _).trans (List.perm_append_singleton _ _).symm
  · intro t ht
    rcases List.mem_cons.1 ht with e | e
    · subst e
      show x.1 + y.1 = ((tx.f + ty.f : Nat) : Int)
      rw [wx, wy]
      omega
    · exact h.wt t (hT.symm.subset (by simp [e]))
  · rw [← h.sum, wsum_perm hT]
    simp only [wsum, List.map_cons, List.sum_cons, jn]
    omega
  · intro r hr
    refine h.huf r ?_
    refine Huf.step (hT.map Prod.snd) ?_ ?_ hr
    · intro z hz
      simp only [List.mem_cons, List.mem_map] at hz
      rcases hz with rfl | ⟨t, ht, rfl⟩
      · have := hx y (by simp)
        simp only
        omega
      · have w2 := h.wt t (hT.symm.subset (by simp [ht]))
        have := hx t.1 (List.mem_cons_of_mem _ (h2.subset (List.mem_map_of_mem ht)))
        simp only
        omega
    · intro z hz
      obtain ⟨t, ht, rfl⟩ := List.mem_map.1 hz
      have w2 := h.wt t (hT.symm.subset (by simp [ht]))
      have := hy t.1 (h2.subset (List.mem_map_of_mem ht))
      simp only
      omega
  · refine List.Perm.trans ?_ (hfl.symm.trans hlv)
    simp only [List.flatMap_cons, List.map_append, jn, List.map_map]
    exact .refl _
  · intro t ht q hqq
    rcases List.mem_cons.1 ht with e | e
    · subst e
      simp only [jn, List.mem_map] at hqq
      obtain ⟨q0, hq0, rfl⟩ := hqq
      rw [hq, if_pos (List.mem_map_of_mem hq0)]
      rcases List.mem_append.1 hq0 with h0 | h0
      · rw [h.dep (x, tx) (hT.symm.subset (by simp)) q0 h0]; simp
      · rw [h.dep (y, ty) (hT.symm.subset (by simp)) q0 h0]; simp
    · rw [hq, if_neg, h.dep t (hT.symm.subset (by simp [e])) q hqq, Int.add_zero]
      intro hin
      have h2 : q.1 ∈ (T2.flatMap (fun t => t.2.lf)).map Prod.fst := List.mem_map_of_mem (List.mem_flatMap.2 ⟨t, e, hqq⟩)
      rw [List.nodup_append] at hnd
      exact hnd.2.2 _ hin _ h2 rfl
/-- One is left. -/
theorem Inv.last {ws : List Tr} {n S : Nat} {D : Array (Int × Value)} {T : List ((Int × Value) × Tr)} {dp : List Int} (h : Inv ws n S D T dp) (h1 : D.size = 1) :
    ∃ r, HT ws r ∧ (r.lf.map Prod.fst).Perm (List.range n) ∧ ∀ q ∈ r.lf, dp.getD q.1 0 = (q.2 : Int) := by
  have hl : T.length = 1 := by
    have := h.mem.length_eq
    rw [List.length_map] at this
    rw [this, Array.length_toList, h1]
  obtain ⟨t, rfl⟩ := List.length_eq_one_iff.1 hl
  exact ⟨t.2, h.huf _ (Huf.one _), by simpa using h.lv, fun q hq => h.dep t (by simp) q hq⟩
end Go.Proofs.Ytanihbflgolciaa
