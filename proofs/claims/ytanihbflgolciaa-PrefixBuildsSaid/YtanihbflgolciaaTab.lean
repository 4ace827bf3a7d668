/- Tables of codes in memory: two maps, codes by symbols and symbols by codes. -/
import Derived.Test.YtanihbflgolciaaPCd2
import Derived.Test.YtanihbflgolciaaFCod
import Derived.Maps.OwnOps
import Derived.Maps.OwnSet
import Derived.DeepKeys4
namespace Go.Proofs.Ytanihbflgolciaa
open Go.RowKit Go.Lib Go.Maps
set_option linter.unusedVariables false
set_option maxRecDepth 100000

/-- How a code reads as a map's element. -/
noncomputable def bd (p : Int × Nat) : DataW Unit := .agg [.lit (.int .i64 p.1), .lit (.int .i64 (p.2 : Int))]
noncomputable def RB (v : Value) : Option (DataW Unit × List MemPlace) :=
  match v with
  | .agg ⟨[.int .i64 a, .int .i64 b]⟩ => some (.agg [.lit (.int .i64 a), .lit (.int .i64 b)], [])
  | _ => none
theorem RB_mk (p : Int × Nat) : RB (.agg #[.int .i64 p.1, .int .i64 (p.2 : Int)]) = some (bd p, []) := rfl
theorem RB_inv {v : Value} {p : Int × Nat} {ps : List MemPlace} (h : RB v = some (bd p, ps)) : v = .agg #[.int .i64 p.1, .int .i64 (p.2 : Int)] := by
  unfold RB at h
  split at h
  · unfold bd at h
    simp only [Option.some.injEq, Prod.mk.injEq, DataW.agg.injEq, List.cons.injEq, DataW.lit.injEq, Lit.int.injEq, true_and, and_true] at h
    obtain ⟨⟨rfl, rfl⟩, _⟩ := h
    rfl
  · cases h
/-- How an int reads. -/
noncomputable def RI (v : Value) : Option (DataW Unit × List MemPlace) := plainElem Try.prog 3 v

/-- What a code reads as a map's key. -/
noncomputable def bk (p : Int × Nat) : Lit := .string (keyBytes [.int .i64 p.1, .int .i64 (p.2 : Int)])
theorem wf64 {a : Int} (h0 : -9223372036854775808 ≤ a) (h1 : a ≤ 9223372036854775807) : (Lit.int .i64 a).wf = true := WalkArith.wf_i64 (by omega)
theorem Try.laidT : laidOutB Try.prog = true := by kernel_rfl
theorem Try.typesPos : ∃ m, Try.prog.types.size = m + 1 := by
  have h : (decide (0 < Try.prog.types.size)) = true := by kernel_rfl
  have h2 := of_decide_eq_true h
  exact ⟨Try.prog.types.size - 1, by omega⟩
theorem Try.wideBits : (match Try.prog.underlying 33 with | some (.array _ _) | some (.struct _) => true | _ => false) = true := by kernel_rfl
theorem bits_law : Keyed Try.prog 33 := Keyed.of_law (deep_law_laid Try.laidT (m := 2) (by omega) (of_decide_eq_true (by kernel_rfl)) (by kernel_rfl) Try.wideBits)
theorem int_law : Keyed Try.prog 3 := int_keyed Try.underlying3
theorem keyOf_bits {p : Int × Nat} (h0 : 0 ≤ p.1) (h1 : p.1 ≤ 100000) (h2 : p.2 ≤ 1000) : keyOf Try.prog 33 (.agg #[.int .i64 p.1, .int .i64 (p.2 : Int)]) = some (bk p) := by
  obtain ⟨m, hm⟩ := Try.typesPos
  have w1 : (Lit.int .i64 p.1).wf = true := wf64 (by omega) (by omega)
  have w2 : (Lit.int .i64 (p.2 : Int)).wf = true := wf64 (by omega) (by omega)
  have hkt : Try.prog.keyType 33 = true := by kernel_rfl
  have hc : Try.prog.cellsOf 33 = 2 := by kernel_rfl
  have hci : Try.prog.cellsOf 3 = 1 := by kernel_rfl
  have hu := Try.underlying33
  have hui := Try.underlying3
  unfold keyOf
  rw [hu]
  simp only [Value.formed, hu, hkt, hc, Value.cells, hm]
  simp [Program.keyLits, hu, hui, hc, hci, w1, w2, bk]
theorem bk_inj {p q : Int × Nat} (hp0 : 0 ≤ p.1) (hp1 : p.1 ≤ 100000) (hp2 : p.2 ≤ 1000) (hq0 : 0 ≤ q.1) (hq1 : q.1 ≤ 100000) (hq2 : q.2 ≤ 1000) (h : bk p = bk q) : p = q := by
  have h1 := keyOf_bits hp0 hp1 hp2
  have h2 := keyOf_bits hq0 hq1 hq2
  rw [h] at h1
  have := bits_law.inj h1 h2
  simp only [Value.agg.injEq, Array.mk.injEq, List.cons.injEq, Value.int.injEq, true_and, and_true] at this
  obtain ⟨a, b⟩ := p
  obtain ⟨c, d⟩ := q
  simp only at this
  rw [this.1, show b = d by omega]

/-- The codes by symbols, of the first k. -/
structure Tc (D : DataW Unit) (l : List Int) (ps : List (Int × Nat)) (k : Nat) : Prop where
  map : IsMap D
  yes : ∀ j, j < k → has D (.int .i64 (l.getD j 0)) = true ∧ ∀ z, D.atKey (.int .i64 (l.getD j 0)) z = bd (ps.getD j (0, 0))
  no : ∀ s, (∀ j, j < k → l.getD j 0 ≠ s) → has D (.int .i64 s) = false
/-- The symbols by codes, of the first k. -/
structure Ts (D : DataW Unit) (l : List Int) (ps : List (Int × Nat)) (k : Nat) : Prop where
  map : IsMap D
  yes : ∀ j, j < k → has D (bk (ps.getD j (0, 0))) = true ∧ ∀ z, D.atKey (bk (ps.getD j (0, 0))) z = .lit (.int .i64 (l.getD j 0))
  no : ∀ p, 0 ≤ p.1 → p.1 ≤ 100000 → p.2 ≤ 1000 → (∀ j, j < k → ps.getD j (0, 0) ≠ p) → has D (bk p) = false
theorem Tc.start (l : List Int) (ps : List (Int × Nat)) : Tc (.map []) l ps 0 := ⟨isMap_empty, fun j hj => absurd hj (Nat.not_lt_zero _), fun s _ => rfl⟩
theorem Ts.start (l : List Int) (ps : List (Int × Nat)) : Ts (.map []) l ps 0 := ⟨isMap_empty, fun j hj => absurd hj (Nat.not_lt_zero _), fun p _ _ _ _ => rfl⟩
theorem isKey_int (a : Int) (h0 : -9223372036854775808 ≤ a) (h1 : a ≤ 9223372036854775807) : WideAt.IsKeyLit (.int .i64 a) := int_law.key (keyOf_int_mk Try.underlying3 (wf64 h0 h1))
theorem Tc.step {D : DataW Unit} {l : List Int} {ps : List (Int × Nat)} {k : Nat} (h : Tc D l ps k) (h0 : 0 ≤ l.getD k 0 ∧ l.getD k 0 ≤ 255) (hd : ∀ j, j < k → l.getD j 0 ≠ l.getD k 0) : Tc (D.put (.int .i64 (l.getD k 0)) (bd (ps.getD k (0, 0)))) l ps (k + 1) := by
  refine ⟨h.map.put _ _, fun j hj => ?_, fun s hs => ?_⟩
  · by_cases e : j = k
    · subst e
      exact ⟨has_put_same h.map (isKey_int _ (by omega) (by omega)) _, fun z => atKey_put_same h.map (isKey_int _ (by omega) (by omega)) _ z⟩
    · have hne : (Lit.int .i64 (l.getD j 0)) ≠ Lit.int .i64 (l.getD k 0) := by
        intro he
        injection he with _ he
        exact hd j (by omega) he
      have := h.yes j (by omega)
      exact ⟨by rw [has_put_other hne]; exact this.1, fun z => by rw [atKey_put_other hne]; exact this.2 z⟩
  · have hne : (Lit.int .i64 s) ≠ Lit.int .i64 (l.getD k 0) := by
      intro he
      injection he with _ he
      exact hs k (by omega) he.symm
    rw [has_put_other hne]
    exact h.no s fun j hj => hs j (by omega)
theorem Ts.step {D : DataW Unit} {l : List Int} {ps : List (Int × Nat)} {k : Nat} (h : Ts D l ps k) (hp : ∀ j, j ≤ k → 0 ≤ (ps.getD j (0, 0)).1 ∧ (ps.getD j (0, 0)).1 ≤ 100000 ∧ (ps.getD j (0, 0)).2 ≤ 1000) (hd : ∀ j, j < k → ps.getD j (0, 0) ≠ ps.getD k (0, 0)) :
    Ts (D.put (bk (ps.getD k (0, 0))) (.lit (.int .i64 (l.getD k 0)))) l ps (k + 1) := by
  have hk := hp k (Nat.le_refl _)
  have hkey : WideAt.IsKeyLit (bk (ps.getD k (0, 0))) := bits_law.key (keyOf_bits hk.1 hk.2.1 hk.2.2)
  refine ⟨h.map.put _ _, fun j hj => ?_, fun s h0 h1 h2 hs => ?_⟩
  · by_cases e : j = k
    · subst e
      exact ⟨has_put_same h.map hkey _, fun z => atKey_put_same h.map hkey _ z⟩
    · have hj' := hp j (by omega)
      have hne : bk (ps.getD j (0, 0)) ≠ bk (ps.getD k (0, 0)) := fun he => hd j (by omega) (bk_inj hj'.1 hj'.2.1 hj'.2.2 hk.1 hk.2.1 hk.2.2 he)
      have := h.yes j (by omega)
      exact ⟨by rw [has_put_other hne]; exact this.1, fun z => by rw [atKey_put_other hne]; exact this.2 z⟩
  · have hne : bk s ≠ bk (ps.getD k (0, 0)) := fun he => hs k (by omega) (bk_inj h0 h1 h2 hk.1 hk.2.1 hk.2.2 he).symm
    rw [has_put_other hne]
    exact h.no s h0 h1 h2 fun j hj => hs j (by omega)

/-- The codes of a specification that may be: no two are one, all are small. -/
theorem cds_small {cs l : List Int} (h : MayP cs l) : ∀ j, 0 ≤ ((cds (lensOf cs 16)).getD j (0, 0)).1 ∧ ((cds (lensOf cs 16)).getD j (0, 0)).1 ≤ 65536 ∧ ((cds (lensOf cs 16)).getD j (0, 0)).2 ≤ 16 := by
  intro j
  have hk : kraft 16 (lensOf cs 16) < 2 ^ 16 := by
    have h1 := lens_kraft 16 (Nat.le_refl _) (fun j hj => (h.cnt j hj).1)
    have h2 := h.sum
    have e : (2 : Nat) ^ 16 = 65536 := by decide
    omega
  by_cases hj : j < (cds (lensOf cs 16)).length
  · have hp := cds_fit (L := 16) (lens_rise cs 16) (fun x hx => (lens_le cs 16 x hx).2) hk _ (List.getElem_mem hj)
    rw [List.getD_eq_getElem?_getD, List.getElem?_eq_getElem hj]
    simp only [Option.getD_some]
    have h3 := (lens_le cs 16 _ hp.2.2).2
    have := p65 h3
    omega
  · rw [List.getD_eq_getElem?_getD, List.getElem?_eq_none (by omega)]
    simp
theorem cds_dif {cs l : List Int} (h : MayP cs l) : ∀ j k, j < k → k < (cds (lensOf cs 16)).length → (cds (lensOf cs 16)).getD j (0, 0) ≠ (cds (lensOf cs 16)).getD k (0, 0) := by
  intro j k hjk hk
  have hp := List.pairwise_iff_getElem.1 (cds_apart (lens_rise cs 16)) j k (by omega) hk hjk
  rw [List.getD_eq_getElem?_getD, List.getD_eq_getElem?_getD, List.getElem?_eq_getElem hk, List.getElem?_eq_getElem (show j < _ by omega)]
  simp only [Option.getD_some]
  intro he
  rw [he, Nat.sub_self] at hp
  have := hp.2
  omega
theorem cds_many {cs l : List Int} (h : MayP cs l) : (cds (lensOf cs 16)).length = l.length := by
  have h1 := lens_many 16 (fun j hj => (h.cnt j hj).1)
  have h2 := h.many
  rw [cds_len]
  omega

/-- Block b is a table of the specification's codes. -/
structure Tbl (w : World) (b : Nat) (cs l : List Int) : Prop where
  may : MayP cs l
  ex : ∃ m1 m2 n1 n2 D1 D2, w.cell? ⟨b, 0, none⟩ = some (.map (some m1)) ∧ w.cell? ⟨b, 1, none⟩ = some (.map (some m2)) ∧ w.ownsMap Try.prog 3 RB m1 n1 D1 ∧ w.ownsMap Try.prog 33 RI m2 n2 D2 ∧
    Tc D1 l (cds (lensOf cs 16)) l.length ∧ Ts D2 l (cds (lensOf cs 16)) l.length
theorem grown_of {w w' : World} (h : Below w.heap.size w w') : w.grownBy w' none := ⟨h.os, h.tape, h.output, h.size, fun i hi _ => h.block i hi⟩
theorem Tbl.below {w w' : World} {b : Nat} {cs l : List Int} (h : Tbl w b cs l) (hb : Below w.heap.size w w') : Tbl w' b cs l := by
  obtain ⟨m1, m2, n1, n2, D1, D2, h1, h2, h3, h4, h5, h6⟩ := h.ex
  exact ⟨h.may, m1, m2, n1, n2, D1, D2, cell_later hb h1, cell_later hb h2, h3.kept (grown_of hb) (by simp), h4.kept (grown_of hb) (by simp), h5, h6⟩
/-- The code of a symbol, of a table. -/
theorem code_in {cs l : List Int} (h : MayP cs l) {j : Nat} (hj : j < l.length) : codeAt cs l (l.getD j 0) = (cds (lensOf cs 16)).getD j (0, 0) := by
  unfold codeAt
  rw [mayB_true h, if_pos rfl, find_at hj rfl fun i hi => h.dif j i hj hi]
theorem code_no {cs l : List Int} {s : Int} (hs : ∀ j, j < l.length → l.getD j 0 ≠ s) : codeAt cs l s = (0, 0) := by
  unfold codeAt
  split
  · rename_i h
    rw [find_none hs, List.getD_eq_getElem?_getD, List.getElem?_eq_none (by rw [cds_many (mayB_iff.1 h)]; exact Nat.le_refl _)]
    rfl
  · rfl
/-- A look-up of a symbol's code. -/
theorem Tbl.look {w : World} {b : Nat} {cs l : List Int} (h : Tbl w b cs l) (s : Int) (h0 : -9223372036854775808 ≤ s) (h1 : s ≤ 9223372036854775807) : ∃ m1, w.cell? ⟨b, 0, none⟩ = some (.map (some m1)) ∧
    (Instr.lookup 50 (.map (some m1)) (.int .i64 s) true).run Try.prog w = .ok (.tuple #[.agg #[.int .i64 (codeAt cs l s).1, .int .i64 ((codeAt cs l s).2 : Int)], .bool (decide (0 < (codeAt cs l s).2))]) w := by
  obtain ⟨m1, m2, n1, n2, D1, D2, e1, e2, h3, h4, h5, h6⟩ := h.ex
  refine ⟨m1, e1, ?_⟩
  have hz : (zeroValue 33).run Try.prog w = .ok (.agg #[.int .i64 0, .int .i64 0]) w := by kernel_rfl
  obtain ⟨v, ps, hrun, hv⟩ := h3.look_ok int_law Try.underlying50 hz (RB_mk (0, 0)) (keyOf_int_mk Try.underlying3 (wf64 h0 h1))
  rw [hrun]
  by_cases hin : ∃ j, j < l.length ∧ l.getD j 0 = s
  · obtain ⟨j, hj, rfl⟩ := hin
    have hy := h5.yes j hj
    rw [hy.1]
    rw [hy.2] at hv
    rw [RB_inv hv, code_in h.may hj]
    have hpos : 0 < ((cds (lensOf cs 16)).getD j (0, 0)).2 := by
      have hjl : j < (cds (lensOf cs 16)).length := by rw [cds_many h.may]; exact hj
      rw [List.getD_eq_getElem?_getD, List.getElem?_eq_getElem hjl]
      simp only [Option.getD_some]
      have h1 : ((cds (lensOf cs 16))[j]).2 ∈ lensOf cs 16 := by
        have := List.mem_map_of_mem (f := Prod.snd) (List.getElem_mem hjl)
        rwa [cds_snd] at this
      exact (lens_le cs 16 _ h1).1
    rw [decide_eq_true hpos]
  · have hno : ∀ j, j < l.length → l.getD j 0 ≠ s := fun j hj he => hin ⟨j, hj, he⟩
    have hn := h5.no s hno
    rw [hn]
    rw [atKey_of_not_has hn] at hv
    rw [RB_inv (p := (0, 0)) hv, code_no hno]
    rfl
end Go.Proofs.Ytanihbflgolciaa
