/- The row's last step for a law: it returned true and wrote to nothing that had been there. What a table and a slice of ints that came in give. -/
import Derived.Test.YtanihbflgolciaaRows
import Derived.Test.YtanihbflgolciaaFBld
import Derived.ProofKit
import Derived.OpenShut
import Derived.Carry
import Derived.ChangeSame
namespace Go.Proofs.Ytanihbflgolciaa
open Go.ChangeShapes Go.WideShapes Go.ChangeAt Go.RowKit
set_option linter.unusedVariables false
set_option maxRecDepth 100000

theorem Try.own : ownKnob Try.prog.godebug = none := by kernel_rfl
theorem Try.laidOut' : laidOutB Try.prog = true := by kernel_rfl
theorem Try.cellsI : Try.prog.cellsOf 3 = 1 := by kernel_rfl
theorem Try.cellsS : Try.prog.cellsOf 23 = 1 := by kernel_rfl
theorem Try.cells16 : Try.prog.cellsOf 22 = 16 := by kernel_rfl
theorem Try.cellsH : Try.prog.cellsOf 25 = 17 := by kernel_rfl

section
variable {H : Type} {enc : TypeId × Value → H}

theorem trodAll_below {P : Program} (hl : laidOutB P = true) {W W' : World} (hb : Below W.heap.size W W') {sp : Nat → Bool} : ∀ {ts : List TypeId} {vs : List Value} {ds : List (DataW H)} {ps : List MemPlace},
    (∀ t ∈ ts, P.readableRec t = true ∧ t < P.types.size) → DataW.TrodAll enc P W 0 (fun _ => true) true ts vs ds ps → (∀ x ∈ ps, x.block < W.heap.size) → (∀ x ∈ ps, sp x.block = true) →
    DataW.TrodAll enc P W' 0 sp true ts vs ds ps := by
  intro ts
  induction ts with
  | nil =>
    intro vs ds ps _ h _ _
    obtain ⟨rfl, rfl, rfl⟩ := trodAll_nil h
    exact trodAll_mk0
  | cons t ts ih =>
    intro vs ds ps ht h hlt hsp
    obtain ⟨v, vs', d, ds', p, q, rfl, rfl, rfl, h1, h2⟩ := trodAll_cons h
    obtain ⟨r1, r2⟩ := ht t (List.mem_cons_self ..)
    exact trodAll_cons_mk (WideElems.Trod_stays hl r1 r2 h1 (fun x hx => hb.same (hlt x (List.mem_append_left _ hx))) (fun x hx => hsp x (List.mem_append_left _ hx)))
      (ih (fun t' h' => ht t' (List.mem_cons_of_mem _ h')) h2 (fun x hx => hlt x (List.mem_append_right _ hx)) (fun x hx => hsp x (List.mem_append_right _ hx)))

/-- The last step: true came back, the arguments read as they did. -/
theorem law_post {P : Program} {f : Func} {s : ChangeSpec} {apart fresh handsOn again : Bool} {W W' : World} {args : Array Value} {ds : List (DataW H)} {before : List MemPlace} {tb : TypeId}
    (hl : laidOutB P = true) (hv : s.vars = []) (hf : f.resultTypes = #[tb]) (htb : P.underlying tb = some .bool) (hread : ∀ t ∈ f.params.toList, P.readableRec t = true ∧ t < P.types.size)
    (hW : DataW.Whole enc P f.params.toList s.vars apart W args.toList ds [] before)
    (hfn : s.fn H (ds ++ []) = { results := [.lit (.bool true)], args := ds }) (hb : Below W.heap.size W W') :
    s.post enc P f apart fresh handsOn again W args (.bool true) W' := by
  have hW' := hW
  have hlt : ∀ p ∈ before, p.block < W.heap.size := fun p hp => hW.lt p hp
  obtain ⟨p, q, hA0, hV, rfl, hfz, hnd⟩ := hW
  rw [hv] at hV
  obtain ⟨_, rfl⟩ := trodVars_none hV
  have hA : DataW.TrodAll enc P W 0 (fun _ => true) true f.params.toList args.toList ds p := hA0
  have hrs : ∀ (b : Nat) (sp : Nat → Bool) (hd : Bool), DataW.TrodAll enc P W' b sp hd f.resultTypes.toList ((Value.bool true).resultList f.resultTypes.size) (s.fn H (ds ++ [])).results [] := by
    intro b sp hd
    rw [hfn, hf]
    exact trodAll_mk1 (shut_bool htb _)
  have has : ∀ sp : Nat → Bool, (∀ x ∈ p, sp x.block = true) → DataW.TrodAll enc P W' 0 sp true f.params.toList args.toList (s.fn H (ds ++ [])).args p := by
    intro sp hsp
    rw [hfn]
    exact trodAll_below hl hb hread hA (fun x hx => hlt x (List.mem_append_left _ hx)) hsp
  have hvs : ∀ sp : Nat → Bool, DataW.TrodVars enc P W' sp s.vars (s.fn H (ds ++ [])).vars [] := by
    intro sp
    rw [hfn, hv]
    exact rfl
  have hold : ∀ x ∈ p, (fun b => decide (b < W.heap.size)) x.block = true := fun x hx => by simpa using hlt x (List.mem_append_left _ hx)
  refine ⟨ds, [], p ++ [], [], p, [], hW', hrs _ _ _, has _ hold, hvs _, World.keptBut_mono (fun x hx => ⟨hx, Or.inr (by simpa using hx)⟩) (hb.frame (· ∈ p ++ [])), fun _ => ?_⟩
  refine ⟨?_, _, _, ([] ++ p) ++ [], ⟨[] ++ p, [], trodAll_append (has _ (fun _ _ => rfl)) (hrs _ _ _), hvs _, rfl, ?_, ?_⟩, ?_⟩
  · intro j t r ht hr
    rw [hf] at ht hr
    match j, ht, hr with
    | 0, ht, hr =>
      injection ht with ht
      injection hr with hr
      subst ht hr
      exact okWide_bool_mk htb _
  · intro b off hp
    have hin : MemPlace.cell b off ∈ p ++ [] := by simpa using hp
    rw [hb.frozen (hlt _ hin)]
    exact hfz b off hin
  · intro ha
    have := hnd ha
    simpa using this
  · intro x hx _
    simpa using hx

/-- A slice of ints in a cell that was read. -/
theorem open_cell {W : World} {u : Value} {fuel : Nat} {x : DataW H × List MemPlace} (hf : DataW.trod enc Try.prog W 0 (fun _ => true) true fuel 23 [u] = some x) :
    ∃ (A : Option Addr) (l : List Int) (c : Nat), u = .slice A l.length c ∧ Ri W A l := by
  rcases open_ints Try.underlying23 Try.underlying3 Try.cellsI hf with ⟨hcs, hx⟩ | ⟨a, len, cap, zs, hcs, _, hl, hm, hz, hx, hcell, hwz⟩
  · simp at hcs
    subst hcs
    exact ⟨none, [], 0, rfl, .inl rfl⟩
  · simp at hcs
    subst hcs
    simp only [if_true] at hz
    have hlen : (zs.take len).length = len := by simp; omega
    refine ⟨some a, zs.take len, cap, by rw [hlen], ?_⟩
    rcases Nat.eq_zero_or_pos len with h0 | h0
    · exact .inl (List.eq_nil_of_length_eq_zero (by rw [hlen]; exact h0))
    · right
      obtain ⟨ab, ao, spot⟩ := a
      have hspot : spot = none := by simpa [Addr.add] using World.cell?_spot (hcell 0 (by omega))
      subst hspot
      refine ⟨ab, ao, rfl, fun i hi => ?_⟩
      rw [hlen] at hi
      have hc := hcell i (by omega)
      rw [Addr.add_lit] at hc
      rw [hc, List.getD_eq_getElem?_getD, List.getD_eq_getElem?_getD, List.getElem?_take_of_lt hi]
/-- A slice of ints that came in. -/
theorem open_nums {W : World} {base : Nat} {v : Value} {d : DataW H} {p : List MemPlace} (hval : Value.okWide Try.prog W .any base 23 v) (h : DataW.Trod enc Try.prog W 0 (fun _ => true) true 23 v d p) :
    ∃ (A : Option Addr) (l : List Int) (c : Nat), v = .slice A l.length c ∧ Ri W A l := by
  obtain ⟨a1, len, cap, rfl⟩ := okWide_slice Try.underlying23 hval
  obtain ⟨fuel, hf⟩ := h
  exact open_cell (by simpa [Value.cells] using hf)
/-- The number of a value. -/
def numV : Option Value → Int
  | some (.int _ n) => n
  | _ => 0
/-- A table that came in. -/
theorem open_huff {W : World} {base : Nat} {v : Value} {d : DataW H} {p : List MemPlace} (hval : Value.okWide Try.prog W .any base 25 v) (h : DataW.Trod enc Try.prog W 0 (fun _ => true) true 25 v d p) :
    ∃ (cs : List Int) (A : Option Addr) (l : List Int) (c : Nat), v = .agg (hx cs (.slice A l.length c)) ∧ cs.length = 16 ∧ Ri W A l := by
  obtain ⟨X, rfl, hsz, _⟩ : ∃ X, v = .agg X ∧ X.size = Try.prog.cellsOf 25 ∧ Row.okWide Try.prog W .any base 25 X := by
    simpa [Value.okWide, Try.underlying25] using hval
  rw [Try.cellsH] at hsz
  obtain ⟨fuel, hf⟩ := h
  obtain ⟨xs, m, _, _, _, hxl, hall⟩ := DataW.trod_struct Try.underlying25 hf
  have hxl2 : xs.length = 2 := hxl
  have h0 := hall 0 { name := "Count", type := 22, offset := 0, embedded := false, tag := "", pkgPath := "", byteOffset := 0 } rfl
  have h1 := hall 1 { name := "Syms", type := 23, offset := 16, embedded := false, tag := "", pkgPath := "", byteOffset := 128 } rfl
  rw [List.getElem?_eq_getElem (by omega)] at h0 h1
  simp only [Try.cells16, Try.cellsS, Value.cells, List.drop_zero] at h0 h1
  obtain ⟨ys, m2, _, _, _, hyl, hally⟩ := DataW.trod_array Try.underlying22 h0
  have hlen : X.toList.length = 17 := by simpa using hsz
  have h1' : X.toList.drop 16 = [X.toList[16]] := by
    rw [List.drop_eq_getElem_cons (by omega), List.drop_eq_nil_of_le (by omega)]
  rw [h1'] at h1
  simp only [List.take_succ_cons, List.take_nil] at h1
  obtain ⟨A, l, c, hu, hri⟩ := open_cell h1
  have hcell : ∀ i, i < 16 → ∃ n, X[i]? = some (.int .i64 n) := by
    intro i hi
    have h2 := hally i hi
    rw [Try.cellsI, List.getElem?_eq_getElem (by omega)] at h2
    obtain ⟨n, h3, _, _⟩ := DataW.trod_int Try.underlying3 h2
    refine ⟨n, ?_⟩
    rw [Nat.mul_one, List.drop_take, List.drop_eq_getElem_cons (show i < X.toList.length by omega), show 16 - i = (15 - i) + 1 by omega, List.take_succ_cons] at h3
    simp at h3
    rw [Array.getElem?_eq_getElem (by omega), h3]
  refine ⟨(List.range 16).map fun i => numV X[i]?, A, l, c, ?_, by simp, hri⟩
  congr 1
  apply Array.ext_getElem?
  intro i
  by_cases hi : i < 16
  · obtain ⟨n, hn⟩ := hcell i hi
    rw [hx_at (by simpa using hi), hn]
    simp [hi, hn, numV]
  · by_cases h16 : i = 16
    · subst h16
      have := hx_last ((List.range 16).map fun i => numV X[i]?) (.slice A l.length c)
      rw [show ((List.range 16).map fun i => numV X[i]?).length = 16 by simp] at this
      rw [this, ← hu]
      simp [hsz]
    · rw [Array.getElem?_eq_none (by omega), Array.getElem?_eq_none (by rw [hx_size]; simp; omega)]
theorem i64_rng {a : Int} (h : (Lit.int .i64 a).wf = true) : -9223372036854775808 ≤ a ∧ a ≤ 9223372036854775807 := by
  simpa [Lit.wf, IntKind.min, IntKind.max, IntKind.signed, IntKind.bits] using h
end
end Go.Proofs.Ytanihbflgolciaa
