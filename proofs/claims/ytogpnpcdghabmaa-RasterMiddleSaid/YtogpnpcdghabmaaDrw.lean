/- A region that draws its order, whose operations read, reckon, and call functions whose results are known: one walk, in the order of the text, says it of every order. -/
import Derived.Test.YtogpnpcdghabmaaRows
import Derived.WalkKit
import Derived.OrdersHeld
import Derived.Deep.MidRow
namespace Go.Proofs.Ytogpnpcdghabmaa
open Go.RowKit
set_option linter.unusedVariables false
section
variable {P : Program} {ops : Array Oper} {Q : Exit → Act → World → Prop} {md : Region.Mode} {S : World → Prop}

/-- In state a, in every world that meets S, operation o leaves v in its slot, and a world that meets S. -/
def GivesIf (P : Program) (ops : Array Oper) (S : World → Prop) (o : Oper) (v : Value) (a : Act) : Prop :=
  (Region.wanted o (yielded ops a.tmps) = true ∧ ∀ w, S w → (∃ w', (execOp a.eval o).run P w = .ok (.value v) w' ∧ S w') ∨
    (∃ f args w', (execOp a.eval o).run P w = .ok (.enter f args) w' ∧ Calls P f args w' fun e w'' => e = .returned v ∧ S w'')) ∨
  (Region.wanted o (yielded ops a.tmps) = false ∧ v = undef)
theorem GivesIf.wpOp {i : Nat} {o : Oper} {v : Value} {a : Act} (hi : ops[i]? = some o) (hy : GivesIf P ops S o v a)
    {K : Act → World → Prop} {w : World} (hS : S w) (h : ∀ w', S w' → K (a.put o.dst v) w') : wpOp P ops Q i K a w := by
  unfold Go.wpOp
  simp only [hi]
  rcases hy with ⟨hw, hv⟩ | ⟨hw, rfl⟩
  · rcases hv w hS with ⟨w', hr, hS'⟩ | ⟨f, args, w', hr, hc⟩
    · simp only [hw, if_true, Oper.wp, hr, Oper.upon]; exact .inl (h _ hS')
    · simp only [hw, if_true, Oper.wp, hr, Oper.upon]
      refine .inl (Calls.mono hc fun e w'' he => ?_)
      obtain ⟨rfl, hS'⟩ := he
      exact h _ hS'
  · simp only [hw, Bool.false_eq_true, if_false]; exact h _ hS
theorem GivesIf.of_same {o : Oper} {v : Value} {a a' : Act} (hy : GivesIf P ops S o v a) (he : execOp a'.eval o = execOp a.eval o)
    (hw : Region.wanted o (yielded ops a'.tmps) = Region.wanted o (yielded ops a.tmps)) : GivesIf P ops S o v a' := by
  unfold GivesIf at *
  rw [he, hw]
  exact hy
/-- Whatever order is picked from here on, each operation has a known outcome. -/
def anyS (P : Program) (md : Region.Mode) (ops : Array Oper) (Q : Exit → Act → World → Prop) (S : World → Prop) : Nat → Array Bool → Act → Prop
  | 0, listed, a => Region.ready md ops listed = [] ∧ ∀ w, S w → Q .normal a w
  | fuel + 1, listed, a =>
    (Region.ready md ops listed = [] → ∀ w, S w → Q .normal a w) ∧
    ∀ i ∈ Region.ready md ops listed, ∃ o v, ops[i]? = some o ∧ GivesIf P ops S o v a ∧ anyS P md ops Q S fuel (listed.setIfInBounds i true) (a.put o.dst v)
theorem anyS_wp : ∀ (fuel : Nat) (listed : Array Bool) (a : Act), anyS P md ops Q S fuel listed a → ∀ w, S w → wpAny P md ops Q fuel listed a w
  | 0, _, _, h, w, hS => ⟨h.1, h.2 w hS⟩
  | fuel + 1, _, _, h, w, hS => ⟨fun h0 => h.1 h0 w hS, fun i hi => by
    obtain ⟨o, v, ho, hg, hn⟩ := h.2 i hi
    exact hg.wpOp ho hS fun w' hS' => anyS_wp fuel _ _ hn w' hS'⟩
theorem anyS_first {i : Nat} {oi : Oper} {v : Value} (hi : ops[i]? = some oi) (hsel : ∀ (j : Nat) (o : Oper) cs b, ops[j]? = some o → o.op ≠ .select cs b) :
    ∀ (fuel : Nat) (listed : Array Bool) (a : Act),
      (∀ j oj, ops[j]? = some oj → j ≠ i → listed.getD j true = false → (∀ e ∈ oj.after, Region.binds md e = true → e.on ≠ i) → oi.apart ops oj = true) →
      i ∈ Region.ready md ops listed → GivesIf P ops S oi v a →
      anyS P md ops Q S fuel (listed.setIfInBounds i true) (a.put oi.dst v) → anyS P md ops Q S (fuel + 1) listed a := by
  intro fuel
  induction fuel with
  | zero =>
    intro listed a _ hr hy H
    refine ⟨fun h => (by rw [h] at hr; cases hr), fun j hj => ?_⟩
    by_cases hji : j = i
    · subst hji; exact ⟨oi, v, hi, hy, H⟩
    · have := ready_mono hj hji
      rw [H.1] at this
      cases this
  | succ fuel ih =>
    intro listed a hfree hr hy H
    refine ⟨fun h => (by rw [h] at hr; cases hr), fun j hj => ?_⟩
    by_cases hji : j = i
    · subst hji; exact ⟨oi, v, hi, hy, H⟩
    · obtain ⟨oj, u, hoj', hgj, hn⟩ := H.2 j (ready_mono hj hji)
      obtain ⟨hjun, oj2, hoj, hall⟩ := mem_ready.1 hj
      obtain rfl : oj2 = oj := by rw [hoj] at hoj'; exact Option.some.inj hoj'
      have hnot : ∀ e ∈ oj2.after, Region.binds md e = true → e.on ≠ i := fun e he hb heq => by
        have h1 := hall e he hb
        have h0 := (mem_ready.1 hr).1
        rw [heq] at h1
        rcases Nat.lt_or_ge i listed.size with h' | h'
        · simp [h'] at h0 h1; rw [h0] at h1; cases h1
        · simp [Array.getElem?_eq_none h'] at h1
      have hap := hfree j oj2 hoj hji hjun hnot
      obtain ⟨h1, h2, h3⟩ := Oper.apart_spec hap
      have hgj' : GivesIf P ops S oj2 u a := hgj.of_same (execOp_put oj2 (fun cs b => hsel j oj2 cs b hoj) a oi.dst v h1).symm (wanted_put oj2 a oi.dst v h1).symm
      have hy' : GivesIf P ops S oi v (a.put oj2.dst u) := hy.of_same (execOp_put oi (fun cs b => hsel i oi cs b hi) a oj2.dst u h3) (wanted_put oi a oj2.dst u h3)
      have hfree' : ∀ k ok, ops[k]? = some ok → k ≠ i → (listed.setIfInBounds j true).getD k true = false →
          (∀ e ∈ ok.after, Region.binds md e = true → e.on ≠ i) → oi.apart ops ok = true := fun k ok hk hki hun hno => by
        refine hfree k ok hk hki ?_ hno
        by_cases hjk : j = k
        · subst hjk; exact hjun
        · rw [getD_set_ne true hjk] at hun; exact hun
      refine ⟨oj2, u, hoj, hgj', ih (listed.setIfInBounds j true) (a.put oj2.dst u) hfree' (ready_mono hr (Ne.symm hji)) hy' ?_⟩
      rw [Array.setIfInBounds_comm _ _ hji, Act.put_comm a u v (fun d hd e => h2 d e hd)]
      exact hn

/-- The text's own order is one of the orders, and each operation may be taken first in it. -/
def inOrder (md : Region.Mode) (ops : Array Oper) : Nat → Nat → Array Bool → Bool
  | 0, i, listed => Region.ready md ops listed == []
  | n + 1, i, listed => Region.free md ops listed i && (Region.ready md ops listed).contains i && inOrder md ops n (i + 1) (listed.setIfInBounds i true)
/-- The operations one behind the other, in every world that meets S. -/
def seqS (P : Program) (ops : Array Oper) (Q : Exit → Act → World → Prop) (S : World → Prop) : List Oper → Act → Prop
  | [], a => ∀ w, S w → Q .normal a w
  | o :: rest, a => ∃ v, GivesIf P ops S o v a ∧ seqS P ops Q S rest (a.put o.dst v)
theorem anyS_of_seq (hs : Region.noSelect ops = true) : ∀ (n i : Nat) (listed : Array Bool) (rest : List Oper) (a : Act), rest = ops.toList.drop i → rest.length = n → inOrder md ops n i listed = true →
    seqS P ops Q S rest a → anyS P md ops Q S n listed a
  | 0, i, listed, rest, a, hr, hn, hc, h => by
    obtain rfl : rest = [] := List.eq_nil_of_length_eq_zero hn
    exact ⟨by simpa [inOrder] using hc, h⟩
  | n + 1, i, listed, rest, a, hr, hn, hc, h => by
    cases rest with
    | nil => simp at hn
    | cons o rest =>
      obtain ⟨v, hg, hn'⟩ := h
      simp only [inOrder, Bool.and_eq_true] at hc
      obtain ⟨⟨hf, hrd⟩, hc'⟩ := hc
      have hlt : i < ops.toList.length := by
        rcases Nat.lt_or_ge i ops.toList.length with h | h
        · exact h
        · rw [List.drop_eq_nil_of_le h] at hr; cases hr
      rw [List.drop_eq_getElem_cons hlt] at hr
      injection hr with hr1 hr2
      have ho : ops[i]? = some o := by
        rw [← Array.getElem?_toList, List.getElem?_eq_getElem hlt, ← hr1]
      exact anyS_first ho (Region.noSelect_spec hs) n listed a (Region.free_spec ho hf) (by simpa using hrd) hg
        (anyS_of_seq hs n (i + 1) _ rest _ hr2 (by simpa using hn) hc' hn')

/-- **A region that draws its order, by one walk.** -/
theorem wp_region_seq {id : Nat} {l : List Oper} {a : Act} {w : World} (S : World → Prop) (hm : P.follows .mixedOrders = true) (hs : Region.noSelect l.toArray = true) (hc : inOrder .any l.toArray l.length 0 (Array.replicate l.length false) = true)
    (hS : S w.drew) (h : seqS P l.toArray Q S l a) : (Code.region id l.toArray true).wp P Q a w :=
  wp_region_any hm (anyS_wp _ _ _ (by
    have := anyS_of_seq (md := .any) (Q := Q) hs l.length 0 (Array.replicate l.length false) l a (by simp) rfl hc h
    simpa using this) _ hS)

theorem seq_nil {a : Act} (h : ∀ w, S w → Q .normal a w) : seqS P ops Q S [] a := h
theorem seq_off {o : Oper} {rest : List Oper} {a : Act} (hw : Region.wanted o (yielded ops a.tmps) = false) (h : seqS P ops Q S rest (a.put o.dst undef)) : seqS P ops Q S (o :: rest) a :=
  ⟨_, .inr ⟨hw, rfl⟩, h⟩
theorem seq_val {o : Oper} {rest : List Oper} {a : Act} {v : Value} (hw : Region.wanted o (yielded ops a.tmps) = true) (hv : ∀ w, S w → (execOp a.eval o).run P w = .ok (.value v) w) (h : seqS P ops Q S rest (a.put o.dst v)) : seqS P ops Q S (o :: rest) a :=
  ⟨v, .inl ⟨hw, fun w hS => .inl ⟨w, hv w hS, hS⟩⟩, h⟩
theorem seq_call {o : Oper} {rest : List Oper} {a : Act} {v : Value} {f : FuncId} {args : Array Value} (hw : Region.wanted o (yielded ops a.tmps) = true) (hv : ∀ w, (execOp a.eval o).run P w = .ok (.enter f args) w)
    (hc : ∀ w, S w → Calls P f args w fun e w' => e = .returned v ∧ S w') (h : seqS P ops Q S rest (a.put o.dst v)) : seqS P ops Q S (o :: rest) a :=
  ⟨v, .inl ⟨hw, fun w hS => .inr ⟨f, args, w, hv w, hc w hS⟩⟩, h⟩
theorem seq_load {o : Oper} {rest : List Oper} {a : Act} (ty : TypeId) (x : Operand) (p v : Value) (hw : Region.wanted o (yielded ops a.tmps) = true) (ho : o.op = .load ty x) (hx : a.eval x = p)
    (hl : ∀ w, S w → (Instr.loadAt ty p).run P w = .ok v w) (h : seqS P ops Q S rest (a.put o.dst v)) : seqS P ops Q S (o :: rest) a :=
  ⟨v, .inl ⟨hw, fun w hS => .inl ⟨w, by unfold execOp; simp only [ho, hx, Sem.run_bind, hl w hS, Result.andThen_ok, Sem.run_pure], hS⟩⟩, h⟩
theorem seq_callF {o : Oper} {rest : List Oper} {a : Act} {v : Value} (f : FuncId) (xs : List Operand) (ts : Array TypeId) (A : List Value) (hw : Region.wanted o (yielded ops a.tmps) = true) (ho : o.op = .call { callee := .value (.func f), args := xs.toArray, argTypes := ts })
    (eg : ∀ args w, (callFunc f args).run P w = .ok (.enter f args) w) (hA : xs.map a.eval = A)
    (hc : ∀ w, S w → Calls P f A.toArray w fun e w' => e = .returned v ∧ S w') (h : seqS P ops Q S rest (a.put o.dst v)) : seqS P ops Q S (o :: rest) a :=
  ⟨v, .inl ⟨hw, fun w hS => .inr ⟨f, A.toArray, w, by
    subst hA
    unfold execOp
    simp [ho, resolve, invoke, go_sem, eg], hc w hS⟩⟩, h⟩
end
end Go.Proofs.Ytogpnpcdghabmaa
