/- PutM: the texts Drt, Put in one. -/
import Derived.Test.YtkkkonmbbdhdhaaGreatDoorDrw
import Derived.Test.YtkkkonmbbdhdhaaGreatDoorDoorM
/- A region that draws its order, one of whose operations (p) changes what is known of the world (from S1 to S2): one walk, in a given order, says it of every order. The operations ahead of p in that order are good in S1 and in S2; when p's turn has come no other one is ready. -/
namespace Go.Proofs.YtkkkonmbbdhdhaaGreatDoor
open Go.RowKit
set_option linter.unusedVariables false
section
variable {P : Program} {ops : Array Oper} {Q : Exit → Act → World → Prop} {md : Region.Mode} {S1 S2 : World → Prop} {p : Nat}

theorem getD_replicate_false' (m j : Nat) : (Array.replicate m false).getD j false = false := by
  rcases Nat.lt_or_ge j m with h | h
  · simp [h]
  · simp [Array.getD_eq_getD_getElem?, h]
theorem getD_both {listed : Array Bool} {i : Nat} (h : listed.getD i true = false) : listed.getD i false = false := by
  rcases Nat.lt_or_ge i listed.size with h' | h'
  · simp [h'] at h ⊢; exact h
  · simp [Array.getElem?_eq_none h'] at h
def Gives2 (P : Program) (ops : Array Oper) (S S' : World → Prop) (o : Oper) (v : Value) (a : Act) : Prop :=
  (Region.wanted o (yielded ops a.tmps) = true ∧ ∀ w, S w → (∃ w', (execOp a.eval o).run P w = .ok (.value v) w' ∧ S' w') ∨
    (∃ f args w', (execOp a.eval o).run P w = .ok (.enter f args) w' ∧ Calls P f args w' fun e w'' => e = .returned v ∧ S' w'')) ∨
  (Region.wanted o (yielded ops a.tmps) = false ∧ v = undef ∧ ∀ w, S w → S' w)
theorem Gives2.wpOp {S S' : World → Prop} {i : Nat} {o : Oper} {v : Value} {a : Act} (hi : ops[i]? = some o) (hy : Gives2 P ops S S' o v a)
    {K : Act → World → Prop} {w : World} (hS : S w) (h : ∀ w', S' w' → K (a.put o.dst v) w') : wpOp P ops Q i K a w := by
  unfold Go.wpOp
  simp only [hi]
  rcases hy with ⟨hw, hv⟩ | ⟨hw, rfl, hss⟩
  · rcases hv w hS with ⟨w', hr, hS'⟩ | ⟨f, args, w', hr, hc⟩
    · simp only [hw, if_true, Oper.wp, hr, Oper.upon]; exact .inl (h _ hS')
    · simp only [hw, if_true, Oper.wp, hr, Oper.upon]
      refine .inl (Calls.mono hc fun e w'' he => ?_)
      obtain ⟨rfl, hS'⟩ := he
      exact h _ hS'
  · simp only [hw, Bool.false_eq_true, if_false]; exact h _ (hss _ hS)
theorem Gives2.of_same {S S' : World → Prop} {o : Oper} {v : Value} {a a' : Act} (hy : Gives2 P ops S S' o v a) (he : execOp a'.eval o = execOp a.eval o)
    (hw : Region.wanted o (yielded ops a'.tmps) = Region.wanted o (yielded ops a.tmps)) : Gives2 P ops S S' o v a' := by
  unfold Gives2 at *
  rw [he, hw]
  exact hy
/-- What is known of the world: behind p S2, ahead of it S1. -/
def ph (S1 S2 : World → Prop) (p : Nat) (listed : Array Bool) : World → Prop := if listed.getD p false = true then S2 else S1
theorem ph_ne {listed : Array Bool} {i : Nat} (h : i ≠ p) : ph S1 S2 p (listed.setIfInBounds i true) = ph S1 S2 p listed := by
  unfold ph; rw [getD_set_ne false h]
def anyT (P : Program) (md : Region.Mode) (ops : Array Oper) (Q : Exit → Act → World → Prop) (S1 S2 : World → Prop) (p : Nat) : Nat → Array Bool → Act → Prop
  | 0, listed, a => Region.ready md ops listed = [] ∧ ∀ w, ph S1 S2 p listed w → Q .normal a w
  | fuel + 1, listed, a =>
    (Region.ready md ops listed = [] → ∀ w, ph S1 S2 p listed w → Q .normal a w) ∧
    ∀ i ∈ Region.ready md ops listed, ∃ o v, ops[i]? = some o ∧ Gives2 P ops (ph S1 S2 p listed) (ph S1 S2 p (listed.setIfInBounds i true)) o v a ∧ anyT P md ops Q S1 S2 p fuel (listed.setIfInBounds i true) (a.put o.dst v)
theorem anyT_wp : ∀ (fuel : Nat) (listed : Array Bool) (a : Act), anyT P md ops Q S1 S2 p fuel listed a → ∀ w, ph S1 S2 p listed w → wpAny P md ops Q fuel listed a w
  | 0, _, _, h, w, hS => ⟨h.1, h.2 w hS⟩
  | fuel + 1, _, _, h, w, hS => ⟨fun h0 => h.1 h0 w hS, fun i hi => by
    obtain ⟨o, v, ho, hg, hn⟩ := h.2 i hi
    exact hg.wpOp ho hS fun w' hS' => anyT_wp fuel _ _ hn w' hS'⟩
/-- What an operation that is not p must be good for. -/
def Both (P : Program) (ops : Array Oper) (S1 S2 : World → Prop) (b : Bool) (o : Oper) (v : Value) (a : Act) : Prop := (b = false → Gives2 P ops S1 S1 o v a) ∧ Gives2 P ops S2 S2 o v a
theorem Both.at {listed : Array Bool} {o : Oper} {v : Value} {a : Act} (h : Both P ops S1 S2 (listed.getD p false) o v a) {i : Nat} (hi : i ≠ p) : Gives2 P ops (ph S1 S2 p listed) (ph S1 S2 p (listed.setIfInBounds i true)) o v a := by
  rw [ph_ne hi]
  unfold ph
  cases hb : listed.getD p false with
  | true => simp only [if_true]; exact h.2
  | false => simp only [Bool.false_eq_true, if_false]; exact h.1 hb
theorem anyT_first {i : Nat} {oi : Oper} {v : Value} (hi : ops[i]? = some oi) (hip : i ≠ p) (hsel : ∀ (j : Nat) (o : Oper) cs b, ops[j]? = some o → o.op ≠ .select cs b) :
    ∀ (fuel : Nat) (listed : Array Bool) (a : Act),
      (∀ j oj, ops[j]? = some oj → j ≠ i → listed.getD j true = false → (∀ e ∈ oj.after, Region.binds md e = true → e.on ≠ i) → oi.apart ops oj = true) →
      i ∈ Region.ready md ops listed → Both P ops S1 S2 (listed.getD p false) oi v a →
      anyT P md ops Q S1 S2 p fuel (listed.setIfInBounds i true) (a.put oi.dst v) → anyT P md ops Q S1 S2 p (fuel + 1) listed a := by
  intro fuel
  induction fuel with
  | zero =>
    intro listed a _ hr hy H
    refine ⟨fun h => (by rw [h] at hr; cases hr), fun j hj => ?_⟩
    by_cases hji : j = i
    · subst hji; exact ⟨oi, v, hi, hy.at hip, H⟩
    · have := ready_mono hj hji
      rw [H.1] at this
      cases this
  | succ fuel ih =>
    intro listed a hfree hr hy H
    refine ⟨fun h => (by rw [h] at hr; cases hr), fun j hj => ?_⟩
    by_cases hji : j = i
    · subst hji; exact ⟨oi, v, hi, hy.at hip, H⟩
    · obtain ⟨oj, u, hoj', hgj, hn⟩ := H.2 j (ready_mono hj hji)
      obtain ⟨hjun, oj2, hoj, hall⟩ := mem_ready.1 hj
      obtain rfl : oj2 = oj := by rw [hoj] at hoj'; exact Option.some.inj hoj'
      have hnot : ∀ e ∈ oj2.after, Region.binds md e = true → e.on ≠ i := fun e he hb heq => by
        have h1 := hall e he hb
        have h0 := (mem_ready.1 hr).1
        rw [heq] at h1
        rcases Nat.lt_or_ge i listed.size with h' | h'
        · simp [h'] at h0 h1; rw [h0] at h1; cases h1
        · simp [Array.getElem?_eq_none h'] at h1
      have hap := hfree j oj2 hoj hji hjun hnot
      obtain ⟨h1, h2, h3⟩ := Oper.apart_spec hap
      have hgj' : Gives2 P ops (ph S1 S2 p listed) (ph S1 S2 p (listed.setIfInBounds j true)) oj2 u a := by
        have := hgj.of_same (execOp_put oj2 (fun cs b => hsel j oj2 cs b hoj) a oi.dst v h1).symm (wanted_put oj2 a oi.dst v h1).symm
        rw [Array.setIfInBounds_comm _ _ (Ne.symm hji), ph_ne hip, ph_ne hip] at this
        exact this
      have hy' : Both P ops S1 S2 ((listed.setIfInBounds j true).getD p false) oi v (a.put oj2.dst u) := by
        refine ⟨fun hb => ?_, hy.2.of_same (execOp_put oi (fun cs b => hsel i oi cs b hi) a oj2.dst u h3) (wanted_put oi a oj2.dst u h3)⟩
        refine (hy.1 ?_).of_same (execOp_put oi (fun cs b => hsel i oi cs b hi) a oj2.dst u h3) (wanted_put oi a oj2.dst u h3)
        by_cases hjp : j = p
        · subst hjp
          exact getD_both hjun
        · rwa [getD_set_ne false hjp] at hb
      have hfree' : ∀ k ok, ops[k]? = some ok → k ≠ i → (listed.setIfInBounds j true).getD k true = false →
          (∀ e ∈ ok.after, Region.binds md e = true → e.on ≠ i) → oi.apart ops ok = true := fun k ok hk hki hun hno => by
        refine hfree k ok hk hki ?_ hno
        by_cases hjk : j = k
        · subst hjk; exact hjun
        · rw [getD_set_ne true hjk] at hun; exact hun
      refine ⟨oj2, u, hoj, hgj', ih (listed.setIfInBounds j true) (a.put oj2.dst u) hfree' (ready_mono hr (Ne.symm hji)) hy' ?_⟩
      rw [Array.setIfInBounds_comm _ _ hji, Act.put_comm a u v (fun d hd e => h2 d e hd)]
      exact hn

/-- The given order is one of the orders; each operation but p may be taken first in it; when p's turn has come it is the only one. -/
def inOrderT (md : Region.Mode) (ops : Array Oper) (p : Nat) : List Nat → Array Bool → Bool
  | [], listed => Region.ready md ops listed == []
  | i :: rest, listed => (if i = p then Region.ready md ops listed == [p] && decide (p < listed.size) && !(listed.getD p false) else Region.free md ops listed i && (Region.ready md ops listed).contains i) && inOrderT md ops p rest (listed.setIfInBounds i true)
def seqT (P : Program) (ops : Array Oper) (Q : Exit → Act → World → Prop) (S1 S2 : World → Prop) (p : Nat) : List Nat → Bool → Act → Prop
  | [], b, a => ∀ w, (if b = true then S2 else S1) w → Q .normal a w
  | i :: rest, b, a => ∃ o v, ops[i]? = some o ∧ (if i = p then Gives2 P ops S1 S2 o v a else Both P ops S1 S2 b o v a) ∧ seqT P ops Q S1 S2 p rest (b || decide (i = p)) (a.put o.dst v)
theorem anyT_of_seq (hs : Region.noSelect ops = true) : ∀ (ord : List Nat) (listed : Array Bool) (b : Bool) (a : Act), listed.getD p false = b → inOrderT md ops p ord listed = true →
    seqT P ops Q S1 S2 p ord b a → anyT P md ops Q S1 S2 p ord.length listed a
  | [], listed, b, a, hb, hc, h => by
    refine ⟨by simpa [inOrderT] using hc, ?_⟩
    unfold ph
    rw [hb]
    exact h
  | i :: rest, listed, b, a, hb, hc, h => by
    obtain ⟨o, v, ho, hg, hn⟩ := h
    simp only [inOrderT, Bool.and_eq_true] at hc
    obtain ⟨hc1, hc2⟩ := hc
    have IH := fun lst b' a' => anyT_of_seq hs rest lst b' a'
    by_cases hip : i = p
    · subst hip
      simp only [if_true, Bool.and_eq_true, decide_eq_true_eq, beq_iff_eq, Bool.not_eq_true'] at hc1 hg
      obtain ⟨⟨hr, hsz⟩, hl⟩ := hc1
      have hset : (listed.setIfInBounds i true).getD i false = true := by simp [Array.getD_eq_getD_getElem?, hsz]
      refine ⟨fun h0 => (by rw [hr] at h0; cases h0), fun j hj => ?_⟩
      rw [hr] at hj
      obtain rfl : j = i := by simpa using hj
      refine ⟨o, v, ho, ?_, IH _ (b || decide (j = j)) _ (by rw [hset]; simp) hc2 hn⟩
      unfold ph
      rw [hset, hl]
      simp only [Bool.false_eq_true, if_false, if_true]
      exact hg
    · simp only [hip, if_false, Bool.and_eq_true] at hc1 hg
      refine anyT_first ho hip (Region.noSelect_spec hs) rest.length listed a (Region.free_spec ho hc1.1) (by simpa using hc1.2) (by rw [hb]; exact hg)
        (IH _ (b || decide (i = p)) _ (by rw [getD_set_ne false hip, hb]; simp [hip]) hc2 hn)
/-- **A region that draws its order, one of whose operations changes what is known, by one walk.** -/
theorem wp_region_seqT {id : Nat} {l : List Oper} {a : Act} {w : World} (p : Nat) (ord : List Nat) (S1 S2 : World → Prop) (hm : P.follows .mixedOrders = true) (hs : Region.noSelect l.toArray = true) (hlen : ord.length = l.length)
    (hc : inOrderT .any l.toArray p ord (Array.replicate l.length false) = true)
    (hS : S1 w.drew) (h : seqT P l.toArray Q S1 S2 p ord false a) : (Code.region id l.toArray true).wp P Q a w :=
  wp_region_any hm (anyT_wp (S1 := S1) (S2 := S2) (p := p) _ _ _ (by
    have := anyT_of_seq (md := .any) (Q := Q) hs ord (Array.replicate l.length false) false a (getD_replicate_false' _ _) hc h
    rw [hlen] at this
    simpa using this) _ (by unfold ph; simp only [List.size_toArray]; rw [getD_replicate_false' _ _]; simpa using hS))
theorem at_drop {i : Nat} {o : Oper} {r : List Oper} (h : ops.toList.drop i = o :: r) : ops[i]? = some o := by
  rw [← Array.getElem?_toList]
  have := congrArg (fun x => x[0]?) h
  simpa using this
theorem seqT_nil {a : Act} (h : ∀ w, S2 w → Q .normal a w) : seqT P ops Q S1 S2 p [] true a := by
  intro w hw
  simp only [if_true] at hw
  exact h w hw
theorem seqT_val {i : Nat} {rest : List Nat} {b : Bool} {a : Act} {o : Oper} {v : Value} {r : List Oper} (ho : ops.toList.drop i = o :: r) (hip : decide (i = p) = false) (hw : Region.wanted o (yielded ops a.tmps) = true)
    (hv : ∀ w, (b = false ∧ S1 w) ∨ S2 w → (execOp a.eval o).run P w = .ok (.value v) w) (h : seqT P ops Q S1 S2 p rest b (a.put o.dst v)) : seqT P ops Q S1 S2 p (i :: rest) b a := by
  refine ⟨o, v, at_drop ho, ?_, by rw [hip, Bool.or_false]; exact h⟩
  rw [if_neg (of_decide_eq_false hip)]
  exact ⟨fun hb => .inl ⟨hw, fun w hS => .inl ⟨w, hv w (.inl ⟨hb, hS⟩), hS⟩⟩, .inl ⟨hw, fun w hS => .inl ⟨w, hv w (.inr hS), hS⟩⟩⟩
theorem seqT_off {i : Nat} {rest : List Nat} {b : Bool} {a : Act} {o : Oper} {r : List Oper} (ho : ops.toList.drop i = o :: r) (hip : decide (i = p) = false) (hw : Region.wanted o (yielded ops a.tmps) = false)
    (h : seqT P ops Q S1 S2 p rest b (a.put o.dst undef)) : seqT P ops Q S1 S2 p (i :: rest) b a := by
  refine ⟨o, undef, at_drop ho, ?_, by rw [hip, Bool.or_false]; exact h⟩
  rw [if_neg (of_decide_eq_false hip)]
  exact ⟨fun hb => .inr ⟨hw, rfl, fun w h => h⟩, .inr ⟨hw, rfl, fun w h => h⟩⟩
theorem run_callF {o : Oper} {a : Act} (f : FuncId) (xs : List Operand) (ts : Array TypeId) (A : List Value) (ho : o.op = .call { callee := .value (.func f), args := xs.toArray, argTypes := ts })
    (eg : ∀ args w, (callFunc f args).run P w = .ok (.enter f args) w) (hA : xs.map a.eval = A) (w : World) : (execOp a.eval o).run P w = .ok (.enter f A.toArray) w := by
  subst hA
  unfold execOp
  simp [ho, resolve, invoke, go_sem, eg]
/-- A call behind p. -/
theorem seqT_callF {i : Nat} {rest : List Nat} {a : Act} {o : Oper} {v : Value} (f : FuncId) (xs : List Operand) (ts : Array TypeId) (A : List Value) {r : List Oper} (ho : ops.toList.drop i = o :: r) (hip : decide (i = p) = false) (hw : Region.wanted o (yielded ops a.tmps) = true)
    (hop : o.op = .call { callee := .value (.func f), args := xs.toArray, argTypes := ts }) (eg : ∀ args w, (callFunc f args).run P w = .ok (.enter f args) w) (hA : xs.map a.eval = A)
    (hc : ∀ w, S2 w → Calls P f A.toArray w fun e w' => e = .returned v ∧ S2 w') (h : seqT P ops Q S1 S2 p rest true (a.put o.dst v)) : seqT P ops Q S1 S2 p (i :: rest) true a := by
  refine ⟨o, v, at_drop ho, ?_, by rw [hip, Bool.or_false]; exact h⟩
  rw [if_neg (of_decide_eq_false hip)]
  exact ⟨fun hb => (by cases hb), .inl ⟨hw, fun w hS => .inr ⟨f, A.toArray, w, run_callF f xs ts A hop eg hA w, hc w hS⟩⟩⟩
/-- p itself, a call. -/
theorem seqT_p {rest : List Nat} {a : Act} {o : Oper} {v : Value} (f : FuncId) (xs : List Operand) (ts : Array TypeId) (A : List Value) {r : List Oper} (ho : ops.toList.drop p = o :: r) (hw : Region.wanted o (yielded ops a.tmps) = true)
    (hop : o.op = .call { callee := .value (.func f), args := xs.toArray, argTypes := ts }) (eg : ∀ args w, (callFunc f args).run P w = .ok (.enter f args) w) (hA : xs.map a.eval = A)
    (hc : ∀ w, S1 w → Calls P f A.toArray w fun e w' => e = .returned v ∧ S2 w') (h : seqT P ops Q S1 S2 p rest true (a.put o.dst v)) : seqT P ops Q S1 S2 p (p :: rest) false a := by
  refine ⟨o, v, at_drop ho, ?_, by simpa using h⟩
  rw [if_pos rfl]
  exact .inl ⟨hw, fun w hS => .inr ⟨f, A.toArray, w, run_callF f xs ts A hop eg hA w, hc w hS⟩⟩
end
end Go.Proofs.YtkkkonmbbdhdhaaGreatDoor
/- A Writer and a slice of ints side by side; contract of Table.Put; what Put's bits are taken as. -/
namespace Go.Proofs.YtkkkonmbbdhdhaaGreatDoor
open Go.RowKit Go.Lib
set_option linter.unusedVariables false
set_option maxRecDepth 100000

theorem Wtr.fresh (w : World) (T : TypeId) : Wtr (w.alloc (.cells #[.slice none 0 0, .int .u32 0, .int .i64 0] T)) w.heap.size w.heap.size [] none :=
  ⟨⟨.slice none 0 0, by go_cell, Ob.nil _ _, rfl⟩, by rw [show val [] % 4294967296 = 0 from rfl]; go_cell, by go_cell, by go_cell, by go_cell, by go_cell, by simp, Nat.le_refl _, Bit.nil⟩
/-- A Writer of bits B in block p, its bytes in block g, and the ints m in v, that share nothing. -/
structure PW (w : World) (base p : Nat) (B : List Int) (v : Value) (m : List Int) (g : Option Nat) : Prop where
  wt : Wtr w base p B g
  o : Oi w base v m
  np : v.ownBlock ≠ some p
  ng : ∀ k, g = some k → v.ownBlock ≠ some k
section
variable {w w' : World} {base p : Nat} {B : List Int} {v : Value} {m : List Int} {g : Option Nat}
theorem PW.start (w : World) (T : TypeId) : PW (w.alloc (.cells #[.slice none 0 0, .int .u32 0, .int .i64 0] T)) w.heap.size w.heap.size [] (.slice none 0 0) [] none :=
  ⟨Wtr.fresh w T, Oi.nil _ _, by simp [Value.ownBlock], fun k e => by cases e⟩
theorem PW.on (h : PW w base p B v m g) (hb : Below w.heap.size w w') : PW w' base p B v m g := ⟨h.wt.below hb, h.o.below hb, h.np, h.ng⟩
theorem PW.put (x : Int) (n : Nat) (h : PW w base p B v m g) (hm : n ≤ 16) (hl : B.length ≤ 10000000) (hbw : base ≤ w.heap.size) :
    Calls Tryz.prog 31 #[.pointer (some ⟨p, 0, none⟩), .int .i64 x, .int .i64 n] w fun e w' => e = .returned (.bool true) ∧ ∃ g', PW w' base p (B ++ lo x n) v m g' ∧ (g' = g ∨ ∃ k, g' = some k ∧ w.heap.size ≤ k) ∧ Chg (fun i => i = p ∨ g = some i) w w' := by
  refine (put_yes base p B g x n w h.wt hm hl hbw).mono ?_
  rintro e w' ⟨g', rfl, q1, q2, q3⟩
  refine ⟨rfl, g', ⟨q1, h.o.chg q3 (fun k hk e => ?_), h.np, fun k hk => ?_⟩, q2, q3⟩
  · rcases e with e | e
    · exact h.np (by rw [hk, e])
    · exact h.ng k e hk
  · rcases q2 with rfl | ⟨j, q2, q4⟩
    · exact h.ng k hk
    · intro e
      have := (h.o.at k e).2
      rw [q2] at hk; injection hk with hk; omega
theorem PW.under (h : PW w base p B v m g) (hc : Chg (fun i => i = p ∨ g = some i) w w') (hbw : base ≤ w.heap.size) : Below base w w' := hc.below hbw fun i hi => by
  rcases hi with rfl | hi
  · exact h.wt.bp
  · exact (h.wt.gt i hi).1
/-- Something was appended to the ints. -/
theorem PW.app {v' : Value} {m' : List Int} (h : PW w base p B v m g) (ho : Oi w' base v' m') (hg : w.grownBy w' v.ownBlock) (hv : v'.ownBlock = v.ownBlock ∨ v'.ownBlock = some w.heap.size) : PW w' base p B v' m' g := by
  have hcg : Chg (fun i => v.ownBlock = some i) w w' := (Chg.refl _ w).grown hg fun k hk => .inl hk
  have hp := h.wt.lt
  refine ⟨h.wt.chg hcg (fun e => h.np e) (fun k hk e => h.ng k hk e), ho, ?_, fun k hk => ?_⟩
  · rcases hv with e | e
    · rw [e]; exact h.np
    · rw [e]; intro e2; injection e2 with e2; omega
  · have hk2 := (h.wt.gt k hk).2
    rcases hv with e | e
    · rw [e]; exact h.ng k hk
    · rw [e]; intro e2; injection e2 with e2; omega
end
theorem codeAt_le {cs l : List Int} (s : Int) : (codeAt cs l s).2 ≤ 16 := by
  unfold codeAt
  split
  · rename_i h
    have hm := mayB_iff.1 h
    by_cases hj : l.findIdx (· == s) < l.length
    · exact (cd_each hm hj).2.1
    · rw [List.getD_eq_getElem?_getD, List.getElem?_eq_none (by rw [cds_many hm]; omega)]
      exact Nat.zero_le _
  · exact Nat.zero_le _
/-- What Put writes of a symbol. -/
noncomputable def encS (cs l : List Int) (x : Int) : List Int := lo (codeAt cs l x).1 (codeAt cs l x).2
theorem encS_len (cs l : List Int) (x : Int) : (encS cs l x).length = (codeAt cs l x).2 := lo_len _ _
/-- A symbol that has a code: what comes next, if that stands ahead. -/
theorem enc_next {cs l : List Int} (h : MayP cs l) {x : Int} (hx : 0 < (codeAt cs l x).2) {r : List Int} (hr : Bit r) : nxtS cs l (encS cs l x ++ r) = (x, (codeAt cs l x).2) := by
  have hm := mayB_iff.2 h
  have hj : l.findIdx (· == x) < l.length := by
    rcases Nat.lt_or_ge (l.findIdx (· == x)) l.length with h1 | h1
    · exact h1
    · unfold codeAt at hx
      rw [if_pos hm, List.getD_eq_getElem?_getD, List.getElem?_eq_none (by rw [cds_many h]; exact h1)] at hx
      exact absurd hx (Nat.lt_irrefl 0)
  have hlx : l.getD (l.findIdx (· == x)) 0 = x := by
    rw [List.getD_eq_getElem?_getD, List.getElem?_eq_getElem hj]
    have := List.findIdx_getElem (p := (· == x)) (xs := l) (w := hj)
    simpa using this
  have hc : codeAt cs l x = (cds (lensOf cs 16)).getD (l.findIdx (· == x)) (0, 0) := by unfold codeAt; rw [if_pos hm]
  have he := cd_each h hj
  have hb : Bit (encS cs l x ++ r) := (lo_bit _ _).append hr
  have hh : Hits ((cds (lensOf cs 16)).getD (l.findIdx (· == x)) (0, 0)) (encS cs l x ++ r) := by
    rw [← hc] at he ⊢
    have hee : encS cs l x = lo (codeAt cs l x).1 (codeAt cs l x).2 := rfl
    rw [hee]
    clear hx hb hc hee hlx
    generalize codeAt cs l x = c at *
    refine ⟨by rw [List.length_append, lo_len]; omega, ?_⟩
    rw [List.take_append_of_le_length (by rw [lo_len]; omega), List.take_of_length_le (by rw [lo_len]; omega)]
    rw [val_lo, Int.emod_eq_of_lt (by omega) (by omega)]
  have := next_hit h hb hj hh
  rw [hlx, ← hc] at this
  exact this
theorem encs_bit (cs l : List Int) : ∀ m : List Int, Bit (m.flatMap (encS cs l))
  | [] => Bit.nil
  | x :: m => by rw [List.flatMap_cons]; exact (lo_bit _ _).append (encs_bit cs l m)
theorem encs_len (cs l : List Int) : ∀ m : List Int, (m.flatMap (encS cs l)).length ≤ 16 * m.length
  | [] => Nat.le_refl _
  | x :: m => by
    rw [List.flatMap_cons, List.length_append, encS_len, List.length_cons]
    have := codeAt_le (cs := cs) (l := l) x
    have := encs_len cs l m
    omega
set_option maxHeartbeats 2000000 in
theorem tput_any (b base p : Nat) (cs l B m : List Int) (g : Option Nat) (x : Int) (v : Value) (w : World) (hT : Tbl w b cs l) (hP : PW w base p B v m g) (hB : B.length ≤ 1000000) (hbw : base ≤ w.heap.size) (h0 : -9223372036854775808 ≤ x) (h1 : x ≤ 9223372036854775807) :
    Calls Tryz.prog 12 #[.pointer (some ⟨b, 0, none⟩), .pointer (some ⟨p, 0, none⟩), .int .i64 x] w fun e w' => e = .returned (.bool (decide (0 < (codeAt cs l x).2))) ∧ ∃ g', PW w' base p (B ++ encS cs l x) v m g' ∧ (g' = g ∨ ∃ k, g' = some k ∧ w.heap.size ≤ k) ∧ Chg (fun i => i = p ∨ g = some i) w w' := by
  have hC := fCode_any b cs l x w hT h0 h1
  have hle := codeAt_le (cs := cs) (l := l) x
  have hE : encS cs l x = lo (codeAt cs l x).1 (codeAt cs l x).2 := rfl
  generalize encS cs l x = E at *
  generalize codeAt cs l x = c at *
  obtain ⟨V, N⟩ := c
  simp only at hC hle hE
  have HP := Lib.hid hP
  have HE := Lib.hid hE
  clear hP hE hT
  go_enter Tryz.func12, Tryz.ntmps12
  rcases Nat.eq_zero_or_pos N with hN | hN
  · subst hN
    have dn : decide (0 < 0) = false := rfl
    rw [dn] at hC
    go_wp2_with fail
    (with_reducible refine hC.mono ?_); rintro e w1 ⟨rfl, hb1⟩
    have HP1 := Lib.hid (HP.out.on hb1)
    have HB1 := Lib.hid hb1
    have hz := hb1.size
    clear hb1
    go_wp2
    go_ret
    refine ⟨rfl, g, ?_, .inl rfl, Chg.of_below (HB1.out.alloc hz _)⟩
    rw [HE.out]
    show PW _ base p (B ++ []) v m g
    rw [List.append_nil]
    exact HP1.out.on ((Below.refl _ _).alloc (Nat.le_refl _) _)
  · have dn : decide (0 < N) = true := decide_eq_true hN
    rw [dn] at hC
    go_wp2_with fail
    (with_reducible refine hC.mono ?_); rintro e w1 ⟨rfl, hb1⟩
    have HP1 := Lib.hid (HP.out.on hb1)
    have HB1 := Lib.hid hb1
    have hz := hb1.size
    clear hb1
    go_wp2_with fail
    (with_reducible refine ((HP1.out.on ((Below.refl _ _).alloc (Nat.le_refl _) _)).put V N hle (by omega) (by simp; omega)).mono ?_); rintro e w2 ⟨rfl, g', hp2, hg2, hb2⟩
    have HP2 := Lib.hid hp2
    have HG2 : Hid (g' = g ∨ ∃ k, g' = some k ∧ w.heap.size ≤ k) := hg2.imp id fun ⟨k, e, hk⟩ => ⟨k, e, by simp at hk; omega⟩
    have HB2 := Lib.hid ((Chg.of_below (S := fun i => i = p ∨ g = some i) (HB1.out.alloc hz _)).trans hb2 fun _ _ e => e)
    clear hp2 hb2 hC hg2
    go_wp2
    go_ret
    rw [HE.out]
    exact ⟨by rw [dn]; rfl, g', HP2.out, HG2.out, HB2.out⟩
theorem tput_nil (R : Value) (hR : ∃ q, R = .pointer q) (x : Int) (w : World) : Calls Tryz.prog 12 #[.pointer none, R, .int .i64 x] w fun e w' => e = .returned (.bool false) ∧ Below w.heap.size w w' := by
  obtain ⟨q, rfl⟩ := hR
  have hC := fCode_nil x w
  go_enter Tryz.func12, Tryz.ntmps12
  go_wp2_with fail
  (with_reducible refine hC.mono ?_); rintro e w1 ⟨rfl, hb1⟩
  have HB1 := Lib.hid hb1
  have hz := hb1.size
  clear hb1
  go_wp2
  go_ret
  exact ⟨rfl, HB1.out.alloc hz _⟩
theorem tput_now (b : Nat) (cs l : List Int) (x : Int) (w : World) (hT : Tbl w b cs l) (h0 : -9223372036854775808 ≤ x) (h1 : x ≤ 9223372036854775807) :
    Calls Tryz.prog 12 #[.pointer (some ⟨b, 0, none⟩), .pointer none, .int .i64 x] w fun e w' => e = .returned (.bool false) ∧ Below w.heap.size w w' := by
  have hC := fCode_any b cs l x w hT h0 h1
  generalize codeAt cs l x = c at *
  obtain ⟨V, N⟩ := c
  simp only at hC
  clear hT
  go_enter Tryz.func12, Tryz.ntmps12
  rcases Nat.eq_zero_or_pos N with hN | hN
  · subst hN
    have dn : decide (0 < 0) = false := rfl
    rw [dn] at hC
    go_wp2_with fail
    (with_reducible refine hC.mono ?_); rintro e w1 ⟨rfl, hb1⟩
    have HB1 := Lib.hid hb1
    have hz := hb1.size
    clear hb1
    go_wp2
    go_ret
    exact ⟨rfl, HB1.out.alloc hz _⟩
  · have dn : decide (0 < N) = true := decide_eq_true hN
    rw [dn] at hC
    go_wp2_with fail
    (with_reducible refine hC.mono ?_); rintro e w1 ⟨rfl, hb1⟩
    have HB1 := Lib.hid hb1
    have hz := hb1.size
    clear hb1
    go_wp2_with fail
    (with_reducible refine (put_nil V N _).mono ?_); rintro e w2 ⟨rfl, rfl⟩
    go_wp2
    go_ret
    exact ⟨rfl, HB1.out.alloc hz _⟩
end Go.Proofs.YtkkkonmbbdhdhaaGreatDoor
