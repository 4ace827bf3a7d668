/- As Drg, for operations whose outcomes are known but for some: what is said of an operation (Hs) must be true of some outcome, and behind it the walk goes on only with outcomes of which it is true: so a known value stands in its slot at once. REUSABLE in each seat. -/
import Derived.Test.YtogpnpcdghabmaaDrg
namespace Go.Proofs.Ytogpnpcdghabmaa
open Go.RowKit
set_option linter.unusedVariables false
section
variable {P : Program} {ops : Array Oper} {Q : Exit → Act → World → Prop} {md : Region.Mode} {S : World → Prop} {T : World → World → Prop} {Hs : Nat → List Value → Value → World → Prop}
/-- Whatever order is picked from here on, among the first n; then L. -/
def headH (P : Program) (md : Region.Mode) (ops : Array Oper) (S : World → Prop) (T : World → World → Prop) (Hs : Nat → List Value → Value → World → Prop) (n : Nat) (L : Array Bool → Act → (Nat → World → Prop) → Prop) : Nat → Array Bool → Act → (Nat → World → Prop) → Prop
  | 0, listed, a, F => L listed a F
  | fuel + 1, listed, a, F =>
    Region.ready md ops listed ≠ [] ∧
    ∀ i ∈ Region.ready md ops listed, i < n ∧ ∃ o, ops[i]? = some o ∧ Leads P ops S T o a (ahead md o F) (fun v => Hs i (argsOf o a) v) ∧
      (∃ v w, Hs i (argsOf o a) v w) ∧ ∀ v, (∃ w, Hs i (argsOf o a) v w) → headH P md ops S T Hs n L fuel (listed.setIfInBounds i true) (a.put o.dst v) (upd F i (Hs i (argsOf o a) v))
theorem headH_wp {n g : Nat} {L : Array Bool → Act → (Nat → World → Prop) → Prop} (hst : ∀ i vs v w w', T w w' → Hs i vs v w → Hs i vs v w')
    (hL : ∀ listed a F w, L listed a F → S w → (∀ j, listed.getD j false = true → F j w) → wpAny P md ops Q g listed a w) : ∀ (fuel : Nat) (listed : Array Bool) (a : Act) (F : Nat → World → Prop), headH P md ops S T Hs n L fuel listed a F →
    (∀ j w w', T w w' → F j w → F j w') → ∀ w, S w → (∀ j, listed.getD j false = true → F j w) → wpAny P md ops Q (fuel + g) listed a w
  | 0, listed, a, F, h, _, w, hS, hF => by rw [Nat.zero_add]; exact hL _ _ _ w h hS hF
  | fuel + 1, listed, a, F, h, hFs, w, hS, hF => by
    rw [show fuel + 1 + g = (fuel + g) + 1 by omega]
    refine ⟨fun h0 => absurd h0 h.1, fun i hi => ?_⟩
    obtain ⟨_, o, ho, hl, _, hn⟩ := h.2 i hi
    obtain ⟨hun, o2, ho2, hall⟩ := mem_ready.1 hi
    obtain rfl : o2 = o := by rw [ho] at ho2; exact (Option.some.inj ho2).symm
    refine hl.wpOp ho hS (fun e he hb => hF _ (hall e he hb)) fun v w' hT hS' hP => ?_
    refine headH_wp hst hL fuel _ _ _ (hn v ⟨w', hP⟩) (fun j x y hxy => ?_) w' hS' fun j hj => ?_
    · unfold upd
      by_cases hji : j = i
      · simp only [hji, if_true]; exact hst _ _ _ _ _ hxy
      · simp only [hji, if_false]; exact hFs j x y hxy
    · unfold upd
      by_cases hji : j = i
      · simp only [hji, if_true]; exact hP
      · simp only [hji, if_false]
        rw [getD_set_ne false (Ne.symm hji)] at hj
        exact hFs j w w' hT (hF j hj)
theorem headH_first {n i : Nat} {oi : Oper} {L : Array Bool → Act → (Nat → World → Prop) → Prop} (hi : ops[i]? = some oi) (hsel : ∀ (j : Nat) (o : Oper) cs b, ops[j]? = some o → o.op ≠ .select cs b)
    (hs : Region.sinkB md ops n = true) (hc : Region.chainB md ops n = true) (hn : n < ops.size) (hin : i < n)
    (hdone : ∀ listed a F, L listed a F → ∀ j ∈ Region.ready md ops listed, n ≤ j) :
    ∀ (fuel : Nat) (listed : Array Bool) (a : Act) (F : Nat → World → Prop), HeadInv md ops n listed →
      (∀ j oj, ops[j]? = some oj → j ≠ i → listed.getD j true = false → (∀ e ∈ oj.after, Region.binds md e = true → e.on ≠ i) → oi.apart ops oj = true) →
      i ∈ Region.ready md ops listed → Leads P ops S T oi a (ahead md oi F) (fun v => Hs i (argsOf oi a) v) → (∃ v w, Hs i (argsOf oi a) v w) →
      (∀ v, (∃ w, Hs i (argsOf oi a) v w) → headH P md ops S T Hs n L fuel (listed.setIfInBounds i true) (a.put oi.dst v) (upd F i (Hs i (argsOf oi a) v))) → headH P md ops S T Hs n L (fuel + 1) listed a F := by
  intro fuel
  induction fuel with
  | zero =>
    intro listed a F inv _ hr hy hex H
    obtain ⟨v0, hv0⟩ := hex
    have hun := (mem_ready.1 hr).1
    refine ⟨fun h => (by rw [h] at hr; cases hr), fun j hj => ?_⟩
    have hjn : j < n := by
      rcases Nat.lt_or_ge j n with h | h
      · exact h
      · exact absurd hj (tail_waits hs hc hn inv _ i rfl hin hun j h)
    refine ⟨hjn, ?_⟩
    by_cases hji : j = i
    · subst hji; exact ⟨oi, hi, hy, ⟨v0, hv0⟩, H⟩
    · have := hdone _ _ _ (H v0 hv0) j (ready_mono hj hji)
      omega
  | succ fuel ih =>
    intro listed a F inv hfree hr hy hex H
    obtain ⟨v0, hv0⟩ := hex
    have hun := (mem_ready.1 hr).1
    refine ⟨fun h => (by rw [h] at hr; cases hr), fun j hj => ?_⟩
    have hjn : j < n := by
      rcases Nat.lt_or_ge j n with h | h
      · exact h
      · exact absurd hj (tail_waits hs hc hn inv _ i rfl hin hun j h)
    refine ⟨hjn, ?_⟩
    by_cases hji : j = i
    · subst hji; exact ⟨oi, hi, hy, ⟨v0, hv0⟩, H⟩
    · obtain ⟨_, oj, hoj', hgj, hexj, _⟩ := (H v0 hv0).2 j (ready_mono hj hji)
      obtain ⟨hjun, oj2, hoj, hall⟩ := mem_ready.1 hj
      obtain rfl : oj2 = oj := by rw [hoj] at hoj'; exact Option.some.inj hoj'
      obtain ⟨hiun, oi2, hoi2, halli⟩ := mem_ready.1 hr
      obtain rfl : oi2 = oi := by rw [hi] at hoi2; exact (Option.some.inj hoi2).symm
      have hnj : ∀ e ∈ oj2.after, Region.binds md e = true → e.on ≠ i := fun e he hb heq => by
        have h1 := hall e he hb
        rw [heq, getD_both hun] at h1
        cases h1
      have hni : ∀ e ∈ oi2.after, Region.binds md e = true → e.on ≠ j := fun e he hb heq => by
        have h1 := halli e he hb
        rw [heq, getD_both hjun] at h1
        cases h1
      have hap := hfree j oj2 hoj hji hjun hnj
      obtain ⟨h1, h2, h3⟩ := Oper.apart_spec hap
      have eaj : ∀ v, argsOf oj2 (a.put oi2.dst v) = argsOf oj2 a := fun v => argsOf_put h1
      have eai : ∀ u, argsOf oi2 (a.put oj2.dst u) = argsOf oi2 a := fun u => argsOf_put h3
      have hgj' : Leads P ops S T oj2 a (ahead md oj2 F) (fun u => Hs j (argsOf oj2 a) u) := by
        have := hgj.of_same (a' := a) (Pre' := ahead md oj2 F) (execOp_put oj2 (fun cs b => hsel j oj2 cs b hoj) a oi2.dst v0 h1).symm (wanted_put oj2 a oi2.dst v0 h1).symm (fun w hp e he hb => by
          have := hp e he hb
          unfold upd
          rw [if_neg (hnj e he hb)]
          exact this)
        rw [eaj v0] at this
        exact this
      have hfree' : ∀ k ok, ops[k]? = some ok → k ≠ i → (listed.setIfInBounds j true).getD k true = false →
          (∀ e ∈ ok.after, Region.binds md e = true → e.on ≠ i) → oi2.apart ops ok = true := fun k ok hk hki hun hno => by
        refine hfree k ok hk hki ?_ hno
        by_cases hjk : j = k
        · subst hjk; exact hjun
        · rw [getD_set_ne true hjk] at hun; exact hun
      refine ⟨oj2, hoj, hgj', (by rw [eaj v0] at hexj; exact hexj), fun u hu => ih (listed.setIfInBounds j true) (a.put oj2.dst u) _ (inv.set hj hjn) hfree' (ready_mono hr (Ne.symm hji)) ?_ ⟨v0, by rw [eai u]; exact hv0⟩ fun v hv => ?_⟩
      · have := hy.of_same (a' := a.put oj2.dst u) (Pre' := ahead md oi2 (upd F j (Hs j (argsOf oj2 a) u))) (execOp_put oi2 (fun cs b => hsel i oi2 cs b hi) a oj2.dst u h3) (wanted_put oi2 a oj2.dst u h3) (fun w hp e he hb => by
          have := hp e he hb
          unfold upd at this
          rw [if_neg (hni e he hb)] at this
          exact this)
        rw [eai u]
        exact this
      · rw [eai u] at hv
        obtain ⟨_, oj3, hoj3, _, _, hn⟩ := (H v hv).2 j (ready_mono hj hji)
        obtain rfl : oj3 = oj2 := by rw [hoj] at hoj3; exact (Option.some.inj hoj3).symm
        have := hn u (by rw [eaj v]; exact hu)
        rw [eaj v] at this
        rw [Array.setIfInBounds_comm _ _ hji, Act.put_comm a u v (fun d hd e => h2 d e hd), eai u, upd_comm F hji]
        exact this

/-- The first operations one behind the other; then the others. -/
def seqH (P : Program) (md : Region.Mode) (ops : Array Oper) (Q : Exit → Act → World → Prop) (S : World → Prop) (T : World → World → Prop) (Hs : Nat → List Value → Value → World → Prop) (tail : List Oper) : Nat → List Oper → Act → (Nat → World → Prop) → Prop
  | n, [], a, F => ∀ w, S w → (∀ j, j < n → F j w) → wpList P ops Q tail a w
  | i, o :: rest, a, F => Leads P ops S T o a (ahead md o F) (fun v => Hs i (argsOf o a) v) ∧ (∃ v w, Hs i (argsOf o a) v w) ∧ ∀ v, (∃ w, Hs i (argsOf o a) v w) → seqH P md ops Q S T Hs tail (i + 1) rest (a.put o.dst v) (upd F i (Hs i (argsOf o a) v))
theorem headH_of_seq {n g : Nat} {tail : List Oper} (hsel : Region.noSelect ops = true) (hs : Region.sinkB md ops n = true) (hc : Region.chainB md ops n = true) (hn : n < ops.size) :
    ∀ (l : List Oper) (k : Nat) (listed : Array Bool) (a : Act) (F : Nat → World → Prop), (∀ j, j < l.length → l[j]? = ops[k + j]?) → k + l.length = n → HeadInv md ops n listed →
    (∀ j, j < k → listed.getD j false = true) → Region.lexHead md ops g l.length k listed = true → seqH P md ops Q S T Hs tail k l a F →
    headH P md ops S T Hs n (fun listed' a' F' => Region.seqB md ops g n listed' = true ∧ ∀ w, S w → (∀ j, listed'.getD j false = true → F' j w) → wpList P ops Q tail a' w) l.length listed a F
  | [], k, listed, a, F, _, hk, _, hli, hB, h => by
    have : k = n := by simpa using hk
    subst this
    exact ⟨by simpa [Region.lexHead] using hB, fun w hS hF => h w hS fun j hj => hF j (hli j hj)⟩
  | o :: l, k, listed, a, F, hl, hk, inv, hli, hB, h => by
    have h0 : ops[k]? = some o := by simpa using (hl 0 (by simp)).symm
    simp only [List.length_cons, Region.lexHead, Bool.and_eq_true] at hB
    obtain ⟨⟨hr, hf⟩, hB'⟩ := hB
    have hkn : k < n := by simp only [List.length_cons] at hk; omega
    have hr' : k ∈ Region.ready md ops listed := by simpa using hr
    refine headH_first h0 (Region.noSelect_spec hsel) hs hc hn hkn (fun listed' a' F' hL => seqB_ready hL.1) l.length listed a F inv (Region.free_spec h0 hf) hr' h.1 h.2.1 fun v hv => ?_
    refine headH_of_seq hsel hs hc hn l (k + 1) _ _ _ (fun j hj => by have := hl (j + 1) (by simp; omega); simpa [Nat.add_assoc, Nat.add_comm 1 j] using this) (by simp only [List.length_cons] at hk; omega) (inv.set hr' hkn) (fun j hj => ?_) hB' (h.2.2 v hv)
    by_cases hjk : j = k
    · subst hjk
      have h2 : j < listed.size := by rw [inv.size]; omega
      simp [Array.getD_eq_getD_getElem?, h2]
    · rw [getD_set_ne false (Ne.symm hjk)]
      exact hli j (by omega)

/-- **A region that draws its order, whose first n operations may make memory, and whose others stand in one order behind them: by one walk.** S: what is known of the world all the while. T: what an operation may do to what the others made. -/
theorem wp_region_seqH {id : Nat} {l : List Oper} {a : Act} {w : World} (n : Nat) (S : World → Prop) (T : World → World → Prop) (Hs : Nat → List Value → Value → World → Prop) (hm : P.follows .mixedOrders = true) (hB : Region.lexTailB .any l.toArray n = true)
    (hst : ∀ i vs v w w', T w w' → Hs i vs v w → Hs i vs v w')
    (hS : S w.drew) (h : seqH P .any l.toArray Q S T Hs (l.drop n) 0 (l.take n) a fun _ _ => True) : (Code.region id l.toArray true).wp P Q a w := by
  simp only [Region.lexTailB, Bool.and_eq_true, decide_eq_true_eq] at hB
  obtain ⟨⟨⟨⟨hsel, hn⟩, hs⟩, hc⟩, hlex⟩ := hB
  have hn' : n < l.length := by simpa using hn
  have htl : (l.take n).length = n := by simp; omega
  have hdl : (l.drop n).length = l.toArray.size - n := by simp
  have inv0 : HeadInv .any l.toArray n (Array.replicate l.toArray.size false) :=
    ⟨by simp, fun j oj _ hl => (by rw [getD_replicate_false] at hl; cases hl), fun t _ ht => getD_in (by simpa using ht) (getD_replicate_false _ _)⟩
  have H := headH_of_seq (md := .any) (Q := Q) (g := l.toArray.size - n) hsel hs hc hn (l.take n) 0 _ a (fun _ _ => True) (fun j hj => by
    have hj' : j < n := by rw [htl] at hj; exact hj
    simp [hj']) (by simpa using htl) inv0 (fun j hj => absurd hj (Nat.not_lt_zero _)) (by rw [htl]; exact hlex) h
  refine wp_region_any hm ?_
  have := headH_wp (Q := Q) (g := l.toArray.size - n) hst (fun listed a' F w' hL hS' hF => by
    have := wpAny_of_seq (md := .any) (Q' := Q) (l.drop n) n listed a' w' (fun j => by simp [List.getElem?_drop]) (by rw [hdl]; exact hL.1) (hL.2 w' hS' hF)
    rwa [hdl] at this) _ _ _ _ H (fun _ _ _ _ h => h) _ hS (fun _ _ => trivial)
  rw [htl, show n + (l.toArray.size - n) = l.toArray.size by omega] at this
  exact this

theorem seqH_nil {n : Nat} {tail : List Oper} {a : Act} {F : Nat → World → Prop} (h : ∀ w, S w → (∀ j, j < n → F j w) → wpList P ops Q tail a w) : seqH P md ops Q S T Hs tail n [] a F := h
/-- An operation whose value is known, and that leaves the world alone. -/
theorem seqH_val {i : Nat} {o : Oper} {rest tail : List Oper} {a : Act} {F : Nat → World → Prop} (c : Value) (hc : Hs i = fun _ v _ => v = c) (w0 : World) (hT : ∀ w, T w w) (hw : Region.wanted o (yielded ops a.tmps) = true)
    (hl : ∀ w, S w → (execOp a.eval o).run P w = .ok (.value c) w)
    (h : seqH P md ops Q S T Hs tail (i + 1) rest (a.put o.dst c) (upd F i fun _ => c = c)) : seqH P md ops Q S T Hs tail i (o :: rest) a F :=
  ⟨⟨hw, fun w hS _ => .inl ⟨c, w, hl w hS, hT w, hS, by rw [hc]⟩⟩, ⟨c, w0, by rw [hc]⟩, fun v ⟨w1, hv⟩ => by
    rw [hc] at hv ⊢
    subst hv
    exact h⟩
/-- A call whose result is known. -/
theorem seqH_call {i : Nat} {o : Oper} {rest tail : List Oper} {a : Act} {F : Nat → World → Prop} (c : Value) (hc : Hs i = fun _ v _ => v = c) (w0 : World) (f : FuncId) (args : Array Value) (hw : Region.wanted o (yielded ops a.tmps) = true)
    (hv : ∀ w, (execOp a.eval o).run P w = .ok (.enter f args) w)
    (hl : ∀ w, S w → Calls P f args w fun e w' => e = .returned c ∧ T w w' ∧ S w')
    (h : seqH P md ops Q S T Hs tail (i + 1) rest (a.put o.dst c) (upd F i fun _ => c = c)) : seqH P md ops Q S T Hs tail i (o :: rest) a F :=
  ⟨⟨hw, fun w hS _ => .inr (.inr ⟨f, args, w, hv w, (hl w hS).mono fun e w' he => ⟨c, he.1, he.2.1, he.2.2, by rw [hc]⟩⟩)⟩, ⟨c, w0, by rw [hc]⟩, fun v ⟨w1, hv⟩ => by
    rw [hc] at hv ⊢
    subst hv
    exact h⟩
/-- An operation of whose value something is known. -/
theorem seqH_any {i : Nat} {o : Oper} {rest tail : List Oper} {a : Act} {F : Nat → World → Prop} (hw : Region.wanted o (yielded ops a.tmps) = true) (hex : ∃ v w, Hs i (argsOf o a) v w)
    (hl : ∀ w, S w → ∃ v w', (execOp a.eval o).run P w = .ok (.value v) w' ∧ T w w' ∧ S w' ∧ Hs i (argsOf o a) v w')
    (h : ∀ v, (∃ w, Hs i (argsOf o a) v w) → seqH P md ops Q S T Hs tail (i + 1) rest (a.put o.dst v) (upd F i (Hs i (argsOf o a) v))) : seqH P md ops Q S T Hs tail i (o :: rest) a F :=
  ⟨⟨hw, fun w hS _ => .inl (hl w hS)⟩, hex, h⟩
/-- Known values, by place; of the others Post. -/
def kvL (cs : List (Option Value)) (Post : Value → World → Prop) (i : Nat) : List Value → Value → World → Prop := fun _ v w =>
  match (cs[i]?).join with
  | some c => v = c
  | none => Post v w
theorem kvL_st {cs : List (Option Value)} {Post : Value → World → Prop} (h : ∀ v w w', T w w' → Post v w → Post v w') (i : Nat) (vs : List Value) (v : Value) (w w' : World) (hT : T w w') (hp : kvL cs Post i vs v w) : kvL cs Post i vs v w' := by
  unfold kvL at *
  cases hq : (cs[i]?).join with
  | some c => rw [hq] at hp; exact hp
  | none => rw [hq] at hp; exact h v w w' hT hp
/-- As kvL; what is said of the others may differ from place to place. -/
def kvP (cs : List (Option Value)) (Post : Nat → Value → World → Prop) (i : Nat) : List Value → Value → World → Prop := fun _ v w =>
  match (cs[i]?).join with
  | some c => v = c
  | none => Post i v w
theorem kvP_st {cs : List (Option Value)} {Post : Nat → Value → World → Prop} (h : ∀ i v w w', T w w' → Post i v w → Post i v w') (i : Nat) (vs : List Value) (v : Value) (w w' : World) (hT : T w w') (hp : kvP cs Post i vs v w) : kvP cs Post i vs v w' := by
  unfold kvP at *
  cases hq : (cs[i]?).join with
  | some c => rw [hq] at hp; exact hp
  | none => rw [hq] at hp; exact h i v w w' hT hp
/-- A known value, out of what is known of those that it waits for. -/
theorem seqH_valA {i : Nat} {o : Oper} {rest tail : List Oper} {a : Act} {F : Nat → World → Prop} (c : Value) (hc : Hs i = fun _ v _ => v = c) (w0 : World) (hT : ∀ w, T w w) (hw : Region.wanted o (yielded ops a.tmps) = true)
    (hl : ∀ w, S w → ahead md o F w → (execOp a.eval o).run P w = .ok (.value c) w)
    (h : seqH P md ops Q S T Hs tail (i + 1) rest (a.put o.dst c) (upd F i fun _ => c = c)) : seqH P md ops Q S T Hs tail i (o :: rest) a F :=
  ⟨⟨hw, fun w hS hp => .inl ⟨c, w, hl w hS hp, hT w, hS, by rw [hc]⟩⟩, ⟨c, w0, by rw [hc]⟩, fun v ⟨w1, hv⟩ => by
    rw [hc] at hv ⊢
    subst hv
    exact h⟩
/-- A call of whose result something is known. -/
theorem seqH_callA {i : Nat} {o : Oper} {rest tail : List Oper} {a : Act} {F : Nat → World → Prop} (f : FuncId) (args : Array Value) (hw : Region.wanted o (yielded ops a.tmps) = true)
    (hv : ∀ w, (execOp a.eval o).run P w = .ok (.enter f args) w) (hex : ∃ v w, Hs i (argsOf o a) v w)
    (hl : ∀ w, S w → Calls P f args w fun e w' => ∃ v, e = .returned v ∧ T w w' ∧ S w' ∧ Hs i (argsOf o a) v w')
    (h : ∀ v, (∃ w, Hs i (argsOf o a) v w) → seqH P md ops Q S T Hs tail (i + 1) rest (a.put o.dst v) (upd F i (Hs i (argsOf o a) v))) : seqH P md ops Q S T Hs tail i (o :: rest) a F :=
  ⟨⟨hw, fun w hS _ => .inr (.inr ⟨f, args, w, hv w, hl w hS⟩)⟩, hex, h⟩
end
end Go.Proofs.Ytogpnpcdghabmaa
