/- RlM: the texts Drh, MkJ, MaxI, RLh, RLs, Bds in one. -/
import Derived.Test.YtanihbflgolciaaDrg
import Derived.Test.YtanihbflgolciaaMkI
import Derived.Test.YtanihbflgolciaaRows
import Derived.WalkKit
import Derived.RegionTactic
import Derived.Test.YtanihbflgolciaaOrM
import Derived.Test.YtanihbflgolciaaAwk6
import Derived.Test.YtanihbflgolciaaTelA
import Derived.Test.YtanihbflgolciaaPCnt
import Derived.Test.YtanihbflgolciaaPSame
/- As Drg, for operations whose outcomes are known but for some: what is said of an operation (Hs) must be true of some outcome, and behind it the walk goes on only with outcomes of which it is true: so a known value stands in its slot at once. REUSABLE in each seat. -/
namespace Go.Proofs.Ytanihbflgolciaa
open Go.RowKit
set_option linter.unusedVariables false
section
variable {P : Program} {ops : Array Oper} {Q : Exit → Act → World → Prop} {md : Region.Mode} {S : World → Prop} {T : World → World → Prop} {Hs : Nat → List Value → Value → World → Prop}
/-- Whatever order is picked from here on, among the first n; then L. -/
def headH (P : Program) (md : Region.Mode) (ops : Array Oper) (S : World → Prop) (T : World → World → Prop) (Hs : Nat → List Value → Value → World → Prop) (n : Nat) (L : Array Bool → Act → (Nat → World → Prop) → Prop) : Nat → Array Bool → Act → (Nat → World → Prop) → Prop
  | 0, listed, a, F => L listed a F
  | fuel + 1, listed, a, F =>
    Region.ready md ops listed ≠ [] ∧
    ∀ i ∈ Region.ready md ops listed, i < n ∧ ∃ o, ops[i]? = some o ∧ Leads P ops S T o a (ahead md o F) (fun v => Hs i (argsOf o a) v) ∧
      (∃ v w, Hs i (argsOf o a) v w) ∧ ∀ v, (∃ w, Hs i (argsOf o a) v w) → headH P md ops S T Hs n L fuel (listed.setIfInBounds i true) (a.put o.dst v) (upd F i (Hs i (argsOf o a) v))
theorem headH_wp {n g : Nat} {L : Array Bool → Act → (Nat → World → Prop) → Prop} (hst : ∀ i vs v w w', T w w' → Hs i vs v w → Hs i vs v w')
    (hL : ∀ listed a F w, L listed a F → S w → (∀ j, listed.getD j false = true → F j w) → wpAny P md ops Q g listed a w) : ∀ (fuel : Nat) (listed : Array Bool) (a : Act) (F : Nat → World → Prop), headH P md ops S T Hs n L fuel listed a F →
    (∀ j w w', T w w' → F j w → F j w') → ∀ w, S w → (∀ j, listed.getD j false = true → F j w) → wpAny P md ops Q (fuel + g) listed a w
  | 0, listed, a, F, h, _, w, hS, hF => by rw [Nat.zero_add]; exact hL _ _ _ w h hS hF
  | fuel + 1, listed, a, F, h, hFs, w, hS, hF => by
    rw [show fuel + 1 + g = (fuel + g) + 1 by omega]
    refine ⟨fun h0 => absurd h0 h.1, fun i hi => ?_⟩
    obtain ⟨_, o, ho, hl, _, hn⟩ := h.2 i hi
    obtain ⟨hun, o2, ho2, hall⟩ := mem_ready.1 hi
    obtain rfl : o2 = o := by rw [ho] at ho2; exact (Option.some.inj ho2).symm
    refine hl.wpOp ho hS (fun e he hb => hF _ (hall e he hb)) fun v w' hT hS' hP => ?_
    refine headH_wp hst hL fuel _ _ _ (hn v ⟨w', hP⟩) (fun j x y hxy => ?_) w' hS' fun j hj => ?_
    · unfold upd
      by_cases hji : j = i
      · simp only [hji, if_true]; exact hst _ _ _ _ _ hxy
      · simp only [hji, if_false]; exact hFs j x y hxy
    · unfold upd
      by_cases hji : j = i
      · simp only [hji, if_true]; exact hP
      · simp only [hji, if_false]
        rw [getD_set_ne false (Ne.symm hji)] at hj
        exact hFs j w w' hT (hF j hj)
theorem headH_first {n i : Nat} {oi : Oper} {L : Array Bool → Act → (Nat → World → Prop) → Prop} (hi : ops[i]? = some oi) (hsel : ∀ (j : Nat) (o : Oper) cs b, ops[j]? = some o → o.op ≠ .select cs b)
    (hs : Region.sinkB md ops n = true) (hc : Region.chainB md ops n = true) (hn : n < ops.size) (hin : i < n)
    (hdone : ∀ listed a F, L listed a F → ∀ j ∈ Region.ready md ops listed, n ≤ j) :
    ∀ (fuel : Nat) (listed : Array Bool) (a : Act) (F : Nat → World → Prop), HeadInv md ops n listed →
      (∀ j oj, ops[j]? = some oj → j ≠ i → listed.getD j true = false → (∀ e ∈ oj.after, Region.binds md e = true → e.on ≠ i) → oi.apart ops oj = true) →
      i ∈ Region.ready md ops listed → Leads P ops S T oi a (ahead md oi F) (fun v => Hs i (argsOf oi a) v) → (∃ v w, Hs i (argsOf oi a) v w) →
      (∀ v, (∃ w, Hs i (argsOf oi a) v w) → headH P md ops S T Hs n L fuel (listed.setIfInBounds i true) (a.put oi.dst v) (upd F i (Hs i (argsOf oi a) v))) → headH P md ops S T Hs n L (fuel + 1) listed a F := by
  intro fuel
  induction fuel with
  | zero =>
    intro listed a F inv _ hr hy hex H
    obtain ⟨v0, hv0⟩ := hex
    have hun := (mem_ready.1 hr).1
    refine ⟨fun h => (by rw [h] at hr; cases hr), fun j hj => ?_⟩
    have hjn : j < n := by
      rcases Nat.lt_or_ge j n with h | h
      · exact h
      · exact absurd hj (tail_waits hs hc hn inv _ i rfl hin hun j h)
    refine ⟨hjn, ?_⟩
    by_cases hji : j = i
    · subst hji; exact ⟨oi, hi, hy, ⟨v0, hv0⟩, H⟩
    · have := hdone _ _ _ (H v0 hv0) j (ready_mono hj hji)
      omega
  | succ fuel ih =>
    intro listed a F inv hfree hr hy hex H
    obtain ⟨v0, hv0⟩ := hex
    have hun := (mem_ready.1 hr).1
    refine ⟨fun h => (by rw [h] at hr; cases hr), fun j hj => ?_⟩
    have hjn : j < n := by
      rcases Nat.lt_or_ge j n with h | h
      · exact h
      · exact absurd hj (tail_waits hs hc hn inv _ i rfl hin hun j h)
    refine ⟨hjn, ?_⟩
    by_cases hji : j = i
    · subst hji; exact ⟨oi, hi, hy, ⟨v0, hv0⟩, H⟩
    · obtain ⟨_, oj, hoj', hgj, hexj, _⟩ := (H v0 hv0).2 j (ready_mono hj hji)
      obtain ⟨hjun, oj2, hoj, hall⟩ := mem_ready.1 hj
      obtain rfl : oj2 = oj := by rw [hoj] at hoj'; exact Option.some.inj hoj'
      obtain ⟨hiun, oi2, hoi2, halli⟩ := mem_ready.1 hr
      obtain rfl : oi2 = oi := by rw [hi] at hoi2; exact (Option.some.inj hoi2).symm
      have hnj : ∀ e ∈ oj2.after, Region.binds md e = true → e.on ≠ i := fun e he hb heq => by
        have h1 := hall e he hb
        rw [heq, getD_both hun] at h1
        cases h1
      have hni : ∀ e ∈ oi2.after, Region.binds md e = true → e.on ≠ j := fun e he hb heq => by
        have h1 := halli e he hb
        rw [heq, getD_both hjun] at h1
        cases h1
      have hap := hfree j oj2 hoj hji hjun hnj
      obtain ⟨h1, h2, h3⟩ := Oper.apart_spec hap
      have eaj : ∀ v, argsOf oj2 (a.put oi2.dst v) = argsOf oj2 a := fun v => argsOf_put h1
      have eai : ∀ u, argsOf oi2 (a.put oj2.dst u) = argsOf oi2 a := fun u => argsOf_put h3
      have hgj' : Leads P ops S T oj2 a (ahead md oj2 F) (fun u => Hs j (argsOf oj2 a) u) := by
        have := hgj.of_same (a' := a) (Pre' := ahead md oj2 F) (execOp_put oj2 (fun cs b => hsel j oj2 cs b hoj) a oi2.dst v0 h1).symm (wanted_put oj2 a oi2.dst v0 h1).symm (fun w hp e he hb => by
          have := hp e he hb
          unfold upd
          rw [if_neg (hnj e he hb)]
          exact this)
        rw [eaj v0] at this
        exact this
      have hfree' : ∀ k ok, ops[k]? = some ok → k ≠ i → (listed.setIfInBounds j true).getD k true = false →
          (∀ e ∈ ok.after, Region.binds md e = true → e.on ≠ i) → oi2.apart ops ok = true := fun k ok hk hki hun hno => by
        refine hfree k ok hk hki ?_ hno
        by_cases hjk : j = k
        · subst hjk; exact hjun
        · rw [getD_set_ne true hjk] at hun; exact hun
      refine ⟨oj2, hoj, hgj', (by rw [eaj v0] at hexj; exact hexj), fun u hu => ih (listed.setIfInBounds j true) (a.put oj2.dst u) _ (inv.set hj hjn) hfree' (ready_mono hr (Ne.symm hji)) ?_ ⟨v0, by rw [eai u]; exact hv0⟩ fun v hv => ?_⟩
      · have := hy.of_same (a' := a.put oj2.dst u) (Pre' := ahead md oi2 (upd F j (Hs j (argsOf oj2 a) u))) (execOp_put oi2 (fun cs b => hsel i oi2 cs b hi) a oj2.dst u h3) (wanted_put oi2 a oj2.dst u h3) (fun w hp e he hb => by
          have := hp e he hb
          unfold upd at this
          rw [if_neg (hni e he hb)] at this
          exact this)
        rw [eai u]
        exact this
      · rw [eai u] at hv
        obtain ⟨_, oj3, hoj3, _, _, hn⟩ := (H v hv).2 j (ready_mono hj hji)
        obtain rfl : oj3 = oj2 := by rw [hoj] at hoj3; exact (Option.some.inj hoj3).symm
        have := hn u (by rw [eaj v]; exact hu)
        rw [eaj v] at this
        rw [Array.setIfInBounds_comm _ _ hji, Act.put_comm a u v (fun d hd e => h2 d e hd), eai u, upd_comm F hji]
        exact this

/-- The first operations one behind the other; then the others. -/
def seqH (P : Program) (md : Region.Mode) (ops : Array Oper) (Q : Exit → Act → World → Prop) (S : World → Prop) (T : World → World → Prop) (Hs : Nat → List Value → Value → World → Prop) (tail : List Oper) : Nat → List Oper → Act → (Nat → World → Prop) → Prop
  | n, [], a, F => ∀ w, S w → (∀ j, j < n → F j w) → wpList P ops Q tail a w
  | i, o :: rest, a, F => Leads P ops S T o a (ahead md o F) (fun v => Hs i (argsOf o a) v) ∧ (∃ v w, Hs i (argsOf o a) v w) ∧ ∀ v, (∃ w, Hs i (argsOf o a) v w) → seqH P md ops Q S T Hs tail (i + 1) rest (a.put o.dst v) (upd F i (Hs i (argsOf o a) v))
theorem headH_of_seq {n g : Nat} {tail : List Oper} (hsel : Region.noSelect ops = true) (hs : Region.sinkB md ops n = true) (hc : Region.chainB md ops n = true) (hn : n < ops.size) :
    ∀ (l : List Oper) (k : Nat) (listed : Array Bool) (a : Act) (F : Nat → World → Prop), (∀ j, j < l.length → l[j]? = ops[k + j]?) → k + l.length = n → HeadInv md ops n listed →
    (∀ j, j < k → listed.getD j false = true) → Region.lexHead md ops g l.length k listed = true → seqH P md ops Q S T Hs tail k l a F →
    headH P md ops S T Hs n (fun listed' a' F' => Region.seqB md ops g n listed' = true ∧ ∀ w, S w → (∀ j, listed'.getD j false = true → F' j w) → wpList P ops Q tail a' w) l.length listed a F
  | [], k, listed, a, F, _, hk, _, hli, hB, h => by
    have : k = n := by simpa using hk
    subst this
    exact ⟨by simpa [Region.lexHead] using hB, fun w hS hF => h w hS fun j hj => hF j (hli j hj)⟩
  | o :: l, k, listed, a, F, hl, hk, inv, hli, hB, h => by
    have h0 : ops[k]? = some o := by simpa using (hl 0 (by simp)).symm
    simp only [List.length_cons, Region.lexHead, Bool.and_eq_true] at hB
    obtain ⟨⟨hr, hf⟩, hB'⟩ := hB
    have hkn : k < n := by simp only [List.length_cons] at hk; omega
    have hr' : k ∈ Region.ready md ops listed := by simpa using hr
    refine headH_first h0 (Region.noSelect_spec hsel) hs hc hn hkn (fun listed' a' F' hL => seqB_ready hL.1) l.length listed a F inv (Region.free_spec h0 hf) hr' h.1 h.2.1 fun v hv => ?_
    refine headH_of_seq hsel hs hc hn l (k + 1) _ _ _ (fun j hj => by have := hl (j + 1) (by simp; omega); simpa [Nat.add_assoc, Nat.add_comm 1 j] using this) (by simp only [List.length_cons] at hk; omega) (inv.set hr' hkn) (fun j hj => ?_) hB' (h.2.2 v hv)
    by_cases hjk : j = k
    · subst hjk
      have h2 : j < listed.size := by rw [inv.size]; omega
      simp [Array.getD_eq_getD_getElem?, h2]
    · rw [getD_set_ne false (Ne.symm hjk)]
      exact hli j (by omega)

/-- **A region that draws its order, whose first n operations may make memory, and whose others stand in one order behind them: by one walk.** S: what is known of the world all the while. T: what an operation may do to what the others made. -/
theorem wp_region_seqH {id : Nat} {l : List Oper} {a : Act} {w : World} (n : Nat) (S : World → Prop) (T : World → World → Prop) (Hs : Nat → List Value → Value → World → Prop) (hm : P.follows .mixedOrders = true) (hB : Region.lexTailB .any l.toArray n = true)
    (hst : ∀ i vs v w w', T w w' → Hs i vs v w → Hs i vs v w')
    (hS : S w.drew) (h : seqH P .any l.toArray Q S T Hs (l.drop n) 0 (l.take n) a fun _ _ => True) : (Code.region id l.toArray true).wp P Q a w := by
  simp only [Region.lexTailB, Bool.and_eq_true, decide_eq_true_eq] at hB
  obtain ⟨⟨⟨⟨hsel, hn⟩, hs⟩, hc⟩, hlex⟩ := hB
  have hn' : n < l.length := by simpa using hn
  have htl : (l.take n).length = n := by simp; omega
  have hdl : (l.drop n).length = l.toArray.size - n := by simp
  have inv0 : HeadInv .any l.toArray n (Array.replicate l.toArray.size false) :=
    ⟨by simp, fun j oj _ hl => (by rw [getD_replicate_false] at hl; cases hl), fun t _ ht => getD_in (by simpa using ht) (getD_replicate_false _ _)⟩
  have H := headH_of_seq (md := .any) (Q := Q) (g := l.toArray.size - n) hsel hs hc hn (l.take n) 0 _ a (fun _ _ => True) (fun j hj => by
    have hj' : j < n := by rw [htl] at hj; exact hj
    simp [hj']) (by simpa using htl) inv0 (fun j hj => absurd hj (Nat.not_lt_zero _)) (by rw [htl]; exact hlex) h
  refine wp_region_any hm ?_
  have := headH_wp (Q := Q) (g := l.toArray.size - n) hst (fun listed a' F w' hL hS' hF => by
    have := wpAny_of_seq (md := .any) (Q' := Q) (l.drop n) n listed a' w' (fun j => by simp [List.getElem?_drop]) (by rw [hdl]; exact hL.1) (hL.2 w' hS' hF)
    rwa [hdl] at this) _ _ _ _ H (fun _ _ _ _ h => h) _ hS (fun _ _ => trivial)
  rw [htl, show n + (l.toArray.size - n) = l.toArray.size by omega] at this
  exact this

theorem seqH_nil {n : Nat} {tail : List Oper} {a : Act} {F : Nat → World → Prop} (h : ∀ w, S w → (∀ j, j < n → F j w) → wpList P ops Q tail a w) : seqH P md ops Q S T Hs tail n [] a F := h
/-- An operation whose value is known, and that leaves the world alone. -/
theorem seqH_val {i : Nat} {o : Oper} {rest tail : List Oper} {a : Act} {F : Nat → World → Prop} (c : Value) (hc : Hs i = fun _ v _ => v = c) (w0 : World) (hT : ∀ w, T w w) (hw : Region.wanted o (yielded ops a.tmps) = true)
    (hl : ∀ w, S w → (execOp a.eval o).run P w = .ok (.value c) w)
    (h : seqH P md ops Q S T Hs tail (i + 1) rest (a.put o.dst c) (upd F i fun _ => c = c)) : seqH P md ops Q S T Hs tail i (o :: rest) a F :=
  ⟨⟨hw, fun w hS _ => .inl ⟨c, w, hl w hS, hT w, hS, by rw [hc]⟩⟩, ⟨c, w0, by rw [hc]⟩, fun v ⟨w1, hv⟩ => by
    rw [hc] at hv ⊢
    subst hv
    exact h⟩
/-- A call whose result is known. -/
theorem seqH_call {i : Nat} {o : Oper} {rest tail : List Oper} {a : Act} {F : Nat → World → Prop} (c : Value) (hc : Hs i = fun _ v _ => v = c) (w0 : World) (f : FuncId) (args : Array Value) (hw : Region.wanted o (yielded ops a.tmps) = true)
    (hv : ∀ w, (execOp a.eval o).run P w = .ok (.enter f args) w)
    (hl : ∀ w, S w → Calls P f args w fun e w' => e = .returned c ∧ T w w' ∧ S w')
    (h : seqH P md ops Q S T Hs tail (i + 1) rest (a.put o.dst c) (upd F i fun _ => c = c)) : seqH P md ops Q S T Hs tail i (o :: rest) a F :=
  ⟨⟨hw, fun w hS _ => .inr (.inr ⟨f, args, w, hv w, (hl w hS).mono fun e w' he => ⟨c, he.1, he.2.1, he.2.2, by rw [hc]⟩⟩)⟩, ⟨c, w0, by rw [hc]⟩, fun v ⟨w1, hv⟩ => by
    rw [hc] at hv ⊢
    subst hv
    exact h⟩
/-- An operation of whose value something is known. -/
theorem seqH_any {i : Nat} {o : Oper} {rest tail : List Oper} {a : Act} {F : Nat → World → Prop} (hw : Region.wanted o (yielded ops a.tmps) = true) (hex : ∃ v w, Hs i (argsOf o a) v w)
    (hl : ∀ w, S w → ∃ v w', (execOp a.eval o).run P w = .ok (.value v) w' ∧ T w w' ∧ S w' ∧ Hs i (argsOf o a) v w')
    (h : ∀ v, (∃ w, Hs i (argsOf o a) v w) → seqH P md ops Q S T Hs tail (i + 1) rest (a.put o.dst v) (upd F i (Hs i (argsOf o a) v))) : seqH P md ops Q S T Hs tail i (o :: rest) a F :=
  ⟨⟨hw, fun w hS _ => .inl (hl w hS)⟩, hex, h⟩
/-- Known values, by place; of the others Post. -/
def kvL (cs : List (Option Value)) (Post : Value → World → Prop) (i : Nat) : List Value → Value → World → Prop := fun _ v w =>
  match (cs[i]?).join with
  | some c => v = c
  | none => Post v w
theorem kvL_st {cs : List (Option Value)} {Post : Value → World → Prop} (h : ∀ v w w', T w w' → Post v w → Post v w') (i : Nat) (vs : List Value) (v : Value) (w w' : World) (hT : T w w') (hp : kvL cs Post i vs v w) : kvL cs Post i vs v w' := by
  unfold kvL at *
  cases hq : (cs[i]?).join with
  | some c => rw [hq] at hp; exact hp
  | none => rw [hq] at hp; exact h v w w' hT hp
/-- As kvL; what is said of the others may differ from place to place. -/
def kvP (cs : List (Option Value)) (Post : Nat → Value → World → Prop) (i : Nat) : List Value → Value → World → Prop := fun _ v w =>
  match (cs[i]?).join with
  | some c => v = c
  | none => Post i v w
theorem kvP_st {cs : List (Option Value)} {Post : Nat → Value → World → Prop} (h : ∀ i v w w', T w w' → Post i v w → Post i v w') (i : Nat) (vs : List Value) (v : Value) (w w' : World) (hT : T w w') (hp : kvP cs Post i vs v w) : kvP cs Post i vs v w' := by
  unfold kvP at *
  cases hq : (cs[i]?).join with
  | some c => rw [hq] at hp; exact hp
  | none => rw [hq] at hp; exact h i v w w' hT hp
/-- A known value, out of what is known of those that it waits for. -/
theorem seqH_valA {i : Nat} {o : Oper} {rest tail : List Oper} {a : Act} {F : Nat → World → Prop} (c : Value) (hc : Hs i = fun _ v _ => v = c) (w0 : World) (hT : ∀ w, T w w) (hw : Region.wanted o (yielded ops a.tmps) = true)
    (hl : ∀ w, S w → ahead md o F w → (execOp a.eval o).run P w = .ok (.value c) w)
    (h : seqH P md ops Q S T Hs tail (i + 1) rest (a.put o.dst c) (upd F i fun _ => c = c)) : seqH P md ops Q S T Hs tail i (o :: rest) a F :=
  ⟨⟨hw, fun w hS hp => .inl ⟨c, w, hl w hS hp, hT w, hS, by rw [hc]⟩⟩, ⟨c, w0, by rw [hc]⟩, fun v ⟨w1, hv⟩ => by
    rw [hc] at hv ⊢
    subst hv
    exact h⟩
/-- A call of whose result something is known. -/
theorem seqH_callA {i : Nat} {o : Oper} {rest tail : List Oper} {a : Act} {F : Nat → World → Prop} (f : FuncId) (args : Array Value) (hw : Region.wanted o (yielded ops a.tmps) = true)
    (hv : ∀ w, (execOp a.eval o).run P w = .ok (.enter f args) w) (hex : ∃ v w, Hs i (argsOf o a) v w)
    (hl : ∀ w, S w → Calls P f args w fun e w' => ∃ v, e = .returned v ∧ T w w' ∧ S w' ∧ Hs i (argsOf o a) v w')
    (h : ∀ v, (∃ w, Hs i (argsOf o a) v w) → seqH P md ops Q S T Hs tail (i + 1) rest (a.put o.dst v) (upd F i (Hs i (argsOf o a) v))) : seqH P md ops Q S T Hs tail i (o :: rest) a F :=
  ⟨⟨hw, fun w hS _ => .inr (.inr ⟨f, args, w, hv w, hl w hS⟩)⟩, hex, h⟩
end
end Go.Proofs.Ytanihbflgolciaa
/- make([]int, n), as a run. -/
namespace Go.Proofs.Ytanihbflgolciaa
open Go.RowKit Go.Lib
set_option linter.unusedVariables false
set_option maxRecDepth 100000
theorem run_makeI (w : World) (n : Nat) (x : Int) (hx : x = (n : Int)) (hn : n ≤ 1000000) :
    ∃ w', (Instr.makeSlice 23 (.int .i64 x) (.int .i64 x)).run Try.prog w = .ok (.slice (some ⟨w.heap.size, 0, none⟩) n n) w' ∧ BI w' w.heap.size (List.replicate n 0) ∧ w.grownBy w' none := by
  subst hx
  obtain ⟨i0, hi, hz0, hz1, hz2⟩ := info_parts Try.info3
  obtain ⟨w', hr, ho, hgr⟩ := run_make_full (P := Try.prog) w w.heap.size 23 3 i0 _ 1 Try.underlying23 hi hz0 hz1 .i64 .i64 n (by rw [hz2]; omega) (by unfold maxLen; omega) (Nat.le_refl _)
  refine ⟨w', hr, ?_, hgr⟩
  rcases ho.2 with ⟨h, _⟩ | ⟨g, cap, cur, hv, hb, hh, h1, h2, h3, h4⟩
  · cases h
  · injection hv with hv1 _ hv3
    injection hv1 with hv1
    injection hv1 with hv1
    subst hv1 hv3
    show w'.heap[w.heap.size]? = _
    rw [hh]
    congr 2
    apply Array.ext'
    rw [List.take_of_length_le (by rw [Array.length_toList, h3]; exact Nat.le_refl _)] at h4
    rw [h4]
    rw [Nat.mul_one, show (Value.int IntKind.i64 0).cells = #[Value.int IntKind.i64 0] from rfl, toList_madeCells_one]
    simp [ia, iv, List.map_replicate]
theorem make_valI {o : Oper} {a : Act} {x : Operand} {v : Int} {n : Nat} (ho : o.op = .makeSlice 23 x x) (hx : a.eval x = .int .i64 v) (hv : v = (n : Int)) (hn : n ≤ 1000000) (w : World) :
    ∃ w', (execOp a.eval o).run Try.prog w = .ok (.value (.slice (some ⟨w.heap.size, 0, none⟩) n n)) w' ∧ BI w' w.heap.size (List.replicate n 0) ∧ Below w.heap.size w w' := by
  obtain ⟨w', hr, h1, h2⟩ := run_makeI w n v hv hn
  refine ⟨w', ?_, h1, (Below.refl _ _).grown h2 (Nat.le_refl _) (by rintro k ⟨⟩)⟩
  unfold execOp
  simp only [ho, hx, Sem.run_bind, hr, Result.andThen_ok, Sem.run_pure]
end Go.Proofs.Ytanihbflgolciaa
/- max(a, b) of ints in a plain region, as one value. REUSABLE in each seat. -/
namespace Go.Proofs.Ytanihbflgolciaa
open Go.RowKit
set_option linter.unusedVariables false
theorem run_maxI (w : World) (ts : Array TypeId) (T : TypeId) (a b : Int) : (Builtin.max_ ts T #[.int .i64 a, .int .i64 b]).run Try.prog w = .ok (.int .i64 (max a b)) w := by
  have h : (if b > a then b else a) = max a b := by
    by_cases hb : b > a
    · rw [if_pos hb]; omega
    · rw [if_neg hb]; omega
  simp [Builtin.max_, Builtin.max2]
  exact h
theorem wpList_maxI (w : World) {ops : Array Oper} {rest : List Oper} {o : Oper} {a : Act} {Q : Exit → Act → World → Prop} (hgd : o.guard = none) (x y : Operand)
    (ho : o.op = .call { callee := .builtin .max, args := #[x, y], argTypes := #[3, 3] }) (m n : Int) (hx : a.eval x = .int .i64 m) (hy : a.eval y = .int .i64 n)
    (h : wpList Try.prog ops Q rest (a.put o.dst (.int .i64 (max m n))) w) : wpList Try.prog ops Q (o :: rest) a w := by
  refine wpList_plain hgd fun K hK => ?_
  have hr := run_maxI w #[3, 3] o.type m n
  unfold Oper.wp
  simp [execOp, ho, resolve, invoke, builtin, hx, hy, hr, Result.andThen]
  exact hK _ _ h
theorem run_minI (w : World) (ts : Array TypeId) (T : TypeId) (a b k : Int) (hk : min a b = k) : (Builtin.min_ ts T #[.int .i64 a, .int .i64 b]).run Try.prog w = .ok (.int .i64 k) w := by
  have h : (if b < a then b else a) = k := by
    by_cases hb : b < a
    · rw [if_pos hb]; omega
    · rw [if_neg hb]; omega
  simp [Builtin.min_, Builtin.min2]
  exact h
theorem wpList_minI (w : World) {ops : Array Oper} {rest : List Oper} {o : Oper} {a : Act} {Q : Exit → Act → World → Prop} (hgd : o.guard = none) (x y : Operand)
    (ho : o.op = .call { callee := .builtin .min, args := #[x, y], argTypes := #[3, 3] }) (m n k : Int) (hx : a.eval x = .int .i64 m) (hy : a.eval y = .int .i64 n) (hk : min m n = k)
    (h : wpList Try.prog ops Q rest (a.put o.dst (.int .i64 k)) w) : wpList Try.prog ops Q (o :: rest) a w := by
  refine wpList_plain hgd fun K hK => ?_
  have hr := run_minI w #[3, 3] o.type m n k hk
  unfold Oper.wp
  simp [execOp, ho, resolve, invoke, builtin, hx, hy, hr, Result.andThen]
  exact hK _ _ h
end Go.Proofs.Ytanihbflgolciaa
/- The document's Least: what stands in memory between its loops. -/
namespace Go.Proofs.Ytanihbflgolciaa
open Go.RowKit Go.Lib
set_option linter.unusedVariables false
set_option maxRecDepth 100000
/-- The rows of a level, from the symbol i0 on, in a row r. -/
def RX (w : World) (gb r n : Nat) (ws : List Nat) (lv i0 : Nat) (X : List Value) : Prop :=
  X.length = n + 1 ∧ ∀ i, i0 ≤ i → i ≤ n → ∃ (q : Nat) (ql : List Int), X[i]? = some (.slice (some ⟨q, 0, none⟩) (n + 3) (n + 3)) ∧ BI w q ql ∧ q ≠ gb ∧ q ≠ r ∧ ql.length = n + 3 ∧ ∀ F, F ≤ n + 2 → ql.getD F 0 = bI ws lv i F
theorem RX.chg {S : Nat → Prop} {w w' : World} {gb r n lv i0 : Nat} {ws : List Nat} {X : List Value} (h : RX w gb r n ws lv i0 X) (hc : Chg S w w') (hS : ∀ k, S k → k = gb ∨ k = r ∨ w.heap.size ≤ k) : RX w' gb r n ws lv i0 X := by
  refine ⟨h.1, fun i h1 h2 => ?_⟩
  obtain ⟨q, ql, e1, e2, e3, e4, e5, e6⟩ := h.2 i h1 h2
  refine ⟨q, ql, e1, e2.chg hc fun hq => ?_, e3, e4, e5, e6⟩
  have := e2.blk.lt
  rcases hS q hq with e | e | e <;> omega
/-- A level that is done. -/
def RowV (w : World) (gb n : Nat) (ws : List Nat) (lv : Nat) (v : Value) : Prop :=
  ∃ (r : Nat) (X : List Value), v = .slice (some ⟨r, 0, none⟩) (n + 1) (n + 1) ∧ BV w r X ∧ r ≠ gb ∧ RX w gb r n ws lv 0 X
theorem RowV.chg {S : Nat → Prop} {w w' : World} {gb n lv : Nat} {ws : List Nat} {v : Value} (h : RowV w gb n ws lv v) (hc : Chg S w w') (hS : ∀ k, S k → k = gb ∨ w.heap.size ≤ k) : RowV w' gb n ws lv v := by
  obtain ⟨r, X, e1, e2, e3, e4⟩ := h
  refine ⟨r, X, e1, e2.chg hc fun hr => ?_, e3, e4.chg hc fun k hk => ?_⟩
  · have := e2.blk.lt
    rcases hS r hr with e | e <;> omega
  · rcases hS k hk with e | e
    · exact .inl e
    · exact .inr (.inr e)
/-- Between the levels: lv is the next one. -/
structure Ls (w : World) (gb n : Nat) (ws : List Nat) (lv : Nat) (G : List Value) (wr : World) : Prop where
  len : G.length = 17
  blk : Blk wr gb G.toArray
  row : lv < 16 → ∃ v, G[lv + 1]? = some v ∧ RowV wr gb n ws (lv + 1) v
  be : Below gb w wr
/-- What lies below a block stays. -/
theorem Ri.under {B : Nat} {w w' : World} {A : Option Addr} {l : List Int} (h : Ri w A l) (hb : Below B w w') (hA : ∀ b o s, A = some ⟨b, o, s⟩ → b < B) : Ri w' A l := by
  rcases h with h | ⟨b, o, hA', hc⟩
  · exact .inl h
  · exact .inr ⟨b, o, hA', fun i hi => by rw [hb.cell (p := ⟨b, o + i, none⟩) (hA b o none hA')]; exact hc i hi⟩
theorem Ri.lt {w : World} {A : Option Addr} {l : List Int} (h : Ri w A l) (h0 : 0 < l.length) : ∃ b o, A = some ⟨b, o, none⟩ ∧ b < w.heap.size := by
  rcases h with h | ⟨b, o, hA, hc⟩
  · rw [h] at h0; simp at h0
  · exact ⟨b, o, hA, World.block_lt_of_cell? w _ (hc 0 h0)⟩
theorem infoL : (Try.prog.info? 62).map (fun i => i.zero) = some (some (.agg (List.replicate 17 (Value.slice none 0 0)).toArray)) := by kernel_rfl
theorem Ri.at0 {w : World} {b o : Nat} {l : List Int} (h : Ri w (some ⟨b, o, none⟩) l) {i : Nat} (hi : i < l.length) : w.cell? ⟨b, o + i, none⟩ = some (.int .i64 (l.getD i 0)) := by
  rcases h with h | ⟨b', o', hA, hc⟩
  · rw [h] at hi; simp at hi
  · injection hA with hA
    injection hA with h1 h2
    subst h1 h2
    exact hc i hi
/-- A new row of ints. -/
def NewQ (w : World) (n : Nat) (v : Value) (W : World) : Prop := ∃ q, v = .slice (some ⟨q, 0, none⟩) n n ∧ BI W q (List.replicate n 0) ∧ w.heap.size ≤ q
theorem NewQ.st {w : World} {n : Nat} {v : Value} {W W' : World} (hT : Below W.heap.size W W') (h : NewQ w n v W) : NewQ w n v W' := by
  obtain ⟨q, h1, h2, h3⟩ := h
  exact ⟨q, h1, h2.chg (Chg.of_below (S := fun _ => False) hT) fun e => e, h3⟩
theorem newQ_ex (w : World) (n : Nat) : ∃ v W, NewQ w n v W := ⟨_, w.alloc (.cells (ia (List.replicate n 0)) 3), w.heap.size, rfl, heap_alloc_new w _, Nat.le_refl _⟩
theorem newQ_of {w W : World} {o : Oper} {a : Act} {x : Operand} {v : Int} {n : Nat} (hS : Below w.heap.size w W) (ho : o.op = .makeSlice 23 x x) (hx : a.eval x = .int .i64 v) (hv : v = (n : Int)) (hn : n ≤ 1000000) :
    ∃ v' W', (execOp a.eval o).run Try.prog W = .ok (.value v') W' ∧ Below W.heap.size W W' ∧ Below w.heap.size w W' ∧ NewQ w n v' W' := by
  obtain ⟨W', h1, h2, h3⟩ := make_valI ho hx hv hn W
  exact ⟨_, W', h1, h3, hS.trans (h3.mono hS.size), W.heap.size, rfl, h2, hS.size⟩
/-- A level is done. -/
theorem level_done {w3 wo w5 wm : World} {gb r n l : Nat} {ws : List Nat} {G X : List Value} (HL : Ls w3 gb n ws (l + 1) G wo) (HC5 : Chg (fun k => k = gb) wo w5) (hgb : gb < wo.heap.size) (hr : r = wo.heap.size)
    (HB5 : Blk w5 gb (G.set (l + 1) (.slice (some ⟨r, 0, none⟩) (n + 1) (n + 1))).toArray) (HCm : Chg (fun k => k = r) w5 wm) (HX : BV wm r X) (HRX : RX wm gb r n ws (l + 1) 0 X) (hl : l + 1 ≤ 16) :
    Ls w3 gb n ws l (G.set (l + 1) (.slice (some ⟨r, 0, none⟩) (n + 1) (n + 1))) wm := by
  refine ⟨by rw [List.length_set]; exact HL.len, HB5.chg HCm (by omega), fun _ => ⟨_, List.getElem?_set_self (by rw [HL.len]; omega), r, X, rfl, HX, by omega, HRX⟩, ?_⟩
  have h5 := HL.be
  have h6 : Below gb w3 w5 := ⟨HC5.os.trans h5.os, HC5.tape.trans h5.tape, HC5.output.trans h5.output, Nat.le_trans h5.size HC5.size, fun k hk => (HC5.block k (by omega) (by omega)).trans (h5.block k hk)⟩
  exact ⟨HCm.os.trans h6.os, HCm.tape.trans h6.tape, HCm.output.trans h6.output, Nat.le_trans h6.size HCm.size, fun k hk => (HCm.block k (by have := HC5.size; omega) (by omega)).trans (h6.block k hk)⟩
/-- What the innermost loop reads, beside its own row. -/
structure Inn (w3 : World) (gb r q n : Nat) (ws : List Nat) (lv i : Nat) (W : World) : Prop where
  bel : Below gb w3 W
  c1 : W.cell? ⟨gb, lv, none⟩ = some (.slice (some ⟨r, 0, none⟩) (n + 1) (n + 1))
  c2 : W.cell? ⟨r, i, none⟩ = some (.slice (some ⟨q, 0, none⟩) (n + 3) (n + 3))
  nx : i < n → ∃ q1, W.cell? ⟨r, i + 1, none⟩ = some (.slice (some ⟨q1, 0, none⟩) (n + 3) (n + 3)) ∧ ∀ F, F ≤ n + 2 → W.cell? ⟨q1, F, none⟩ = some (.int .i64 (bI ws lv (i + 1) F))
  up : lv < 16 → ∃ r2 q2, W.cell? ⟨gb, lv + 1, none⟩ = some (.slice (some ⟨r2, 0, none⟩) (n + 1) (n + 1)) ∧ W.cell? ⟨r2, i, none⟩ = some (.slice (some ⟨q2, 0, none⟩) (n + 3) (n + 3)) ∧ ∀ F, F ≤ n + 2 → W.cell? ⟨q2, F, none⟩ = some (.int .i64 (bI ws (lv + 1) i F))
section
variable {w3 wo w5 wm W wn Wf : World} {gb r q n l i : Nat} {ws : List Nat} {G X : List Value} {u : Value}
theorem inner_chg (hS : Below wm.heap.size wm W) (hq2 : wm.heap.size ≤ q) (hwn : wn = W.setCell ⟨r, i, none⟩ u) (hC : Chg (fun k => k = q) wn Wf) : Chg (fun k => k = r ∨ wm.heap.size ≤ k) wm Wf := by
  have h1 : Chg (fun k => k = r ∨ wm.heap.size ≤ k) wm W := Chg.of_below hS
  have h2 : Chg (fun k => k = r ∨ wm.heap.size ≤ k) wm wn := by
    rw [hwn]
    exact h1.setCell (p := ⟨r, i, none⟩) (.inl (.inl rfl)) u
  exact h2.trans hC fun k hk e => .inr (by omega)
theorem inner_bv (hS : Below wm.heap.size wm W) (hwn : wn = W.setCell ⟨r, i, none⟩ u) (hC : Chg (fun k => k = q) wn Wf) (HX : BV wm r X) (hrq : r ≠ q) : BV Wf r (X.set i u) := by
  have h1 : BV W r X := HX.chg (Chg.of_below (S := fun _ => False) hS) fun e => e
  have h2 : BV wn r (X.set i u) := by rw [hwn]; exact h1.set i u
  exact h2.chg hC hrq
theorem inner_any (HL : Ls w3 gb n ws (l + 1) G wo) (HC5 : Chg (fun k => k = gb) wo w5) (hgb : gb < wo.heap.size) (hr : r = wo.heap.size)
    (HB5 : Blk w5 gb (G.set (l + 1) (.slice (some ⟨r, 0, none⟩) (n + 1) (n + 1))).toArray) (hr5 : r < w5.heap.size) (HX : BV wm r X) (HRX : RX wm gb r n ws (l + 1) (i + 1) X) (HCm : Chg (fun k => k = r) w5 wm)
    (hS : Below wm.heap.size wm W) (hq2 : wm.heap.size ≤ q) (hi : i ≤ n) (hl : l + 1 ≤ 16) (hwn : wn = W.setCell ⟨r, i, none⟩ (.slice (some ⟨q, 0, none⟩) (n + 3) (n + 3))) (hC : Chg (fun k => k = q) wn Wf) : Inn w3 gb r q n ws (l + 1) i Wf := by
  have hz := HCm.size
  have hz5 := HC5.size
  have HM := inner_chg hS hq2 hwn hC
  have HXf := inner_bv hS hwn hC HX (by omega)
  have HRf := HRX.chg HM (fun k hk => by rcases hk with e | e; exact .inr (.inl e); exact .inr (.inr e))
  have hgm : gb < wm.heap.size := by omega
  have hng : ¬ (gb = r ∨ wm.heap.size ≤ gb) := by omega
  have HBf : Blk Wf gb (G.set (l + 1) (.slice (some ⟨r, 0, none⟩) (n + 1) (n + 1))).toArray := (HB5.chg HCm (by omega)).chg HM hng
  have hXl : X.length = n + 1 := HRX.1
  refine ⟨?_, ?_, ?_, fun hin => ?_, fun hlv => ?_⟩
  · have h5 := HL.be
    have h6 : Below gb w3 w5 := ⟨HC5.os.trans h5.os, HC5.tape.trans h5.tape, HC5.output.trans h5.output, Nat.le_trans h5.size HC5.size, fun k hk => (HC5.block k (by omega) (by omega)).trans (h5.block k hk)⟩
    have h7 : Below gb w3 wm := ⟨HCm.os.trans h6.os, HCm.tape.trans h6.tape, HCm.output.trans h6.output, Nat.le_trans h6.size HCm.size, fun k hk => (HCm.block k (by omega) (by omega)).trans (h6.block k hk)⟩
    exact ⟨HM.os.trans h7.os, HM.tape.trans h7.tape, HM.output.trans h7.output, Nat.le_trans h7.size HM.size, fun k hk => (HM.block k (by omega) (by omega)).trans (h7.block k hk)⟩
  · exact HBf.cell (j := l + 1) (by
      simp only [List.getElem?_toArray]
      rw [List.getElem?_set_self (by rw [HL.len]; omega)])
  · exact HXf.blk.cell (j := i) (by
      simp only [List.getElem?_toArray]
      rw [List.getElem?_set_self (by omega)])
  · obtain ⟨q1, ql1, e1, e2, _, _, e5, e6⟩ := HRf.2 (i + 1) (Nat.le_refl _) (by omega)
    refine ⟨q1, HXf.blk.cell (j := i + 1) (by
      simp only [List.getElem?_toArray]
      rw [List.getElem?_set_ne (by omega)]
      exact e1), fun F hF => ?_⟩
    have := e2.blk.cell (ia_at (l := ql1) (j := F) (by omega))
    rwa [e6 F hF] at this
  · obtain ⟨v, hv, hrow⟩ := HL.row hlv
    have hoc : Chg (fun k => k = gb ∨ wo.heap.size ≤ k) wo Wf := by
      have a1 : Chg (fun k => k = gb ∨ wo.heap.size ≤ k) wo w5 := HC5.mono fun k _ e => .inl e
      have a2 : Chg (fun k => k = gb ∨ wo.heap.size ≤ k) wo wm := a1.trans HCm fun k hk e => .inr (by omega)
      exact a2.trans HM fun k hk e => by rcases e with e | e; exact .inr (by omega); omega
    obtain ⟨r2, X2, rfl, hX2, _, hRX2⟩ := hrow.chg hoc fun k hk => hk
    obtain ⟨q2, ql2, e1, e2, _, _, e5, e6⟩ := hRX2.2 i (Nat.zero_le _) hi
    refine ⟨r2, q2, HBf.cell (j := l + 1 + 1) (by
      simp only [List.getElem?_toArray]
      rw [List.getElem?_set_ne (by omega)]
      exact hv), hX2.blk.cell (j := i) (by simpa using e1), fun F hF => ?_⟩
    have := e2.blk.cell (ia_at (l := ql2) (j := F) (by omega))
    rwa [e6 F hF] at this
/-- A symbol is done. -/
theorem inner_done (hgb : gb < wm.heap.size) (HX : BV wm r X) (HRX : RX wm gb r n ws (l + 1) (i + 1) X) (HCm : Chg (fun k => k = r) w5 wm) (hr5 : r < w5.heap.size)
    (hS : Below wm.heap.size wm W) (hq2 : wm.heap.size ≤ q) (hi : i ≤ n) (hwn : wn = W.setCell ⟨r, i, none⟩ (.slice (some ⟨q, 0, none⟩) (n + 3) (n + 3))) (hC : Chg (fun k => k = q) wn Wf)
    {ql : List Int} (hQ : BI Wf q ql) (hql : ql.length = n + 3) (hv : ∀ F, F ≤ n + 2 → ql.getD F 0 = bI ws (l + 1) i F) :
    BV Wf r (X.set i (.slice (some ⟨q, 0, none⟩) (n + 3) (n + 3))) ∧ RX Wf gb r n ws (l + 1) i (X.set i (.slice (some ⟨q, 0, none⟩) (n + 3) (n + 3))) ∧ Chg (fun k => k = r) w5 Wf := by
  have hz := HCm.size
  have HM := inner_chg hS hq2 hwn hC
  have HRf := HRX.chg HM (fun k hk => by rcases hk with e | e; exact .inr (.inl e); exact .inr (.inr e))
  refine ⟨inner_bv hS hwn hC HX (by omega), ⟨by rw [List.length_set]; exact HRX.1, fun j h1 h2 => ?_⟩, HCm.trans HM fun k hk e => by rcases e with e | e; exact e; omega⟩
  by_cases hj : j = i
  · subst hj
    exact ⟨q, ql, List.getElem?_set_self (by rw [HRX.1]; omega), hQ, by omega, by omega, hql, hv⟩
  · obtain ⟨q1, ql1, e1, e2, e3, e4, e5, e6⟩ := HRf.2 j (by omega) h2
    exact ⟨q1, ql1, by rw [List.getElem?_set_ne (by omega)]; exact e1, e2, e3, e4, e5, e6⟩
end
/-- The innermost loop: F places are reckoned. -/
structure InnR (wn : World) (q n : Nat) (ws : List Nat) (lv i F : Nat) (ql : List Int) (W : World) : Prop where
  row : BI W q ql
  len : ql.length = n + 3
  val : ∀ j, j < F → ql.getD j 0 = bI ws lv i j
  chg : Chg (fun k => k = q) wn W
theorem innR_next {wn wf : World} {q n lv i F : Nat} {ws : List Nat} {ql : List Int} {x : Int} (hq : BI wf q ql) (hl : ql.length = n + 3) (hv : ∀ j, j < F → ql.getD j 0 = bI ws lv i j) (hc : Chg (fun k => k = q) wn wf) (hF : F < n + 3) (hx : x = bI ws lv i F) (k : Nat) :
    InnR wn q n ws lv i (F + 1) (ql.set F x) ((wf.drewN k).setCell ⟨q, F, none⟩ (.int .i64 x)) := by
  have hq' : BI (wf.drewN k) q ql := hq
  refine ⟨hq'.set F x, by rw [List.length_set]; exact hl, fun j hj => ?_, (hc.drewN k).setCell (p := ⟨q, F, none⟩) (.inl rfl) _⟩
  rw [List.getD_eq_getElem?_getD]
  by_cases e : j = F
  · subst e
    rw [List.getElem?_set_self (by omega)]
    exact hx
  · rw [List.getElem?_set_ne (by omega), ← List.getD_eq_getElem?_getD]
    exact hv j (by omega)
theorem innR_next0 {wn wf : World} {q n lv i F : Nat} {ws : List Nat} {ql : List Int} {x : Int} (hq : BI wf q ql) (hl : ql.length = n + 3) (hv : ∀ j, j < F → ql.getD j 0 = bI ws lv i j) (hc : Chg (fun k => k = q) wn wf) (hF : F < n + 3) (hx : x = bI ws lv i F) :
    InnR wn q n ws lv i (F + 1) (ql.set F x) (wf.setCell ⟨q, F, none⟩ (.int .i64 x)) := by
  refine ⟨hq.set F x, by rw [List.length_set]; exact hl, (innR_next hq hl hv hc hF hx 0).val, hc.setCell (p := ⟨q, F, none⟩) (.inl rfl) _⟩
section
variable {ws : List Nat} {n l i F : Nat} {H y p : Int}
theorem here_1 (h : ¬ 2 ≤ F) : hereI ws (l + 1) i F = -1 := by unfold hereI; rw [if_neg fun k => h k.1]
theorem here_2 (hp : bI ws (l + 1) (i + 1) (F - 1) = p) (h : p < 0) : hereI ws (l + 1) i F = -1 := by unfold hereI; rw [hp, if_neg fun k => by omega]
theorem here_3 (h2 : 2 ≤ F) (hp : bI ws (l + 1) (i + 1) (F - 1) = p) (h : 0 ≤ p) : hereI ws (l + 1) i F = p + ((ws.getD i 0 : Nat) : Int) * ((l : Int) + 1) := by
  unfold hereI
  rw [hp, if_pos ⟨h2, h⟩]
  push_cast
  rfl
theorem way_last (h16 : l + 1 = 16) (hi : i < ws.length) (hH : hereI ws (l + 1) i F = H) : H = bI ws (l + 1) i F := by
  rw [← hH, h16, bI_last F hi]
theorem way_up (h16 : l + 1 < 16) (hi : i < ws.length) (hn : ws.length = n) (hH : hereI ws (l + 1) i F = H) (hy : bI ws (l + 1 + 1) i (min (2 * F) (n + 2)) = y) (h : 0 ≤ y ∧ (H < 0 ∨ y < H)) : y = bI ws (l + 1) i F := by
  rw [bI_step F h16 hi, hn, hy, hH, if_pos h]
theorem way_here (h16 : l + 1 < 16) (hi : i < ws.length) (hn : ws.length = n) (hH : hereI ws (l + 1) i F = H) (hy : bI ws (l + 1 + 1) i (min (2 * F) (n + 2)) = y) (h : ¬ (0 ≤ y ∧ (H < 0 ∨ y < H))) : H = bI ws (l + 1) i F := by
  rw [bI_step F h16 hi, hn, hy, hH, if_neg h]
theorem wt_bnd {M wt l : Nat} (h : wt ≤ 1099511627776) (hl : l + 1 ≤ 16) : 0 ≤ (wt : Int) * ((l : Int) + 1) ∧ (wt : Int) * ((l : Int) + 1) ≤ 17592186044416 := by
  have h1 : wt * (l + 1) ≤ 1099511627776 * 16 := Nat.mul_le_mul h hl
  have h2 : ((wt * (l + 1) : Nat) : Int) = (wt : Int) * ((l : Int) + 1) := by push_cast; rfl
  constructor <;> omega
end
theorem getD_mem' {l : List Nat} {k : Nat} (h : k < l.length) : l.getD k 0 ∈ l := by
  rw [List.getD_eq_getElem?_getD, List.getElem?_eq_getElem h]
  exact List.getElem_mem h
end Go.Proofs.Ytanihbflgolciaa
/- Contract of the document's Least (written by tools/gen_rls.py). -/
namespace Go.Proofs.Ytanihbflgolciaa
open Go.RowKit Go.Lib
set_option linter.unusedVariables false
set_option maxRecDepth 100000
set_option maxHeartbeats 64000000 in
theorem rLeast_any (t : List Int) (A : Option Addr) (c n : Nat) (w : World) (hr : Ri w A t) (hc : cntB t = true) (hn : n = (ordL t t.length).length) (hn1 : 1 ≤ n) (hn2 : n ≤ 20) :
    Calls Try.prog 21 #[.slice A t.length c] w fun e w' => e = .returned (.int .i64 (bI (wL (talS t)) 1 0 2)) ∧ Below w.heap.size w w' := by
  have htl := cntB_len hc
  have ht0 : 0 < t.length := by
    rcases Nat.eq_zero_or_pos t.length with h | h
    · have h2 : ordL t t.length = [] := by rw [h]; rfl
      rw [h2] at hn
      simp at hn
      omega
    · exact h
  obtain ⟨bt0, ot0, rfl, hbt⟩ := hr.lt ht0
  have HR := Lib.hid hr
  have HBT := Lib.hid hbt
  have HO := Lib.hid (rOrd_any t (some ⟨bt0, ot0, none⟩) c w hr (by omega))
  have HAT : Hid (∀ i, i < n → ∃ s : Nat, (ordL t t.length).getD i 0 = (s : Int) ∧ s < t.length ∧ t.getD s 0 = (((wL (talS t)).getD i 0 : Nat) : Int)) := fun i hi => ord_at hc (by have := ord_len hc; rw [wL_len] at this; omega)
  have HWL : Hid ((wL (talS t)).length = n) := by show _ = _; rw [hn, ord_len hc]
  have HRG : Hid (∀ lv i F, -1 ≤ bI (wL (talS t)) lv i F ∧ bI (wL (talS t)) lv i F ≤ 5277655813324800) := bI_rng (wL_le t) (by rw [HWL.out]; omega)
  have HMX := Lib.hid (wL_le t)
  generalize wL (talS t) = ws at *
  have HN := Lib.hid hn
  have hON : 0 < (ordL t t.length).length := by omega
  generalize ordL t t.length = O at *
  clear hr hn hc
  obtain ⟨Z, hZ⟩ : ∃ Z, Z = (List.replicate 17 (Value.slice none 0 0)).toArray := ⟨_, rfl⟩
  have HZ : Hid ((Try.prog.info? 62).map (fun i => i.zero) = some (some (.agg Z))) := by show _ = _; rw [hZ]; exact infoL
  have HZE := Lib.hid hZ
  clear hZ
  go_enter Try.func21, Try.ntmps21
  go_wp2_with (first
    | (go_at_call 19
       refine HO.out.mono ?_
       rintro e w2 ⟨v, rfl, hO, hb2⟩
       obtain ⟨Ao, co, rfl, _, _, hro, hbo, _⟩ := hO.open
       obtain ⟨bo0, oo0, rfl, hbo0⟩ := hro.lt hON
       have HRO := Lib.hid hro
       have HBO := Lib.hid hbo0
       have HB2 := Lib.hid hb2
       have HR2 := Lib.hid (HR.out.below hb2)
       rw [← HN.out]
       clear hO hro hbo hb2 hbo0)
    | (with_reducible refine wpList_allocZ _ rfl 62 rfl Z HZ.out ?_))
  have HL0 : Hid (Ls (w2.alloc (.cells Z 62)) w2.heap.size n ws 16 (List.replicate 17 (.slice none 0 0)) (w2.alloc (.cells Z 62))) := ⟨by simp, by rw [HZE.out]; exact Blk.new _ _ _, fun h => absurd h (by omega), ⟨rfl, rfl, rfl, Nat.le_refl _, fun _ _ => rfl⟩⟩
  have HR3 : Hid (Ri (w2.alloc (.cells Z 62)) (some ⟨bt0, ot0, none⟩) t) := HR2.out.below ((Below.refl _ _).alloc (Nat.le_refl _) _)
  have HO3 : Hid (Ri (w2.alloc (.cells Z 62)) (some ⟨bo0, oo0, none⟩) O) := HRO.out.below ((Below.refl _ _).alloc (Nat.le_refl _) _)
  have HBB : Hid (Below w.heap.size w (w2.alloc (.cells Z 62)) ∧ w.heap.size ≤ w2.heap.size ∧ bt0 < w2.heap.size ∧ bo0 < w2.heap.size) := ⟨HB2.out.alloc HB2.out.size _, HB2.out.size, Nat.lt_of_lt_of_le HBT.out HB2.out.size, HBO.out⟩
  clear HB2 HRO HR2 HO HZ HZE HR HBO HBT
  generalize w2.alloc (.cells Z 62) = w3 at *
  generalize w2.heap.size = gb at *
  clear w2 Z hON
  have HCT : Hid (∀ W, Below gb w3 W → ∀ i, i < n → ∃ s : Nat, s < t.length ∧ i < O.length ∧ W.cell? ⟨bo0, oo0 + i, none⟩ = some (.int .i64 (s : Int)) ∧ W.cell? ⟨bt0, ot0 + s, none⟩ = some (.int .i64 ((ws.getD i 0 : Nat) : Int))) := by
    intro W hW i hi
    obtain ⟨s, h1, h2, h3⟩ := HAT.out i hi
    have hO := HO3.out.under hW (fun b o s e => by injection e with e; injection e with e; subst e; exact HBB.out.2.2.2)
    have hR := HR3.out.under hW (fun b o s e => by injection e with e; injection e with e; subst e; exact HBB.out.2.2.1)
    have hiO : i < O.length := by rw [← HN.out]; exact hi
    have k1 := hO.at0 hiO
    have k2 := hR.at0 h2
    rw [h1] at k1
    rw [h3] at k2
    exact ⟨s, h2, hiO, k1, k2⟩
  clear HR3 HO3 HAT
  go_loopw [6] (fun v wr => ∃ (lv : Nat) (G : List Value), lv ≤ 16 ∧ v = .int .i64 lv ∧ Hid (Ls w3 gb n ws lv G wr)) (fun v _ => (RowKit.intOf v).toNat)
  case atStart => exact ⟨16, _, Nat.le_refl _, rfl, HL0⟩
  case round =>
    clear HL0
    rename World => wo
    obtain ⟨lv, G, hlv, rfl, HL⟩ := hrel
    cases lv with
    | zero =>
      obtain ⟨v1, hv1, r, X, rfl, hX, hrg, hRX⟩ := HL.out.row (by omega)
      obtain ⟨q, ql, hq1, hq2, _, _, hq5, hq6⟩ := hRX.2 0 (Nat.le_refl _) (Nat.zero_le _)
      have c1 := HL.out.blk.cell (j := 1) (by simpa using hv1)
      have c2 := hX.blk.cell (j := 0) (by simpa using hq1)
      have c3 := hq2.blk.cell (ia_at (l := ql) (j := 2) (by omega))
      rw [hq6 2 (by omega)] at c3
      have HBE := Lib.hid (HBB.out.1.trans (HL.out.be.mono HBB.out.2.1))
      clear hv1 hX hrg hRX hq1 hq2 hq5 hq6 HL
      obtain ⟨res, hres⟩ : ∃ res, res = bI ws 1 0 2 := ⟨_, rfl⟩
      rw [← hres] at c3
      have HRS := Lib.hid hres
      clear hres
      go_wp2
      go_ret
      exact ⟨by rw [← HRS.out]; rfl, HBE.out⟩
    | succ l =>
      have hl0 : l + 1 ≤ 16 := hlv
      have hgl : l + 1 < G.length := by rw [HL.out.len]; omega
      obtain ⟨u, hu⟩ : ∃ u, G[l + 1]? = some u := ⟨_, List.getElem?_eq_getElem hgl⟩
      have c1 := HL.out.blk.cell (j := l + 1) (by simpa using hu)
      have f1 := HL.out.blk.frozen (l + 1)
      have HGB := Lib.hid HL.out.blk.lt
      have k1 : (1 : Int) ≤ ((l + 1 : Nat) : Int) := by omega
      have k2 : ((l + 1 : Nat) : Int) < 17 := by omega
      clear hgl hu
      go_wp2_with (first
        | ((with_reducible refine wpList_makeS _ rfl (.tmp 21) (.tmp 21) rfl (n + 1) ((n : Int) + 1) ((n : Int) + 1) rfl rfl (by omega) (by omega) (by omega) ?_)
           intro w4 hb4 hg4
           have hC4 : Chg (fun _ => False) wo w4 := ⟨hg4.os, hg4.tape, hg4.output, hg4.size, fun k hk _ => hg4.block k hk (by simp)⟩
           have HC4 := Lib.hid hC4
           have HX4 := Lib.hid hb4
           have e1 := hC4.cellv c1 (fun e => e)
           have e2 : w4.frozen? ⟨gb, l + 1, none⟩ = false := (hC4.frozen HGB.out (fun e => e)).trans f1
           clear hb4 hg4 hC4))
      obtain ⟨w5, hw5⟩ : ∃ w5, w5 = w4.setCell ⟨gb, l + 1, none⟩ (.slice (some ⟨wo.heap.size, 0, none⟩) (n + 1) (n + 1)) := ⟨_, rfl⟩
      rw [← hw5]
      obtain ⟨r, hrr⟩ : ∃ r, r = wo.heap.size := ⟨_, rfl⟩
      have HRE := Lib.hid hrr
      rw [← hrr] at hw5 HX4 ⊢
      have HB5 : Hid (Blk w5 gb (G.set (l + 1) (.slice (some ⟨r, 0, none⟩) (n + 1) (n + 1))).toArray) := by
        show Blk _ _ _
        rw [hw5, ← List.setIfInBounds_toArray]
        exact (HL.out.blk.chg HC4.out fun e => e).set (l + 1) _
      have HC5 : Hid (Chg (fun k => k = gb) wo w5) := by
        show Chg _ _ _
        rw [hw5]
        exact (HC4.out.mono (S' := fun k => k = gb) fun i _ e => e.elim).setCell (p := ⟨gb, l + 1, none⟩) (.inl rfl) _
      have HX5 : Hid (BV w5 r (List.replicate (n + 1) (.slice none 0 0))) := by
        show BV _ _ _
        rw [hw5]
        exact HX4.out.chg ((Chg.refl (fun k => k = gb) w4).setCell (p := ⟨gb, l + 1, none⟩) (.inl rfl) _) fun e => by have := HGB.out; omega
      have HR5 : Hid (r < w5.heap.size) := HX5.out.blk.lt
      clear hw5 HC4 HX4 e1 e2 c1 f1 hrr
      go_loopw [7] (fun v wr => ∃ (m : Nat) (z : Int) (X : List Value), m ≤ n + 1 ∧ v = .int .i64 z ∧ z = (m : Int) - 1 ∧ Hid (BV wr r X) ∧ Hid (RX wr gb r n ws (l + 1) m X) ∧ Hid (Chg (fun k => k = r) w5 wr)) (fun v _ => (RowKit.intOf v + 1).toNat)
      case atStart => exact ⟨n + 1, n, _, Nat.le_refl _, rfl, by omega, HX5, (show Hid _ from ⟨by simp, fun i h1 h2 => absurd h1 (by omega)⟩), Chg.refl _ _⟩
      case round =>
        clear HX5
        rename World => wm
        obtain ⟨m, z, X, hm, rfl, hz, HX, HRX, HCm⟩ := hrel
        cases m with
        | zero =>
          have hz0 : ¬ (0 : Int) ≤ z := by omega
          have HNX : Hid (Ls w3 gb n ws l (G.set (l + 1) (.slice (some ⟨r, 0, none⟩) (n + 1) (n + 1))) wm) := level_done HL.out HC5.out HGB.out HRE.out HB5.out HCm.out HX.out HRX.out (by omega)
          clear hz
          go_wp2
          go_roundw
          case rel => exact ⟨l, _, by omega, by go_num, HNX⟩
          case measure => simp [RowKit.intOf]
        | succ i =>
          obtain rfl : z = (i : Int) := by omega
          have g1 : wm.cell? ⟨gb, l + 1, none⟩ = some (.slice (some ⟨r, 0, none⟩) (n + 1) (n + 1)) := HCm.out.cellv (HB5.out.cell (j := l + 1) (by
            simp only [List.getElem?_toArray]
            rw [List.getElem?_set_self (by rw [HL.out.len]; omega)])) (by show ¬ gb = r; have := HGB.out; have := HRE.out; omega)
          have HG1 := Lib.hid g1
          clear hz g1
          have hi1 : i < n + 1 := by omega
          obtain ⟨u, hu⟩ : ∃ u, X[i]? = some u := ⟨_, List.getElem?_eq_getElem (by rw [HRX.out.1]; omega)⟩
          have HU := Lib.hid hu
          have hw3 : IntKind.i64.wrap ((n : Int) + 3) = (n : Int) + 3 := IntWalk.i64_in _ (by omega)
          have hi2 : (i : Int) < (n : Int) + 1 := by omega
          have k3 : 0 ≤ ((l + 1 : Nat) : Int) := by omega
          clear hu
          go_wp2
          refine wp_region_seqH 8 (fun W => Below wm.heap.size wm W) (fun W W' => Below W.heap.size W W') (kvL [some (.int .i64 ((l + 1 : Nat) : Int)), some (.pointer (some ⟨gb, l + 1, none⟩)), some (.slice (some ⟨r, 0, none⟩) (n + 1) (n + 1)), some (.int .i64 (i : Int)), some (.int .i64 (n : Int)), some (.int .i64 ((n : Int) + 3)), none, some (.pointer (some ⟨r, i, none⟩))] (NewQ wm (n + 3)))
            (by kernel_rfl) (by kernel_rfl) (kvL_st fun _ _ _ hT h => NewQ.st hT h) ((Below.refl _ _).drew) ?_
          simp only [List.take_succ_cons, List.take_zero, List.drop_succ_cons, List.drop_zero]
          repeat (
            first
              | (refine seqH_val _ rfl wm (fun _ => Below.refl _ _) (by rfl) ?_ ?_
                 focus (intro W hS; have e0 := cell_later hS HG1.out; go_simp; (try with_reducible rfl); done))
              | (refine seqH_any (by rfl) (newQ_ex wm (n + 3)) (fun W hS => newQ_of hS rfl rfl (by omega) (by omega)) ?_
                 intro x hx
                 obtain ⟨_, q, hxq, -⟩ := hx
                 subst hxq)
            simp only [Act.put, List.setIfInBounds_toArray, List.set_cons_zero, List.set_cons_succ])
          refine seqH_nil fun W hS hF => ?_
          obtain ⟨q', hqq, hq1, hq2⟩ : NewQ wm (n + 3) (.slice (some ⟨q, 0, none⟩) (n + 3) (n + 3)) W := hF 6 (by omega)
          injection hqq with hqq
          injection hqq with hqq
          injection hqq with hqq
          subst hqq
          have e1 := cell_later hS (HX.out.blk.cell (j := i) (by simpa using HU.out))
          have e2 : W.frozen? ⟨r, i, none⟩ = false := (hS.frozen (HX.out.blk.lt)).trans (HX.out.blk.frozen i)
          have HSW := Lib.hid hS
          have HQ1 := Lib.hid hq1
          have HQ2 := Lib.hid hq2
          clear hF hS hq1 hq2 hw3
          go_wp2
          obtain ⟨wn, hwn⟩ : ∃ wn, wn = W.setCell ⟨r, i, none⟩ (.slice (some ⟨q, 0, none⟩) (n + 3) (n + 3)) := ⟨_, rfl⟩
          rw [← hwn]
          have HGM : Hid (gb < wm.heap.size) := by show _ < _; have := HGB.out; have := HC5.out.size; have := HCm.out.size; omega
          have hrq : q ≠ r := by have := HR5.out; have := HCm.out.size; have := HQ2.out; omega
          have HIN : Hid (∀ Wf, Chg (fun k => k = q) wn Wf → Inn w3 gb r q n ws (l + 1) i Wf) := fun Wf hC => inner_any HL.out HC5.out HGB.out HRE.out HB5.out HR5.out HX.out HRX.out HCm.out HSW.out HQ2.out (by omega) hl0 hwn hC
          have HDN : Hid (∀ Wf, Chg (fun k => k = q) wn Wf → ∀ ql, BI Wf q ql → ql.length = n + 3 → (∀ F, F ≤ n + 2 → ql.getD F 0 = bI ws (l + 1) i F) → BV Wf r (X.set i (.slice (some ⟨q, 0, none⟩) (n + 3) (n + 3))) ∧ RX Wf gb r n ws (l + 1) i (X.set i (.slice (some ⟨q, 0, none⟩) (n + 3) (n + 3))) ∧ Chg (fun k => k = r) w5 Wf) := fun Wf hC ql a1 a2 a3 => inner_done HGM.out HX.out HRX.out HCm.out HR5.out HSW.out HQ2.out (by omega) hwn hC a1 a2 a3
          have HQN : Hid (BI wn q (List.replicate (n + 3) 0)) := by
            show BI _ _ _
            rw [hwn]
            exact HQ1.out.chg ((Chg.refl (fun k => k = r) W).setCell (p := ⟨r, i, none⟩) (.inl rfl) _) hrq
          clear hwn HQ1 HSW HX HRX HG1 e1 e2 HU hrq HCm HQ2
          go_loopw [8] (fun v wr => ∃ (F : Nat) (ql : List Int), F ≤ n + 3 ∧ v = .int .i64 F ∧ Hid (InnR wn q n ws (l + 1) i F ql wr)) (fun v _ => n + 3 - (RowKit.intOf v).toNat)
          case atStart => exact ⟨0, _, Nat.zero_le _, rfl, (show Hid _ from ⟨HQN.out, by simp, fun j h => absurd h (Nat.not_lt_zero _), Chg.refl _ _⟩)⟩
          case round =>
            clear HQN
            rename World => wf
            obtain ⟨F, ql, hF, rfl, HIR⟩ := hrel
            by_cases hlt : F < n + 3
            · have IN := HIN.out wf HIR.out.chg
              have HUP := Lib.hid IN.up
              have HNE := Lib.hid IN.nx
              have HBE := Lib.hid IN.bel
              have c1 := IN.c1
              have c2 := IN.c2
              have fq := HIR.out.row.blk.frozen F
              have cq := HIR.out.row.blk.cell (j := F) (ia_at (by rw [HIR.out.len]; exact hlt))
              have HNX : Hid (∀ (k : Nat) (x : Int), x = bI ws (l + 1) i F → InnR wn q n ws (l + 1) i (F + 1) (ql.set F x) ((wf.drewN k).setCell ⟨q, F, none⟩ (.int .i64 x)) ∧ InnR wn q n ws (l + 1) i (F + 1) (ql.set F x) (wf.setCell ⟨q, F, none⟩ (.int .i64 x))) := fun k x hx => ⟨innR_next HIR.out.row HIR.out.len HIR.out.val HIR.out.chg hlt hx k, innR_next0 HIR.out.row HIR.out.len HIR.out.val HIR.out.chg hlt hx⟩
              generalize ql.getD F 0 = old at *
              obtain ⟨res, hres⟩ : ∃ res, res = bI ws (l + 1) i F := ⟨_, rfl⟩
              have HRS := Lib.hid hres
              clear IN hres HIN HDN HIR
              have hlt2 : (F : Int) < (n : Int) + 3 := by omega
              by_cases hin : i < n
              · have hbi : ((i : Int) == (n : Int)) = false := by rw [beq_eq_false_iff_ne]; omega
                have hbn : (i == n) = false := by rw [beq_eq_false_iff_ne]; omega
                have hiw : i < ws.length := by rw [HWL.out]; exact hin
                have HIW := Lib.hid hiw
                obtain ⟨q1, n1, nv⟩ := HNE.out hin
                have HNV := Lib.hid nv
                have HN1 := Lib.hid n1
                have hin2 : (i : Int) + 1 < (n : Int) + 1 := by omega
                clear hiw n1 nv HNE
                by_cases h2 : 2 ≤ F
                · have pb := HRG.out (l + 1) (i + 1) (F - 1)
                  have pc := HNV.out (F - 1) (by omega)
                  obtain ⟨p, hp⟩ : ∃ p, bI ws (l + 1) (i + 1) (F - 1) = p := ⟨_, rfl⟩
                  obtain ⟨f1, hf⟩ : ∃ f1 : Nat, f1 = F - 1 := ⟨_, rfl⟩
                  have HP := Lib.hid hp
                  rw [hp] at pb pc
                  rw [← hf] at pc
                  have hf1 : (F : Int) - 1 = (f1 : Int) := by omega
                  have hf2 : (f1 : Int) < (n : Int) + 3 := by omega
                  have n1 := HN1.out
                  clear hp hf
                  by_cases hp0 : 0 ≤ p
                  · obtain ⟨s, hs1, hs2, o1, o2⟩ := HCT.out wf HBE.out i hin
                    have HH := here_3 h2 HP.out hp0
                    have hwt : ws.getD i 0 ≤ 1099511627776 := HMX.out _ (getD_mem' HIW.out)
                    have hmb := wt_bnd (M := 0) hwt hl0
                    generalize ws.getD i 0 = wt at *
                    generalize hmm : (wt : Int) * ((l : Int) + 1) = mm at *
                    have HHH := Lib.hid HH
                    have x1 : IntKind.i64.wrap mm = mm := IntWalk.i64_in _ (by omega)
                    have x2 : IntKind.i64.wrap (p + mm) = p + mm := IntWalk.i64_in _ (by omega)
                    have x3 : IntKind.i64.wrap ((i : Int) + 1) = (i : Int) + 1 := IntWalk.i64_in _ (by omega)
                    have x4 : IntKind.i64.wrap (f1 : Int) = (f1 : Int) := IntWalk.i64_in _ (by omega)
                    have x5 : ((i : Int) + 1).toNat = i + 1 := by omega
                    have x6 : 0 ≤ (i : Int) + 1 := by omega
                    have hsO : (s : Int) < (t.length : Int) := by omega
                    have hiO : (i : Int) < (n : Int) := by omega
                    clear HH
                    by_cases h16 : l + 1 < 16
                    · obtain ⟨r2, q2, u1, u2, u3⟩ := HUP.out h16
                      obtain ⟨M, hM⟩ : ∃ M, M = min (2 * F) (n + 2) := ⟨_, rfl⟩
                      have u4 := u3 (min (2 * F) (n + 2)) (Nat.min_le_right _ _)
                      have HM : Hid (min (2 * (F : Int)) ((n : Int) + 2) = (M : Int)) := by show _ = _; omega
                      have hM2 : (M : Int) < (n : Int) + 3 := by omega
                      obtain ⟨y, hy⟩ : ∃ y, bI ws (l + 1 + 1) i (min (2 * F) (n + 2)) = y := ⟨_, rfl⟩
                      have yb := HRG.out (l + 1 + 1) i (min (2 * F) (n + 2))
                      have HY := Lib.hid hy
                      rw [hy] at u4 yb
                      rw [← hM] at u4
                      have h16i : (l : Int) + 1 < 16 := by omega
                      have h17 : (l : Int) + 1 + 1 < 17 := by omega
                      clear hM hy u3
                      by_cases hy0 : 0 ≤ y
                      · by_cases hyh : y < p + mm
                        · have hv := way_up h16 HIW.out HWL.out HHH.out HY.out ⟨hy0, .inr hyh⟩
                          have HVL := Lib.hid hv
                          clear hv
                          go_wp2
                          go_quiet (fail)
                          go_wp2_with (first | ((with_reducible refine wpList_minI _ rfl (.tmp 107) (.tmp 109) rfl (2 * (F : Int)) ((n : Int) + 2) (M : Int) rfl rfl HM.out ?_)))
                          go_roundw
                          case rel => exact ⟨F + 1, _, by omega, by go_num, (HNX.out _ _ HVL.out).1⟩
                          case measure => simp [RowKit.intOf]; omega
                        · have hv := way_here h16 HIW.out HWL.out HHH.out HY.out (by omega)
                          have HVL := Lib.hid hv
                          clear hv
                          go_wp2
                          go_quiet (fail)
                          go_wp2_with (first | ((with_reducible refine wpList_minI _ rfl (.tmp 107) (.tmp 109) rfl (2 * (F : Int)) ((n : Int) + 2) (M : Int) rfl rfl HM.out ?_)))
                          go_roundw
                          case rel => exact ⟨F + 1, _, by omega, by go_num, (HNX.out _ _ HVL.out).1⟩
                          case measure => simp [RowKit.intOf]; omega
                      · have hv := way_here h16 HIW.out HWL.out HHH.out HY.out (by omega)
                        have HVL := Lib.hid hv
                        clear hv
                        go_wp2
                        go_quiet (fail)
                        go_wp2_with (first | ((with_reducible refine wpList_minI _ rfl (.tmp 107) (.tmp 109) rfl (2 * (F : Int)) ((n : Int) + 2) (M : Int) rfl rfl HM.out ?_)))
                        go_roundw
                        case rel => exact ⟨F + 1, _, by omega, by go_num, (HNX.out _ _ HVL.out).1⟩
                        case measure => simp [RowKit.intOf]; omega
                    · have h16e : l + 1 = 16 := by omega
                      have h16i : ¬ (l : Int) + 1 < 16 := by omega
                      have hv := way_last h16e HIW.out HHH.out
                      have HVL := Lib.hid hv
                      clear hv h16e
                      go_wp2
                      go_quiet (fail)
                      go_wp2
                      go_roundw
                      case rel => exact ⟨F + 1, _, by omega, by go_num, (HNX.out _ _ HVL.out).1⟩
                      case measure => simp [RowKit.intOf]; omega
                  · have HHH := Lib.hid (here_2 HP.out (show p < 0 by omega))
                    by_cases h16 : l + 1 < 16
                    · obtain ⟨r2, q2, u1, u2, u3⟩ := HUP.out h16
                      obtain ⟨M, hM⟩ : ∃ M, M = min (2 * F) (n + 2) := ⟨_, rfl⟩
                      have u4 := u3 (min (2 * F) (n + 2)) (Nat.min_le_right _ _)
                      have HM : Hid (min (2 * (F : Int)) ((n : Int) + 2) = (M : Int)) := by show _ = _; omega
                      have hM2 : (M : Int) < (n : Int) + 3 := by omega
                      obtain ⟨y, hy⟩ : ∃ y, bI ws (l + 1 + 1) i (min (2 * F) (n + 2)) = y := ⟨_, rfl⟩
                      have yb := HRG.out (l + 1 + 1) i (min (2 * F) (n + 2))
                      have HY := Lib.hid hy
                      rw [hy] at u4 yb
                      rw [← hM] at u4
                      have h16i : (l : Int) + 1 < 16 := by omega
                      have h17 : (l : Int) + 1 + 1 < 17 := by omega
                      clear hM hy u3
                      by_cases hy0 : 0 ≤ y
                      · have hv := way_up h16 HIW.out HWL.out HHH.out HY.out ⟨hy0, .inl (by decide)⟩
                        have HVL := Lib.hid hv
                        clear hv
                        go_wp2_with (first | ((with_reducible refine wpList_minI _ rfl (.tmp 107) (.tmp 109) rfl (2 * (F : Int)) ((n : Int) + 2) (M : Int) rfl rfl HM.out ?_)))
                        go_roundw
                        case rel => exact ⟨F + 1, _, by omega, by go_num, (HNX.out 0 _ HVL.out).2⟩
                        case measure => simp [RowKit.intOf]; omega
                      · have hv := way_here h16 HIW.out HWL.out HHH.out HY.out (by omega)
                        have HVL := Lib.hid hv
                        clear hv
                        go_wp2_with (first | ((with_reducible refine wpList_minI _ rfl (.tmp 107) (.tmp 109) rfl (2 * (F : Int)) ((n : Int) + 2) (M : Int) rfl rfl HM.out ?_)))
                        go_roundw
                        case rel => exact ⟨F + 1, _, by omega, by go_num, (HNX.out 0 _ HVL.out).2⟩
                        case measure => simp [RowKit.intOf]; omega
                    · have h16e : l + 1 = 16 := by omega
                      have h16i : ¬ (l : Int) + 1 < 16 := by omega
                      have hv := way_last h16e HIW.out HHH.out
                      have HVL := Lib.hid hv
                      clear hv h16e
                      go_wp2
                      go_roundw
                      case rel => exact ⟨F + 1, _, by omega, by go_num, (HNX.out 0 _ HVL.out).2⟩
                      case measure => simp [RowKit.intOf]; omega
                · have HHH := Lib.hid (here_1 (ws := ws) (l := l) (i := i) h2)
                  by_cases h16 : l + 1 < 16
                  · obtain ⟨r2, q2, u1, u2, u3⟩ := HUP.out h16
                    obtain ⟨M, hM⟩ : ∃ M, M = min (2 * F) (n + 2) := ⟨_, rfl⟩
                    have u4 := u3 (min (2 * F) (n + 2)) (Nat.min_le_right _ _)
                    have HM : Hid (min (2 * (F : Int)) ((n : Int) + 2) = (M : Int)) := by show _ = _; omega
                    have hM2 : (M : Int) < (n : Int) + 3 := by omega
                    obtain ⟨y, hy⟩ : ∃ y, bI ws (l + 1 + 1) i (min (2 * F) (n + 2)) = y := ⟨_, rfl⟩
                    have yb := HRG.out (l + 1 + 1) i (min (2 * F) (n + 2))
                    have HY := Lib.hid hy
                    rw [hy] at u4 yb
                    rw [← hM] at u4
                    have h16i : (l : Int) + 1 < 16 := by omega
                    have h17 : (l : Int) + 1 + 1 < 17 := by omega
                    clear hM hy u3
                    by_cases hy0 : 0 ≤ y
                    · have hv := way_up h16 HIW.out HWL.out HHH.out HY.out ⟨hy0, .inl (by decide)⟩
                      have HVL := Lib.hid hv
                      clear hv
                      go_wp2_with (first | ((with_reducible refine wpList_minI _ rfl (.tmp 107) (.tmp 109) rfl (2 * (F : Int)) ((n : Int) + 2) (M : Int) rfl rfl HM.out ?_)))
                      go_roundw
                      case rel => exact ⟨F + 1, _, by omega, by go_num, (HNX.out 0 _ HVL.out).2⟩
                      case measure => simp [RowKit.intOf]; omega
                    · have hv := way_here h16 HIW.out HWL.out HHH.out HY.out (by omega)
                      have HVL := Lib.hid hv
                      clear hv
                      go_wp2_with (first | ((with_reducible refine wpList_minI _ rfl (.tmp 107) (.tmp 109) rfl (2 * (F : Int)) ((n : Int) + 2) (M : Int) rfl rfl HM.out ?_)))
                      go_roundw
                      case rel => exact ⟨F + 1, _, by omega, by go_num, (HNX.out 0 _ HVL.out).2⟩
                      case measure => simp [RowKit.intOf]; omega
                  · have h16e : l + 1 = 16 := by omega
                    have h16i : ¬ (l : Int) + 1 < 16 := by omega
                    have hv := way_last h16e HIW.out HHH.out
                    have HVL := Lib.hid hv
                    clear hv h16e
                    go_wp2
                    go_roundw
                    case rel => exact ⟨F + 1, _, by omega, by go_num, (HNX.out 0 _ HVL.out).2⟩
                    case measure => simp [RowKit.intOf]; omega
              · have hbi : ((i : Int) == (n : Int)) = true := by rw [beq_iff_eq]; omega
                have hbn : (i == n) = true := by rw [beq_iff_eq]; omega
                have hei : i = ws.length := by rw [HWL.out]; omega
                have HEI := Lib.hid hei
                clear hei HNE HUP
                by_cases h1 : 1 ≤ F
                · have HVL : Hid ((0 : Int) = bI ws (l + 1) i F) := by show _ = _; rw [HEI.out, bI_end, if_pos h1]
                  go_wp2
                  go_roundw
                  case rel => exact ⟨F + 1, _, by omega, by go_num, (HNX.out 0 _ HVL.out).2⟩
                  case measure => simp [RowKit.intOf]; omega
                · have HVL : Hid ((-1 : Int) = bI ws (l + 1) i F) := by show _ = _; rw [HEI.out, bI_end, if_neg h1]
                  go_wp2
                  go_roundw
                  case rel => exact ⟨F + 1, _, by omega, by go_num, (HNX.out 0 _ HVL.out).2⟩
                  case measure => simp [RowKit.intOf]; omega
            · obtain rfl : F = n + 3 := by omega
              obtain ⟨d1, d2, d3⟩ := HDN.out wf HIR.out.chg ql HIR.out.row HIR.out.len fun F hF => HIR.out.val F (by omega)
              have D1 := Lib.hid d1
              have D2 := Lib.hid d2
              have D3 := Lib.hid d3
              clear d1 d2 d3 HIN HDN HIR
              go_wp2
              go_roundw
              case rel => exact ⟨i, (i : Int) - 1, _, by omega, rfl, rfl, D1, D2, D3⟩
              case measure => simp [RowKit.intOf]
end Go.Proofs.Ytanihbflgolciaa
/- The walk of PrefixBuilds. -/
namespace Go.Proofs.Ytanihbflgolciaa
open Go.RowKit Go.Lib
set_option linter.unusedVariables false
set_option maxRecDepth 100000
/-- What Build leaves, whether it refuses or not. -/
def BdP (t cs l : List Int) (er : Int) : Prop :=
  (cntB t = true ∧ ordL t t.length ≠ [] ∧ er = 0 ∧ l = ordL t t.length ∧ mayB cs l = true ∧ costB cs l t = bI (wL (talS t)) 1 0 2) ∨ ((cntB t = false ∨ ordL t t.length = []) ∧ er = 1 ∧ cs = zeroL 16 ∧ l = [])
theorem fBuild_uni (t : List Int) (B : Option Addr) (m d : Nat) (hm : m = t.length) (hl : t.length ≤ 100000) (W : World) (hr : Ri W B t) :
    Calls Try.prog 18 #[.slice B m d] W fun e w' => ∃ (A' : Option Addr) (c' : Nat) (cs l : List Int) (er : Int), e = .returned (.tuple #[.agg (hx cs (.slice A' l.length c')), .int .i64 er]) ∧ Hid (cs.length = 16) ∧ Hid (Ri w' A' l) ∧ Hid (BdP t cs l er) ∧ Below W.heap.size W w' := by
  subst hm
  by_cases h : cntB t = true ∧ ordL t t.length ≠ []
  · refine (fBuild_law t B d hl h.1 h.2 W hr).mono ?_
    rintro e w' ⟨A', c', cs, rfl, h1, h2, h3, h4, h5⟩
    exact ⟨A', c', cs, _, 0, rfl, h1, h2, .inl ⟨h.1, h.2, rfl, rfl, h3, h4⟩, h5⟩
  · have h0 : cntB t = false ∨ ordL t t.length = [] := by
      cases hc : cntB t with
      | false => exact .inl rfl
      | true => exact .inr (by by_cases ho : ordL t t.length = []; exact ho; exact absurd ⟨hc, ho⟩ h)
    refine (fBuild_law_no t B d hl h0 W hr).mono ?_
    rintro e w' ⟨rfl, h5⟩
    exact ⟨none, 0, zeroL 16, [], 1, rfl, (by show _ = _; simp [zeroL]), Or.inl rfl, .inr ⟨h0, rfl, rfl, rfl⟩, h5⟩
/-- What stands in memory behind Build and Order. -/
structure PB (w : World) (g : Nat) (cs l t O : List Int) (A2 B Bo Ao : Option Addr) (c2 : Nat) (W : World) : Prop where
  h : Blk W g (hx cs (.slice A2 l.length c2))
  rh : Ri W A2 l
  tt : Ri W B t
  ow : Ri W Bo t
  oo : Ri W Ao O
  be : Below w.heap.size w W
theorem PB.call {w : World} {g : Nat} {cs l t O : List Int} {A2 B Bo Ao : Option Addr} {c2 : Nat} {W W' : World} (h : PB w g cs l t O A2 B Bo Ao c2 W) (hb : Below W.heap.size W W') : PB w g cs l t O A2 B Bo Ao c2 W' :=
  ⟨h.h.below hb, h.rh.below hb, h.tt.below hb, h.ow.below hb, h.oo.below hb, h.be.trans (hb.mono h.be.size)⟩
theorem own_anyI (w : World) : Oi (w.alloc (.cells #[] 3)) w.heap.size (.slice (some ⟨w.heap.size, 0, none⟩) 0 0) [] := World.ownsRow_made w #[] 0 (Nat.le_refl _) (Nat.zero_le _) rfl
theorem builds_far (t : List Int) (B : Option Addr) (d m : Nat) (w : World) (hm : 300 < m) :
    Calls Try.prog 4 #[.slice B m d] w fun e w' => e = .returned (.bool true) ∧ Below w.heap.size w w' := by
  have hm' : (300 : Int) < (m : Int) := by omega
  go_enter Try.func4, Try.ntmps4
  go_wp2_with (go_at_call 6; (with_reducible refine (awake_any _).mono ?_); rintro e w1 ⟨rfl, hb⟩)
  go_ret
  exact ⟨rfl, hb⟩
set_option maxHeartbeats 8000000 in
theorem builds_near (t : List Int) (B : Option Addr) (d m : Nat) (w : World) (hr : Ri w B t) (hm : m = t.length) (hl : m ≤ 300) :
    Calls Try.prog 4 #[.slice B m d] w fun e w' => e = .returned (.bool true) ∧ Below w.heap.size w w' := by
  have HR := Lib.hid hr
  have HM := Lib.hid hm
  have HO := Lib.hid (own_anyI w)
  have HAL := Lib.hid awake_any
  obtain ⟨Y, hY⟩ : ∃ Y, Y = hx (zeroL 16) (.slice none 0 0) := ⟨_, rfl⟩
  have HY : Hid ((Try.prog.info? 25).map (fun i => i.zero) = some (some (.agg Y))) := by show _ = _; rw [hY]; exact infoH
  have HYZ : Hid (Y.size = 17) := by show _ = _; rw [hY, hx_size]; rfl
  have HBU : Hid (∀ Bo d' W, Ri W Bo t → Calls Try.prog 18 #[.slice Bo m d'] W fun e w' => ∃ (A' : Option Addr) (c' : Nat) (cs l : List Int) (er : Int), e = .returned (.tuple #[.agg (hx cs (.slice A' l.length c')), .int .i64 er]) ∧ Hid (cs.length = 16) ∧ Hid (Ri w' A' l) ∧ Hid (BdP t cs l er) ∧ Below W.heap.size W w') := fun Bo d' W h => fBuild_uni t Bo m d' hm (by omega) W h
  have HOR : Hid (∀ W, Ri W B t → Calls Try.prog 19 #[.slice B m d] W fun e w' => ∃ v, e = .returned v ∧ Oi w' W.heap.size v (ordL t t.length) ∧ Below W.heap.size W w') := fun W h => by rw [hm]; exact rOrd_any t B d W h (by omega)
  clear hr hY hm
  have hlm : ¬ (300 : Int) < (m : Int) := by omega
  go_enter Try.func4, Try.ntmps4
  go_upto_region 6 with (first
    | (at_builtin
       (refine wpList_appI _ rfl (.tmp 13) (.tmp 14) rfl w.heap.size (.slice (some ⟨w.heap.size, 0, none⟩) 0 0) [] rfl HO.out B m d t HM.out rfl (HR.out.below ((Below.refl _ _).alloc (Nat.le_refl _) _)) (by have := HM.out; simp; omega) (by simp) ?_)
       intro v1 w1 ho1 hg1 _
       have B1 := Lib.hid (((Below.refl w.heap.size w).alloc (Nat.le_refl _) (.cells #[] 3)).grown hg1 (by simp) (by rintro k ⟨⟩; exact Nat.le_refl _))
       rw [List.nil_append] at ho1
       obtain ⟨Bo, d1, hv1, _, _, r1, _, _⟩ := ho1.open
       rw [← HM.out] at hv1
       subst hv1
       have R1 := Lib.hid r1
       have T1 := Lib.hid (HR.out.below B1.out)
       clear ho1 hg1 HO r1)
    | (go_at_call 18; refine (HBU.out _ _ _ R1.out).mono ?_; rintro e w2 ⟨A2, c2, cs, l, er, rfl, HCS, RH, HBP, h2⟩
       have B2 := Lib.hid (B1.out.trans (h2.mono B1.out.size))
       have R2 := Lib.hid (R1.out.below h2)
       have T2 := Lib.hid (T1.out.below h2)
       have HB3 := Lib.hid (B2.out.alloc B2.out.size (.cells Y 25)); have HK2 := Lib.hid (Blk.new w2 Y 25)
       have HG1 := Lib.hid (hx_one cs A2 l.length c2)
       have HX2 : Hid ((hx cs (.slice A2 l.length c2)).size = 17) := (by show _ = _; rw [hx_size, HCS.out])
       clear h2 R1 T1 B1)
    | (with_reducible refine wpList_allocZ _ rfl 25 rfl Y HY.out ?_)
    | ((with_reducible refine wpList_storeB _ rfl 25 (.tmp 4) (.tmp 19) rfl w2.heap.size rfl Y HK2.out (hx cs (.slice A2 l.length c2)) rfl (sizeH HX2.out) (HYZ.out.trans HX2.out.symm) HG1.out ?_)
       intro w3 hb3 hc3 hs3
       have hbe : Below w2.heap.size w2 w3 := ((Below.refl w2.heap.size w2).alloc (Nat.le_refl _) (.cells Y 25)).trans (hc3.below (by simp) (fun i e => Nat.le_of_eq e.symm))
       have H3 := Lib.hid hb3
       have B3 := Lib.hid (B2.out.trans (hbe.mono B2.out.size))
       have R3 := Lib.hid (R2.out.below hbe)
       have T3 := Lib.hid (T2.out.below hbe)
       have RH3 := Lib.hid (RH.out.below hbe)
       clear hb3 hc3 hs3 hbe HB3 HK2 HG1 B2 R2 T2 RH)
    | (go_at_call 19; refine (HOR.out _ T3.out).mono ?_; rintro e w4 ⟨v4, rfl, ho4, h4⟩
       obtain ⟨Ao, co, rfl, _, _, r4, _, _⟩ := ho4.open
       have K4 : Hid (PB w w2.heap.size cs l t (ordL t t.length) A2 B Bo Ao c2 w4) := ⟨H3.out.below h4, RH3.out.below h4, T3.out.below h4, R3.out.below h4, r4, B3.out.trans (h4.mono B3.out.size)⟩
       clear ho4 h4 r4 H3 RH3 T3 R3 B3))
  -- REST
  obtain ⟨O, hO⟩ : ∃ O, ordL t t.length = O := ⟨_, rfl⟩
  have hbp := HBP.out
  unfold BdP at hbp
  rw [hO] at hbp K4 ⊢
  have HOE := Lib.hid hO
  have HSZ : Hid ((Try.prog.info? 25).map (·.size) = some (hx cs (.slice A2 l.length c2)).size) := sizeH HX2.out
  clear hO HBP HBU HOR HY HYZ HR
  generalize w2.heap.size = g at *
  rcases hbp with ⟨hc, ho, rfl, hlO, hmay, hcost⟩ | ⟨h0, rfl, rfl, rfl⟩
  · skip
    obtain rfl : O = l := hlO.symm
    obtain ⟨n, hn⟩ : ∃ n, n = O.length := ⟨_, rfl⟩
    have hn1 : 1 ≤ n := by
      cases O with
      | nil => exact absurd rfl ho
      | cons a r => rw [hn]; simp
    have HCN : Hid (∀ W, Ri W B t → Calls Try.prog 20 #[.slice B m d] W fun e w' => e = .returned (.bool true) ∧ W = w') := fun W h => by
      rw [HM.out]
      have := (rCnt_any t B d W h (by have := HM.out; omega))
      rw [hc] at this
      exact this.mono fun e w' h => ⟨h.1, h.2.symm⟩
    have hO300 : O.length ≤ 300 := by rw [← HOE.out]; have := ordL_len t t.length; have := HM.out; omega
    have HMY : Hid (∀ W, Ri W A2 O → Calls Try.prog 8 #[.agg (hx cs (.slice A2 n c2))] W fun e w' => e = .returned (.bool true) ∧ Below W.heap.size W w') := fun W h => by
      have := rMay_any (hx cs (.slice A2 O.length c2)) cs O A2 c2 W (hx_hv HCS.out _) h hO300
      rw [hmay, ← hn] at this
      exact this
    have HCO : Hid (∀ W, Ri W A2 O → Ri W B t → Calls Try.prog 13 #[.agg (hx cs (.slice A2 n c2)), .slice B m d] W fun e w' => e = .returned (.int .i64 (bI (wL (talS t)) 1 0 2)) ∧ Below W.heap.size W w') := fun W h1 h2 => by
      have := rCost_any (hx cs (.slice A2 O.length c2)) cs O A2 c2 t B d W (hx_hv HCS.out _) h1 hO300 (by rw [hx_size, HCS.out]) h2 (by have := HM.out; omega)
      rw [hcost, ← hn, ← HM.out] at this
      exact this
    have HLE : Hid (n ≤ 20 → ∀ W, Ri W B t → Calls Try.prog 21 #[.slice B m d] W fun e w' => e = .returned (.int .i64 (bI (wL (talS t)) 1 0 2)) ∧ Below W.heap.size W w') := fun h20 W h => by
      rw [HM.out]
      exact rLeast_any t B d n W h hc (by rw [HOE.out, hn]) hn1 h20
    rw [← hn] at HSZ ⊢
    have HN := Lib.hid hn
    have hn0 : ((n : Int) == 0) = false := by rw [beq_eq_false_iff_ne]; omega
    have hnn : ¬ n = 0 := by omega
    generalize bI (wL (talS t)) 1 0 2 = best at *
    clear hn hc ho hmay hcost
    have KK := Lib.hid K4.out
    clear K4
    go_wp2_with fail
    go_loopw [7] (fun v wr => ∃ k : Nat, k ≤ m ∧ v = .int .i64 k ∧ Hid (PB w g cs O t O A2 B Bo Ao c2 wr)) (fun v _ => m - (RowKit.intOf v).toNat)
    case atStart => exact ⟨0, Nat.zero_le _, rfl, KK⟩
    case round =>
      clear KK
      rename World => wo
      obtain ⟨k, hk, rfl, K⟩ := hrel
      by_cases hlt : k < m
      · have hkt : k < t.length := by rw [← HM.out]; exact hlt
        obtain ⟨b1, o1, rfl, _⟩ := K.out.ow.lt (by omega)
        obtain ⟨b2, o2, rfl, _⟩ := K.out.tt.lt (by omega)
        have e1 := K.out.ow.at0 hkt
        have e2 := K.out.tt.at0 hkt
        generalize t.getD k 0 = x at *
        go_wp2
        go_quiet (fail)
        go_wp2
        go_roundw
        case rel => exact ⟨k + 1, by omega, by go_num, (show Hid _ from K.out.call (dN (Below.refl _ _) _))⟩
        case measure => simp [RowKit.intOf]; omega
      · obtain rfl : k = m := by omega
        have KD : Hid (wo.cell? ⟨g, 16, none⟩ = some (.slice A2 n c2)) := by
          have h := K.out.h.cell (j := 16) (v := .slice A2 O.length c2) (by have := hx_last cs (.slice A2 O.length c2); rwa [HCS.out] at this)
          rw [← HN.out] at h
          exact h
        have KHL : Hid (∀ W, PB w g cs O t O A2 B Bo Ao c2 W → Blk W g (hx cs (.slice A2 n c2))) := fun W h => by
          have h2 := h.h
          rw [← HN.out] at h2
          exact h2
        have HCG := Lib.hid HCS.out
        have KDL : Hid (∀ W, PB w g cs O t O A2 B Bo Ao c2 W → W.cell? ⟨g, 16, none⟩ = some (.slice A2 n c2)) := fun W h => by
          have h2 := h.h.cell (j := 16) (v := .slice A2 O.length c2) (by have := hx_last cs (.slice A2 O.length c2); rwa [HCS.out] at this)
          rw [← HN.out] at h2
          exact h2
        go_upto_region 15 with (first
          | (go_at_call 20; (with_reducible refine (HCN.out _ K.out.tt).mono ?_); rintro e w5 ⟨rfl, rfl⟩)
          | (refine wpList_open (by rfl) (wpList_loadB _ rfl 25 (.tmp 4) rfl _ Try.underlying25 rfl g rfl _ (KHL.out _ K.out) HSZ.out ?_))
          | (go_at_call 8; (refine (HMY.out _ K.out.rh).mono ?_); rintro e w6 ⟨rfl, h6⟩; have K6 := Lib.hid (K.out.call h6); have e16 := KDL.out _ K6.out; clear h6))
        clear KD K HCN HMY e16 hlO
        go_wp2_with fail
        go_loopw [8] (fun v wr => ∃ j : Nat, j ≤ n ∧ v = .int .i64 j ∧ Hid (PB w g cs O t O A2 B Bo Ao c2 wr)) (fun v _ => n - (RowKit.intOf v).toNat)
        case atStart => exact ⟨0, Nat.zero_le _, rfl, K6⟩
        case round =>
          clear K6
          rename World => wp
          obtain ⟨j, hj, rfl, K⟩ := hrel
          by_cases hlt2 : j < n
          · have hjO : j < O.length := by rw [← HN.out]; exact hlt2
            have e16 := KDL.out _ K.out
            obtain ⟨b3, o3, rfl, _⟩ := K.out.rh.lt (by omega)
            obtain ⟨b4, o4, rfl, _⟩ := K.out.oo.lt (by omega)
            have e3 := K.out.rh.at0 hjO
            have e4 := K.out.oo.at0 hjO
            generalize O.getD j 0 = x at *
            go_wp2
            go_quiet (fail)
            go_wp2
            go_roundw
            case rel => exact ⟨j + 1, by omega, by go_num, (show Hid _ from K.out.call (dN (Below.refl _ _) _))⟩
            case measure => simp [RowKit.intOf]; omega
          · obtain rfl : j = n := by omega
            by_cases h20 : 20 < j
            · have h20i : (20 : Int) < (j : Int) := by omega
              go_wp2_with fail
              (with_reducible refine (HAL.out _).mono ?_); rintro e w7 ⟨rfl, h7⟩
              have B7 := K.out.be.trans (h7.mono K.out.be.size)
              go_wp2
              go_ret
              exact ⟨rfl, B7⟩
            · have h20i : ¬ (20 : Int) < (j : Int) := by omega
              have HL := Lib.hid (HLE.out (by omega))
              go_wp2_with (first
                | (with_reducible refine wpList_loadB _ rfl 25 (.tmp 4) rfl _ Try.underlying25 rfl g rfl _ (KHL.out _ K.out) HSZ.out ?_)
                | (go_at_call 13; (refine (HCO.out _ K.out.rh K.out.tt).mono ?_); rintro e w7 ⟨rfl, h7⟩; have K7 := Lib.hid (K.out.call h7); clear h7)
                | (go_at_call 21; (refine (HL.out _ K7.out.tt).mono ?_); rintro e w8 ⟨rfl, h8⟩; have K8 := Lib.hid (K7.out.call h8); clear h8)
                | (go_at_call 6; (with_reducible refine (HAL.out _).mono ?_); rintro e w9 ⟨rfl, h9⟩; have K9 := Lib.hid (K8.out.call h9); clear h9))
              go_ret
              exact ⟨rfl, K9.out.be⟩
  · skip
    have HCN : Hid (∀ W, Ri W B t → Calls Try.prog 20 #[.slice B m d] W fun e w' => e = .returned (.bool (cntB t)) ∧ W = w') := fun W h => by
      rw [HM.out]
      exact (rCnt_any t B d W h (by have := HM.out; omega)).mono fun e w' h => ⟨h.1, h.2.symm⟩
    have HSM : Hid (∀ W, Calls Try.prog 14 #[.agg (hx (zeroL 16) (.slice A2 0 c2)), .agg #[.int .i64 0, .int .i64 0, .int .i64 0, .int .i64 0, .int .i64 0, .int .i64 0, .int .i64 0, .int .i64 0, .int .i64 0, .int .i64 0, .int .i64 0, .int .i64 0, .int .i64 0, .int .i64 0, .int .i64 0, .int .i64 0, .slice none 0 0]] W fun e w' => e = .returned (.bool true) ∧ Below W.heap.size W w') := fun W => by
      have := rSame_any (hx (zeroL 16) (.slice A2 0 c2)) (litH none 0 0) (zeroL 16) (zeroL 16) [] [] A2 none c2 0 W (hx_hv (by simp [zeroL]) _) (hx_hv (cs := zeroL 16) (by simp [zeroL]) _) (by simp [zeroL]) (by simp [zeroL]) (.inl rfl) (.inl rfl) (by decide) (by decide)
      rwa [show sameB (zeroL 16) (zeroL 16) [] [] = true by decide +kernel] at this
    obtain ⟨n, hn⟩ : ∃ n, O.length = n := ⟨_, rfl⟩
    rw [hn]
    have HN := Lib.hid hn
    have hcn : cntB t = false ∨ (cntB t = true ∧ n = 0) := by
      rcases h0 with h | h
      · exact .inl h
      · rw [h] at hn
        cases hc : cntB t with
        | false => exact .inl rfl
        | true => exact .inr ⟨rfl, by simpa using hn.symm⟩
    have HCH := Lib.hid hcn
    clear hn h0 hcn
    have KK := Lib.hid K4.out
    clear K4
    go_wp2_with fail
    go_loopw [7] (fun v wr => ∃ k : Nat, k ≤ m ∧ v = .int .i64 k ∧ Hid (PB w g (zeroL 16) [] t O A2 B Bo Ao c2 wr)) (fun v _ => m - (RowKit.intOf v).toNat)
    case atStart => exact ⟨0, Nat.zero_le _, rfl, KK⟩
    case round =>
      clear KK
      rename World => wo
      obtain ⟨k, hk, rfl, K⟩ := hrel
      by_cases hlt : k < m
      · have hkt : k < t.length := by rw [← HM.out]; exact hlt
        obtain ⟨b1, o1, rfl, _⟩ := K.out.ow.lt (by omega)
        obtain ⟨b2, o2, rfl, _⟩ := K.out.tt.lt (by omega)
        have e1 := K.out.ow.at0 hkt
        have e2 := K.out.tt.at0 hkt
        generalize t.getD k 0 = x at *
        go_wp2
        go_quiet (fail)
        go_wp2
        go_roundw
        case rel => exact ⟨k + 1, by omega, by go_num, (show Hid _ from K.out.call (dN (Below.refl _ _) _))⟩
        case measure => simp [RowKit.intOf]; omega
      · obtain rfl : k = m := by omega
        rcases HCH.out with hc | ⟨hc, hn0⟩
        all_goals
          rw [hc] at HCN
          have HX3 := Lib.hid HX2.out
          try subst hn0
          clear hc
          have KH := Lib.hid K.out.h
          have KT := Lib.hid K.out.tt
          have KP : Hid (∀ W', Below wo.heap.size wo W' → Below w.heap.size w W') := fun W' h => K.out.be.trans (h.mono K.out.be.size)
          clear K
          generalize hx (zeroL 16) (.slice A2 0 c2) = G at *
          go_wp2_with (first
            | (go_at_call 20; (with_reducible refine (HCN.out _ KT.out).mono ?_); rintro e w5 ⟨rfl, rfl⟩)
            | (refine wpList_open (by rfl) (wpList_loadB _ rfl 25 (.tmp 4) rfl _ Try.underlying25 rfl g rfl _ KH.out HSZ.out ?_))
            | (go_at_call 14; (refine (HSM.out _).mono ?_); rintro e w6 ⟨rfl, h6⟩; have K6 := Lib.hid (KP.out _ h6); clear h6)
            | (go_at_call 6; (with_reducible refine (HAL.out _).mono ?_); rintro e w7 ⟨rfl, h7⟩; have K7 := Lib.hid (K6.out.trans (h7.mono K6.out.size)); clear h7))
          go_ret
          exact ⟨rfl, K7.out⟩
theorem builds_any (t : List Int) (B : Option Addr) (d : Nat) (w : World) (hr : Ri w B t) :
    Calls Try.prog 4 #[.slice B t.length d] w fun e w' => e = .returned (.bool true) ∧ Below w.heap.size w w' := by
  by_cases h : 300 < t.length
  · exact builds_far t B d t.length w h
  · exact builds_near t B d t.length w hr rfl (by omega)
end Go.Proofs.Ytanihbflgolciaa
