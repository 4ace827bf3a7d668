/- append of ints at a step of a region that draws its order; onto an empty row: nothing that stood is written. -/
import Derived.Test.YtanihbflgolciaaMkI
namespace Go.Proofs.Ytanihbflgolciaa
open Go.RowKit Go.Lib
set_option linter.unusedVariables false
set_option maxRecDepth 100000
/-- append of ints at a step of a region that draws its order. -/
theorem step_appI {w : World} {ops : Array Oper} {o : Oper} {a : Act} {K : Act → World → Prop} {Q : Exit → Act → World → Prop} {E : Prop} (hgd : o.guard = none) (s x : Operand)
    (ho : o.op = .call { callee := .builtin .append, args := #[s, x], argTypes := #[23, 23] })
    (base : Nat) (v u : Value) (l : List Int) (hs : a.eval s = v) (A : Option Addr) (n c : Nat) (m : List Int) (hx : a.eval x = u) (hu : u = .slice A n c) (hn : n = m.length) (hown : Oi w base v l) (hr : Ri w A m)
    (hlen : l.length + m.length ≤ 1000000000) (hbase : base ≤ w.heap.size)
    (h : ∀ v' w', Oi w' base v' (l ++ m) → w.grownBy w' v.ownBlock → (v'.ownBlock = v.ownBlock ∨ v'.ownBlock = some w.heap.size) → K (a.put o.dst v') w') :
    if Region.wanted o (yielded ops a.tmps) = true then Oper.wp Try.prog o a w K Q else E := by
  have hw : Region.wanted o (yielded ops a.tmps) = true := by simp [Region.wanted, hgd]
  rw [if_pos hw]
  subst hu hn
  obtain ⟨v', w', hrun, h2, h3, h4⟩ := run_appV Try.underlying23 Try.info3 rfl w base v l.length (l.map iv) hown A c (m.map iv) (iv_one m) hr.v o.type (by simpa using hlen) (by decide) hbase
  rw [List.length_map] at hrun
  unfold Oper.wp
  simp [execOp, ho, resolve, invoke, builtin, hs, hx, hrun, Result.andThen]
  exact h v' w' (Oi.app h2) h3 h4
/-- Block g is the row []int{} of none. -/
def Eb (w : World) (g : Nat) : Prop := w.heap[g]? = some (.cells #[] 3 (0, 0))
theorem Eb.new (w : World) : Eb (w.alloc (.cells #[] 3)) w.heap.size := heap_alloc_new w _
theorem Eb.lt {w : World} {g : Nat} (h : Eb w g) : g < w.heap.size := (Array.getElem?_eq_some_iff.1 h).1
theorem Eb.below {w w' : World} {g : Nat} (h : Eb w g) (hb : Below w.heap.size w w') : Eb w' g := (hb.block g h.lt).trans h
theorem Eb.alloc {w : World} {g : Nat} (h : Eb w g) (o : Obj) : Eb (w.alloc o) g := h.below ((Below.refl _ _).alloc (Nat.le_refl _) o)
theorem Eb.drew {w : World} {g : Nat} (h : Eb w g) : Eb w.drew g := h
theorem Eb.oi {w : World} {g : Nat} (h : Eb w g) : Oi w g (.slice (some ⟨g, 0, none⟩) 0 0) [] := ⟨rfl, .inr ⟨g, 0, #[], rfl, Nat.le_refl _, h, Nat.le_refl _, Nat.zero_le _, rfl, rfl⟩⟩
/-- append onto it: the ints m stand in a block that is this one (none), or a new one; all else stays. -/
theorem step_appE {w : World} {ops : Array Oper} {o : Oper} {a : Act} {K : Act → World → Prop} {Q : Exit → Act → World → Prop} {E : Prop} (hgd : o.guard = none) (s x : Operand)
    (ho : o.op = .call { callee := .builtin .append, args := #[s, x], argTypes := #[23, 23] })
    (g : Nat) (hs : a.eval s = .slice (some ⟨g, 0, none⟩) 0 0) (A : Option Addr) (n c : Nat) (m : List Int) (hx : a.eval x = .slice A n c) (hn : n = m.length) (hb : Eb w g) (hr : Ri w A m) (hlen : m.length ≤ 1000000)
    (h : ∀ A' c' w', Ri w' A' m → (∀ b o s, A' = some ⟨b, o, s⟩ → b = g ∨ w.heap.size ≤ b) → Chg (fun k => k = g) w w' → K (a.put o.dst (.slice A' n c')) w') :
    if Region.wanted o (yielded ops a.tmps) = true then Oper.wp Try.prog o a w K Q else E := by
  refine step_appI hgd s x ho g _ _ [] hs A n c m hx rfl hn hb.oi hr (by simp; omega) (Nat.le_of_lt hb.lt) fun v' w' ho2 hg hv => ?_
  rw [List.nil_append] at ho2
  obtain ⟨A', c', rfl, _, _, h3, h4, _⟩ := ho2.open
  rw [← hn]
  refine h A' c' w' h3 (fun b o s e => ?_) ((Chg.refl (fun k => k = g) w).grown hg (fun k e => ?_))
  · subst e
    rcases hv with e | e
    · left
      simp [Value.ownBlock] at e
      omega
    · right
      simp [Value.ownBlock] at e
      omega
  · left
    simp [Value.ownBlock] at e
    omega
end Go.Proofs.Ytanihbflgolciaa
