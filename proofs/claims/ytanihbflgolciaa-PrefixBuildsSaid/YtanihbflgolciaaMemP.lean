/- Rows of structs of two ints (api.Bits): what the call made itself (Oq), and append onto them. -/
import Derived.Test.YtanihbflgolciaaMemI
namespace Go.Proofs.Ytanihbflgolciaa
open Go.RowKit Go.Lib
set_option linter.unusedVariables false
set_option maxRecDepth 100000

/-- append, of elements of any number of cells, onto a row of the call's own. -/
theorem run_appK {tS T : TypeId} {z : Value} {size bytes : Nat} (ht : Try.prog.underlying tS = some (.slice T)) (hI : (Try.prog.info? T).map (fun i => (i.zero, i.size, i.bytes)) = some (some z, size, bytes)) (hzs : z.cells.size = size) (hsz : 0 < size)
    (w : World) (base : Nat) (v : Value) (n : Nat) (xs : List Value) (hown : w.ownsRow base T size v n xs) (A : Option Addr) (m c : Nat) (ys : List Value) (hm : ys.length = m * size) (h1 : ∀ u ∈ ys, u.oneCell' = true) (hr : RdV w A ys) (ty : TypeId)
    (hlen : n + m ≤ 1000000000) (hby : bytes ≤ 64) (hbase : base ≤ w.heap.size) :
    ∃ v' w', (Builtin.append_ #[tS, tS] ty #[v, .slice A m c]).run Try.prog w = .ok v' w' ∧ w'.ownsRow base T size v' (n + m) (xs ++ ys) ∧ w.grownBy w' v.ownBlock ∧ (v'.ownBlock = v.ownBlock ∨ v'.ownBlock = some w.heap.size) := by
  obtain ⟨i0, hi, hz0, hz1, hz2⟩ := info_parts hI
  rcases A with _ | ad
  · have hys : ys = [] := by
      rcases hr with h | ⟨b, o, h, _⟩
      · exact h
      · cases h
    subst hys
    have hm0 : m = 0 := by
      have h2 : m * size = 0 := by simpa using hm.symm
      rcases Nat.mul_eq_zero.1 h2 with h3 | h3
      · exact h3
      · omega
    subst hm0
    refine ⟨v, w, ?_, by simpa using hown, ⟨rfl, rfl, rfl, Nat.le_refl _, fun _ _ _ => rfl⟩, .inl rfl⟩
    rcases hown.2 with ⟨rfl, _⟩ | ⟨g, cap, cur, rfl, _, _, hnc, _⟩
    · simp [Builtin.append_, run_underlying ht, sizeOf, typeInfo, hi, Builtin.lenOf, Builtin.firstCells]
    · simp [Builtin.append_, run_underlying ht, sizeOf, typeInfo, hi, Builtin.lenOf, Builtin.firstCells, hnc, storeCells]
  · have hnews : ∀ j u, ys[j]? = some u → w.cell? (ad.add j) = some u := by
      intro j u hu
      rcases hr with h | ⟨b, o, h, hc⟩
      · rw [h] at hu; simp at hu
      · injection h with h
        subst h
        rw [Addr.add_lit]
        exact hc j u hu
    have hbb : (n + m) * bytes ≤ 140737488355328 := by
      have : (n + m) * bytes ≤ (n + m) * 64 := Nat.mul_le_mul_left _ hby
      omega
    obtain ⟨v', w', hrun, h2, h3, h4, h5⟩ := run_append_own_at (P := Try.prog) w base tS ty T i0 z size bytes ht hi hz0 hz1 hz2 hzs hsz v n xs hown ad m c ys
      hm hnews h1 (by unfold maxLen; omega) hbb hbase
    exact ⟨v', w', hrun, h2, h3, h5⟩
theorem wpList_appK {tS T : TypeId} {z : Value} {size bytes : Nat} (ht : Try.prog.underlying tS = some (.slice T)) (hI : (Try.prog.info? T).map (fun i => (i.zero, i.size, i.bytes)) = some (some z, size, bytes)) (hzs : z.cells.size = size) (hsz : 0 < size)
    (w : World) {ops : Array Oper} {rest : List Oper} {o : Oper} {a : Act} {Q : Exit → Act → World → Prop} (hgd : o.guard = none) (s x : Operand)
    (ho : o.op = .call { callee := .builtin .append, args := #[s, x], argTypes := #[tS, tS] })
    (base : Nat) (v : Value) (n : Nat) (xs : List Value) (hs : a.eval s = v) (hown : w.ownsRow base T size v n xs) (A : Option Addr) (m c : Nat) (ys : List Value) (hm : ys.length = m * size) (hx : a.eval x = .slice A m c) (h1 : ∀ u ∈ ys, u.oneCell' = true) (hr : RdV w A ys)
    (hlen : n + m ≤ 1000000000) (hby : bytes ≤ 64) (hbase : base ≤ w.heap.size)
    (h : ∀ v' w', w'.ownsRow base T size v' (n + m) (xs ++ ys) → w.grownBy w' v.ownBlock → (v'.ownBlock = v.ownBlock ∨ v'.ownBlock = some w.heap.size) → wpList Try.prog ops Q rest (a.put o.dst v') w') : wpList Try.prog ops Q (o :: rest) a w := by
  refine wpList_plain hgd fun K hK => ?_
  obtain ⟨v', w', hrun, h2, h3, h4⟩ := run_appK ht hI hzs hsz w base v n xs hown A m c ys hm h1 hr o.type hlen hby hbase
  unfold Oper.wp
  simp [execOp, ho, resolve, invoke, builtin, hs, hx, hrun, Result.andThen]
  exact hK _ _ (h v' w' h2 h3 h4)

/-- The cells of structs of two ints. -/
def pv : List (Int × Nat) → List Value
  | [] => []
  | p :: t => .int .i64 p.1 :: .int .i64 (p.2 : Int) :: pv t
theorem pv_len : ∀ l : List (Int × Nat), (pv l).length = l.length * 2
  | [] => rfl
  | p :: t => by rw [pv, List.length_cons, List.length_cons, pv_len t, List.length_cons]; omega
theorem pv_append : ∀ a b : List (Int × Nat), pv (a ++ b) = pv a ++ pv b
  | [], _ => rfl
  | p :: t, b => by rw [List.cons_append, pv, pv, pv_append t b]; rfl
theorem pv_one : ∀ l : List (Int × Nat), ∀ u ∈ pv l, u.oneCell' = true
  | [], u, h => by cases h
  | p :: t, u, h => by
    rw [pv, List.mem_cons, List.mem_cons] at h
    rcases h with rfl | rfl | h
    · rfl
    · rfl
    · exact pv_one t u h
theorem pv_at : ∀ (l : List (Int × Nat)) (i : Nat) (p : Int × Nat), l[i]? = some p → (pv l)[i * 2]? = some (.int .i64 p.1) ∧ (pv l)[i * 2 + 1]? = some (.int .i64 (p.2 : Int))
  | [], i, p, h => by simp at h
  | q :: t, 0, p, h => by
    simp only [List.getElem?_cons_zero, Option.some.injEq] at h
    subst h
    exact ⟨rfl, rfl⟩
  | q :: t, i + 1, p, h => by
    have ih := pv_at t i p (by simpa using h)
    rw [pv, show (i + 1) * 2 = i * 2 + 1 + 1 by omega]
    simpa using ih
/-- v is the structs ps in memory that the call has made itself. -/
def Oq (w : World) (base : Nat) (v : Value) (ps : List (Int × Nat)) : Prop := w.ownsRow base 33 2 v ps.length (pv ps)
theorem Try.info33 : (Try.prog.info? 33).map (fun i => (i.zero, i.size, i.bytes)) = some (some (.agg #[.int .i64 0, .int .i64 0]), 2, 16) := by kernel_rfl
theorem Oq.nil (w : World) (base : Nat) : Oq w base (.slice none 0 0) [] := World.ownsRow_nil _ _ _ _
theorem Oq.at {w : World} {base : Nat} {v : Value} {l : List (Int × Nat)} (h : Oq w base v l) : ∀ k, v.ownBlock = some k → base ≤ k ∧ k < w.heap.size := World.ownsRow.lt h
theorem Oq.chg {S : Nat → Prop} {w w' : World} {base : Nat} {v : Value} {l : List (Int × Nat)} (h : Oq w base v l) (hb : Chg S w w') (hn : ∀ k, v.ownBlock = some k → ¬ S k) : Oq w' base v l := owns_chg h hb hn
theorem Oq.below {w w' : World} {base : Nat} {v : Value} {l : List (Int × Nat)} (h : Oq w base v l) (hb : Below w.heap.size w w') : Oq w' base v l := h.chg (Chg.of_below (S := fun _ => False) hb) fun _ _ e => e
theorem Oq.form {w : World} {base : Nat} {v : Value} {l : List (Int × Nat)} (h : Oq w base v l) :
    (v = .slice none 0 0 ∧ l = []) ∨ ∃ g c, v = .slice (some ⟨g, 0, none⟩) l.length c ∧ base ≤ g ∧ g < w.heap.size ∧ l.length ≤ c ∧ c ≤ maxLen ∧
      (∀ i p, l[i]? = some p → w.cell? ⟨g, i * 2, none⟩ = some (.int .i64 p.1) ∧ w.cell? ⟨g, i * 2 + 1, none⟩ = some (.int .i64 (p.2 : Int))) := by
  rcases h.2 with ⟨rfl, h0⟩ | ⟨g, c, cur, rfl, hb, hh, h1, h2, h3, h4⟩
  · exact .inl ⟨rfl, List.eq_nil_of_length_eq_zero h0⟩
  · refine .inr ⟨g, c, rfl, hb, World.ownsRow.lt h g rfl |>.2, h1, h2, fun i p hi => ?_⟩
    have hil : i < l.length := (List.getElem?_eq_some_iff.1 hi).1
    have hk := pv_at l i p hi
    rw [World.ownsRow.cellAt h (i * 2) (by omega), World.ownsRow.cellAt h (i * 2 + 1) (by omega)]
    exact hk
theorem Oq.app {w : World} {base : Nat} {v : Value} {l m : List (Int × Nat)} (h : w.ownsRow base 33 2 v (l.length + m.length) (pv l ++ pv m)) : Oq w base v (l ++ m) := by
  unfold Oq
  rw [List.length_append, pv_append]
  exact h
/-- append of structs of two ints. -/
theorem wpList_appQ (w : World) {ops : Array Oper} {rest : List Oper} {o : Oper} {a : Act} {Q : Exit → Act → World → Prop} (hgd : o.guard = none) (s x : Operand)
    (ho : o.op = .call { callee := .builtin .append, args := #[s, x], argTypes := #[39, 39] })
    (base : Nat) (v : Value) (l : List (Int × Nat)) (hs : a.eval s = v) (hown : Oq w base v l) (A : Option Addr) (n c : Nat) (m : List (Int × Nat)) (hn : n = m.length) (hx : a.eval x = .slice A n c) (hr : RdV w A (pv m))
    (hlen : l.length + m.length ≤ 1000000000) (hbase : base ≤ w.heap.size)
    (h : ∀ v' w', Oq w' base v' (l ++ m) → w.grownBy w' v.ownBlock → (v'.ownBlock = v.ownBlock ∨ v'.ownBlock = some w.heap.size) → wpList Try.prog ops Q rest (a.put o.dst v') w') : wpList Try.prog ops Q (o :: rest) a w :=
  wpList_appK Try.underlying39 Try.info33 rfl (by decide) w hgd s x ho base v l.length (pv l) hs hown A n c (pv m) (by rw [hn]; exact pv_len m) hx (pv_one m) hr (by omega) (by decide) hbase fun v' w' h1 h2 h3 => h v' w' (Oq.app (by rw [← hn]; exact h1)) h2 h3
end Go.Proofs.Ytanihbflgolciaa
