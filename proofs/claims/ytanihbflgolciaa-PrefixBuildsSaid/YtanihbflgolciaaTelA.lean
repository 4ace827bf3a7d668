/- PrefixTells: append onto an empty row; what stands in memory; the region that makes the law's own copies. -/
import Derived.Test.YtanihbflgolciaaAwk6
import Derived.Test.YtanihbflgolciaaFCd0
import Derived.Test.YtanihbflgolciaaLRows
import Derived.Test.YtanihbflgolciaaDrg
namespace Go.Proofs.Ytanihbflgolciaa
open Go.RowKit Go.Lib Go.Sort
set_option linter.unusedVariables false
set_option maxRecDepth 100000
/-- The ints l, from A on, stand in a block of ints. -/
def Ty (W : World) (A : Option Addr) (l : List Int) : Prop := l = [] ∨ ∃ b o X, A = some ⟨b, o, none⟩ ∧ W.heap[b]? = some (.cells X 3 (0, 0))
theorem Ty.below {W W' : World} {A : Option Addr} {l : List Int} (h : Ty W A l) (hb : Below W.heap.size W W') : Ty W' A l := by
  rcases h with h | ⟨b, o, X, h1, h2⟩
  · exact .inl h
  · exact .inr ⟨b, o, X, h1, (hb.block b (Array.getElem?_eq_some_iff.1 h2).1).trans h2⟩
/-- append of ints onto a row of none, with no room: the ints stand in a row; nothing that stood is written. -/
theorem run_appE0 (w : World) (g : Nat) (A : Option Addr) (n c : Nat) (m : List Int) (hn : n = m.length) (hr : Ri w A m) (hlen : m.length ≤ 1000000) (ty : TypeId) :
    ∃ A' c' w', (Builtin.append_ #[23, 23] ty #[.slice (some ⟨g, 0, none⟩) 0 0, .slice A n c]).run Try.prog w = .ok (.slice A' n c') w' ∧ Ri w' A' m ∧ Ty w' A' m ∧ Below w.heap.size w w' := by
  subst hn
  obtain ⟨i0, hi, hz0, hz1, hz2⟩ := info_parts Try.info3
  rcases A with _ | ad
  · have hm : m = [] := by
      rcases hr with h | ⟨b, o, h, _⟩
      · exact h
      · cases h
    subst hm
    refine ⟨some ⟨g, 0, none⟩, 0, w, ?_, .inl rfl, .inl rfl, Below.refl _ _⟩
    simp [Builtin.append_, run_underlying Try.underlying23, sizeOf, typeInfo, hi, Builtin.lenOf, Builtin.firstCells, storeCells]
  · by_cases hm : m = []
    · subst hm
      have := run_append_room_cells (P := Try.prog) (w := w) 23 ty 3 i0 Try.underlying23 hi g 0 0 0 ad 0 c [] (by simp) (by simp) (by simp) (Nat.le_refl _) (by simp) (by simp)
      refine ⟨some ⟨g, 0, none⟩, 0, _, this, .inl rfl, .inl rfl, ?_⟩
      exact Below.refl _ _
    · have hpos : 0 < m.length := List.length_pos_iff.2 hm
      have hnews : ∀ j u, (m.map iv)[j]? = some u → w.cell? (ad.add j) = some u := by
        intro j u hu
        rcases hr.v with h | ⟨b, o, h, hc⟩
        · rw [h] at hu; simp at hu
        · injection h with h
          subst h
          rw [Addr.add_lit]
          exact hc j u hu
      obtain ⟨v', w', hrun, h2, h3⟩ := run_append_arg_grows (P := Try.prog) (w := w) 23 ty 3 i0 (.int .i64 0) 1 8 Try.underlying23 hi hz0 hz1 hz2 rfl (by decide)
        ⟨g, 0, none⟩ 0 0 [] (by simp) (by simp) ad m.length c (m.map iv) (by simp) hnews (by omega) (by unfold maxLen; omega) (by omega)
      have ho : Oi w' w.heap.size v' m := by
        unfold Oi
        simpa using h2
      have hty : ∃ b cap X, v' = .slice (some ⟨b, 0, none⟩) m.length cap ∧ w'.heap[b]? = some (.cells X 3 (0, 0)) := by
        rcases ho.2 with ⟨_, h⟩ | ⟨g', cap, cur, hv, _, hh, _⟩
        · simp at h; exact absurd h hm
        · exact ⟨g', cap, cur, hv, hh⟩
      obtain ⟨b, cap, X, rfl, hX⟩ := hty
      obtain ⟨A', c', he, _, _, h5, h6, _⟩ := ho.open
      injection he with he1 he2 he3
      subst he1 he3
      exact ⟨_, _, w', hrun, h5, .inr ⟨b, 0, X, rfl, hX⟩, (Below.refl _ w).grown h3 (Nat.le_refl _) (fun k e => by cases e)⟩

/-- What the operations that make the law's own copies are good for. -/
def hs3 (B : Nat) (cs l t : List Int) (A Bd : Option Addr) (n c m d : Nat) : Nat → List Value → Value → World → Prop
  | 0 => fun _ v _ => v = .pointer (some ⟨B, 0, none⟩)
  | 1 => fun _ v _ => v = .agg (ia cs)
  | 2 => fun _ v _ => ∃ g, v = .slice (some ⟨g, 0, none⟩) 0 0
  | 3 => fun _ v _ => v = .pointer (some ⟨B, 16, none⟩)
  | 4 => fun _ v _ => v = .slice A n c
  | 5 => fun _ v W => ∃ A' c', v = .slice A' n c' ∧ Ri W A' l ∧ Ty W A' l
  | 6 => fun vs v _ => ∃ A' c', vs = [.agg (ia cs), .slice A' n c'] ∧ v = .agg (hx cs (.slice A' n c'))
  | 7 => fun _ v _ => ∃ g, v = .slice (some ⟨g, 0, none⟩) 0 0
  | 8 => fun _ v _ => v = .slice Bd m d
  | 9 => fun _ v W => ∃ A' c', v = .slice A' m c' ∧ Ri W A' t ∧ Ty W A' t
  | 10 => fun _ v W => ∃ g, v = .pointer (some ⟨g, 0, none⟩) ∧ B < g ∧ W.heap[g]? = some (.cells (hx (zeroL 16) (.slice none 0 0)) 25 (0, 0))
  | _ => fun _ _ _ => True
theorem hs3_st {B : Nat} {cs l t : List Int} {A Bd : Option Addr} {n c m d : Nat} (i : Nat) (vs : List Value) (v : Value) (W W' : World) (hT : Below W.heap.size W W') (h : hs3 B cs l t A Bd n c m d i vs v W) : hs3 B cs l t A Bd n c m d i vs v W' := by
  rcases i with _ | _ | _ | _ | _ | _ | _ | _ | _ | _ | _ | i
  · exact h
  · exact h
  · exact h
  · exact h
  · exact h
  · obtain ⟨A', c', h1, h2, h3⟩ := h; exact ⟨A', c', h1, h2.below hT, h3.below hT⟩
  · exact h
  · exact h
  · exact h
  · obtain ⟨A', c', h1, h2, h3⟩ := h; exact ⟨A', c', h1, h2.below hT, h3.below hT⟩
  · obtain ⟨g, h1, h2, h3⟩ := h; exact ⟨g, h1, h2, (hT.block g (Array.getElem?_eq_some_iff.1 h3).1).trans h3⟩
  · trivial

/-- Ints that stood, behind a store into a block of a table's. -/
theorem ri_old {w W W' : World} {A : Option Addr} {l : List Int} {g : Nat} (h : Ri w A l) (hb : Below w.heap.size w W) (hc : Chg (fun k => k = g) W W') (hg : w.heap.size ≤ g) : Ri W' A l := by
  rcases h with h | ⟨b, o, rfl, h⟩
  · exact .inl h
  · refine .inr ⟨b, o, rfl, fun i hi => ?_⟩
    have h1 := World.block_lt_of_cell? _ _ (h i hi)
    refine hc.cellv (cell_later hb (h i hi)) ?_
    simp only at h1 ⊢
    omega
theorem ri_new {W W' : World} {A : Option Addr} {l : List Int} {g : Nat} {X : Array Value} (h : Ri W A l) (ht : Ty W A l) (hc : Chg (fun k => k = g) W W') (hg : W.heap[g]? = some (.cells X 25 (0, 0))) : Ri W' A l := by
  rcases ht with h0 | ⟨b, o, Y, rfl, hb⟩
  · exact .inl h0
  · refine h.chg hc fun b' o' s' e => ?_
    injection e with e
    injection e with e1 _ _
    subst e1
    rintro rfl
    rw [hg] at hb
    injection hb with hb
    injection hb with _ hb _
    exact absurd hb (by decide)
/-- What stands in memory: the table that came in, the law's own one, the counts and the law's own. -/
structure KT (w : World) (g : Nat) (cs l t : List Int) (A Bd A1 A2 : Option Addr) (n c m d c1 c2 : Nat) (W : World) : Prop where
  h : Blk W w.heap.size (hx cs (.slice A n c))
  o : Blk W g (hx cs (.slice A1 n c1))
  r : Ri W A l
  r1 : Ri W A1 l
  tt : Ri W Bd t
  t2 : Ri W A2 t
  be : Below w.heap.size w W
section
variable {w : World} {g : Nat} {cs l t : List Int} {A Bd A1 A2 : Option Addr} {n c m d c1 c2 : Nat} {W : World}
theorem KT.call {W' : World} (k : KT w g cs l t A Bd A1 A2 n c m d c1 c2 W) (hb : Below W.heap.size W W') : KT w g cs l t A Bd A1 A2 n c m d c1 c2 W' :=
  ⟨k.h.below hb, k.o.below hb, k.r.below hb, k.r1.below hb, k.tt.below hb, k.t2.below hb, k.be.trans (hb.mono k.be.size)⟩
theorem KT.drew (k : KT w g cs l t A Bd A1 A2 n c m d c1 c2 W) : KT w g cs l t A Bd A1 A2 n c m d c1 c2 W.drew := ⟨k.h, k.o, k.r, k.r1, k.tt, k.t2, k.be.drew⟩
theorem KT.drewN (k : KT w g cs l t A Bd A1 A2 n c m d c1 c2 W) (N : Nat) : KT w g cs l t A Bd A1 A2 n c m d c1 c2 (W.drewN N) := ⟨k.h, k.o, k.r, k.r1, k.tt, k.t2, dN k.be N⟩
theorem KT.alloc (k : KT w g cs l t A Bd A1 A2 n c m d c1 c2 W) (o : Obj) : KT w g cs l t A Bd A1 A2 n c m d c1 c2 (W.alloc o) := k.call ((Below.refl _ _).alloc (Nat.le_refl _) o)
end
theorem Blk.rangeH {W : World} {g : Nat} {cs : List Int} {v : Value} (h : Blk W g (hx cs v)) : W.rangeAt g 0 (cs.map iv ++ [v]) := fun j u hu => by
  rw [Nat.zero_add]
  exact h.cell (by simpa [hx] using hu)
theorem ld_h {W : World} {g : Nat} {cs : List Int} {v : Value} (hcs : cs.length = 16) (h : Blk W g (hx cs v)) : (Instr.loadAt 25 (.pointer (some ⟨g, 0, none⟩))).run Try.prog W = .ok (.agg (hx cs v)) W :=
  run_loadAt_mid W g 0 25 (cs.map iv ++ [v]) _ h.rangeH Try.underlying25 rfl (by rw [show (cs.map iv ++ [v]).length = 17 by simp [hcs]]; kernel_rfl)
theorem ld_c {W : World} {g : Nat} {cs : List Int} {v : Value} (hcs : cs.length = 16) (h : Blk W g (hx cs v)) : (Instr.loadAt 22 (.pointer (some ⟨g, 0, none⟩))).run Try.prog W = .ok (.agg (ia cs)) W :=
  run_loadAt_mid W g 0 22 (cs.map iv) _ (fun j u hu => by
    rw [Nat.zero_add]
    have hj : j < cs.length := by have := (List.getElem?_eq_some_iff.1 hu).1; simpa using this
    have : (hx cs v)[j]? = some u := by
      simp only [hx, List.getElem?_toArray]
      rw [List.getElem?_append_left (by simpa using hj)]
      exact hu
    exact h.cell this) Try.underlying22 rfl (by rw [show (cs.map iv).length = 16 by simp [hcs]]; kernel_rfl)
theorem exec_load {P : Program} {o : Oper} {a : Act} {w : World} (ty : TypeId) (x : Operand) (p v : Value) (ho : o.op = .load ty x) (hx : a.eval x = p) (hl : (Instr.loadAt ty p).run P w = .ok v w) : (execOp a.eval o).run P w = .ok (.value v) w := by
  unfold execOp
  simp only [ho, hx, Sem.run_bind, hl, Result.andThen_ok, Sem.run_pure]
theorem exec_app {P : Program} {o : Oper} {a : Act} {w w' : World} (T : TypeId) (s x : Operand) (v u r : Value) (ho : o.op = .call { callee := .builtin .append, args := #[s, x], argTypes := #[T, T] }) (hs : a.eval s = v) (hx : a.eval x = u)
    (hrun : (Builtin.append_ #[T, T] o.type #[v, u]).run P w = .ok r w') : (execOp a.eval o).run P w = .ok (.value r) w' := by
  simp [execOp, ho, resolve, invoke, builtin, hs, hx, hrun, Result.andThen]
theorem exec_alloc {o : Oper} {a : Act} {w : World} (T : TypeId) (hop : o.op = .alloc T) (Z : Array Value) (hz : (Try.prog.info? T).map (fun i => i.zero) = some (some (.agg Z))) :
    (execOp a.eval o).run Try.prog w = .ok (.value (.pointer (some ⟨w.heap.size, 0, none⟩))) (w.alloc (.cells Z T)) := by
  have hz1 : (zeroValue T).run Try.prog w = .ok (.agg Z) w := by
    cases hq : Try.prog.info? T with
    | none => rw [hq] at hz; cases hz
    | some i =>
      rw [hq] at hz
      have hi : i.zero = some (.agg Z) := by injection hz
      simp [zeroValue, typeInfo, hq, hi]
  simp [execOp, hop, Instr.alloc, hz1, Result.andThen, newVar, newRow, Value.cells]
theorem built16 (c0 c1 c2 c3 c4 c5 c6 c7 c8 c9 c10 c11 c12 c13 c14 c15 : Int) (A : Option Addr) (n c : Nat) : Try.prog.built 25 [(0, .agg (ia [c0, c1, c2, c3, c4, c5, c6, c7, c8, c9, c10, c11, c12, c13, c14, c15])), (1, .slice A n c)] = some (hx [c0, c1, c2, c3, c4, c5, c6, c7, c8, c9, c10, c11, c12, c13, c14, c15] (.slice A n c)) := by kernel_rfl
theorem built_h (cs : List Int) (A : Option Addr) (n c : Nat) (h : cs.length = 16) : Try.prog.built 25 [(0, .agg (ia cs)), (1, .slice A n c)] = some (hx cs (.slice A n c)) := by
  match cs, h with
  | [c0, c1, c2, c3, c4, c5, c6, c7, c8, c9, c10, c11, c12, c13, c14, c15], _ => exact built16 c0 c1 c2 c3 c4 c5 c6 c7 c8 c9 c10 c11 c12 c13 c14 c15 A n c
theorem exec_build {o : Oper} {a : Act} {w : World} (cs : List Int) (A : Option Addr) (n c : Nat) (x y : Operand) (ho : o.op = .build 25 #[(0, x), (1, y)]) (hx1 : a.eval x = .agg (ia cs)) (hy : a.eval y = .slice A n c) (h : cs.length = 16) :
    (execOp a.eval o).run Try.prog w = .ok (.value (.agg (hx cs (.slice A n c)))) w := by
  have := run_build (P := Try.prog) w 25 #[(0, .agg (ia cs)), (1, .slice A n c)] (hx cs (.slice A n c)) (built_h cs A n c h)
  simp [execOp, ho, hx1, hy, this, Result.andThen]
end Go.Proofs.Ytanihbflgolciaa
