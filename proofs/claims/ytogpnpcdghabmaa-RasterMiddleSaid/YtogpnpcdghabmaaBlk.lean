/- Blocks of cells: what stands in one; a whole one, a part of one, loaded; stored; made; an element of an array as a value; copy of ints onto one. -/
import Derived.Test.YtogpnpcdghabmaaMemI
import Derived.Laws.Rows
import Derived.Laws.CopyOwn
import Derived.Laws.CopyRow
namespace Go.Proofs.Ytogpnpcdghabmaa
open Go.RowKit Go.Lib
set_option linter.unusedVariables false
set_option maxRecDepth 100000

/-- Block g is the cells X. -/
def Blk (w : World) (g : Nat) (X : Array Value) : Prop := ∃ T, w.heap[g]? = some (.cells X T (0, 0))
theorem Blk.lt {w : World} {g : Nat} {X : Array Value} (h : Blk w g X) : g < w.heap.size := by
  obtain ⟨T, hg⟩ := h
  exact (Array.getElem?_eq_some_iff.1 hg).1
theorem Blk.cell {w : World} {g : Nat} {X : Array Value} (h : Blk w g X) {j : Nat} {v : Value} (hv : X[j]? = some v) : w.cell? ⟨g, j, none⟩ = some v := by
  obtain ⟨T, hg⟩ := h
  rw [cell_of_row w g j X T _ hg, hv]
theorem Blk.frozen {w : World} {g : Nat} {X : Array Value} (h : Blk w g X) (j : Nat) : w.frozen? ⟨g, j, none⟩ = false := by
  obtain ⟨T, hg⟩ := h
  exact frozen_of_row w g j X T hg
theorem Blk.new (w : World) (X : Array Value) (T : TypeId) : Blk (w.alloc (.cells X T)) w.heap.size X := ⟨T, heap_alloc_new w _⟩
theorem Blk.chg {S : Nat → Prop} {w w' : World} {g : Nat} {X : Array Value} (h : Blk w g X) (hb : Chg S w w') (hn : ¬ S g) : Blk w' g X := by
  have hl := h.lt
  obtain ⟨T, hg⟩ := h
  exact ⟨T, (hb.block g hl hn).trans hg⟩
theorem Blk.below {w w' : World} {g : Nat} {X : Array Value} (h : Blk w g X) (hb : Below w.heap.size w w') : Blk w' g X := h.chg (Chg.of_below (S := fun _ => False) hb) fun e => e
theorem Blk.alloc {w : World} {g : Nat} {X : Array Value} (h : Blk w g X) (o : Obj) : Blk (w.alloc o) g X := h.below ((Below.refl _ _).alloc (Nat.le_refl _) o)
theorem Blk.set {w : World} {g : Nat} {X : Array Value} (h : Blk w g X) (i : Nat) (v : Value) : Blk (w.setCell ⟨g, i, none⟩ v) g (X.setIfInBounds i v) := by
  obtain ⟨T, hg⟩ := h
  exact ⟨T, heap_setCell_same w g i X T v hg⟩
theorem Blk.other {w : World} {g : Nat} {X : Array Value} (h : Blk w g X) {a : Addr} (hn : g ≠ a.block) (v : Value) : Blk (w.setCell a v) g X := by
  obtain ⟨T, hg⟩ := h
  exact ⟨T, (heap_setCell_other w a g v hn).trans hg⟩
theorem Blk.drew {w : World} {g : Nat} {X : Array Value} (h : Blk w g X) : Blk w.drew g X := h
theorem Blk.drewN {w : World} {g : Nat} {X : Array Value} (h : Blk w g X) (n : Nat) : Blk (w.drewN n) g X := h
theorem Blk.ri {w : World} {g : Nat} {X : Array Value} (h : Blk w g X) {l : List Int} (o : Nat) (hl : ∀ j, j < l.length → X[o + j]? = some (.int .i64 (l.getD j 0))) : Ri w (some ⟨g, o, none⟩) l :=
  .inr ⟨g, o, rfl, fun i hi => h.cell (hl i hi)⟩
/-- The ints l as an array's cells. -/
def ia (l : List Int) : Array Value := (l.map iv).toArray
theorem ia_size (l : List Int) : (ia l).size = l.length := by simp [ia]
theorem ia_at {l : List Int} {j : Nat} (h : j < l.length) : (ia l)[j]? = some (.int .i64 (l.getD j 0)) := by
  simp [ia, iv, List.getD_eq_getElem?_getD, h]
theorem ia_set (l : List Int) (i : Nat) (x : Int) : (ia l).setIfInBounds i (.int .i64 x) = ia (l.set i x) := by
  apply Array.ext'
  simp only [ia, Array.toList_setIfInBounds, List.map_set]
  rfl
theorem Blk.ints {w : World} {g : Nat} {l : List Int} (h : Blk w g (ia l)) : Ri w (some ⟨g, 0, none⟩) l := h.ri 0 fun j hj => by rw [Nat.zero_add]; exact ia_at hj
theorem Blk.set_int {w : World} {g : Nat} {l : List Int} (h : Blk w g (ia l)) (i : Nat) (x : Int) : Blk (w.setCell ⟨g, i, none⟩ (.int .i64 x)) g (ia (l.set i x)) := by
  have := h.set i (.int .i64 x)
  rwa [ia_set] at this

def aggD (d : TypeDesc) : Bool := match d with | .struct _ | .array _ _ => true | _ => false
/-- A new variable of an array's, a struct's type. -/
theorem wpList_allocZ (w : World) {ops : Array Oper} {rest : List Oper} {o : Oper} {a : Act} {Q : Exit → Act → World → Prop} (hgd : o.guard = none) (T : TypeId) (hop : o.op = .alloc T) (Z : Array Value)
    (hz : (Try.prog.info? T).map (fun i => i.zero) = some (some (.agg Z))) (h : wpList Try.prog ops Q rest (a.put o.dst (.pointer (some ⟨w.heap.size, 0, none⟩))) (w.alloc (.cells Z T))) : wpList Try.prog ops Q (o :: rest) a w := by
  refine wpList_plain hgd fun K hK => ?_
  have hz1 : (zeroValue T).run Try.prog w = .ok (.agg Z) w := by
    cases hq : Try.prog.info? T with
    | none => rw [hq] at hz; cases hz
    | some i =>
      rw [hq] at hz
      have hi : i.zero = some (.agg Z) := by injection hz
      simp [zeroValue, typeInfo, hq, hi]
  unfold Oper.wp
  simp [execOp, hop, Instr.alloc, hz1, Result.andThen, newVar, newRow, Value.cells]
  exact hK _ _ h
/-- A whole block loaded. -/
theorem wpList_loadB (w : World) {ops : Array Oper} {rest : List Oper} {o : Oper} {a : Act} {Q : Exit → Act → World → Prop} (hgd : o.guard = none) (ty : TypeId) (x : Operand) (ho : o.op = .load ty x)
    (d : TypeDesc) (hu : Try.prog.underlying ty = some d) (hd : aggD d = true)
    (g : Nat) (hx : a.eval x = .pointer (some ⟨g, 0, none⟩)) (X : Array Value) (hg : Blk w g X) (hi : (Try.prog.info? ty).map (·.size) = some X.size)
    (h : wpList Try.prog ops Q rest (a.put o.dst (.agg X)) w) : wpList Try.prog ops Q (o :: rest) a w := by
  obtain ⟨T, hg⟩ := hg
  exact wpList_load_row hgd ty x ho g hx T X _ d hg hu (by cases d <;> first | rfl | (simp [aggD] at hd)) hi h
/-- A part of a block loaded. -/
theorem wpList_loadP (w : World) {ops : Array Oper} {rest : List Oper} {o : Oper} {a : Act} {Q : Exit → Act → World → Prop} (hgd : o.guard = none) (ty : TypeId) (x : Operand) (ho : o.op = .load ty x)
    (d : TypeDesc) (hu : Try.prog.underlying ty = some d) (hd : aggD d = true)
    (g off : Nat) (hx : a.eval x = .pointer (some ⟨g, off, none⟩)) (X : Array Value) (hg : ∀ j v, X[j]? = some v → w.cell? ⟨g, off + j, none⟩ = some v) (hi : (Try.prog.info? ty).map (·.size) = some X.size)
    (h : wpList Try.prog ops Q rest (a.put o.dst (.agg X)) w) : wpList Try.prog ops Q (o :: rest) a w := by
  refine wpList_plain hgd fun K hK => ?_
  have hl : (loadCells ⟨g, off, none⟩ X.toList.length).run Try.prog w = .ok X.toList.toArray w :=
    run_loadCells_list (P := Try.prog) w ⟨g, off, none⟩ X.toList (fun j v hv => by
      rw [Addr.add_lit]
      exact hg j v (by simpa using hv))
  have hagg : (isAgg ty).run Try.prog w = .ok true w := by
    unfold isAgg
    rw [Sem.run_bind, run_underlying hu w]
    cases d <;> simp_all [aggD]
  cases hq : Try.prog.info? ty with
  | none => rw [hq] at hi; cases hi
  | some i =>
    have hs : i.size = X.size := by rw [hq] at hi; simpa using hi
    have hld : (loadVar ty ⟨g, off, none⟩).run Try.prog w = .ok (.agg X) w := by
      simp only [Array.length_toList, Array.toArray_toList] at hl
      simp [loadVar, Sem.run_bind, hagg, sizeOf, typeInfo, hq, hs, hl]
    unfold Oper.wp execOp
    simp only [ho, hx, Instr.loadAt, Instr.sureAddr, Sem.run_bind, Sem.run_pure, Result.andThen_ok, hld]
    exact hK _ _ h
/-- A whole block stored. -/
theorem wpList_storeB (w : World) {ops : Array Oper} {rest : List Oper} {o : Oper} {a : Act} {Q : Exit → Act → World → Prop} (hgd : o.guard = none) (ty : TypeId) (x y : Operand) (ho : o.op = .store ty x y)
    (g : Nat) (hx : a.eval x = .pointer (some ⟨g, 0, none⟩)) (X : Array Value) (hg : Blk w g X) (Y : Array Value) (hy : a.eval y = .agg Y) (hi : (Try.prog.info? ty).map (·.size) = some Y.size) (hs : X.size = Y.size) (h1 : ∀ v ∈ Y.toList, v.oneCell' = true)
    (h : ∀ w', Blk w' g Y → Chg (fun k => k = g) w w' → w'.heap.size = w.heap.size → wpList Try.prog ops Q rest (a.put o.dst undef) w') : wpList Try.prog ops Q (o :: rest) a w := by
  refine wpList_plain hgd fun K hK => ?_
  obtain ⟨T, hg⟩ := hg
  have hst := run_storeCells_from (P := Try.prog) g T Y.toList 0 X w hg (by simp [hs]) h1
  simp only [List.take_zero, List.nil_append, Array.toArray_toList] at hst
  cases hq : Try.prog.info? ty with
  | none => rw [hq] at hi; cases hi
  | some i =>
    have hs : i.size = Y.size := by rw [hq] at hi; simpa using hi
    unfold Oper.wp execOp
    simp [ho, hx, hy, Instr.storeAt, Instr.sureAddr, storeVar, sizeOf, typeInfo, hq, hs, Value.cells, hst, Result.andThen]
    exact hK _ _ (h _ ⟨T, setRow_heap w g X _ T _ hg⟩ ⟨rfl, rfl, rfl, by simp, fun k _ hn => setRow_other w g k _ hn⟩ (by simp))
/-- An element of an array as a value, of one cell. -/
theorem wpList_indexA (w : World) {ops : Array Oper} {rest : List Oper} {o : Oper} {a : Act} {Q : Exit → Act → World → Prop} (hgd : o.guard = none) (ty : TypeId) (x i : Operand) (ho : o.op = .index ty x i)
    (len : Nat) (E : TypeId) (q : IntKind) (hu : Try.prog.underlying ty = some (.array len E)) (hE : Try.prog.underlying E = some (.int q)) (hi : (Try.prog.info? E).map (·.size) = some 1)
    (X : Array Value) (hx : a.eval x = .agg X) (k : Nat) (hk : a.eval i = .int .i64 k) (hl : k < len) (v : Value) (hv : X[k]? = some v)
    (h : wpList Try.prog ops Q rest (a.put o.dst v) w) : wpList Try.prog ops Q (o :: rest) a w := by
  refine wpList_plain hgd fun K hK => ?_
  cases hq : Try.prog.info? E with
  | none => rw [hq] at hi; cases hi
  | some e =>
    have hs : e.size = 1 := by rw [hq] at hi; simpa using hi
    have h2 : (0 : Int) ≤ (k : Int) ∧ (k : Int) < (len : Int) := by omega
    unfold Oper.wp execOp
    simp [ho, hx, hk, Instr.index, asIntOf, run_underlying hu, run_underlying hE, sizeOf, typeInfo, hq, hs, part, isAgg, hv, Result.andThen, h2, hl]
    exact hK _ _ h
/-- copy of ints onto a block of ints. -/
theorem wpList_copyA (w : World) {ops : Array Oper} {rest : List Oper} {o : Oper} {a : Act} {Q : Exit → Act → World → Prop} (hgd : o.guard = none) (d s : Operand)
    (ho : o.op = .call { callee := .builtin .copy, args := #[d, s], argTypes := #[55, 55] }) (g n c1 : Nat) (l : List Int) (hd : a.eval d = .slice (some ⟨g, 0, none⟩) n c1) (hn : n = l.length) (hg : Blk w g (ia l))
    (A : Option Addr) (m c2 : Nat) (r : List Int) (hs : a.eval s = .slice A m c2) (hm : m = r.length) (hr : Ri w A r) (hle : m ≤ n)
    (h : ∀ w', Blk w' g (ia (r ++ l.drop r.length)) → Chg (fun k => k = g) w w' → w'.heap.size = w.heap.size → wpList Try.prog ops Q rest (a.put o.dst (goInt m)) w') : wpList Try.prog ops Q (o :: rest) a w := by
  subst hn hm
  obtain ⟨T, hg⟩ := hg
  have hsz : (Try.prog.info? 3).map (·.size) = some 1 := by
    obtain ⟨i0, hi, hz0, hz1, hz2⟩ := info_parts Try.info3
    rw [hi]; simp [hz1]
  rcases hr.v with h0 | ⟨b, off, rfl, hc⟩
  · have h00 : r = [] := by simpa using h0
    subst h00
    refine wpList_copy_nothing hgd d s _ _ ho 3 Try.underlying55 hsz _ _ _ _ _ _ hd hs (by simp) ?_
    exact h w ⟨T, by simpa using hg⟩ ⟨rfl, rfl, rfl, Nat.le_refl _, fun _ _ _ => rfl⟩ rfl
  · have h2 := fun hh => wpList_copy_own (w := w) (Q := Q) (ops := ops) (rest := rest) hgd d s _ _ ho 3 Try.underlying55 hsz g 0 l.length c1 ⟨b, off, none⟩ r.length c2 hd hs (ia l) T hg (r.map iv) (by rw [List.length_map]; exact (Nat.min_eq_left hle).symm)
      (fun j v hv => by rw [Addr.add_lit]; exact hc j v hv) (by simpa [ia_size] using hle) (iv_one r) hh
    refine h2 ?_
    have e : ((ia l).toList.take 0 ++ (r.map iv ++ (ia l).toList.drop (0 + (r.map iv).length))).toArray = ia (r ++ l.drop r.length) := by simp [ia]
    rw [e]
    have := h (w.setRow g (ia (r ++ l.drop r.length))) ⟨T, setRow_heap w g _ _ T _ hg⟩ ⟨rfl, rfl, rfl, by simp, fun k _ hn => setRow_other w g k _ hn⟩ (by simp)
    simpa using this
/-- A variable of several cells, read. -/
theorem run_loadVarP (w : World) (ty : TypeId) (d : TypeDesc) (hu : Try.prog.underlying ty = some d) (hd : aggD d = true) (g off : Nat) (X : Array Value) (hg : ∀ (j : Nat) (v : Value), X[j]? = some v → w.cell? ⟨g, off + j, none⟩ = some v) (hi : (Try.prog.info? ty).map (·.size) = some X.size) :
    (loadVar ty ⟨g, off, none⟩).run Try.prog w = .ok (.agg X) w := by
  have hl : (loadCells ⟨g, off, none⟩ X.toList.length).run Try.prog w = .ok X.toList.toArray w :=
    run_loadCells_list (P := Try.prog) w ⟨g, off, none⟩ X.toList (fun j v hv => by
      rw [Addr.add_lit]
      exact hg j v (by simpa using hv))
  have hagg : (isAgg ty).run Try.prog w = .ok true w := by
    unfold isAgg
    rw [Sem.run_bind, run_underlying hu w]
    cases d <;> simp_all [aggD]
  cases hq : Try.prog.info? ty with
  | none => rw [hq] at hi; cases hi
  | some i =>
    have hs : i.size = X.size := by rw [hq] at hi; simpa using hi
    simp only [Array.length_toList, Array.toArray_toList] at hl
    simp [loadVar, Sem.run_bind, hagg, sizeOf, typeInfo, hq, hs, hl]
/-- What comes back out of a variable in a cell, and a slot. -/
theorem results_cell_tmp {fn : Func} {p q : Tmp} {ty : TypeId} (h : fn.results = #[.cell p ty, .tmp q]) (tmps : Array Value) (w : World) (d : TypeDesc) (hu : Try.prog.underlying ty = some d) (hd : aggD d = true) (g : Nat) (X : Array Value) (v : Value)
    (hp : tmps.getD p undef = .pointer (some ⟨g, 0, none⟩)) (hq : tmps.getD q undef = v) (hg : ∀ (j : Nat) (v : Value), X[j]? = some v → w.cell? ⟨g, j, none⟩ = some v) (hi : (Try.prog.info? ty).map (·.size) = some X.size) :
    (results fn tmps).run Try.prog w = .ok (.tuple #[.agg X, v]) w := by
  have hp' : tmps[p]?.getD undef = .pointer (some ⟨g, 0, none⟩) := by simpa using hp
  have hq' : tmps[q]?.getD undef = v := by simpa using hq
  have hl := run_loadVarP w ty d hu hd g 0 X (fun j v hv => by rw [Nat.zero_add]; exact hg j v hv) hi
  simp [results, h, hp', hq', asAddr, hl]
theorem pair_cells {w : World} {g : Nat} {v0 v1 : Value} (h0 : w.cell? ⟨g, 0, none⟩ = some v0) (h1 : w.cell? ⟨g, 1, none⟩ = some v1) : ∀ (j : Nat) (v : Value), #[v0, v1][j]? = some v → w.cell? ⟨g, j, none⟩ = some v := by
  intro j v hv
  rcases j with _ | _ | j
  · simp at hv; subst hv; exact h0
  · simp at hv; subst hv; exact h1
  · simp at hv
end Go.Proofs.Ytogpnpcdghabmaa
