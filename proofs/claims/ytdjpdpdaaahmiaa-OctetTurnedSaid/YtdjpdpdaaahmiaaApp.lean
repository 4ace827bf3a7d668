/- Append onto a row of bytes of the call's own; a row of bytes that is written in place; copy. -/
import Derived.Test.YtdjpdpdaaahmiaaByt
import Derived.Laws.AppendOwnNone
import Derived.Laws.CopyOwn
namespace Go.Proofs.Ytdjpdpdaaahmiaa
open Go.RowKit

theorem bv_one (l : List UInt8) : ∀ u ∈ l.map bv, u.oneCell' = true := by
  intro u hu
  obtain ⟨x, _, rfl⟩ := List.mem_map.1 hu
  rfl
theorem bv_at {l : List UInt8} {j : Nat} {u : Value} (h : (l.map bv)[j]? = some u) : j < l.length ∧ u = .int .u8 (bt l j) := by
  obtain ⟨hj, hv⟩ := List.getElem?_eq_some_iff.1 h
  rw [List.length_map] at hj
  rw [List.getElem_map, bv_bt l j hj] at hv
  exact ⟨hj, hv.symm⟩

theorem run_app_none (w : World) (base : Nat) (v : Value) (l : List UInt8) (hown : Ob w base v l) (ty : TypeId) (c : Nat) :
    (Builtin.append_ #[22, 22] ty #[v, .slice none 0 c]).run Try.prog w = .ok v w := by
  obtain ⟨i0, hi, _, _, _⟩ := info_parts Try.info5
  have ht := Try.underlying22
  rcases hown.2 with ⟨rfl, _⟩ | ⟨g, cap, cur, rfl, _, _, hnc, _⟩
  · simp [Builtin.append_, run_underlying ht, sizeOf, typeInfo, hi, Builtin.lenOf, Builtin.firstCells]
  · simp [Builtin.append_, run_underlying ht, sizeOf, typeInfo, hi, Builtin.lenOf, Builtin.firstCells, hnc, storeCells]

theorem run_app (w : World) (base : Nat) (v : Value) (l : List UInt8) (hown : Ob w base v l) (A : Option Addr) (m : List UInt8) (c : Nat) (hr : Rd w A m) (ty : TypeId)
    (hlen : l.length + m.length ≤ 140737488355328) (hbase : base ≤ w.heap.size) :
    ∃ v' w', (Builtin.append_ #[22, 22] ty #[v, .slice A m.length c]).run Try.prog w = .ok v' w' ∧ Ob w' base v' (l ++ m) ∧ Below base w w' ∧
      (v' = .slice none 0 0 ↔ v = .slice none 0 0 ∧ m = []) := by
  obtain ⟨i0, hi, hz0, hz1, hz2⟩ := info_parts Try.info5
  rcases A with _ | ad
  · have hm : m = [] := by
      rcases hr with h | ⟨b, o, h, _⟩
      · exact h
      · cases h
    subst hm
    refine ⟨v, w, run_app_none w base v l hown ty c, by rw [List.append_nil]; exact hown, Below.refl _ _, by simp⟩
  · have hnews : ∀ j u, (m.map bv)[j]? = some u → w.cell? (ad.add j) = some u := by
      intro j u hu
      obtain ⟨hj, rfl⟩ := bv_at hu
      rcases hr with h | ⟨b, o, h, hc⟩
      · rw [h] at hj; simp at hj
      · injection h with h
        subst h
        rw [Addr.add_lit]
        exact hc j hj
    obtain ⟨v', w', hrun, h1, h2, h3⟩ := run_append_own (P := Try.prog) w base 22 ty 5 i0 (.int .u8 0) 1 1 Try.underlying22 hi hz0 hz1 hz2 rfl (by decide) v l.length (l.map bv) hown ad m.length c (m.map bv)
      (by simp) hnews (bv_one m) (by unfold maxLen; omega) (by omega) hbase
    refine ⟨v', w', hrun, ?_, ?_, ?_⟩
    · unfold Ob
      rw [List.length_append, List.map_append]
      exact h1
    · exact (Below.refl _ _).grown h2 hbase fun k hk => (World.ownsRow.lt hown k hk).1
    · rw [h3]
      constructor
      · rintro ⟨a, b⟩; exact ⟨a, List.eq_nil_of_length_eq_zero b⟩
      · rintro ⟨a, b⟩; exact ⟨a, by rw [b]; rfl⟩

theorem wpList_app (w : World) {ops : Array Oper} {rest : List Oper} {o : Oper} {a : Act} {Q : Exit → Act → World → Prop} (hgd : o.guard = none) (s x : Operand)
    (ho : o.op = .call { callee := .builtin .append, args := #[s, x], argTypes := #[22, 22] })
    (base : Nat) (v : Value) (l : List UInt8) (hs : a.eval s = v) (hown : Ob w base v l) (A : Option Addr) (m : List UInt8) (n c : Nat) (hn : n = m.length) (hx : a.eval x = .slice A n c) (hr : Rd w A m)
    (hlen : l.length + m.length ≤ 140737488355328) (hbase : base ≤ w.heap.size)
    (h : ∀ v' w', Ob w' base v' (l ++ m) → Below base w w' → Hid (v' = .slice none 0 0 ↔ v = .slice none 0 0 ∧ m = []) → wpList Try.prog ops Q rest (a.put o.dst v') w') : wpList Try.prog ops Q (o :: rest) a w := by
  refine wpList_plain hgd fun K hK => ?_
  subst hn
  obtain ⟨v', w', hrun, h1, h2, h3⟩ := run_app w base v l hown A m c hr o.type hlen hbase
  unfold Oper.wp
  simp [execOp, ho, resolve, invoke, builtin, hs, hx, hrun, Result.andThen]
  exact hK _ _ (h v' w' h1 h2 h3)

/-- One byte in a new block. -/
theorem Rd.one (w : World) (T : TypeId) (z : Int) (x : UInt8) (h : z = (x.toNat : Int)) : Rd (w.alloc (.cells #[.int .u8 z] T)) (some ⟨w.heap.size, 0, none⟩) [x] := by
  refine .inr ⟨w.heap.size, 0, rfl, fun i hi => ?_⟩
  have h0 : i = 0 := by simp at hi; exact hi
  subst h0
  rw [World.cell?_alloc_at _ _ _ _ rfl, h]
  rfl
/-- The bytes of a literal in a new block. -/
theorem Rd.lits (w : World) (T : TypeId) (cs : Array Value) (l : List UInt8) (h : cs = (l.map bv).toArray) : Rd (w.alloc (.cells cs T)) (some ⟨w.heap.size, 0, none⟩) l := by
  refine .inr ⟨w.heap.size, 0, rfl, fun i hi => ?_⟩
  rw [World.cell?_alloc_at _ _ _ _ rfl, h, ← bv_bt l i hi]
  simp [hi]

theorem own_any (l : List UInt8) (A : Option Addr) (c : Nat) (w : World) (hr : Rd w A l) (hl : l.length ≤ 140737488355328) :
    Calls Try.prog 8 #[.slice A l.length c] w fun e w' => ∃ v, e = .returned v ∧ Ob w' w.heap.size v l ∧ Below w.heap.size w w' := by
  go_enter Try.func8, Try.ntmps8
  go_wp2_with (
    at_builtin
    refine wpList_app _ rfl _ _ rfl w.heap.size _ [] rfl ?_ A l l.length c rfl rfl (hr.alloc _) (by simpa using hl) (by simp) ?_
    case refine_1 => exact World.ownsRow_made w #[] 0 (Nat.le_refl _) (Nat.zero_le _) rfl
    intro v1 w1 hown1 hb1 _)
  go_ret
  exact ⟨v1, rfl, by simpa using hown1, (((Below.refl w.heap.size w).alloc (Nat.le_refl _) _).trans hb1)⟩
end Go.Proofs.Ytdjpdpdaaahmiaa
