/- max(a, b) of ints in a plain region, as one value. REUSABLE in each seat. -/
import Derived.Test.YtogpnpcdghabmaaRows
import Derived.WalkKit
import Derived.RegionTactic
namespace Go.Proofs.Ytogpnpcdghabmaa
open Go.RowKit
set_option linter.unusedVariables false
theorem run_maxI (w : World) (ts : Array TypeId) (T : TypeId) (a b : Int) : (Builtin.max_ ts T #[.int .i64 a, .int .i64 b]).run Try.prog w = .ok (.int .i64 (max a b)) w := by
  have h : (if b > a then b else a) = max a b := by
    by_cases hb : b > a
    · rw [if_pos hb]; omega
    · rw [if_neg hb]; omega
  simp [Builtin.max_, Builtin.max2]
  exact h
theorem wpList_maxI (w : World) {ops : Array Oper} {rest : List Oper} {o : Oper} {a : Act} {Q : Exit → Act → World → Prop} (hgd : o.guard = none) (x y : Operand)
    (ho : o.op = .call { callee := .builtin .max, args := #[x, y], argTypes := #[3, 3] }) (m n : Int) (hx : a.eval x = .int .i64 m) (hy : a.eval y = .int .i64 n)
    (h : wpList Try.prog ops Q rest (a.put o.dst (.int .i64 (max m n))) w) : wpList Try.prog ops Q (o :: rest) a w := by
  refine wpList_plain hgd fun K hK => ?_
  have hr := run_maxI w #[3, 3] o.type m n
  unfold Oper.wp
  simp [execOp, ho, resolve, invoke, builtin, hx, hy, hr, Result.andThen]
  exact hK _ _ h
theorem wpList_maxK (w : World) {ops : Array Oper} {rest : List Oper} {o : Oper} {a : Act} {Q : Exit → Act → World → Prop} (hgd : o.guard = none) (x y : Operand)
    (ho : o.op = .call { callee := .builtin .max, args := #[x, y], argTypes := #[3, 3] }) (m n k : Int) (hx : a.eval x = .int .i64 m) (hy : a.eval y = .int .i64 n) (hk : max m n = k)
    (h : wpList Try.prog ops Q rest (a.put o.dst (.int .i64 k)) w) : wpList Try.prog ops Q (o :: rest) a w :=
  wpList_maxI w hgd x y ho m n hx hy (by rw [hk]; exact h)
theorem run_minI (w : World) (ts : Array TypeId) (T : TypeId) (a b k : Int) (hk : min a b = k) : (Builtin.min_ ts T #[.int .i64 a, .int .i64 b]).run Try.prog w = .ok (.int .i64 k) w := by
  have h : (if b < a then b else a) = k := by
    by_cases hb : b < a
    · rw [if_pos hb]; omega
    · rw [if_neg hb]; omega
  simp [Builtin.min_, Builtin.min2]
  exact h
theorem wpList_minI (w : World) {ops : Array Oper} {rest : List Oper} {o : Oper} {a : Act} {Q : Exit → Act → World → Prop} (hgd : o.guard = none) (x y : Operand)
    (ho : o.op = .call { callee := .builtin .min, args := #[x, y], argTypes := #[3, 3] }) (m n k : Int) (hx : a.eval x = .int .i64 m) (hy : a.eval y = .int .i64 n) (hk : min m n = k)
    (h : wpList Try.prog ops Q rest (a.put o.dst (.int .i64 k)) w) : wpList Try.prog ops Q (o :: rest) a w := by
  refine wpList_plain hgd fun K hK => ?_
  have hr := run_minI w #[3, 3] o.type m n k hk
  unfold Oper.wp
  simp [execOp, ho, resolve, invoke, builtin, hx, hy, hr, Result.andThen]
  exact hK _ _ h
end Go.Proofs.Ytogpnpcdghabmaa
