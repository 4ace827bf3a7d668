/- Contracts of the law's alike, the document's Same; the examples (written by tools/gen_raQ.py). -/
import Derived.Test.YtogpnpcdghabmaaRaP
import Derived.Test.YtogpnpcdghabmaaStrB
namespace Go.Proofs.Ytogpnpcdghabmaa
open Go.RowKit Go.Lib
set_option linter.unusedVariables false
set_option maxRecDepth 100000
set_option maxHeartbeats 1000000 in
theorem same_yes (l : List UInt8) (W H : Int) (A A2 : Option Addr) (n c n2 c2 : Nat) (hn : n = l.length) (hn2 : n2 = l.length) (w : World) (h1 : Rd w A l) (h2 : Rd w A2 l) :
    Calls Try.prog 19 #[ra W H (.slice A n c), ra W H (.slice A2 n2 c2)] w fun e w' => e = .returned (.bool true) ∧ Below w.heap.size w w' := by
  have HB := Lib.hid (((Below.refl w.heap.size w).alloc (Nat.le_refl _) (.cells #[.int .i64 W, .int .i64 H, .slice A n c] 24)).alloc (by simp) (.cells #[.int .i64 W, .int .i64 H, .slice A2 n2 c2] 24))
  have e5 := run_strB _ l A n c hn (h1.below HB.out)
  have e6 := run_strB _ l A2 n2 c2 hn2 (h2.below HB.out)
  clear h1 h2 hn hn2
  unfold ra
  go_enter Try.func19, Try.ntmps19
  go_wp2
  go_ret
  exact ⟨rfl, HB.out⟩
set_option maxHeartbeats 1000000 in
theorem alike_yes (l : List UInt8) (W H : Int) (A A2 : Option Addr) (n c n2 c2 : Nat) (hn : n = l.length) (hn2 : n2 = l.length) (w : World) (h1 : Rd w A l) (h2 : Rd w A2 l) :
    Calls Try.prog 22 #[ra W H (.slice A n c), ra W H (.slice A2 n2 c2)] w fun e w' => e = .returned (.bool true) ∧ Below w.heap.size w w' := by
  have HB := Lib.hid (((Below.refl w.heap.size w).alloc (Nat.le_refl _) (.cells #[.int .i64 W, .int .i64 H, .slice A n c] 24)).alloc (by simp) (.cells #[.int .i64 W, .int .i64 H, .slice A2 n2 c2] 24))
  have e5 := run_strB _ l A n c hn (h1.below HB.out)
  have e6 := run_strB _ l A2 n2 c2 hn2 (h2.below HB.out)
  clear h1 h2 hn hn2
  unfold ra
  go_enter Try.func22, Try.ntmps22
  go_wp2
  go_ret
  exact ⟨rfl, HB.out⟩
/-- The pictures of the examples. -/
theorem ex_box : picL (boxF [10, 20, 30, 11, 21, 33] 2 1 1 1) 1 1 = [11, 21, 32] := by decide +kernel
theorem ex_pad : picL (padF [11, 21, 32] 1 1) 2 1 = [11, 21, 32, 11, 21, 32] := by decide +kernel
theorem ex_f1 : fitN 4000 3000 160 120 = (160, 120) := by decide +kernel
theorem ex_f2 : fitN 100 50 160 120 = (100, 50) := by decide +kernel
theorem ex_f3 : fitN 4096 1 16 16 = (16, 1) := by decide +kernel
end Go.Proofs.Ytogpnpcdghabmaa
