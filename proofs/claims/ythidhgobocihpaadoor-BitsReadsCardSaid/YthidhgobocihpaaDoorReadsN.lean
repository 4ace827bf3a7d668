/- The law BitsReads: it returns true, whatever bytes and numbers. -/
import Derived.Test.YthidhgobocihpaaDoorReadsM
namespace Go.Proofs.YthidhgobocihpaaDoor
open Go.RowKit Go.Lib
set_option linter.unusedVariables false

set_option maxRecDepth 100000 in
theorem reads_far1 (l : List UInt8) (ns : List Int) (A A2 : Option Addr) (c c2 : Nat) (w : World) (hw : Env w) (hl : 300 < l.length) (hm : l.length ≤ maxLen) :
    Calls Tryd.prog 4 #[.slice A l.length c, .slice A2 ns.length c2] w fun e w' => e = .returned (.bool true) ∧ Below w.heap.size w w' := by
  unfold maxLen at hm
  go_enter Tryd.func4, Tryd.ntmps4
  go_wp2_with ((with_reducible refine (awake_any _ hw).mono ?_); rintro e w1 ⟨rfl, hb⟩)
  go_ret
  exact ⟨rfl, hb⟩
set_option maxRecDepth 100000 in
theorem reads_far2 (l : List UInt8) (ns : List Int) (A A2 : Option Addr) (c c2 : Nat) (w : World) (hw : Env w) (hl : l.length ≤ 300) (hn : 200 < ns.length) (hm : ns.length ≤ maxLen) :
    Calls Tryd.prog 4 #[.slice A l.length c, .slice A2 ns.length c2] w fun e w' => e = .returned (.bool true) ∧ Below w.heap.size w w' := by
  unfold maxLen at hm
  go_enter Tryd.func4, Tryd.ntmps4
  go_wp2_with ((with_reducible refine (awake_any _ hw).mono ?_); rintro e w1 ⟨rfl, hb⟩)
  go_ret
  exact ⟨rfl, hb⟩
theorem reads_any (l : List UInt8) (ns : List Int) (A A2 : Option Addr) (c c2 : Nat) (w : World) (hw : Env w) (hr : Rd w A l) (hcap : l.length ≤ c) (hA : A = none → c = 0) (hr2 : Ri w A2 ns) (hm : l.length ≤ maxLen) (hm2 : ns.length ≤ maxLen) :
    Calls Tryd.prog 4 #[.slice A l.length c, .slice A2 ns.length c2] w fun e w' => e = .returned (.bool true) ∧ Below w.heap.size w w' := by
  rcases Nat.lt_or_ge 300 l.length with h | h
  · exact reads_far1 l ns A A2 c c2 w hw h hm
  · rcases Nat.lt_or_ge 200 ns.length with h2 | h2
    · exact reads_far2 l ns A A2 c c2 w hw h h2 hm2
    · have hd := dat_le l
      by_cases he : dat l = l.length
      · exact reads_yes l ns A A2 c c2 w hw hr hcap hA hr2 h h2 he
      · exact reads_no l ns A A2 c c2 w hw hr hcap hA hr2 h h2 (by omega)
end Go.Proofs.YthidhgobocihpaaDoor
