/- The law BitsBack: it returns true, whatever deeds and bytes. -/
import Derived.Test.YthidhgobocihpaaDoorBackL
namespace Go.Proofs.YthidhgobocihpaaDoor
open Go.RowKit Go.Lib
set_option linter.unusedVariables false

set_option maxRecDepth 100000 in
theorem back_far1 (l : List (Int × Int)) (bs : List UInt8) (A A2 : Option Addr) (c c2 : Nat) (w : World) (hw : Env w) (hl : 200 < l.length) (hm : l.length ≤ maxLen) :
    Calls Tryd.prog 6 #[.slice A l.length c, .slice A2 bs.length c2] w fun e w' => e = .returned (.bool true) ∧ Below w.heap.size w w' := by
  unfold maxLen at hm
  go_enter Tryd.func6, Tryd.ntmps6
  go_wp2_with ((with_reducible refine (awake_any _ hw).mono ?_); rintro e w1 ⟨rfl, hb⟩)
  go_ret
  exact ⟨rfl, hb⟩
set_option maxRecDepth 100000 in
theorem back_far2 (l : List (Int × Int)) (bs : List UInt8) (A A2 : Option Addr) (c c2 : Nat) (w : World) (hw : Env w) (hl : l.length ≤ 200) (hn : 300 < bs.length) (hm : bs.length ≤ maxLen) :
    Calls Tryd.prog 6 #[.slice A l.length c, .slice A2 bs.length c2] w fun e w' => e = .returned (.bool true) ∧ Below w.heap.size w w' := by
  unfold maxLen at hm
  go_enter Tryd.func6, Tryd.ntmps6
  go_wp2_with ((with_reducible refine (awake_any _ hw).mono ?_); rintro e w1 ⟨rfl, hb⟩)
  go_ret
  exact ⟨rfl, hb⟩
theorem back_any (l : List (Int × Int)) (bs : List UInt8) (A A2 : Option Addr) (c c2 : Nat) (w : World) (hw : Env w) (hr : Pz w A l) (hr2 : Rd w A2 bs) (hcap2 : bs.length ≤ c2) (hA2 : A2 = none → c2 = 0) (hm : l.length ≤ maxLen) (hm2 : bs.length ≤ maxLen) :
    Calls Tryd.prog 6 #[.slice A l.length c, .slice A2 bs.length c2] w fun e w' => e = .returned (.bool true) ∧ Below w.heap.size w w' := by
  rcases Nat.lt_or_ge 200 l.length with h | h
  · exact back_far1 l bs A A2 c c2 w hw h hm
  · rcases Nat.lt_or_ge 300 bs.length with h2 | h2
    · exact back_far2 l bs A A2 c c2 w hw h h2 hm2
    · exact back_near l bs A A2 c c2 w hw hr hr2 hcap2 hA2 h h2
end Go.Proofs.YthidhgobocihpaaDoor
