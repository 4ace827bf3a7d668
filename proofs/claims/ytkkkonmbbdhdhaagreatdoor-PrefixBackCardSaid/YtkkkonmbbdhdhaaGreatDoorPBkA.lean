/- The law PrefixBack: any input. -/
import Derived.Test.YtkkkonmbbdhdhaaGreatDoorPBk
import Derived.Test.YtkkkonmbbdhdhaaGreatDoorLawM
namespace Go.Proofs.YtkkkonmbbdhdhaaGreatDoor
open Go.RowKit Go.Lib
set_option linter.unusedVariables false
set_option maxRecDepth 100000
set_option maxHeartbeats 4000000 in
theorem pbk_any (cs l l2 : List Int) (A A2 : Option Addr) (c c2 : Nat) (w : World) (hcs : cs.length = 16) (hr : Ri w A l) (hw : Env w) (hr2 : Ri w A2 l2) (hrng : ∀ i, -9223372036854775808 ≤ l2.getD i 0 ∧ l2.getD i 0 ≤ 9223372036854775807) :
    Calls Tryz.prog 4 #[.agg (hx cs (.slice A l.length c)), .slice A2 l2.length c2] w fun e w' => e = .returned (.bool true) ∧ Below w.heap.size w w' := by
  have HW := Lib.hid ((Below.refl w.heap.size w).alloc (Nat.le_refl _) (.cells (hx cs (.slice A l.length c)) 25))
  have HX := Lib.hid (hx_hv hcs (.slice A l.length c))
  have e16 := HX.out.syms
  by_cases h1 : 256 < l.length
  · have d1 : decide ((256 : Int) < (l.length : Int)) = true := by rw [decide_eq_true_iff]; omega
    generalize hx cs (.slice A l.length c) = X at *
    go_enter Tryz.func4, Tryz.ntmps4
    go_wp2_with fail
    (with_reducible refine (awake_any _).mono ?_); rintro e we ⟨rfl, he⟩
    go_wp2
    go_ret
    exact ⟨rfl, below_le HW.out he HW.out.size⟩
  · by_cases h2 : 200 < l2.length
    · have d1 : decide ((256 : Int) < (l.length : Int)) = false := by rw [decide_eq_false_iff_not]; omega
      have d2 : decide ((200 : Int) < (l2.length : Int)) = true := by rw [decide_eq_true_iff]; omega
      generalize hx cs (.slice A l.length c) = X at *
      go_enter Tryz.func4, Tryz.ntmps4
      go_wp2_with fail
      (with_reducible refine (awake_any _).mono ?_); rintro e we ⟨rfl, he⟩
      go_wp2
      go_ret
      exact ⟨rfl, below_le HW.out he HW.out.size⟩
    · cases hmb : mayB cs l with
      | true => exact pbk_yes cs l l2 A A2 c c2 w hcs hr hw hr2 hrng (by omega) (by omega) hmb
      | false =>
        have d1 : decide ((256 : Int) < (l.length : Int)) = false := by rw [decide_eq_false_iff_not]; omega
        have d2 : decide ((200 : Int) < (l2.length : Int)) = false := by rw [decide_eq_false_iff_not]; omega
        have hX17 := hx17 hcs (.slice A l.length c)
        generalize hx cs (.slice A l.length c) = X at *
        have HMB := Lib.hid hmb
        have HBL := Lib.hid (Blk.new w X 25)
        have HX17 := Lib.hid hX17
        have HSZ : Hid ((Tryz.prog.info? 25).map (·.size) = some X.size) := by show _ = _; rw [hX17]; kernel_rfl
        have HR := Lib.hid (hr.below HW.out)
        clear hr hr2 hw hX17 hmb hcs hrng
        go_enter Tryz.func4, Tryz.ntmps4
        go_wp2_with (with_reducible refine wpList_loadB _ rfl 25 (.tmp 2) rfl _ Tryz.underlying25 rfl w.heap.size rfl X HBL.out HSZ.out ?_)
        (with_reducible refine (fNew_no X cs l A c _ HX.out HR.out (by omega) HMB.out HX17.out).mono ?_); rintro e w1 ⟨rfl, h1⟩
        have HW1 := Lib.hid (below_le HW.out h1 HW.out.size)
        have HP := Lib.hid (PW.start w1 43)
        clear h1
        go_wp2_with fail
        (with_reducible refine (tput_nil (.pointer (some ⟨w1.heap.size, 0, none⟩)) ⟨_, rfl⟩ 0 _).mono ?_); rintro e w2 ⟨rfl, h2⟩
        have HP2 := Lib.hid (HP.out.on h2)
        have hz1 := HW1.out.size
        have HW2 := Lib.hid (below_le (HW1.out.alloc hz1 (.cells #[.slice none 0 0, .int .u32 0, .int .i64 0] 43)) h2 (by simp; omega))
        clear h2
        go_wp2_with fail
        (with_reducible refine (len_at w1.heap.size w1.heap.size [] none 0 _ HP2.out.wt rfl).mono ?_); rintro e w3 ⟨rfl, rfl⟩
        go_wp2_with fail
        (with_reducible refine (awake_any _).mono ?_); rintro e we ⟨rfl, he⟩
        have hf := below_le HW2.out he HW2.out.size
        go_wp2
        go_ret
        exact ⟨rfl, hf⟩
end Go.Proofs.YtkkkonmbbdhdhaaGreatDoor
