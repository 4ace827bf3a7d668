/- The iterator of the steps: it yields each step with its place. -/
import Derived.RangeFuncNested
import Derived.RangeFuncBound
import Derived.RangeFuncCalls
import Derived.RangeFuncLeaves
import Derived.Shelf.Abstract
import Derived.Shelf.RegionOpen
import Derived.WalkKit
import Derived.OwnWalkIn
import Derived.TacticsInMore
import Derived.LoopNIn
import Derived.LoopIn
import Derived.Test.YtipmbffpokplgaaDoorZP
namespace Go.Proofs.YtipmbffpokplgaaDoor
open Go.RowKit Go.Shelf Go.Lib
attribute [local go_sem] Oper.semAt_some
set_option linter.unusedVariables false

abbrev encs (m : Fin 64) : Array Value := #[.int .i64 (m.val : Int), .int .i64 ((za m.val : Nat) : Int)]
theorem encs_eq {m : Nat} (hm : m < 64) {a b : Int} (ha : (m : Int) = a) (hb : ((za m : Nat) : Int) = b) : encs ⟨m, hm⟩ = #[.int .i64 a, .int .i64 b] := by
  subst ha hb; rfl
set_option maxRecDepth 100000 in
set_option maxHeartbeats 2000000 in
theorem visits_stops (F : Fence) (n : Nat) (h5 : F.fn 35) (hro : F.round = none) (hn : 1 ≤ n) (w : World) :
    SeqStopsK F n Tryd.prog 35 #[] encs (fun _ _ => True) (fun xs => xs = fr) (fun pre => pre <+: fr) 64 w := fun l J Jx W _ _ _ hY h0 => by
  refine callsIn_of_wp Tryd.func35 rfl h5 ?_ hro
  simp only [Tryd.ntmps35, List.size_toArray, List.length_cons, List.length_nil, Nat.reduceAdd, Nat.reduceSub, Array.replicate_succ, Array.replicate_zero, List.push_toArray, List.append_toArray, List.nil_append, List.cons_append]
  gi_wp2
  gi_loopw [2, 8] (fun nn kk wr => ∃ (k c : Nat), k ≤ 15 ∧ Hid (c = zcnt k) ∧ kk = .int .i64 k ∧ nn = .int .i64 c ∧ J (fr.take c) wr) (fun _ kk _ => 15 - (RowKit.intOf kk).toNat)
  case atStart => exact ⟨0, 0, by omega, (show Hid _ from rfl), rfl, rfl, h0⟩
  case round =>
    obtain ⟨k, c, hk, HC, rfl, rfl, hJ⟩ := hrel
    by_cases hlt : k < 15
    · rename World => wo
      by_cases h7 : k < 8
      · have h7i : (k : Int) ≤ 7 := by omega
        obtain ⟨hn1, hn2⟩ := zcnt_a k h7
        rw [← HC.out] at hn2
        have HN := Lib.hid hn1
        clear hn1
        have HE := Lib.hid (za_ea k h7)
        have HO := Lib.hid (za_oa k h7)
        gi_wp2
        generalize decide ((k : Int) < 15) = b9
        gi_loopw [2, 20] (fun nn ii wr => ∃ (i : Nat), i ≤ k + 1 ∧ ii = .int .i64 i ∧ nn = .int .i64 ((c : Int) + i) ∧ J (fr.take (c + i)) wr) (fun _ ii _ => k + 1 - (RowKit.intOf ii).toNat)
        case atStart => exact ⟨0, by omega, rfl, by simp, hJ⟩
        case round =>
          obtain ⟨i, hi, rfl, rfl, hJi⟩ := hrel
          by_cases hil : i < k + 1
          · have hm : c + i < 64 := by omega
            have hq := hY (fr.take (c + i)) ⟨c + i, hm⟩ wr hJi (by rw [List.length_take, fr_len]; omega)
            rw [fr_take hm] at hq
            have hb8 : (i : Int) < k + 1 := by omega
            rcases Nat.mod_two_eq_zero_or_one k with hp | hp
            · rw [encs_eq hm (a := (c : Int) + i) (b := 8 * ((k : Int) - i) + k - ((k : Int) - i)) (by omega) (by rw [← HC.out] at HE; exact HE.out hp i (by omega) (by omega))] at hq
              obtain ⟨fn, tmps, assign, body, hy, hR⟩ := hq
              have hpi : (k : Int).tmod 2 = 0 := by rw [Int.tmod_eq_emod_of_nonneg (by omega)]; omega
              gi_wp2
              refine hR.mono ?_
              rintro e W3 (⟨rfl, hJ3, _⟩ | ⟨rfl, hJx3⟩)
              · gi_wp2
                go_roundw
                case rel => exact ⟨i + 1, by omega, by go_num, by simp; omega, by rw [← Nat.add_assoc]; exact hJ3⟩
                case measure => simp [RowKit.intOf]; omega
              · gi_wp2
                refine bodyPost_ret (results_none rfl _ _ _) rfl ?_
                exact ⟨⟨_, rfl⟩, .inr ⟨_, List.take_prefix _ _, hJx3⟩⟩
            · rw [encs_eq hm (a := (c : Int) + i) (b := 8 * (i : Int) + k - i) (by omega) (by rw [← HC.out] at HO; exact HO.out hp i (by omega) (by omega))] at hq
              obtain ⟨fn, tmps, assign, body, hy, hR⟩ := hq
              have hpi : (k : Int).tmod 2 = 1 := by rw [Int.tmod_eq_emod_of_nonneg (by omega)]; omega
              gi_wp2
              refine hR.mono ?_
              rintro e W3 (⟨rfl, hJ3, _⟩ | ⟨rfl, hJx3⟩)
              · gi_wp2
                go_roundw
                case rel => exact ⟨i + 1, by omega, by go_num, by simp; omega, by rw [← Nat.add_assoc]; exact hJ3⟩
                case measure => simp [RowKit.intOf]; omega
              · gi_wp2
                refine bodyPost_ret (results_none rfl _ _ _) rfl ?_
                exact ⟨⟨_, rfl⟩, .inr ⟨_, List.take_prefix _ _, hJx3⟩⟩
          · obtain rfl : i = k + 1 := by omega
            gi_wp2
            go_roundw
            case rel => exact ⟨k + 1, c + (k + 1), by omega, (show Hid _ from by show _ = _; rw [HN.out, HC.out]), by go_num, by simp, hJi⟩
            case measure => simp [RowKit.intOf]; omega

      · have h7i : (7 : Int) < k := by omega
        obtain ⟨hn1, hn2⟩ := zcnt_b k hlt (by omega)
        rw [← HC.out] at hn2
        have HN := Lib.hid hn1
        clear hn1
        have HE := Lib.hid (za_eb k hlt (by omega))
        have HO := Lib.hid (za_ob k hlt (by omega))
        gi_wp2
        generalize decide ((k : Int) < 15) = b9
        gi_loopw [2, 20] (fun nn ii wr => ∃ (i : Nat), i ≤ 15 - k ∧ ii = .int .i64 i ∧ nn = .int .i64 ((c : Int) + i) ∧ J (fr.take (c + i)) wr) (fun _ ii _ => 15 - k - (RowKit.intOf ii).toNat)
        case atStart => exact ⟨0, by omega, rfl, by simp, hJ⟩
        case round =>
          obtain ⟨i, hi, rfl, rfl, hJi⟩ := hrel
          by_cases hil : i < 15 - k
          · have hm : c + i < 64 := by omega
            have hq := hY (fr.take (c + i)) ⟨c + i, hm⟩ wr hJi (by rw [List.length_take, fr_len]; omega)
            rw [fr_take hm] at hq
            have hb8 : (i : Int) < 15 - k := by omega
            rcases Nat.mod_two_eq_zero_or_one k with hp | hp
            · rw [encs_eq hm (a := (c : Int) + i) (b := 8 * (7 - (i : Int)) + k - (7 - (i : Int))) (by omega) (by rw [← HC.out] at HE; exact HE.out hp i (by omega) (by omega))] at hq
              obtain ⟨fn, tmps, assign, body, hy, hR⟩ := hq
              have hpi : (k : Int).tmod 2 = 0 := by rw [Int.tmod_eq_emod_of_nonneg (by omega)]; omega
              gi_wp2
              refine hR.mono ?_
              rintro e W3 (⟨rfl, hJ3, _⟩ | ⟨rfl, hJx3⟩)
              · gi_wp2
                go_roundw
                case rel => exact ⟨i + 1, by omega, by go_num, by simp; omega, by rw [← Nat.add_assoc]; exact hJ3⟩
                case measure => simp [RowKit.intOf]; omega
              · gi_wp2
                refine bodyPost_ret (results_none rfl _ _ _) rfl ?_
                exact ⟨⟨_, rfl⟩, .inr ⟨_, List.take_prefix _ _, hJx3⟩⟩
            · rw [encs_eq hm (a := (c : Int) + i) (b := 8 * ((k : Int) - 7 + i) + k - ((k : Int) - 7 + i)) (by omega) (by rw [← HC.out] at HO; exact HO.out hp i (by omega) (by omega))] at hq
              obtain ⟨fn, tmps, assign, body, hy, hR⟩ := hq
              have hpi : (k : Int).tmod 2 = 1 := by rw [Int.tmod_eq_emod_of_nonneg (by omega)]; omega
              gi_wp2
              refine hR.mono ?_
              rintro e W3 (⟨rfl, hJ3, _⟩ | ⟨rfl, hJx3⟩)
              · gi_wp2
                go_roundw
                case rel => exact ⟨i + 1, by omega, by go_num, by simp; omega, by rw [← Nat.add_assoc]; exact hJ3⟩
                case measure => simp [RowKit.intOf]; omega
              · gi_wp2
                refine bodyPost_ret (results_none rfl _ _ _) rfl ?_
                exact ⟨⟨_, rfl⟩, .inr ⟨_, List.take_prefix _ _, hJx3⟩⟩
          · obtain rfl : i = 15 - k := by omega
            gi_wp2
            go_roundw
            case rel => exact ⟨k + 1, c + (15 - k), by omega, (show Hid _ from by show _ = _; rw [HN.out, HC.out]), by go_num, by simp, hJi⟩
            case measure => simp [RowKit.intOf]; omega

    · obtain rfl : k = 15 := by omega
      gi_wp2
      go_end0
      have hc := HC.out
      rw [show zcnt 15 = 64 from by decide +kernel] at hc
      rw [hc, fr_all] at hJ
      exact ⟨⟨_, rfl⟩, .inl ⟨_, rfl, hJ⟩⟩
end Go.Proofs.YtipmbffpokplgaaDoor
