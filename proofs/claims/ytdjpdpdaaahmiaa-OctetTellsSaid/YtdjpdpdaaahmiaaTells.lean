/- The law OctetTells: it returns true, whatever the five numbers; its walk by the contracts of what it calls. -/
import Derived.Test.YtdjpdpdaaahmiaaAwake
import Derived.Test.YtdjpdpdaaahmiaaRPut
namespace Go.Proofs.Ytdjpdpdaaahmiaa
open Go.RowKit
set_option linter.unusedVariables false

theorem is_self (n : Int) (b : Bool) (w : World) : Calls Try.prog 22 #[.int .i64 n, .bool b, .int .i64 n, .bool b] w fun e w' => e = .returned (.bool true) ∧ w = w' := by
  refine (lIs_any n n b b w).mono ?_
  rintro e w' ⟨rfl, rfl⟩
  exact ⟨by simp, rfl⟩

set_option maxRecDepth 100000 in
set_option maxHeartbeats 1600000 in
theorem tells_far (n m d s o : Int) (w : World) (h : 4611686018427387904 ≤ n ∨ n ≤ -4611686018427387904 ∨ 4611686018427387904 ≤ m ∨ m ≤ -4611686018427387904) :
    Calls Try.prog 4 #[.int .i64 n, .int .i64 m, .int .i64 d, .int .i64 s, .int .i64 o] w fun e w' => e = .returned (.bool true) ∧ Below w.heap.size w w' := by
  by_cases h1 : 4611686018427387904 ≤ n
  · clear h
    go_enter Try.func4, Try.ntmps4
    go_wp2_with (go_at_call 7; (with_reducible refine (awake_any _).mono ?_); rintro e w1 ⟨rfl, hb⟩)
    go_ret
    exact ⟨rfl, hb⟩
  by_cases h2 : n ≤ -4611686018427387904
  · clear h
    go_enter Try.func4, Try.ntmps4
    go_wp2_with (go_at_call 7; (with_reducible refine (awake_any _).mono ?_); rintro e w1 ⟨rfl, hb⟩)
    go_ret
    exact ⟨rfl, hb⟩
  by_cases h3 : 4611686018427387904 ≤ m
  · clear h
    go_enter Try.func4, Try.ntmps4
    go_wp2_with (go_at_call 7; (with_reducible refine (awake_any _).mono ?_); rintro e w1 ⟨rfl, hb⟩)
    go_ret
    exact ⟨rfl, hb⟩
  have h4 : m ≤ -4611686018427387904 := by omega
  clear h
  go_enter Try.func4, Try.ntmps4
  go_wp2_with (go_at_call 7; (with_reducible refine (awake_any _).mono ?_); rintro e w1 ⟨rfl, hb⟩)
  go_ret
  exact ⟨rfl, hb⟩

theorem oPut_open (n s o : Int) (w : World) :
    Calls Try.prog 14 #[.int .i64 n, .int .i64 s, .int .i64 o] w fun e w' => ∃ A c, e = .returned (.tuple #[.slice A (putL n s o).length c, .bool (putOk n s o)]) ∧ Rd w' A (putL n s o) ∧ (putL n s o).length ≤ maxLen ∧ Below w.heap.size w w' := by
  refine (oPut_any n s o w).mono ?_
  rintro e w' ⟨v, rfl, ho, hb⟩
  have hl := ho.len
  obtain ⟨A, c, rfl, _, _, hr, _⟩ := ho.open
  exact ⟨A, c, rfl, hr, hl, hb⟩
theorem rPut_open (n s o : Int) (w : World) :
    Calls Try.prog 15 #[.int .i64 n, .int .i64 s, .int .i64 o] w fun e w' => ∃ A c, e = .returned (.tuple #[.slice A (putL n s o).length c, .bool (putOk n s o)]) ∧ Rd w' A (putL n s o) ∧ Below w.heap.size w w' := by
  refine (rPut_any n s o w).mono ?_
  rintro e w' ⟨v, rfl, ho, hb⟩
  obtain ⟨A, c, rfl, _, _, hr, _⟩ := ho.open
  exact ⟨A, c, rfl, hr, hb⟩

set_option maxRecDepth 100000 in
set_option maxHeartbeats 1600000 in
theorem tells_near (n m d s o : Int) (w : World) (n1 : n < 4611686018427387904) (n2 : -4611686018427387904 < n) (m1 : m < 4611686018427387904) (m2 : -4611686018427387904 < m) (d2 : d ≤ 9223372036854775807) :
    Calls Try.prog 4 #[.int .i64 n, .int .i64 m, .int .i64 d, .int .i64 s, .int .i64 o] w fun e w' => e = .returned (.bool true) ∧ Below w.heap.size w w' := by
  go_enter Try.func4, Try.ntmps4
  go_wp2_with fail
  (with_reducible refine (oPut_open n s o _).mono ?_); rintro e w1 ⟨A1, c1, rfl, r1, l1, b1⟩
  go_wp2_with fail
  (with_reducible refine (rPut_open n s o _).mono ?_); rintro e w2 ⟨A2, c2, rfl, r2, h2⟩
  have b2 := b1.trans (h2.mono b1.size)
  have q1 := r1.below h2
  clear h2 b1 r1
  go_wp2_with fail
  (with_reducible refine (oSigned_any n s _).mono ?_); rintro e w3 ⟨rfl, h3⟩
  have b3 := b2.trans (h3.mono b2.size)
  have p1 := q1.below h3
  have p2 := r2.below h3
  clear h3 b2 q1 r2
  go_wp2_with fail
  (with_reducible refine (rSigned_any n s _ (by omega) (by omega)).mono ?_); rintro e w4 ⟨rfl, rfl⟩
  go_wp2_with fail
  (with_reducible refine (oPlain_any n s _).mono ?_); rintro e w4 ⟨rfl, h4⟩
  have b4 := b3.trans (h4.mono b3.size)
  have q1 := p1.below h4
  have q2 := p2.below h4
  clear h4 b3 p1 p2
  go_wp2_with fail
  (with_reducible refine (rPlain_any n s _ (by omega) (by omega)).mono ?_); rintro e w5 ⟨rfl, rfl⟩
  go_wp2_with fail
  (with_reducible refine (oAdd_any n m _ (by omega) (by omega) (by omega) (by omega)).mono ?_); rintro e w5 ⟨rfl, rfl⟩
  go_wp2_with fail
  (with_reducible refine (rAdd_any n m _ (by omega) (by omega) (by omega) (by omega)).mono ?_); rintro e w5 ⟨rfl, rfl⟩
  go_wp2_with fail
  (with_reducible refine (aw_same (putL n s o) _ _ _ _ _ _ rfl q1 q2 l1).mono ?_); rintro e w5 ⟨rfl, h5⟩
  have b5 := b4.trans (h5.mono b4.size)
  clear h5 b4 q1 q2
  go_wp2_with fail
  (with_reducible refine (is_self _ _ _).mono ?_); rintro e w6 ⟨rfl, rfl⟩
  go_wp2_with fail
  (with_reducible refine (is_self _ _ _).mono ?_); rintro e w6 ⟨rfl, rfl⟩
  go_wp2_with fail
  (with_reducible refine (is_self _ _ _).mono ?_); rintro e w6 ⟨rfl, rfl⟩
  go_wp2_with fail
  (with_reducible refine (oRoom_any n m d _ (by omega)).mono ?_); rintro e w6 ⟨rfl, rfl⟩
  go_wp2_with fail
  (with_reducible refine (rRoom_any n m d _ (by omega)).mono ?_); rintro e w6 ⟨rfl, rfl⟩
  go_wp2_with fail
  (with_reducible refine (oEven_any n _ (by omega) (by omega)).mono ?_); rintro e w6 ⟨rfl, rfl⟩
  go_wp2_with fail
  (with_reducible refine (rEven_any n _ (by omega) (by omega)).mono ?_); rintro e w6 ⟨rfl, rfl⟩
  go_wp2_with fail
  (with_reducible refine (awake_any _).mono ?_); rintro e w7 ⟨rfl, h7⟩
  have b7 := b5.trans (h7.mono b5.size)
  clear h7 b5
  go_wp2
  go_ret
  exact ⟨rfl, b7⟩

theorem tells_any (n m d s o : Int) (w : World) (d2 : d ≤ 9223372036854775807) :
    Calls Try.prog 4 #[.int .i64 n, .int .i64 m, .int .i64 d, .int .i64 s, .int .i64 o] w fun e w' => e = .returned (.bool true) ∧ Below w.heap.size w w' := by
  by_cases h : 4611686018427387904 ≤ n ∨ n ≤ -4611686018427387904 ∨ 4611686018427387904 ≤ m ∨ m ≤ -4611686018427387904
  · exact tells_far n m d s o w h
  · exact tells_near n m d s o w (by omega) (by omega) (by omega) (by omega) d2
end Go.Proofs.Ytdjpdpdaaahmiaa
