/- The chapter's examples: awake answers true, in whatever memory. -/
import Derived.Test.YtdjpdpdaaahmiaaOGet
import Derived.Test.YtdjpdpdaaahmiaaOPut
import Derived.Test.YtdjpdpdaaahmiaaOTurn
namespace Go.Proofs.Ytdjpdpdaaahmiaa
open Go.RowKit
set_option linter.unusedVariables false

theorem aw_get (o z : Int) (A : Option Addr) (w : World) (hr : Rd w A [1, 2, 3, 4]) (h : getP [1, 2, 3, 4] 1 2 o = (z, true)) :
    Calls Try.prog 9 #[.slice A 4 4, .int .i64 1, .int .i64 2, .int .i64 o] w fun e w' => e = .returned (.tuple #[.int .i64 z, .bool true]) ∧ Below w.heap.size w w' := by
  have k := oGet_any [1, 2, 3, 4] A 4 1 2 o w hr (by decide) (by decide)
  rw [h] at k
  exact k
theorem aw_put1 (w : World) : Calls Try.prog 14 #[.int .i64 258, .int .i64 4, .int .i64 1] w fun e w' => ∃ A c, e = .returned (.tuple #[.slice A 4 c, .bool true]) ∧ Rd w' A [2, 1, 0, 0] ∧ Below w.heap.size w w' := by
  refine (oPut_any 258 4 1 w).mono ?_
  rintro e w' ⟨v, rfl, ho, hb⟩
  have e1 : putL 258 4 1 = [2, 1, 0, 0] := by decide
  rw [e1] at ho
  obtain ⟨A, c, rfl, _, _, hr, _⟩ := ho.open
  exact ⟨A, c, rfl, hr, hb⟩
theorem aw_put2 (w : World) : Calls Try.prog 14 #[.int .i64 256, .int .i64 1, .int .i64 2] w fun e w' => ∃ v, e = .returned (.tuple #[v, .bool false]) ∧ Below w.heap.size w w' := by
  refine (oPut_any 256 1 2 w).mono ?_
  rintro e w' ⟨v, rfl, ho, hb⟩
  exact ⟨v, rfl, hb⟩
theorem aw_signed (w : World) : Calls Try.prog 16 #[.int .i64 65535, .int .i64 2] w fun e w' => e = .returned (.tuple #[.int .i64 (-1), .bool true]) ∧ Below w.heap.size w w' := oSigned_any 65535 2 w
theorem aw_plain (w : World) : Calls Try.prog 18 #[.int .i64 (-2), .int .i64 1] w fun e w' => e = .returned (.tuple #[.int .i64 254, .bool true]) ∧ Below w.heap.size w w' := oPlain_any (-2) 1 w
theorem aw_add (w : World) : Calls Try.prog 20 #[.int .i64 4294967295, .int .i64 1] w fun e w' => e = .returned (.tuple #[.int .i64 0, .bool false]) ∧ w = w' := oAdd_any 4294967295 1 w (by decide) (by decide) (by decide) (by decide)
theorem aw_is (n : Int) (w : World) : Calls Try.prog 22 #[.int .i64 n, .bool true, .int .i64 n, .bool true] w fun e w' => e = .returned (.bool true) ∧ w = w' := by
  refine (lIs_any n n true true w).mono ?_
  rintro e w' ⟨rfl, rfl⟩
  exact ⟨by simp, rfl⟩
theorem aw_same (l : List UInt8) (A B : Option Addr) (n c d : Nat) (w : World) (hn : n = l.length) (ha : Rd w A l) (hb : Rd w B l) (hl : l.length ≤ maxLen) :
    Calls Try.prog 12 #[.slice A n c, .slice B n d] w fun e w' => e = .returned (.bool true) ∧ Below w.heap.size w w' := by
  subst hn
  refine (same_any l l A B c d w ha hb hl).mono ?_
  rintro e w' ⟨rfl, h⟩
  exact ⟨by simp, h⟩
theorem aw_turn (A : Option Addr) (w : World) (hr : Rd w A [1, 2, 3, 4, 5]) :
    Calls Try.prog 11 #[.slice A 5 5, .int .i64 2, .int .i64 1] w fun e w' => ∃ A c, e = .returned (.slice A 5 c) ∧ Rd w' A [2, 1, 4, 3, 5] ∧ Below w.heap.size w w' := by
  refine (oTurn_any [1, 2, 3, 4, 5] A 5 2 1 w hr (by decide)).mono ?_
  rintro e w' ⟨v, rfl, ho, hb⟩
  have e1 : turnL [1, 2, 3, 4, 5] 2 1 = [2, 1, 4, 3, 5] := by decide
  rw [e1] at ho
  obtain ⟨A, c, rfl, _, _, hr, _⟩ := ho.open
  exact ⟨A, c, rfl, hr, hb⟩
theorem aw_room1 (w : World) : Calls Try.prog 23 #[.int .i64 2, .int .i64 3, .int .i64 5] w fun e w' => e = .returned (.bool true) ∧ w = w' := oRoom_any 2 3 5 w (by decide)
theorem aw_room2 (w : World) : Calls Try.prog 23 #[.int .i64 2, .int .i64 4, .int .i64 5] w fun e w' => e = .returned (.bool false) ∧ w = w' := oRoom_any 2 4 5 w (by decide)
theorem aw_even (w : World) : Calls Try.prog 25 #[.int .i64 7] w fun e w' => e = .returned (.int .i64 8) ∧ w = w' := oEven_any 7 w (by decide) (by decide)

set_option maxRecDepth 100000 in
set_option maxHeartbeats 1600000 in
theorem awake_any (w : World) : Calls Try.prog 7 #[] w fun e w' => e = .returned (.bool true) ∧ Below w.heap.size w w' := by
  have q1 : Hid (#[Value.int .u8 1, .int .u8 2, .int .u8 3, .int .u8 4] = (([1, 2, 3, 4] : List UInt8).map bv).toArray) := rfl
  have q2 : Hid (#[Value.int .u8 2, .int .u8 1, .int .u8 0, .int .u8 0] = (([2, 1, 0, 0] : List UInt8).map bv).toArray) := rfl
  have q3 : Hid (#[Value.int .u8 1, .int .u8 2, .int .u8 3, .int .u8 4, .int .u8 5] = (([1, 2, 3, 4, 5] : List UInt8).map bv).toArray) := rfl
  have q4 : Hid (#[Value.int .u8 2, .int .u8 1, .int .u8 4, .int .u8 3, .int .u8 5] = (([2, 1, 4, 3, 5] : List UInt8).map bv).toArray) := rfl
  have g1 : Hid (getP [1, 2, 3, 4] 1 2 1 = (770, true)) := by show _ = _; decide
  have g2 : Hid (getP [1, 2, 3, 4] 1 2 2 = (515, true)) := by show _ = _; decide
  go_enter Try.func7, Try.ntmps7
  go_wp2_with fail
  (with_reducible refine (aw_get 1 770 _ _ (Rd.lits _ _ _ _ q1.out) g1.out).mono ?_); rintro e w1 ⟨rfl, h1⟩
  have b1 : Below w.heap.size w w1 := ((Below.refl w.heap.size w).alloc (Nat.le_refl _) _).trans (h1.mono (by simp))
  clear h1
  go_wp2_with fail
  (with_reducible refine (aw_get 2 515 _ _ (Rd.lits _ _ _ _ q1.out) g2.out).mono ?_); rintro e w2 ⟨rfl, h2⟩
  have b2 : Below w.heap.size w w2 := (b1.alloc b1.size _).trans (h2.mono (by simp; have := b1.size; omega))
  clear h2 b1
  go_wp2_with fail
  (with_reducible refine (aw_put1 _).mono ?_); rintro e w3 ⟨A, c, rfl, r3, h3⟩
  have b3 : Below w.heap.size w w3 := b2.trans (h3.mono b2.size)
  clear h3 b2
  go_wp2_with fail
  (with_reducible refine (aw_put2 _).mono ?_); rintro e w4 ⟨v4, rfl, h4⟩
  have b4 : Below w.heap.size w w4 := b3.trans (h4.mono b3.size)
  have r4 := r3.below h4
  clear h4 b3 r3
  go_wp2_with fail
  (with_reducible refine (aw_signed _).mono ?_); rintro e w5 ⟨rfl, h5⟩
  have b5 : Below w.heap.size w w5 := b4.trans (h5.mono b4.size)
  have r5 := r4.below h5
  clear h5 b4 r4
  go_wp2_with fail
  (with_reducible refine (aw_plain _).mono ?_); rintro e w6 ⟨rfl, h6⟩
  have b6 : Below w.heap.size w w6 := b5.trans (h6.mono b5.size)
  have r6 := r5.below h6
  clear h6 b5 r5
  go_wp2_with fail
  (with_reducible refine (aw_add _).mono ?_); rintro e w7 ⟨rfl, rfl⟩
  go_wp2_with fail
  (with_reducible refine (aw_is _ _).mono ?_); rintro e w8 ⟨rfl, rfl⟩
  go_wp2_with fail
  (with_reducible refine (aw_is _ _).mono ?_); rintro e w8 ⟨rfl, rfl⟩
  go_wp2_with fail
  (with_reducible refine (aw_same [2, 1, 0, 0] _ _ 4 _ _ _ rfl (r6.alloc _) (Rd.lits _ _ _ _ q2.out) ?_).mono ?_)
  · unfold maxLen; decide
  rintro e w8 ⟨rfl, h8⟩
  have b8 : Below w.heap.size w w8 := (b6.alloc b6.size _).trans (h8.mono (by simp; have := b6.size; omega))
  clear h8 b6 r6
  go_wp2_with fail
  (with_reducible refine (aw_is _ _).mono ?_); rintro e w9 ⟨rfl, rfl⟩
  go_wp2_with fail
  (with_reducible refine (aw_is _ _).mono ?_); rintro e w9 ⟨rfl, rfl⟩
  go_wp2_with fail
  (with_reducible refine (aw_turn _ _ (Rd.lits _ _ _ _ q3.out)).mono ?_); rintro e w9 ⟨A9, c9, rfl, r9, h9⟩
  have b9 : Below w.heap.size w w9 := (b8.alloc b8.size _).trans (h9.mono (by simp; have := b8.size; omega))
  clear h9 b8
  go_wp2_with fail
  (with_reducible refine (aw_same [2, 1, 4, 3, 5] _ _ 5 _ _ _ rfl (r9.alloc _) (Rd.lits _ _ _ _ q4.out) ?_).mono ?_)
  · unfold maxLen; decide
  rintro e wa ⟨rfl, ha⟩
  have ba : Below w.heap.size w wa := (b9.alloc b9.size _).trans (ha.mono (by simp; have := b9.size; omega))
  clear ha b9 r9
  go_wp2_with fail
  (with_reducible refine (aw_room1 _).mono ?_); rintro e wb ⟨rfl, rfl⟩
  go_wp2_with fail
  (with_reducible refine (aw_room2 _).mono ?_); rintro e wb ⟨rfl, rfl⟩
  go_wp2_with fail
  (with_reducible refine (aw_even _).mono ?_); rintro e wb ⟨rfl, rfl⟩
  go_wp2
  go_ret
  exact ⟨rfl, ba⟩
end Go.Proofs.Ytdjpdpdaaahmiaa
