/- Contracts of the calls of octet and of the document's answer that take numbers alone, second part. -/
import Derived.Test.YtdjpdpdaaahmiaaScal
namespace Go.Proofs.Ytdjpdpdaaahmiaa
open Go.RowKit

theorem rSigned_any (n s : Int) (w : World) (h1 : -4611686018427387904 ≤ n) (h2 : n ≤ 4611686018427387904) :
    Calls Try.prog 17 #[.int .i64 n, .int .i64 s] w fun e w' => e = .returned (.tuple #[.int .i64 (sgd n s).1, .bool (sgd n s).2]) ∧ w = w' := by
  obtain ⟨t1, t2⟩ := topI_rng s
  by_cases ha : n < 0
  · have hx : sgd n s = (0, false) := sgd_no (.inl ha)
    have HX := Lib.hid hx
    clear hx
    go_enter Try.func17, Try.ntmps17
    go_wp2_with (go_at_call 30; (with_reducible refine (top_any s _).mono ?_); rintro e w2 ⟨rfl, rfl⟩)
    go_ret2
    exact ⟨ret_pair (by rw [HX.out]), rfl⟩
  by_cases hb : topI s ≤ n
  · have hx : sgd n s = (0, false) := sgd_no (.inr hb)
    have HX := Lib.hid hx
    clear hx
    go_enter Try.func17, Try.ntmps17
    go_wp2_with (go_at_call 30; (with_reducible refine (top_any s _).mono ?_); rintro e w2 ⟨rfl, rfl⟩)
    go_ret2
    exact ⟨ret_pair (by rw [HX.out]), rfl⟩
  by_cases hc : topI s ≤ 2 * n
  · have hx : sgd n s = (n - topI s, true) := by unfold sgd; rw [if_neg (by omega), if_pos hc]
    have HX := Lib.hid hx
    clear hx
    go_enter Try.func17, Try.ntmps17
    go_wp2_with (go_at_call 30; (with_reducible refine (top_any s _).mono ?_); rintro e w2 ⟨rfl, rfl⟩)
    go_ret2
    exact ⟨ret_pair (by rw [HX.out]), rfl⟩
  · have hx : sgd n s = (n, true) := by unfold sgd; rw [if_neg (by omega), if_neg hc]
    have HX := Lib.hid hx
    clear hx
    go_enter Try.func17, Try.ntmps17
    go_wp2_with (go_at_call 30; (with_reducible refine (top_any s _).mono ?_); rintro e w2 ⟨rfl, rfl⟩)
    go_ret2
    exact ⟨ret_pair (by rw [HX.out]), rfl⟩

theorem rPlain_any (n s : Int) (w : World) (h1 : -4611686018427387904 ≤ n) (h2 : n ≤ 4611686018427387904) :
    Calls Try.prog 19 #[.int .i64 n, .int .i64 s] w fun e w' => e = .returned (.tuple #[.int .i64 (pln n s).1, .bool (pln n s).2]) ∧ w = w' := by
  obtain ⟨t1, t2⟩ := topI_rng s
  by_cases ha : n < - (topI s / 2)
  · have hx : pln n s = (0, false) := pln_no (.inl ha)
    have HX := Lib.hid hx
    clear hx
    go_enter Try.func19, Try.ntmps19
    go_wp2_with (go_at_call 30; (with_reducible refine (top_any s _).mono ?_); rintro e w2 ⟨rfl, rfl⟩)
    go_ret2
    exact ⟨ret_pair (by rw [HX.out]), rfl⟩
  by_cases hb : topI s / 2 ≤ n
  · have hx : pln n s = (0, false) := pln_no (.inr hb)
    have HX := Lib.hid hx
    clear hx
    go_enter Try.func19, Try.ntmps19
    go_wp2_with (go_at_call 30; (with_reducible refine (top_any s _).mono ?_); rintro e w2 ⟨rfl, rfl⟩)
    go_ret2
    exact ⟨ret_pair (by rw [HX.out]), rfl⟩
  by_cases hc : n < 0
  · have hx : pln n s = (n + topI s, true) := by unfold pln; rw [if_neg (by omega), if_pos hc]
    have HX := Lib.hid hx
    clear hx
    go_enter Try.func19, Try.ntmps19
    go_wp2_with (go_at_call 30; (with_reducible refine (top_any s _).mono ?_); rintro e w2 ⟨rfl, rfl⟩)
    go_ret2
    exact ⟨ret_pair (by rw [HX.out]), rfl⟩
  · have hx : pln n s = (n, true) := by unfold pln; rw [if_neg (by omega), if_neg hc]
    have HX := Lib.hid hx
    clear hx
    go_enter Try.func19, Try.ntmps19
    go_wp2_with (go_at_call 30; (with_reducible refine (top_any s _).mono ?_); rintro e w2 ⟨rfl, rfl⟩)
    go_ret2
    exact ⟨ret_pair (by rw [HX.out]), rfl⟩

theorem isOff_any (n : Int) (w : World) :
    Calls Try.prog 34 #[.int .i64 n] w fun e w' => e = .returned (.bool (decide (0 ≤ n ∧ n ≤ 4294967295))) ∧ w = w' := by
  by_cases h1 : 0 ≤ n
  · by_cases h2 : n ≤ 4294967295
    · go_enter Try.func34, Try.ntmps34
      go_wp2
      go_ret
      exact ⟨by simp [h1, h2], rfl⟩
    · go_enter Try.func34, Try.ntmps34
      go_wp2
      go_ret
      exact ⟨by simp [h2], rfl⟩
  · go_enter Try.func34, Try.ntmps34
    go_wp2
    go_ret
    exact ⟨by simp; omega, rfl⟩

theorem oAdd_any (a b : Int) (w : World) (a1 : -4611686018427387904 ≤ a) (a2 : a ≤ 4611686018427387903) (b1 : -4611686018427387904 ≤ b) (b2 : b ≤ 4611686018427387903) :
    Calls Try.prog 20 #[.int .i64 a, .int .i64 b] w fun e w' => e = .returned (.tuple #[.int .i64 (addP a b).1, .bool (addP a b).2]) ∧ w = w' := by
  by_cases ha : 0 ≤ a ∧ a ≤ 4294967295
  · have da : decide (0 ≤ a ∧ a ≤ 4294967295) = true := by simpa using ha
    obtain ⟨ha1, ha2⟩ := ha
    by_cases hb : 0 ≤ b ∧ b ≤ 4294967295
    · have db : decide (0 ≤ b ∧ b ≤ 4294967295) = true := by simpa using hb
      obtain ⟨hb1, hb2⟩ := hb
      by_cases hc : 0 ≤ a + b ∧ a + b ≤ 4294967295
      · have dc : decide (0 ≤ a + b ∧ a + b ≤ 4294967295) = true := by simpa using hc
        have hx : addP a b = (a + b, true) := by unfold addP; rw [if_neg (by omega)]
        have HX := Lib.hid hx
        clear hx hc
        go_enter Try.func20, Try.ntmps20
        go_wp2_with ((with_reducible refine (isOff_any _ _).mono ?_); rintro e w2 ⟨rfl, rfl⟩)
        go_ret2
        exact ⟨ret_pair (by rw [HX.out]), rfl⟩
      · have dc : decide (0 ≤ a + b ∧ a + b ≤ 4294967295) = false := by simpa using hc
        have hx : addP a b = (0, false) := by unfold addP; rw [if_pos (by omega)]
        have HX := Lib.hid hx
        clear hx hc
        go_enter Try.func20, Try.ntmps20
        go_wp2_with ((with_reducible refine (isOff_any _ _).mono ?_); rintro e w2 ⟨rfl, rfl⟩)
        go_ret2
        exact ⟨ret_pair (by rw [HX.out]), rfl⟩
    · have db : decide (0 ≤ b ∧ b ≤ 4294967295) = false := by simpa using hb
      have hx : addP a b = (0, false) := by unfold addP; rw [if_pos (by omega)]
      have HX := Lib.hid hx
      clear hx hb
      go_enter Try.func20, Try.ntmps20
      go_wp2_with ((with_reducible refine (isOff_any _ _).mono ?_); rintro e w2 ⟨rfl, rfl⟩)
      go_ret2
      exact ⟨ret_pair (by rw [HX.out]), rfl⟩
  · have da : decide (0 ≤ a ∧ a ≤ 4294967295) = false := by simpa using ha
    have hx : addP a b = (0, false) := by unfold addP; rw [if_pos (by omega)]
    have HX := Lib.hid hx
    clear hx ha
    go_enter Try.func20, Try.ntmps20
    go_wp2_with ((with_reducible refine (isOff_any _ _).mono ?_); rintro e w2 ⟨rfl, rfl⟩)
    go_ret2
    exact ⟨ret_pair (by rw [HX.out]), rfl⟩

theorem rAdd_no (a b : Int) (w : World) (a1 : -4611686018427387904 ≤ a) (a2 : a ≤ 4611686018427387903) (b1 : -4611686018427387904 ≤ b) (b2 : b ≤ 4611686018427387903)
    (h : a < 0 ∨ b < 0 ∨ 4294967295 < a ∨ 4294967295 < b ∨ 4294967295 < a + b) :
    Calls Try.prog 21 #[.int .i64 a, .int .i64 b] w fun e w' => e = .returned (.tuple #[.int .i64 0, .bool false]) ∧ w = w' := by
  by_cases h1 : a < 0
  · clear h
    go_enter Try.func21, Try.ntmps21
    go_wp2
    go_ret2
    exact ⟨rfl, rfl⟩
  by_cases h2 : b < 0
  · clear h
    go_enter Try.func21, Try.ntmps21
    go_wp2
    go_ret2
    exact ⟨rfl, rfl⟩
  by_cases h3 : 4294967295 < a
  · clear h
    go_enter Try.func21, Try.ntmps21
    go_wp2
    go_ret2
    exact ⟨rfl, rfl⟩
  by_cases h4 : 4294967295 < b
  · clear h
    go_enter Try.func21, Try.ntmps21
    go_wp2
    go_ret2
    exact ⟨rfl, rfl⟩
  have h5 : 4294967295 < a + b := by omega
  clear h
  go_enter Try.func21, Try.ntmps21
  go_wp2
  go_ret2
  exact ⟨rfl, rfl⟩

theorem rAdd_any (a b : Int) (w : World) (a1 : -4611686018427387904 ≤ a) (a2 : a ≤ 4611686018427387903) (b1 : -4611686018427387904 ≤ b) (b2 : b ≤ 4611686018427387903) :
    Calls Try.prog 21 #[.int .i64 a, .int .i64 b] w fun e w' => e = .returned (.tuple #[.int .i64 (addP a b).1, .bool (addP a b).2]) ∧ w = w' := by
  by_cases h : a < 0 ∨ b < 0 ∨ 4294967295 < a ∨ 4294967295 < b ∨ 4294967295 < a + b
  · have hx : addP a b = (0, false) := by unfold addP; rw [if_pos h]
    rw [hx]
    exact rAdd_no a b w a1 a2 b1 b2 h
  · have hx : addP a b = (a + b, true) := by unfold addP; rw [if_neg h]
    rw [hx]
    clear hx
    have h1 : 0 ≤ a := by omega
    have h2 : 0 ≤ b := by omega
    have h3 : a ≤ 4294967295 := by omega
    have h4 : b ≤ 4294967295 := by omega
    have h5 : a + b ≤ 4294967295 := by omega
    clear h
    go_enter Try.func21, Try.ntmps21
    go_wp2
    go_ret2
    exact ⟨rfl, rfl⟩

theorem oRoom_any (a l d : Int) (w : World) (d2 : d ≤ 9223372036854775807) :
    Calls Try.prog 23 #[.int .i64 a, .int .i64 l, .int .i64 d] w fun e w' => e = .returned (.bool (roomB a l d)) ∧ w = w' := by
  by_cases h1 : 0 ≤ a
  · by_cases h2 : 0 ≤ l
    · by_cases h3 : a ≤ d
      · by_cases h4 : l ≤ d - a
        · go_enter Try.func23, Try.ntmps23
          go_wp2
          go_ret
          exact ⟨by simp [roomB, h1, h2, h3, h4], rfl⟩
        · go_enter Try.func23, Try.ntmps23
          go_wp2
          go_ret
          exact ⟨by simp [roomB, h4], rfl⟩
      · go_enter Try.func23, Try.ntmps23
        go_wp2
        go_ret
        exact ⟨by simp [roomB]; omega, rfl⟩
    · go_enter Try.func23, Try.ntmps23
      go_wp2
      go_ret
      exact ⟨by simp [roomB]; omega, rfl⟩
  · go_enter Try.func23, Try.ntmps23
    go_wp2
    go_ret
    exact ⟨by simp [roomB]; omega, rfl⟩

theorem rRoom_any (a l d : Int) (w : World) (d2 : d ≤ 9223372036854775807) :
    Calls Try.prog 24 #[.int .i64 a, .int .i64 l, .int .i64 d] w fun e w' => e = .returned (.bool (roomB a l d)) ∧ w = w' := by
  by_cases h1 : 0 ≤ a
  · by_cases h2 : 0 ≤ l
    · by_cases h3 : a ≤ d
      · by_cases h4 : l ≤ d - a
        · go_enter Try.func24, Try.ntmps24
          go_wp2
          go_ret
          exact ⟨by simp [roomB, h1, h2, h3, h4], rfl⟩
        · go_enter Try.func24, Try.ntmps24
          go_wp2
          go_ret
          exact ⟨by simp [roomB, h4], rfl⟩
      · go_enter Try.func24, Try.ntmps24
        go_wp2
        go_ret
        exact ⟨by simp [roomB]; omega, rfl⟩
    · go_enter Try.func24, Try.ntmps24
      go_wp2
      go_ret
      exact ⟨by simp [roomB]; omega, rfl⟩
  · go_enter Try.func24, Try.ntmps24
    go_wp2
    go_ret
    exact ⟨by simp [roomB]; omega, rfl⟩

theorem oEven_any (n : Int) (w : World) (h1 : -4611686018427387904 ≤ n) (h2 : n ≤ 4611686018427387904) :
    Calls Try.prog 25 #[.int .i64 n] w fun e w' => e = .returned (.int .i64 (evn n)) ∧ w = w' := by
  have k : wrap64 (n + bits .and .i64 n 1) = evn n := by rw [and1]; unfold wrap64 evn; omega
  have K := Lib.hid k
  clear k
  go_enter Try.func25, Try.ntmps25
  go_wp2
  go_ret
  exact ⟨congrArg (fun z => Ending.returned (.int .i64 z)) K.out, rfl⟩

theorem rEven_any (n : Int) (w : World) (h1 : -4611686018427387904 ≤ n) (h2 : n ≤ 4611686018427387904) :
    Calls Try.prog 26 #[.int .i64 n] w fun e w' => e = .returned (.int .i64 (evn n)) ∧ w = w' := by
  have ht : n.tmod 2 = 0 ↔ n % 2 = 0 := Int.dvd_iff_tmod_eq_zero.symm.trans Int.dvd_iff_emod_eq_zero
  by_cases h : n % 2 = 0
  · have hk : (n.tmod 2 != 0) = false := by rw [ht.2 h]; rfl
    have k : n = evn n := by unfold evn; omega
    have K := Lib.hid k
    clear k h ht
    go_enter Try.func26, Try.ntmps26
    go_wp2
    go_ret
    exact ⟨congrArg (fun z => Ending.returned (.int .i64 z)) K.out, rfl⟩
  · have hk : (n.tmod 2 != 0) = true := by rw [bne_iff_ne]; exact fun e => h (ht.1 e)
    have k : n + 1 = evn n := by unfold evn; omega
    have K := Lib.hid k
    clear k h ht
    go_enter Try.func26, Try.ntmps26
    go_wp2
    go_ret
    exact ⟨congrArg (fun z => Ending.returned (.int .i64 z)) K.out, rfl⟩

theorem lIs_any (n m : Int) (a b : Bool) (w : World) :
    Calls Try.prog 22 #[.int .i64 n, .bool a, .int .i64 m, .bool b] w fun e w' => e = .returned (.bool (decide (n = m ∧ a = b))) ∧ w = w' := by
  by_cases h : n = m
  · subst h
    cases a <;> cases b
    all_goals
      go_enter Try.func22, Try.ntmps22
      go_wp2
      go_ret
      exact ⟨by simp, rfl⟩
  · go_enter Try.func22, Try.ntmps22
    go_wp2
    go_ret
    exact ⟨by simp [h], rfl⟩
end Go.Proofs.Ytdjpdpdaaahmiaa
