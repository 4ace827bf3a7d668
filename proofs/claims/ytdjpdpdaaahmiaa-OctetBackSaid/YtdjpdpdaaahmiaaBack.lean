/- The law OctetBack: it returns true, whatever bytes and numbers; its walk by the contracts of what it calls. -/
import Derived.Test.YtdjpdpdaaahmiaaBackN
namespace Go.Proofs.Ytdjpdpdaaahmiaa
open Go.RowKit
set_option linter.unusedVariables false

set_option maxRecDepth 100000 in
theorem back_far1 (a b : List UInt8) (A B : Option Addr) (c d : Nat) (n s o : Int) (w : World) (hl : 200 < a.length) (hm : a.length ≤ maxLen) :
    Calls Try.prog 5 #[.slice A a.length c, .slice B b.length d, .int .i64 n, .int .i64 s, .int .i64 o] w fun e w' => e = .returned (.bool true) ∧ Below w.heap.size w w' := by
  unfold maxLen at hm
  go_enter Try.func5, Try.ntmps5
  go_wp2_with (go_at_call 7; (with_reducible refine (awake_any _).mono ?_); rintro e w1 ⟨rfl, hb⟩)
  go_ret
  exact ⟨rfl, hb⟩
set_option maxRecDepth 100000 in
theorem back_far2 (a b : List UInt8) (A B : Option Addr) (c d : Nat) (n s o : Int) (w : World) (ha : a.length ≤ 200) (hl : 200 < b.length) (hm : b.length ≤ maxLen) :
    Calls Try.prog 5 #[.slice A a.length c, .slice B b.length d, .int .i64 n, .int .i64 s, .int .i64 o] w fun e w' => e = .returned (.bool true) ∧ Below w.heap.size w w' := by
  unfold maxLen at hm
  go_enter Try.func5, Try.ntmps5
  go_wp2_with (go_at_call 7; (with_reducible refine (awake_any _).mono ?_); rintro e w1 ⟨rfl, hb⟩)
  go_ret
  exact ⟨rfl, hb⟩

theorem bPut_no (n s o : Int) (w : World) (h : putOk n s o = false) :
    Calls Try.prog 14 #[.int .i64 n, .int .i64 s, .int .i64 o] w fun e w' => e = .returned (.tuple #[.slice none 0 0, .bool false]) ∧ Below w.heap.size w w' := by
  refine oPut_no n s o w fun hp => ?_
  rw [putOk_yes hp.1 hp.2.1 hp.2.2.1 hp.2.2.2] at h
  cases h
theorem bPut_any (n s o : Int) (w : World) :
    Calls Try.prog 14 #[.int .i64 n, .int .i64 s, .int .i64 o] w fun e w' => ∃ v b, e = .returned (.tuple #[v, .bool b]) ∧ Below w.heap.size w w' := by
  refine (oPut_any n s o w).mono ?_
  rintro e w' ⟨v, rfl, ho, hb⟩
  exact ⟨v, _, rfl, hb⟩
theorem bPut_yes (n s o : Int) (k : Nat) (w : World) (h : putOk n s o = true) (hk : k = s.toNat) :
    Calls Try.prog 14 #[.int .i64 n, .int .i64 s, .int .i64 o] w fun e w' => ∃ A c l, Hid (l = putL n s o) ∧ e = .returned (.tuple #[.slice A l.length c, .bool true]) ∧ Rd w' A l ∧ l.length ≤ c ∧ Hid (l.length = k) ∧ Below w.heap.size w w' := by
  refine (oPut_any n s o w).mono ?_
  rintro e w' ⟨v, rfl, ho, hb⟩
  obtain ⟨A, c, rfl, hc, _, hr, _⟩ := ho.open
  exact ⟨A, c, _, rfl, by rw [h], hr, hc, by rw [hk]; exact putL_len h, hb⟩
theorem bPlain (n s : Int) (w : World) (h : (sgd n s).2 = true) :
    Calls Try.prog 18 #[.int .i64 (sgd n s).1, .int .i64 s] w fun e w' => e = .returned (.tuple #[.int .i64 n, .bool true]) ∧ Below w.heap.size w w' := by
  have k := oPlain_any (sgd n s).1 s w
  rw [sgd_pln h] at k
  exact k
theorem bSigned (n s : Int) (w : World) (h : (pln n s).2 = true) :
    Calls Try.prog 16 #[.int .i64 (pln n s).1, .int .i64 s] w fun e w' => e = .returned (.tuple #[.int .i64 n, .bool true]) ∧ Below w.heap.size w w' := by
  have k := oSigned_any (pln n s).1 s w
  rw [pln_sgd h] at k
  exact k
theorem bGet (a b l m : List UInt8) (A : Option Addr) (c : Nat) (n s o : Int) (w : World) (h : putOk n s o = true) (hl : Hid (l = putL n s o)) (hm : m = a ++ l ++ b) (hr : Rd w A m) (hlen : m.length ≤ 140737488355328) (hc : m.length ≤ c) :
    Calls Try.prog 9 #[.slice A m.length c, .int .i64 (a.length : Int), .int .i64 s, .int .i64 o] w fun e w' => e = .returned (.tuple #[.int .i64 n, .bool true]) ∧ Below w.heap.size w w' := by
  have k := oGet_any m A c a.length s o w hr hlen hc
  rw [hm, hl.out, get_put a b h, ← hl.out, ← hm] at k
  exact k
theorem bBeyond (l : List UInt8) (A : Option Addr) (c : Nat) (n s o : Int) (w : World) (h : putOk n s o = true) (hl : Hid (l = putL n s o)) (hr : Rd w A l) (hlen : l.length ≤ 140737488355328) (hc : l.length ≤ c) :
    Calls Try.prog 9 #[.slice A l.length c, .int .i64 1, .int .i64 s, .int .i64 o] w fun e w' => e = .returned (.tuple #[.int .i64 0, .bool false]) ∧ Below w.heap.size w w' := by
  have k := oGet_any l A c 1 s o w hr hlen hc
  have hg : getP l 1 s o = (0, false) := by rw [hl.out]; exact get_beyond h
  rw [hg] at k
  exact k

set_option maxRecDepth 100000 in
set_option maxHeartbeats 1600000 in
theorem back_no_tt (a b : List UInt8) (A B : Option Addr) (c d : Nat) (n s o : Int) (w : World) (ha : a.length ≤ 200) (hb : b.length ≤ 200)
    (hs : (sgd n s).2 = true) (hp : (pln n s).2 = true) (hk : Hid (putOk n s o = false)) :
    Calls Try.prog 5 #[.slice A a.length c, .slice B b.length d, .int .i64 n, .int .i64 s, .int .i64 o] w fun e w' => e = .returned (.bool true) ∧ Below w.heap.size w w' := by
  have HS := Lib.hid hs
  have HP := Lib.hid hp
  go_enter Try.func5, Try.ntmps5
  go_wp2_with fail
  (with_reducible refine (bPut_no n s o _ hk.out).mono ?_); rintro e w1 ⟨rfl, b1⟩
  go_wp2_with fail
  (with_reducible refine (bPut_any n s _ _).mono ?_); rintro e w2 ⟨v2, f2, rfl, h2⟩
  have b2 := b1.trans (h2.mono b1.size)
  clear h2 b1
  go_wp2_with fail
  (with_reducible refine (oSigned_any n s _).mono ?_); rintro e w3 ⟨rfl, h3⟩
  have b3 := b2.trans (h3.mono b2.size)
  clear h3 b2
  go_wp2_with fail
  (with_reducible refine (bPlain n s _ HS.out).mono ?_); rintro e w4 ⟨rfl, h4⟩
  have b4 := b3.trans (h4.mono b3.size)
  clear h4 b3
  go_wp2_with fail
  (with_reducible refine (oPlain_any n s _).mono ?_); rintro e w5 ⟨rfl, h5⟩
  have b5 := b4.trans (h5.mono b4.size)
  clear h5 b4
  go_wp2_with fail
  (with_reducible refine (bSigned n s _ HP.out).mono ?_); rintro e w6 ⟨rfl, h6⟩
  have b6 := b5.trans (h6.mono b5.size)
  clear h6 b5
  go_wp2_with fail
  (with_reducible refine (awake_any _).mono ?_); rintro e w7 ⟨rfl, h7⟩
  go_wp2
  go_ret
  exact ⟨rfl, b6.trans (h7.mono b6.size)⟩

set_option maxRecDepth 100000 in
set_option maxHeartbeats 1600000 in
theorem back_no_tf (a b : List UInt8) (A B : Option Addr) (c d : Nat) (n s o : Int) (w : World) (ha : a.length ≤ 200) (hb : b.length ≤ 200)
    (hs : (sgd n s).2 = true) (hp : (pln n s).2 = false) (hk : Hid (putOk n s o = false)) :
    Calls Try.prog 5 #[.slice A a.length c, .slice B b.length d, .int .i64 n, .int .i64 s, .int .i64 o] w fun e w' => e = .returned (.bool true) ∧ Below w.heap.size w w' := by
  have HS := Lib.hid hs
  have HP := Lib.hid hp
  go_enter Try.func5, Try.ntmps5
  go_wp2_with fail
  (with_reducible refine (bPut_no n s o _ hk.out).mono ?_); rintro e w1 ⟨rfl, b1⟩
  go_wp2_with fail
  (with_reducible refine (bPut_any n s _ _).mono ?_); rintro e w2 ⟨v2, f2, rfl, h2⟩
  have b2 := b1.trans (h2.mono b1.size)
  clear h2 b1
  go_wp2_with fail
  (with_reducible refine (oSigned_any n s _).mono ?_); rintro e w3 ⟨rfl, h3⟩
  have b3 := b2.trans (h3.mono b2.size)
  clear h3 b2
  go_wp2_with fail
  (with_reducible refine (bPlain n s _ HS.out).mono ?_); rintro e w4 ⟨rfl, h4⟩
  have b4 := b3.trans (h4.mono b3.size)
  clear h4 b3
  go_wp2_with fail
  (with_reducible refine (oPlain_any n s _).mono ?_); rintro e w5 ⟨rfl, h5⟩
  have b5 := b4.trans (h5.mono b4.size)
  clear h5 b4
  go_wp2_with fail
  (with_reducible refine (awake_any _).mono ?_); rintro e w7 ⟨rfl, h7⟩
  go_wp2
  go_ret
  exact ⟨rfl, b5.trans (h7.mono b5.size)⟩

set_option maxRecDepth 100000 in
set_option maxHeartbeats 1600000 in
theorem back_no_ft (a b : List UInt8) (A B : Option Addr) (c d : Nat) (n s o : Int) (w : World) (ha : a.length ≤ 200) (hb : b.length ≤ 200)
    (hs : (sgd n s).2 = false) (hp : (pln n s).2 = true) (hk : Hid (putOk n s o = false)) :
    Calls Try.prog 5 #[.slice A a.length c, .slice B b.length d, .int .i64 n, .int .i64 s, .int .i64 o] w fun e w' => e = .returned (.bool true) ∧ Below w.heap.size w w' := by
  have HS := Lib.hid hs
  have HP := Lib.hid hp
  go_enter Try.func5, Try.ntmps5
  go_wp2_with fail
  (with_reducible refine (bPut_no n s o _ hk.out).mono ?_); rintro e w1 ⟨rfl, b1⟩
  go_wp2_with fail
  (with_reducible refine (bPut_any n s _ _).mono ?_); rintro e w2 ⟨v2, f2, rfl, h2⟩
  have b2 := b1.trans (h2.mono b1.size)
  clear h2 b1
  go_wp2_with fail
  (with_reducible refine (oSigned_any n s _).mono ?_); rintro e w3 ⟨rfl, h3⟩
  have b3 := b2.trans (h3.mono b2.size)
  clear h3 b2
  go_wp2_with fail
  (with_reducible refine (oPlain_any n s _).mono ?_); rintro e w5 ⟨rfl, h5⟩
  have b5 := b3.trans (h5.mono b3.size)
  clear h5 b3
  go_wp2_with fail
  (with_reducible refine (bSigned n s _ HP.out).mono ?_); rintro e w6 ⟨rfl, h6⟩
  have b6 := b5.trans (h6.mono b5.size)
  clear h6 b5
  go_wp2_with fail
  (with_reducible refine (awake_any _).mono ?_); rintro e w7 ⟨rfl, h7⟩
  go_wp2
  go_ret
  exact ⟨rfl, b6.trans (h7.mono b6.size)⟩

set_option maxRecDepth 100000 in
set_option maxHeartbeats 1600000 in
theorem back_no_ff (a b : List UInt8) (A B : Option Addr) (c d : Nat) (n s o : Int) (w : World) (ha : a.length ≤ 200) (hb : b.length ≤ 200)
    (hs : (sgd n s).2 = false) (hp : (pln n s).2 = false) (hk : Hid (putOk n s o = false)) :
    Calls Try.prog 5 #[.slice A a.length c, .slice B b.length d, .int .i64 n, .int .i64 s, .int .i64 o] w fun e w' => e = .returned (.bool true) ∧ Below w.heap.size w w' := by
  have HS := Lib.hid hs
  have HP := Lib.hid hp
  go_enter Try.func5, Try.ntmps5
  go_wp2_with fail
  (with_reducible refine (bPut_no n s o _ hk.out).mono ?_); rintro e w1 ⟨rfl, b1⟩
  go_wp2_with fail
  (with_reducible refine (bPut_any n s _ _).mono ?_); rintro e w2 ⟨v2, f2, rfl, h2⟩
  have b2 := b1.trans (h2.mono b1.size)
  clear h2 b1
  go_wp2_with fail
  (with_reducible refine (oSigned_any n s _).mono ?_); rintro e w3 ⟨rfl, h3⟩
  have b3 := b2.trans (h3.mono b2.size)
  clear h3 b2
  go_wp2_with fail
  (with_reducible refine (oPlain_any n s _).mono ?_); rintro e w5 ⟨rfl, h5⟩
  have b5 := b3.trans (h5.mono b3.size)
  clear h5 b3
  go_wp2_with fail
  (with_reducible refine (awake_any _).mono ?_); rintro e w7 ⟨rfl, h7⟩
  go_wp2
  go_ret
  exact ⟨rfl, b5.trans (h7.mono b5.size)⟩

set_option maxRecDepth 100000 in
set_option maxHeartbeats 3200000 in
theorem back_yes_t (a b : List UInt8) (A B : Option Addr) (c d s : Nat) (n o : Int) (w : World) (ra : Rd w A a) (rb : Rd w B b) (ha : a.length ≤ 200) (hb : b.length ≤ 200) (s4 : s ≤ 4) (s1 : 1 ≤ s)
    (o1 : 1 ≤ o) (o2 : o ≤ 2) (hs : (sgd n s).2 = true) (hp : (pln n s).2 = true) (hk : Hid (putOk n s o = true)) (hk2 : Hid (putOk n s (3 - o) = true))
    (hrev : Hid (∀ j, j < s → bt (putL n s o) j = bt (putL n s (3 - o)) (s - 1 - j))) :
    Calls Try.prog 5 #[.slice A a.length c, .slice B b.length d, .int .i64 n, .int .i64 s, .int .i64 o] w fun e w' => e = .returned (.bool true) ∧ Below w.heap.size w w' := by
  have HS := Lib.hid hs
  have HP := Lib.hid hp
  go_enter Try.func5, Try.ntmps5
  go_wp2_with fail
  (with_reducible refine (bPut_yes n s o s _ hk.out rfl).mono ?_); rintro e w1 ⟨A1, c1, l1, L1, rfl, r1, lc1, N1, b1⟩
  have ra1 := ra.below b1
  have rb1 := rb.below b1
  go_wp2_with fail
  (with_reducible refine (bPut_yes n s (3 - o) s _ hk2.out rfl).mono ?_); rintro e w2 ⟨A2, c2, l2, L2, rfl, r2, lc2, N2, h2⟩
  have b2 := b1.trans (h2.mono b1.size)
  have p2 := r1.below h2
  have ra2 := ra1.below h2
  have rb2 := rb1.below h2
  clear h2 b1 r1 ra1 rb1
  go_wp2_with fail
  (with_reducible refine (oSigned_any n s _).mono ?_); rintro e w3 ⟨rfl, h3⟩
  have b3 := b2.trans (h3.mono b2.size)
  have p3 := p2.below h3
  have q3 := r2.below h3
  have ra3 := ra2.below h3
  have rb3 := rb2.below h3
  clear h3 b2 p2 r2 ra2 rb2
  go_wp2_with fail
  (with_reducible refine (bPlain n s _ HS.out).mono ?_); rintro e w4 ⟨rfl, h4⟩
  have b4 := b3.trans (h4.mono b3.size)
  have p4 := p3.below h4
  have q4 := q3.below h4
  have ra4 := ra3.below h4
  have rb4 := rb3.below h4
  clear h4 b3 p3 q3 ra3 rb3
  go_wp2_with fail
  (with_reducible refine (oPlain_any n s _).mono ?_); rintro e w5 ⟨rfl, h5⟩
  have b5 := b4.trans (h5.mono b4.size)
  have p5 := p4.below h5
  have q5 := q4.below h5
  have ra5 := ra4.below h5
  have rb5 := rb4.below h5
  clear h5 b4 p4 q4 ra4 rb4
  go_wp2_with fail
  (with_reducible refine (bSigned n s _ HP.out).mono ?_); rintro e w6 ⟨rfl, h6⟩
  have b6 := b5.trans (h6.mono b5.size)
  have p6 := p5.below h6
  have q6 := q5.below h6
  have ra6 := ra5.below h6
  have rb6 := rb5.below h6
  clear h6 b5 p5 q5 ra5 rb5
  have hl1 : l1.length ≤ 4 := by rw [N1.out]; exact s4
  have hl2 : l2.length ≤ 4 := by rw [N2.out]; exact s4
  go_wp2_with fail
  (with_reducible refine (own_any a A c _ ra6 (by omega)).mono ?_); rintro e w7 ⟨v7, rfl, o7, h7⟩
  have b7 := b6.trans (h7.mono b6.size)
  have z7 := h7.size
  clear ra6
  have p7 := p6.below h7
  have E1 : Hid (a.length + l1.length ≤ 140737488355328) := by show _ ≤ _; omega
  have E2 : Hid ((a ++ l1).length + b.length ≤ 140737488355328) := by show _ ≤ _; rw [List.length_append]; omega
  have y6 := b6.size
  go_wp2_with (first
    | (at_builtin
       (with_reducible refine wpList_app _ rfl (.tmp 102) (.tmp 103) rfl w6.heap.size v7 a rfl o7 A1 l1 l1.length c1 rfl rfl p7 E1.out z7 ?_)
       intro v8 w8 o8 h8 _
       have h68 := h7.trans h8
       have b8 := b7.trans (h8.mono y6)
       have rb8 := rb6.below h68
       have z8 := h68.size)
    | (at_builtin
       (with_reducible refine wpList_app _ rfl (.tmp 104) (.tmp 105) rfl w6.heap.size v8 (a ++ l1) rfl o8 B b b.length d rfl rfl rb8 E2.out z8 ?_)
       intro v9 w9 o9 h9 _
       have h69 := h68.trans h9
       have b9 := b8.trans (h9.mono y6)
       obtain ⟨m, hm⟩ : ∃ m, m = a ++ l1 ++ b := ⟨_, rfl⟩
       rw [← hm] at o9
       have HM := Lib.hid hm
       clear hm
       obtain ⟨A9, c9, rfl, lc9, _, r9, _⟩ := o9.open)
    | fail)
  have hml : m.length ≤ 404 := by rw [HM.out]; simp only [List.length_append]; omega
  have p9 := p6.below h69
  have q9 := q6.below h69
  clear h7 h8 h9 h68 h69 o7 o8 o9 b7 b8 b6 p7 p6 q6 rb6 rb8
  (with_reducible refine (bGet a b l1 m A9 c9 n s o _ hk.out L1 HM.out r9 (by omega) lc9).mono ?_); rintro e wa ⟨rfl, ha'⟩
  have ba := b9.trans (ha'.mono b9.size)
  have pa := p9.below ha'
  have qa := q9.below ha'
  clear ha' b9 p9 q9 r9
  have ne1 : ((l1.length : Int) != (s : Int)) = false := by rw [N1.out]; simp
  have ne2 : ((l2.length : Int) != (s : Int)) = false := by rw [N2.out]; simp
  go_wp2
  go_loopw [26] (fun i wr => ∃ j : Nat, j ≤ s ∧ i = .int .i64 j ∧ Rd wr A1 l1 ∧ Rd wr A2 l2 ∧ Below w.heap.size w wr) (fun i _ => s - (intOf i).toNat)
  case atStart => exact ⟨0, Nat.zero_le _, rfl, pa, qa, ba⟩
  case round =>
    clear pa qa ba
    obtain ⟨j, hj, rfl, pr, qr, hbel⟩ := hrel
    by_cases hlt : j < s
    · have j1 : j < l1.length := by rw [N1.out]; exact hlt
      have j2 : s - 1 - j < l2.length := by rw [N2.out]; omega
      obtain ⟨x1, y1, rfl, k1⟩ := pr.resolve_left (fun e => by rw [e] at j1; simp at j1)
      obtain ⟨x2, y2, rfl, k2⟩ := qr.resolve_left (fun e => by rw [e] at j2; simp at j2)
      have e1 := k1 j j1
      have e2 := k2 (s - 1 - j) j2
      have hq : bt l1 j = bt l2 (s - 1 - j) := by rw [L1.out, L2.out]; exact hrev.out j hlt
      have hqn : (bt l1 j != bt l2 (s - 1 - j)) = false := by rw [hq]; simp
      clear k1 k2 hq
      go_wp2
      go_quiet (fail)
      go_wp2
      go_roundw
      case rel => exact ⟨j + 1, by omega, by go_num, pr.drewN _, qr.drewN _, dN hbel _⟩
      case measure => simp [intOf]; omega
    · go_wp2_with fail
      (with_reducible refine (bBeyond l1 A1 c1 n s o _ hk.out L1 pr (by omega) lc1).mono ?_); rintro e wb ⟨rfl, hb'⟩
      have bb := hbel.trans (hb'.mono hbel.size)
      clear hb' hbel pr qr
      go_wp2_with fail
      (with_reducible refine (awake_any _).mono ?_); rintro e wc ⟨rfl, hc'⟩
      go_wp2
      go_ret
      exact ⟨rfl, bb.trans (hc'.mono bb.size)⟩

set_option maxRecDepth 100000 in
set_option maxHeartbeats 3200000 in
theorem back_yes_f (a b : List UInt8) (A B : Option Addr) (c d s : Nat) (n o : Int) (w : World) (ra : Rd w A a) (rb : Rd w B b) (ha : a.length ≤ 200) (hb : b.length ≤ 200) (s4 : s ≤ 4) (s1 : 1 ≤ s)
    (o1 : 1 ≤ o) (o2 : o ≤ 2) (hs : (sgd n s).2 = true) (hp : (pln n s).2 = false) (hk : Hid (putOk n s o = true)) (hk2 : Hid (putOk n s (3 - o) = true))
    (hrev : Hid (∀ j, j < s → bt (putL n s o) j = bt (putL n s (3 - o)) (s - 1 - j))) :
    Calls Try.prog 5 #[.slice A a.length c, .slice B b.length d, .int .i64 n, .int .i64 s, .int .i64 o] w fun e w' => e = .returned (.bool true) ∧ Below w.heap.size w w' := by
  have HS := Lib.hid hs
  have HP := Lib.hid hp
  go_enter Try.func5, Try.ntmps5
  go_wp2_with fail
  (with_reducible refine (bPut_yes n s o s _ hk.out rfl).mono ?_); rintro e w1 ⟨A1, c1, l1, L1, rfl, r1, lc1, N1, b1⟩
  have ra1 := ra.below b1
  have rb1 := rb.below b1
  go_wp2_with fail
  (with_reducible refine (bPut_yes n s (3 - o) s _ hk2.out rfl).mono ?_); rintro e w2 ⟨A2, c2, l2, L2, rfl, r2, lc2, N2, h2⟩
  have b2 := b1.trans (h2.mono b1.size)
  have p2 := r1.below h2
  have ra2 := ra1.below h2
  have rb2 := rb1.below h2
  clear h2 b1 r1 ra1 rb1
  go_wp2_with fail
  (with_reducible refine (oSigned_any n s _).mono ?_); rintro e w3 ⟨rfl, h3⟩
  have b3 := b2.trans (h3.mono b2.size)
  have p3 := p2.below h3
  have q3 := r2.below h3
  have ra3 := ra2.below h3
  have rb3 := rb2.below h3
  clear h3 b2 p2 r2 ra2 rb2
  go_wp2_with fail
  (with_reducible refine (bPlain n s _ HS.out).mono ?_); rintro e w4 ⟨rfl, h4⟩
  have b4 := b3.trans (h4.mono b3.size)
  have p4 := p3.below h4
  have q4 := q3.below h4
  have ra4 := ra3.below h4
  have rb4 := rb3.below h4
  clear h4 b3 p3 q3 ra3 rb3
  go_wp2_with fail
  (with_reducible refine (oPlain_any n s _).mono ?_); rintro e w5 ⟨rfl, h5⟩
  have b5 := b4.trans (h5.mono b4.size)
  have p5 := p4.below h5
  have q5 := q4.below h5
  have ra5 := ra4.below h5
  have rb5 := rb4.below h5
  clear h5 b4 p4 q4 ra4 rb4
  have hl1 : l1.length ≤ 4 := by rw [N1.out]; exact s4
  have hl2 : l2.length ≤ 4 := by rw [N2.out]; exact s4
  go_wp2_with fail
  (with_reducible refine (own_any a A c _ ra5 (by omega)).mono ?_); rintro e w7 ⟨v7, rfl, o7, h7⟩
  have b7 := b5.trans (h7.mono b5.size)
  have z7 := h7.size
  clear ra5
  have p7 := p5.below h7
  have E1 : Hid (a.length + l1.length ≤ 140737488355328) := by show _ ≤ _; omega
  have E2 : Hid ((a ++ l1).length + b.length ≤ 140737488355328) := by show _ ≤ _; rw [List.length_append]; omega
  have y5 := b5.size
  go_wp2_with (first
    | (at_builtin
       (with_reducible refine wpList_app _ rfl (.tmp 102) (.tmp 103) rfl w5.heap.size v7 a rfl o7 A1 l1 l1.length c1 rfl rfl p7 E1.out z7 ?_)
       intro v8 w8 o8 h8 _
       have h68 := h7.trans h8
       have b8 := b7.trans (h8.mono y5)
       have rb8 := rb5.below h68
       have z8 := h68.size)
    | (at_builtin
       (with_reducible refine wpList_app _ rfl (.tmp 104) (.tmp 105) rfl w5.heap.size v8 (a ++ l1) rfl o8 B b b.length d rfl rfl rb8 E2.out z8 ?_)
       intro v9 w9 o9 h9 _
       have h69 := h68.trans h9
       have b9 := b8.trans (h9.mono y5)
       obtain ⟨m, hm⟩ : ∃ m, m = a ++ l1 ++ b := ⟨_, rfl⟩
       rw [← hm] at o9
       have HM := Lib.hid hm
       clear hm
       obtain ⟨A9, c9, rfl, lc9, _, r9, _⟩ := o9.open)
    | fail)
  have hml : m.length ≤ 404 := by rw [HM.out]; simp only [List.length_append]; omega
  have p9 := p5.below h69
  have q9 := q5.below h69
  clear h7 h8 h9 h68 h69 o7 o8 o9 b7 b8 b5 p7 p5 q5 rb5 rb8
  (with_reducible refine (bGet a b l1 m A9 c9 n s o _ hk.out L1 HM.out r9 (by omega) lc9).mono ?_); rintro e wa ⟨rfl, ha'⟩
  have ba := b9.trans (ha'.mono b9.size)
  have pa := p9.below ha'
  have qa := q9.below ha'
  clear ha' b9 p9 q9 r9
  have ne1 : ((l1.length : Int) != (s : Int)) = false := by rw [N1.out]; simp
  have ne2 : ((l2.length : Int) != (s : Int)) = false := by rw [N2.out]; simp
  go_wp2
  go_loopw [26] (fun i wr => ∃ j : Nat, j ≤ s ∧ i = .int .i64 j ∧ Rd wr A1 l1 ∧ Rd wr A2 l2 ∧ Below w.heap.size w wr) (fun i _ => s - (intOf i).toNat)
  case atStart => exact ⟨0, Nat.zero_le _, rfl, pa, qa, ba⟩
  case round =>
    clear pa qa ba
    obtain ⟨j, hj, rfl, pr, qr, hbel⟩ := hrel
    by_cases hlt : j < s
    · have j1 : j < l1.length := by rw [N1.out]; exact hlt
      have j2 : s - 1 - j < l2.length := by rw [N2.out]; omega
      obtain ⟨x1, y1, rfl, k1⟩ := pr.resolve_left (fun e => by rw [e] at j1; simp at j1)
      obtain ⟨x2, y2, rfl, k2⟩ := qr.resolve_left (fun e => by rw [e] at j2; simp at j2)
      have e1 := k1 j j1
      have e2 := k2 (s - 1 - j) j2
      have hq : bt l1 j = bt l2 (s - 1 - j) := by rw [L1.out, L2.out]; exact hrev.out j hlt
      have hqn : (bt l1 j != bt l2 (s - 1 - j)) = false := by rw [hq]; simp
      clear k1 k2 hq
      go_wp2
      go_quiet (fail)
      go_wp2
      go_roundw
      case rel => exact ⟨j + 1, by omega, by go_num, pr.drewN _, qr.drewN _, dN hbel _⟩
      case measure => simp [intOf]; omega
    · go_wp2_with fail
      (with_reducible refine (bBeyond l1 A1 c1 n s o _ hk.out L1 pr (by omega) lc1).mono ?_); rintro e wb ⟨rfl, hb'⟩
      have bb := hbel.trans (hb'.mono hbel.size)
      clear hb' hbel pr qr
      go_wp2_with fail
      (with_reducible refine (awake_any _).mono ?_); rintro e wc ⟨rfl, hc'⟩
      go_wp2
      go_ret
      exact ⟨rfl, bb.trans (hc'.mono bb.size)⟩

theorem sgd_fits {n s o : Int} (h : putOk n s o = true) : (sgd n s).2 = true := by
  obtain ⟨h1, h2, h3, h4⟩ := putOk_parts h
  unfold sgd
  rw [if_neg (by omega)]
  split <;> rfl

theorem back_any (a b : List UInt8) (A B : Option Addr) (c d : Nat) (n s o : Int) (w : World) (ra : Rd w A a) (rb : Rd w B b) (ha : a.length ≤ maxLen) (hb : b.length ≤ maxLen) :
    Calls Try.prog 5 #[.slice A a.length c, .slice B b.length d, .int .i64 n, .int .i64 s, .int .i64 o] w fun e w' => e = .returned (.bool true) ∧ Below w.heap.size w w' := by
  by_cases h1 : 200 < a.length
  · exact back_far1 a b A B c d n s o w h1 ha
  by_cases h2 : 200 < b.length
  · exact back_far2 a b A B c d n s o w (by omega) h2 hb
  rcases hk : putOk n s o with _ | _
  · rcases hs : (sgd n s).2 with _ | _ <;> rcases hp : (pln n s).2 with _ | _
    · exact back_no_ff a b A B c d n s o w (by omega) (by omega) hs hp hk
    · exact back_no_ft a b A B c d n s o w (by omega) (by omega) hs hp hk
    · exact back_no_tf a b A B c d n s o w (by omega) (by omega) hs hp hk
    · exact back_no_tt a b A B c d n s o w (by omega) (by omega) hs hp hk
  · have hs := sgd_fits hk
    obtain ⟨p1, p2, p3, p4⟩ := putOk_parts hk
    obtain ⟨t1, t2⟩ := put_turned hk
    obtain ⟨k, rfl⟩ := Int.eq_ofNat_of_zero_le (show 0 ≤ s by unfold okSize at p1; omega)
    have hk1 : 1 ≤ k ∧ k ≤ 4 := by unfold okSize at p1; omega
    rw [Int.toNat_natCast] at t2
    rcases hp : (pln n k).2 with _ | _
    · exact back_yes_f a b A B c d k n o w ra rb (by omega) (by omega) hk1.2 hk1.1 (by omega) (by omega) hs hp hk t1 t2
    · exact back_yes_t a b A B c d k n o w ra rb (by omega) (by omega) hk1.2 hk1.1 (by omega) (by omega) hs hp hk t1 t2
end Go.Proofs.Ytdjpdpdaaahmiaa
