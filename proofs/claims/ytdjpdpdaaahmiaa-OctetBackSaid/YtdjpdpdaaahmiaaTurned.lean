/- The law OctetTurned: it returns true, whatever bytes and numbers; its walk by the contracts of what it calls. -/
import Derived.Test.YtdjpdpdaaahmiaaGets
namespace Go.Proofs.Ytdjpdpdaaahmiaa
open Go.RowKit
set_option linter.unusedVariables false

theorem tix_at {n s a j : Nat} (hs : 1 ≤ s) (ha : a % s = 0) (h : a + s ≤ n) (hj : j < s) : tix n s 1 (a + j) = a + (s - 1 - j) := by
  have hu := up_of hs ha h
  have hm := mod_of (i := a + j) ha (by omega) (by omega)
  unfold tix
  rw [if_pos ⟨rfl, by omega⟩, hm]
  omega
theorem tix_two (n s i : Nat) : tix n s 2 i = i := by unfold tix; rw [if_neg (fun e => by have := e.1; omega)]
theorem tix_tix {n s : Nat} (o : Int) {i : Nat} (hs : 1 ≤ s) (h : i < n) : tix n s o (tix n s o i) = i := by
  by_cases hc : o = 1 ∧ i < n - n % s
  · obtain ⟨rfl, hi⟩ := hc
    have h1 := Nat.div_add_mod i s
    have h2 := Nat.mod_lt i hs
    have h3 := Nat.div_add_mod n s
    have hlt : i / s < n / s := by
      apply Nat.lt_of_mul_lt_mul_left (a := s)
      omega
    have hb : s * (i / s) + s ≤ s * (n / s) := by
      rw [← Nat.mul_succ]
      exact Nat.mul_le_mul_left s hlt
    have ha : s * (i / s) % s = 0 := Nat.mul_mod_right s _
    have e : i = s * (i / s) + i % s := by omega
    have e1 : tix n s 1 i = s * (i / s) + (s - 1 - i % s) := by
      have := tix_at (n := n) (j := i % s) hs ha (by omega) h2
      rw [← e] at this
      exact this
    rw [e1, tix_at (n := n) hs ha (by omega) (by omega)]
    omega
  · have e1 : tix n s o i = i := by unfold tix; rw [if_neg hc]
    rw [e1, e1]
theorem turn_turn (l : List UInt8) (s o : Int) (h : okTurn s o) : turnL (turnL l s o) s o = l := by
  have hs : 1 ≤ s.toNat := by
    have := h.1
    unfold okSize at this
    omega
  rw [turnL_yes h, turnL_yes h, tpre_len]
  apply eq_of_bt (tpre_len _ _ _ _)
  intro i hi
  rw [tpre_len] at hi
  rw [bt_tpre _ _ _ _ _ hi, tpre_len, bt_tpre _ _ _ _ _ (tix_lt o hs hi), tix_tix o hs hi]
theorem turn_len (l : List UInt8) (s o : Int) (h : okTurn s o) : (turnL l s o).length = l.length := by rw [turnL_yes h, tpre_len]
theorem turn_get (l : List UInt8) (s o : Int) (a : Nat) (h : okTurn s o) (h4 : okSize s) (ha : a % s.toNat = 0) (hl : (a : Int) + s ≤ l.length) : gV (turnL l s o) a s 2 = gV l a s o := by
  have hb : ∀ j, j < s.toNat → bt (turnL l s o) (a + j) = bt l (if o = 1 then a + (s.toNat - 1 - j) else a + j) := by
    intro j hj
    have hi : a + j < l.length := by omega
    rw [turnL_yes h, bt_tpre _ _ _ _ _ hi]
    rcases h.2 with rfl | rfl
    · rw [tix_at (by omega) ha (by omega) hj]; rfl
    · rw [tix_two]; rfl
  rcases h4 with rfl | rfl | rfl
  · have b0 := hb 0 (by decide)
    simp at b0
    unfold gV
    simp [b0]
  · have b0 := hb 0 (by decide)
    have b1 := hb 1 (by decide)
    simp at b0 b1
    unfold gV
    simp [b0, b1]
    split <;> simp_all
    omega
  · have b0 := hb 0 (by decide)
    have b1 := hb 1 (by decide)
    have b2 := hb 2 (by decide)
    have b3 := hb 3 (by decide)
    simp at b0 b1 b2 b3
    unfold gV
    simp [b0, b1, b2, b3]
    split <;> simp_all
    omega
theorem get_yes (l : List UInt8) (B : Option Addr) (d a : Nat) (s o : Int) (w : World) (hr : Rd w B l) (hl : l.length ≤ 140737488355328) (hd : l.length ≤ d) (h1 : okSize s) (h2 : okTurn s o) (h3 : (a : Int) + s ≤ l.length) :
    Calls Try.prog 9 #[.slice B l.length d, .int .i64 a, .int .i64 s, .int .i64 o] w fun e w' => e = .returned (.tuple #[.int .i64 (gV l a s o), .bool true]) ∧ Below w.heap.size w w' := by
  have k := oGet_any l B d a s o w hr hl hd
  rw [getP_yes h1 h2.2 h3] at k
  exact k
theorem get_turned (l m : List UInt8) (B : Option Addr) (d a : Nat) (s o : Int) (w : World) (hm : m = turnL l s o) (hr : Rd w B m) (hl : l.length ≤ 140737488355328) (hd : m.length ≤ d) (h : okTurn s o) (h1 : okSize s) (n : Nat) (hsn : n = s.toNat) (ha : a % n = 0) (h3 : (a : Int) + s ≤ l.length) :
    Calls Try.prog 9 #[.slice B m.length d, .int .i64 a, .int .i64 s, .int .i64 2] w fun e w' => e = .returned (.tuple #[.int .i64 (gV l a s o), .bool true]) ∧ Below w.heap.size w w' := by
  subst hm hsn
  have hn := turn_len l s o h
  have k := oGet_any (turnL l s o) B d a s 2 w hr (by omega) hd
  rw [getP_yes h1 (.inr rfl) (by omega), turn_get l s o a h h1 ha h3] at k
  exact k
theorem turn_ok (l : List UInt8) (A : Option Addr) (c : Nat) (s o : Int) (w : World) (hr : Rd w A l) (hl : l.length ≤ 65536) (h : okTurn s o) :
    Calls Try.prog 11 #[.slice A l.length c, .int .i64 s, .int .i64 o] w fun e w' => ∃ B d m, m = turnL l s o ∧ e = .returned (.slice B m.length d) ∧ Rd w' B m ∧ m.length ≤ d ∧ Hid (m.length = l.length) ∧ Below w.heap.size w w' := by
  refine (oTurn_any l A c s o w hr hl).mono ?_
  rintro e w' ⟨v, rfl, ho, hb⟩
  obtain ⟨B, d, rfl, hd, _, hr, _⟩ := ho.open
  exact ⟨B, d, _, rfl, rfl, hr, hd, turn_len l s o h, hb⟩
theorem turn_back (l m : List UInt8) (A : Option Addr) (c : Nat) (s o : Int) (w : World) (hm : Hid (m = turnL l s o)) (hr : Rd w A m) (hl : m.length ≤ 65536) (h : okTurn s o) :
    Calls Try.prog 11 #[.slice A m.length c, .int .i64 s, .int .i64 o] w fun e w' => ∃ B d, e = .returned (.slice B l.length d) ∧ Rd w' B l ∧ Below w.heap.size w w' := by
  have e : m = turnL l s o := hm
  refine (oTurn_any m A c s o w hr hl).mono ?_
  rintro e' w' ⟨v, rfl, ho, hb⟩
  rw [e, turn_turn l s o h] at ho
  obtain ⟨B, d, rfl, hd, _, hr, _⟩ := ho.open
  exact ⟨B, d, rfl, hr, hb⟩

set_option maxRecDepth 100000 in
set_option maxHeartbeats 1600000 in
theorem turned_far (l : List UInt8) (A : Option Addr) (c : Nat) (s o : Int) (w : World) (hl : 300 < l.length) (hm : l.length ≤ maxLen) :
    Calls Try.prog 6 #[.slice A l.length c, .int .i64 s, .int .i64 o] w fun e w' => e = .returned (.bool true) ∧ Below w.heap.size w w' := by
  unfold maxLen at hm
  go_enter Try.func6, Try.ntmps6
  go_wp2_with (go_at_call 7; (with_reducible refine (awake_any _).mono ?_); rintro e w1 ⟨rfl, hb⟩)
  go_ret
  exact ⟨rfl, hb⟩

set_option maxRecDepth 100000 in
set_option maxHeartbeats 1600000 in
theorem turned_1_1 (l : List UInt8) (A : Option Addr) (c : Nat) (w : World) (hr : Rd w A l) (hl : l.length ≤ 300) (hc : l.length ≤ c) :
    Calls Try.prog 6 #[.slice A l.length c, .int .i64 1, .int .i64 1] w fun e w' => e = .returned (.bool true) ∧ Below w.heap.size w w' := by
  have HK : Hid (okTurn 1 1) := ⟨Or.inl (Or.inl rfl), Or.inl rfl⟩
  go_enter Try.func6, Try.ntmps6
  go_wp2_with fail
  (with_reducible refine (turn_ok l A c 1 1 _ hr (by omega) HK.out).mono ?_); rintro e w1 ⟨B, d, m, hm, rfl, r1, hd, HL, b1⟩
  have HM := Lib.hid hm
  clear hm
  have hml : m.length ≤ 300 := by rw [HL.out]; exact hl
  have p1 := hr.below b1
  go_wp2_with fail
  (with_reducible refine (turn_back l m B d 1 1 _ HM r1 (by omega) HK.out).mono ?_); rintro e w2 ⟨C, f, rfl, t2, h2⟩
  have b2 := b1.trans (h2.mono b1.size)
  have r2 := r1.below h2
  have p2 := p1.below h2
  clear h2 b1 r1 p1
  go_wp2_with fail
  (with_reducible refine (aw_same l _ _ _ _ _ _ rfl t2 p2 ?_).mono ?_)
  · unfold maxLen; omega
  rintro e w3 ⟨rfl, h3⟩
  have b3 := b2.trans (h3.mono b2.size)
  have r3 := r2.below h3
  have p3 := p2.below h3
  clear h3 b2 r2 p2 t2
  have hne : ((m.length : Int) != (l.length : Int)) = false := by rw [HL.out]; simp
  have HS : Hid (okSize 1) := Or.inl rfl
  go_wp2
  go_loopw [8] (fun i wr => ∃ a : Nat, a ≤ l.length ∧ Hid (a % 1 = 0) ∧ i = .int .i64 a ∧ Rd wr A l ∧ Rd wr B m ∧ Below w.heap.size w wr) (fun i _ => l.length - (intOf i).toNat)
  case atStart => exact ⟨0, Nat.zero_le _, Nat.zero_mod _, rfl, p3, r3, b3⟩
  case round =>
    clear p3 r3 b3
    obtain ⟨a, ha, HA, rfl, pr, rr, hbel⟩ := hrel
    by_cases hlt : a + 1 ≤ l.length
    · go_wp2_with fail
      (with_reducible refine (get_yes l A c a 1 1 _ pr (by omega) hc HS.out HK.out (by omega)).mono ?_); rintro e w4 ⟨rfl, h4⟩
      have b4 := hbel.trans (h4.mono hbel.size)
      have r4 := rr.below h4
      have p4 := pr.below h4
      clear h4 hbel pr rr
      go_wp2_with fail
      (with_reducible refine (get_turned l m B d a 1 1 _ HM.out r4 (by omega) hd HK.out HS.out _ (by decide) HA.out (by omega)).mono ?_); rintro e w5 ⟨rfl, h5⟩
      have b5 := b4.trans (h5.mono b4.size)
      have r5 := r4.below h5
      have p5 := p4.below h5
      clear h5 b4 r4 p4
      go_wp2
      go_roundw
      case rel => exact ⟨a + 1, by omega, (by show (a + 1) % 1 = 0; rw [Nat.add_mod_right]; exact HA.out), by go_num, p5, r5, b5⟩
      case measure => simp [intOf]; omega
    · go_wp2_with fail
      (with_reducible refine (awake_any _).mono ?_); rintro e w4 ⟨rfl, h4⟩
      go_wp2
      go_ret
      exact ⟨rfl, hbel.trans (h4.mono hbel.size)⟩

set_option maxRecDepth 100000 in
set_option maxHeartbeats 1600000 in
theorem turned_1_2 (l : List UInt8) (A : Option Addr) (c : Nat) (w : World) (hr : Rd w A l) (hl : l.length ≤ 300) (hc : l.length ≤ c) :
    Calls Try.prog 6 #[.slice A l.length c, .int .i64 1, .int .i64 2] w fun e w' => e = .returned (.bool true) ∧ Below w.heap.size w w' := by
  have HK : Hid (okTurn 1 2) := ⟨Or.inl (Or.inl rfl), Or.inr rfl⟩
  go_enter Try.func6, Try.ntmps6
  go_wp2_with fail
  (with_reducible refine (turn_ok l A c 1 2 _ hr (by omega) HK.out).mono ?_); rintro e w1 ⟨B, d, m, hm, rfl, r1, hd, HL, b1⟩
  have HM := Lib.hid hm
  clear hm
  have hml : m.length ≤ 300 := by rw [HL.out]; exact hl
  have p1 := hr.below b1
  go_wp2_with fail
  (with_reducible refine (turn_back l m B d 1 2 _ HM r1 (by omega) HK.out).mono ?_); rintro e w2 ⟨C, f, rfl, t2, h2⟩
  have b2 := b1.trans (h2.mono b1.size)
  have r2 := r1.below h2
  have p2 := p1.below h2
  clear h2 b1 r1 p1
  go_wp2_with fail
  (with_reducible refine (aw_same l _ _ _ _ _ _ rfl t2 p2 ?_).mono ?_)
  · unfold maxLen; omega
  rintro e w3 ⟨rfl, h3⟩
  have b3 := b2.trans (h3.mono b2.size)
  have r3 := r2.below h3
  have p3 := p2.below h3
  clear h3 b2 r2 p2 t2
  have hne : ((m.length : Int) != (l.length : Int)) = false := by rw [HL.out]; simp
  have HS : Hid (okSize 1) := Or.inl rfl
  go_wp2
  go_loopw [8] (fun i wr => ∃ a : Nat, a ≤ l.length ∧ Hid (a % 1 = 0) ∧ i = .int .i64 a ∧ Rd wr A l ∧ Rd wr B m ∧ Below w.heap.size w wr) (fun i _ => l.length - (intOf i).toNat)
  case atStart => exact ⟨0, Nat.zero_le _, Nat.zero_mod _, rfl, p3, r3, b3⟩
  case round =>
    clear p3 r3 b3
    obtain ⟨a, ha, HA, rfl, pr, rr, hbel⟩ := hrel
    by_cases hlt : a + 1 ≤ l.length
    · go_wp2_with fail
      (with_reducible refine (get_yes l A c a 1 2 _ pr (by omega) hc HS.out HK.out (by omega)).mono ?_); rintro e w4 ⟨rfl, h4⟩
      have b4 := hbel.trans (h4.mono hbel.size)
      have r4 := rr.below h4
      have p4 := pr.below h4
      clear h4 hbel pr rr
      go_wp2_with fail
      (with_reducible refine (get_turned l m B d a 1 2 _ HM.out r4 (by omega) hd HK.out HS.out _ (by decide) HA.out (by omega)).mono ?_); rintro e w5 ⟨rfl, h5⟩
      have b5 := b4.trans (h5.mono b4.size)
      have r5 := r4.below h5
      have p5 := p4.below h5
      clear h5 b4 r4 p4
      go_wp2
      go_roundw
      case rel => exact ⟨a + 1, by omega, (by show (a + 1) % 1 = 0; rw [Nat.add_mod_right]; exact HA.out), by go_num, p5, r5, b5⟩
      case measure => simp [intOf]; omega
    · go_wp2_with fail
      (with_reducible refine (awake_any _).mono ?_); rintro e w4 ⟨rfl, h4⟩
      go_wp2
      go_ret
      exact ⟨rfl, hbel.trans (h4.mono hbel.size)⟩

set_option maxRecDepth 100000 in
set_option maxHeartbeats 1600000 in
theorem turned_2_1 (l : List UInt8) (A : Option Addr) (c : Nat) (w : World) (hr : Rd w A l) (hl : l.length ≤ 300) (hc : l.length ≤ c) :
    Calls Try.prog 6 #[.slice A l.length c, .int .i64 2, .int .i64 1] w fun e w' => e = .returned (.bool true) ∧ Below w.heap.size w w' := by
  have HK : Hid (okTurn 2 1) := ⟨Or.inl (Or.inr (Or.inl rfl)), Or.inl rfl⟩
  go_enter Try.func6, Try.ntmps6
  go_wp2_with fail
  (with_reducible refine (turn_ok l A c 2 1 _ hr (by omega) HK.out).mono ?_); rintro e w1 ⟨B, d, m, hm, rfl, r1, hd, HL, b1⟩
  have HM := Lib.hid hm
  clear hm
  have hml : m.length ≤ 300 := by rw [HL.out]; exact hl
  have p1 := hr.below b1
  go_wp2_with fail
  (with_reducible refine (turn_back l m B d 2 1 _ HM r1 (by omega) HK.out).mono ?_); rintro e w2 ⟨C, f, rfl, t2, h2⟩
  have b2 := b1.trans (h2.mono b1.size)
  have r2 := r1.below h2
  have p2 := p1.below h2
  clear h2 b1 r1 p1
  go_wp2_with fail
  (with_reducible refine (aw_same l _ _ _ _ _ _ rfl t2 p2 ?_).mono ?_)
  · unfold maxLen; omega
  rintro e w3 ⟨rfl, h3⟩
  have b3 := b2.trans (h3.mono b2.size)
  have r3 := r2.below h3
  have p3 := p2.below h3
  clear h3 b2 r2 p2 t2
  have hne : ((m.length : Int) != (l.length : Int)) = false := by rw [HL.out]; simp
  have HS : Hid (okSize 2) := Or.inr (Or.inl rfl)
  go_wp2
  go_loopw [8] (fun i wr => ∃ a : Nat, a ≤ l.length ∧ Hid (a % 2 = 0) ∧ i = .int .i64 a ∧ Rd wr A l ∧ Rd wr B m ∧ Below w.heap.size w wr) (fun i _ => l.length - (intOf i).toNat)
  case atStart => exact ⟨0, Nat.zero_le _, Nat.zero_mod _, rfl, p3, r3, b3⟩
  case round =>
    clear p3 r3 b3
    obtain ⟨a, ha, HA, rfl, pr, rr, hbel⟩ := hrel
    by_cases hlt : a + 2 ≤ l.length
    · go_wp2_with fail
      (with_reducible refine (get_yes l A c a 2 1 _ pr (by omega) hc HS.out HK.out (by omega)).mono ?_); rintro e w4 ⟨rfl, h4⟩
      have b4 := hbel.trans (h4.mono hbel.size)
      have r4 := rr.below h4
      have p4 := pr.below h4
      clear h4 hbel pr rr
      go_wp2_with fail
      (with_reducible refine (get_turned l m B d a 2 1 _ HM.out r4 (by omega) hd HK.out HS.out _ (by decide) HA.out (by omega)).mono ?_); rintro e w5 ⟨rfl, h5⟩
      have b5 := b4.trans (h5.mono b4.size)
      have r5 := r4.below h5
      have p5 := p4.below h5
      clear h5 b4 r4 p4
      go_wp2
      go_roundw
      case rel => exact ⟨a + 2, by omega, (by show (a + 2) % 2 = 0; rw [Nat.add_mod_right]; exact HA.out), by go_num, p5, r5, b5⟩
      case measure => simp [intOf]; omega
    · go_wp2_with fail
      (with_reducible refine (awake_any _).mono ?_); rintro e w4 ⟨rfl, h4⟩
      go_wp2
      go_ret
      exact ⟨rfl, hbel.trans (h4.mono hbel.size)⟩

set_option maxRecDepth 100000 in
set_option maxHeartbeats 1600000 in
theorem turned_2_2 (l : List UInt8) (A : Option Addr) (c : Nat) (w : World) (hr : Rd w A l) (hl : l.length ≤ 300) (hc : l.length ≤ c) :
    Calls Try.prog 6 #[.slice A l.length c, .int .i64 2, .int .i64 2] w fun e w' => e = .returned (.bool true) ∧ Below w.heap.size w w' := by
  have HK : Hid (okTurn 2 2) := ⟨Or.inl (Or.inr (Or.inl rfl)), Or.inr rfl⟩
  go_enter Try.func6, Try.ntmps6
  go_wp2_with fail
  (with_reducible refine (turn_ok l A c 2 2 _ hr (by omega) HK.out).mono ?_); rintro e w1 ⟨B, d, m, hm, rfl, r1, hd, HL, b1⟩
  have HM := Lib.hid hm
  clear hm
  have hml : m.length ≤ 300 := by rw [HL.out]; exact hl
  have p1 := hr.below b1
  go_wp2_with fail
  (with_reducible refine (turn_back l m B d 2 2 _ HM r1 (by omega) HK.out).mono ?_); rintro e w2 ⟨C, f, rfl, t2, h2⟩
  have b2 := b1.trans (h2.mono b1.size)
  have r2 := r1.below h2
  have p2 := p1.below h2
  clear h2 b1 r1 p1
  go_wp2_with fail
  (with_reducible refine (aw_same l _ _ _ _ _ _ rfl t2 p2 ?_).mono ?_)
  · unfold maxLen; omega
  rintro e w3 ⟨rfl, h3⟩
  have b3 := b2.trans (h3.mono b2.size)
  have r3 := r2.below h3
  have p3 := p2.below h3
  clear h3 b2 r2 p2 t2
  have hne : ((m.length : Int) != (l.length : Int)) = false := by rw [HL.out]; simp
  have HS : Hid (okSize 2) := Or.inr (Or.inl rfl)
  go_wp2
  go_loopw [8] (fun i wr => ∃ a : Nat, a ≤ l.length ∧ Hid (a % 2 = 0) ∧ i = .int .i64 a ∧ Rd wr A l ∧ Rd wr B m ∧ Below w.heap.size w wr) (fun i _ => l.length - (intOf i).toNat)
  case atStart => exact ⟨0, Nat.zero_le _, Nat.zero_mod _, rfl, p3, r3, b3⟩
  case round =>
    clear p3 r3 b3
    obtain ⟨a, ha, HA, rfl, pr, rr, hbel⟩ := hrel
    by_cases hlt : a + 2 ≤ l.length
    · go_wp2_with fail
      (with_reducible refine (get_yes l A c a 2 2 _ pr (by omega) hc HS.out HK.out (by omega)).mono ?_); rintro e w4 ⟨rfl, h4⟩
      have b4 := hbel.trans (h4.mono hbel.size)
      have r4 := rr.below h4
      have p4 := pr.below h4
      clear h4 hbel pr rr
      go_wp2_with fail
      (with_reducible refine (get_turned l m B d a 2 2 _ HM.out r4 (by omega) hd HK.out HS.out _ (by decide) HA.out (by omega)).mono ?_); rintro e w5 ⟨rfl, h5⟩
      have b5 := b4.trans (h5.mono b4.size)
      have r5 := r4.below h5
      have p5 := p4.below h5
      clear h5 b4 r4 p4
      go_wp2
      go_roundw
      case rel => exact ⟨a + 2, by omega, (by show (a + 2) % 2 = 0; rw [Nat.add_mod_right]; exact HA.out), by go_num, p5, r5, b5⟩
      case measure => simp [intOf]; omega
    · go_wp2_with fail
      (with_reducible refine (awake_any _).mono ?_); rintro e w4 ⟨rfl, h4⟩
      go_wp2
      go_ret
      exact ⟨rfl, hbel.trans (h4.mono hbel.size)⟩

set_option maxRecDepth 100000 in
set_option maxHeartbeats 1600000 in
theorem turned_4_1 (l : List UInt8) (A : Option Addr) (c : Nat) (w : World) (hr : Rd w A l) (hl : l.length ≤ 300) (hc : l.length ≤ c) :
    Calls Try.prog 6 #[.slice A l.length c, .int .i64 4, .int .i64 1] w fun e w' => e = .returned (.bool true) ∧ Below w.heap.size w w' := by
  have HK : Hid (okTurn 4 1) := ⟨Or.inl (Or.inr (Or.inr rfl)), Or.inl rfl⟩
  go_enter Try.func6, Try.ntmps6
  go_wp2_with fail
  (with_reducible refine (turn_ok l A c 4 1 _ hr (by omega) HK.out).mono ?_); rintro e w1 ⟨B, d, m, hm, rfl, r1, hd, HL, b1⟩
  have HM := Lib.hid hm
  clear hm
  have hml : m.length ≤ 300 := by rw [HL.out]; exact hl
  have p1 := hr.below b1
  go_wp2_with fail
  (with_reducible refine (turn_back l m B d 4 1 _ HM r1 (by omega) HK.out).mono ?_); rintro e w2 ⟨C, f, rfl, t2, h2⟩
  have b2 := b1.trans (h2.mono b1.size)
  have r2 := r1.below h2
  have p2 := p1.below h2
  clear h2 b1 r1 p1
  go_wp2_with fail
  (with_reducible refine (aw_same l _ _ _ _ _ _ rfl t2 p2 ?_).mono ?_)
  · unfold maxLen; omega
  rintro e w3 ⟨rfl, h3⟩
  have b3 := b2.trans (h3.mono b2.size)
  have r3 := r2.below h3
  have p3 := p2.below h3
  clear h3 b2 r2 p2 t2
  have hne : ((m.length : Int) != (l.length : Int)) = false := by rw [HL.out]; simp
  have HS : Hid (okSize 4) := Or.inr (Or.inr rfl)
  go_wp2
  go_loopw [8] (fun i wr => ∃ a : Nat, a ≤ l.length ∧ Hid (a % 4 = 0) ∧ i = .int .i64 a ∧ Rd wr A l ∧ Rd wr B m ∧ Below w.heap.size w wr) (fun i _ => l.length - (intOf i).toNat)
  case atStart => exact ⟨0, Nat.zero_le _, Nat.zero_mod _, rfl, p3, r3, b3⟩
  case round =>
    clear p3 r3 b3
    obtain ⟨a, ha, HA, rfl, pr, rr, hbel⟩ := hrel
    by_cases hlt : a + 4 ≤ l.length
    · go_wp2_with fail
      (with_reducible refine (get_yes l A c a 4 1 _ pr (by omega) hc HS.out HK.out (by omega)).mono ?_); rintro e w4 ⟨rfl, h4⟩
      have b4 := hbel.trans (h4.mono hbel.size)
      have r4 := rr.below h4
      have p4 := pr.below h4
      clear h4 hbel pr rr
      go_wp2_with fail
      (with_reducible refine (get_turned l m B d a 4 1 _ HM.out r4 (by omega) hd HK.out HS.out _ (by decide) HA.out (by omega)).mono ?_); rintro e w5 ⟨rfl, h5⟩
      have b5 := b4.trans (h5.mono b4.size)
      have r5 := r4.below h5
      have p5 := p4.below h5
      clear h5 b4 r4 p4
      go_wp2
      go_roundw
      case rel => exact ⟨a + 4, by omega, (by show (a + 4) % 4 = 0; rw [Nat.add_mod_right]; exact HA.out), by go_num, p5, r5, b5⟩
      case measure => simp [intOf]; omega
    · go_wp2_with fail
      (with_reducible refine (awake_any _).mono ?_); rintro e w4 ⟨rfl, h4⟩
      go_wp2
      go_ret
      exact ⟨rfl, hbel.trans (h4.mono hbel.size)⟩

set_option maxRecDepth 100000 in
set_option maxHeartbeats 1600000 in
theorem turned_4_2 (l : List UInt8) (A : Option Addr) (c : Nat) (w : World) (hr : Rd w A l) (hl : l.length ≤ 300) (hc : l.length ≤ c) :
    Calls Try.prog 6 #[.slice A l.length c, .int .i64 4, .int .i64 2] w fun e w' => e = .returned (.bool true) ∧ Below w.heap.size w w' := by
  have HK : Hid (okTurn 4 2) := ⟨Or.inl (Or.inr (Or.inr rfl)), Or.inr rfl⟩
  go_enter Try.func6, Try.ntmps6
  go_wp2_with fail
  (with_reducible refine (turn_ok l A c 4 2 _ hr (by omega) HK.out).mono ?_); rintro e w1 ⟨B, d, m, hm, rfl, r1, hd, HL, b1⟩
  have HM := Lib.hid hm
  clear hm
  have hml : m.length ≤ 300 := by rw [HL.out]; exact hl
  have p1 := hr.below b1
  go_wp2_with fail
  (with_reducible refine (turn_back l m B d 4 2 _ HM r1 (by omega) HK.out).mono ?_); rintro e w2 ⟨C, f, rfl, t2, h2⟩
  have b2 := b1.trans (h2.mono b1.size)
  have r2 := r1.below h2
  have p2 := p1.below h2
  clear h2 b1 r1 p1
  go_wp2_with fail
  (with_reducible refine (aw_same l _ _ _ _ _ _ rfl t2 p2 ?_).mono ?_)
  · unfold maxLen; omega
  rintro e w3 ⟨rfl, h3⟩
  have b3 := b2.trans (h3.mono b2.size)
  have r3 := r2.below h3
  have p3 := p2.below h3
  clear h3 b2 r2 p2 t2
  have hne : ((m.length : Int) != (l.length : Int)) = false := by rw [HL.out]; simp
  have HS : Hid (okSize 4) := Or.inr (Or.inr rfl)
  go_wp2
  go_loopw [8] (fun i wr => ∃ a : Nat, a ≤ l.length ∧ Hid (a % 4 = 0) ∧ i = .int .i64 a ∧ Rd wr A l ∧ Rd wr B m ∧ Below w.heap.size w wr) (fun i _ => l.length - (intOf i).toNat)
  case atStart => exact ⟨0, Nat.zero_le _, Nat.zero_mod _, rfl, p3, r3, b3⟩
  case round =>
    clear p3 r3 b3
    obtain ⟨a, ha, HA, rfl, pr, rr, hbel⟩ := hrel
    by_cases hlt : a + 4 ≤ l.length
    · go_wp2_with fail
      (with_reducible refine (get_yes l A c a 4 2 _ pr (by omega) hc HS.out HK.out (by omega)).mono ?_); rintro e w4 ⟨rfl, h4⟩
      have b4 := hbel.trans (h4.mono hbel.size)
      have r4 := rr.below h4
      have p4 := pr.below h4
      clear h4 hbel pr rr
      go_wp2_with fail
      (with_reducible refine (get_turned l m B d a 4 2 _ HM.out r4 (by omega) hd HK.out HS.out _ (by decide) HA.out (by omega)).mono ?_); rintro e w5 ⟨rfl, h5⟩
      have b5 := b4.trans (h5.mono b4.size)
      have r5 := r4.below h5
      have p5 := p4.below h5
      clear h5 b4 r4 p4
      go_wp2
      go_roundw
      case rel => exact ⟨a + 4, by omega, (by show (a + 4) % 4 = 0; rw [Nat.add_mod_right]; exact HA.out), by go_num, p5, r5, b5⟩
      case measure => simp [intOf]; omega
    · go_wp2_with fail
      (with_reducible refine (awake_any _).mono ?_); rintro e w4 ⟨rfl, h4⟩
      go_wp2
      go_ret
      exact ⟨rfl, hbel.trans (h4.mono hbel.size)⟩

set_option maxRecDepth 100000 in
set_option maxHeartbeats 1600000 in
theorem turned_8_1 (l : List UInt8) (A : Option Addr) (c : Nat) (w : World) (hr : Rd w A l) (hl : l.length ≤ 300) (hc : l.length ≤ c) :
    Calls Try.prog 6 #[.slice A l.length c, .int .i64 8, .int .i64 1] w fun e w' => e = .returned (.bool true) ∧ Below w.heap.size w w' := by
  have HK : Hid (okTurn 8 1) := ⟨Or.inr rfl, Or.inl rfl⟩
  go_enter Try.func6, Try.ntmps6
  go_wp2_with fail
  (with_reducible refine (turn_ok l A c 8 1 _ hr (by omega) HK.out).mono ?_); rintro e w1 ⟨B, d, m, hm, rfl, r1, hd, HL, b1⟩
  have HM := Lib.hid hm
  clear hm
  have hml : m.length ≤ 300 := by rw [HL.out]; exact hl
  have p1 := hr.below b1
  go_wp2_with fail
  (with_reducible refine (turn_back l m B d 8 1 _ HM r1 (by omega) HK.out).mono ?_); rintro e w2 ⟨C, f, rfl, t2, h2⟩
  have b2 := b1.trans (h2.mono b1.size)
  have r2 := r1.below h2
  have p2 := p1.below h2
  clear h2 b1 r1 p1
  go_wp2_with fail
  (with_reducible refine (aw_same l _ _ _ _ _ _ rfl t2 p2 ?_).mono ?_)
  · unfold maxLen; omega
  rintro e w3 ⟨rfl, h3⟩
  have b3 := b2.trans (h3.mono b2.size)
  have r3 := r2.below h3
  have p3 := p2.below h3
  clear h3 b2 r2 p2 t2
  have hne : ((m.length : Int) != (l.length : Int)) = false := by rw [HL.out]; simp
  go_wp2
  refine wp_loop_rounds 1 ?_
  rw [rounds_succ]
  go_wp2_with fail
  (with_reducible refine (awake_any _).mono ?_); rintro e w4 ⟨rfl, h4⟩
  go_wp2
  go_ret
  exact ⟨rfl, b3.trans (h4.mono b3.size)⟩

set_option maxRecDepth 100000 in
set_option maxHeartbeats 1600000 in
theorem turned_8_2 (l : List UInt8) (A : Option Addr) (c : Nat) (w : World) (hr : Rd w A l) (hl : l.length ≤ 300) (hc : l.length ≤ c) :
    Calls Try.prog 6 #[.slice A l.length c, .int .i64 8, .int .i64 2] w fun e w' => e = .returned (.bool true) ∧ Below w.heap.size w w' := by
  have HK : Hid (okTurn 8 2) := ⟨Or.inr rfl, Or.inr rfl⟩
  go_enter Try.func6, Try.ntmps6
  go_wp2_with fail
  (with_reducible refine (turn_ok l A c 8 2 _ hr (by omega) HK.out).mono ?_); rintro e w1 ⟨B, d, m, hm, rfl, r1, hd, HL, b1⟩
  have HM := Lib.hid hm
  clear hm
  have hml : m.length ≤ 300 := by rw [HL.out]; exact hl
  have p1 := hr.below b1
  go_wp2_with fail
  (with_reducible refine (turn_back l m B d 8 2 _ HM r1 (by omega) HK.out).mono ?_); rintro e w2 ⟨C, f, rfl, t2, h2⟩
  have b2 := b1.trans (h2.mono b1.size)
  have r2 := r1.below h2
  have p2 := p1.below h2
  clear h2 b1 r1 p1
  go_wp2_with fail
  (with_reducible refine (aw_same l _ _ _ _ _ _ rfl t2 p2 ?_).mono ?_)
  · unfold maxLen; omega
  rintro e w3 ⟨rfl, h3⟩
  have b3 := b2.trans (h3.mono b2.size)
  have r3 := r2.below h3
  have p3 := p2.below h3
  clear h3 b2 r2 p2 t2
  have hne : ((m.length : Int) != (l.length : Int)) = false := by rw [HL.out]; simp
  go_wp2
  refine wp_loop_rounds 1 ?_
  rw [rounds_succ]
  go_wp2_with fail
  (with_reducible refine (awake_any _).mono ?_); rintro e w4 ⟨rfl, h4⟩
  go_wp2
  go_ret
  exact ⟨rfl, b3.trans (h4.mono b3.size)⟩

theorem turn_none (l : List UInt8) (A : Option Addr) (c : Nat) (s o : Int) (w : World) (h : ¬ okTurn s o) :
    Calls Try.prog 11 #[.slice A l.length c, .int .i64 s, .int .i64 o] w fun e w' => e = .returned (.slice none 0 0) ∧ Below w.heap.size w w' := oTurn_no l A c s o w h

set_option maxRecDepth 100000 in
set_option maxHeartbeats 1600000 in
theorem turned_no (l : List UInt8) (A : Option Addr) (c : Nat) (s o : Int) (w : World) (hl : l.length ≤ 300) (h : ¬ okTurn s o) :
    Calls Try.prog 6 #[.slice A l.length c, .int .i64 s, .int .i64 o] w fun e w' => e = .returned (.bool true) ∧ Below w.heap.size w w' := by
  have HK := Lib.hid h
  by_cases hs : okSize s ∨ s = 8
  · have ho : ¬ (o = 1 ∨ o = 2) := fun e => h ⟨hs, e⟩
    have o1 : (o != 1) = true := by rw [bne_iff_ne]; omega
    have o2 : (o != 2) = true := by rw [bne_iff_ne]; omega
    unfold okSize at hs
    clear h ho
    rcases hs with (rfl | rfl | rfl) | rfl
    all_goals
      go_enter Try.func6, Try.ntmps6
      go_wp2_with fail
      (with_reducible refine (turn_none l A c _ o _ HK.out).mono ?_); rintro e w1 ⟨rfl, b1⟩
      go_wp2_with fail
      (with_reducible refine (awake_any _).mono ?_); rintro e w2 ⟨rfl, h2⟩
      go_wp2
      go_ret
      exact ⟨rfl, b1.trans (h2.mono b1.size)⟩
  · unfold okSize at hs
    have s1 : (s != 1) = true := by rw [bne_iff_ne]; omega
    have s2 : (s != 2) = true := by rw [bne_iff_ne]; omega
    have s4 : (s != 4) = true := by rw [bne_iff_ne]; omega
    have s8 : (s != 8) = true := by rw [bne_iff_ne]; omega
    clear h hs
    go_enter Try.func6, Try.ntmps6
    go_wp2_with fail
    (with_reducible refine (turn_none l A c s o _ HK.out).mono ?_); rintro e w1 ⟨rfl, b1⟩
    go_wp2_with fail
    (with_reducible refine (awake_any _).mono ?_); rintro e w2 ⟨rfl, h2⟩
    go_wp2
    go_ret
    exact ⟨rfl, b1.trans (h2.mono b1.size)⟩

theorem turned_any (l : List UInt8) (A : Option Addr) (c : Nat) (s o : Int) (w : World) (hr : Rd w A l) (hc : l.length ≤ c) (hm : c ≤ maxLen) :
    Calls Try.prog 6 #[.slice A l.length c, .int .i64 s, .int .i64 o] w fun e w' => e = .returned (.bool true) ∧ Below w.heap.size w w' := by
  by_cases hl : 300 < l.length
  · exact turned_far l A c s o w hl (Nat.le_trans hc hm)
  by_cases h : okTurn s o
  · have h' := h
    obtain ⟨hs, ho⟩ := h'
    unfold okSize at hs
    rcases hs with (rfl | rfl | rfl) | rfl <;> rcases ho with rfl | rfl
    · exact turned_1_1 l A c w hr (by omega) hc
    · exact turned_1_2 l A c w hr (by omega) hc
    · exact turned_2_1 l A c w hr (by omega) hc
    · exact turned_2_2 l A c w hr (by omega) hc
    · exact turned_4_1 l A c w hr (by omega) hc
    · exact turned_4_2 l A c w hr (by omega) hc
    · exact turned_8_1 l A c w hr (by omega) hc
    · exact turned_8_2 l A c w hr (by omega) hc
  · exact turned_no l A c s o w (by omega) h
end Go.Proofs.Ytdjpdpdaaahmiaa
