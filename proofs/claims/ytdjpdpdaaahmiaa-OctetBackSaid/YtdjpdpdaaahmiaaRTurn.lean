/- The call Turn of the document's answer. -/
import Derived.Test.YtdjpdpdaaahmiaaTurnN
namespace Go.Proofs.Ytdjpdpdaaahmiaa
open Go.RowKit
set_option linter.unusedVariables false

set_option maxRecDepth 100000 in
set_option maxHeartbeats 1600000 in
theorem rTurn_s1 (l : List UInt8) (A : Option Addr) (c s : Nat) (w : World) (hr : Rd w A l) (hl : l.length ≤ 65536) (h1 : 1 ≤ s) (h8 : s ≤ 8) (hb : (topI s == 0) = false) :
    Calls Try.prog 13 #[.slice A l.length c, .int .i64 s, .int .i64 1] w fun e w' => ∃ v, e = .returned v ∧ Ob w' w.heap.size v (tpre l s 1 l.length) ∧ Below w.heap.size w w' := by
  go_enter Try.func13, Try.ntmps13
  go_wp2_with (go_at_call 30; (with_reducible refine (top_any s _).mono ?_); rintro e w1 ⟨rfl, rfl⟩)
  go_loopw [7, 8] (fun v i wr => ∃ k : Nat, k ≤ l.length ∧ i = .int .i64 k ∧ Ob wr w.heap.size v (tpre l s 1 k) ∧ Below w.heap.size w wr) (fun _ i _ => l.length - (intOf i).toNat)
  case atStart => exact ⟨0, Nat.zero_le _, rfl, Ob.nil _ _, Below.refl _ _⟩
  case round =>
    obtain ⟨k, hk, rfl, hown, hbel⟩ := hrel
    have hz := hbel.size
    have hm := Nat.mod_le l.length s
    by_cases hlt : k < l.length
    · obtain ⟨b, o0, rfl, hcell⟩ := hr.resolve_left (fun e => by rw [e] at hlt; simp at hlt)
      have HC := Lib.hid hcell
      clear hcell
      by_cases hg : k < l.length - l.length % s
      · have g1 := Nat.mod_lt k h1
        have g2 := Nat.mod_le k s
        have hi : Hid (tix l.length s 1 k = k - k % s + s - 1 - k % s) := by show _ = _; unfold tix; rw [if_pos ⟨rfl, hg⟩]
        have g3 : k - k % s + s - 1 - k % s < l.length := by
          rw [← hi.out]
          exact tix_lt (n := l.length) (s := s) 1 h1 hlt
        have c0 := cell_later hbel (HC.out _ g3)
        have E1 : Hid (bt l (k - k % s + s - 1 - k % s) = ((l.getD (tix l.length s 1 k) 0).toNat : Int)) := by show _ = _; rw [hi.out]; rfl
        have E2 : Hid ((tpre l s 1 k).length + [l.getD (tix l.length s 1 k) 0].length ≤ 140737488355328) := by show _ ≤ _; rw [tpre_len]; simp; omega
        go_wp2
        go_quiet (fail)
        go_wp2_with (
          at_builtin
          refine wpList_app _ rfl _ _ rfl w.heap.size _ (tpre l s 1 k) rfl (hown.below ((dN (Below.refl _ _) _).alloc (Nat.le_refl _) _)) (some ⟨wr.heap.size, 0, none⟩) [l.getD (tix l.length s 1 k) 0] 1 1 rfl rfl (Rd.one _ _ _ _ E1.out) E2.out (by simp; omega) ?_
          intro v1 w1 hown1 hb1 _)
        go_roundw
        case rel => exact ⟨k + 1, by omega, by go_num, by rw [tpre_succ]; exact hown1, ((dN hbel _).alloc hz _).trans hb1⟩
        case measure => simp [intOf]; omega
      · have hi : Hid (tix l.length s 1 k = k) := by show _ = _; unfold tix; rw [if_neg (fun e => hg e.2)]
        have c0 := cell_later hbel (HC.out _ hlt)
        have E1 : Hid (bt l k = ((l.getD (tix l.length s 1 k) 0).toNat : Int)) := by show _ = _; rw [hi.out]; rfl
        have E2 : Hid ((tpre l s 1 k).length + [l.getD (tix l.length s 1 k) 0].length ≤ 140737488355328) := by show _ ≤ _; rw [tpre_len]; simp; omega
        go_wp2_with (
          at_builtin
          refine wpList_app _ rfl _ _ rfl w.heap.size _ (tpre l s 1 k) rfl (hown.below ((Below.refl _ _).alloc (Nat.le_refl _) _)) (some ⟨wr.heap.size, 0, none⟩) [l.getD (tix l.length s 1 k) 0] 1 1 rfl rfl (Rd.one _ _ _ _ E1.out) E2.out (by simp; omega) ?_
          intro v1 w1 hown1 hb1 _)
        go_roundw
        case rel => exact ⟨k + 1, by omega, by go_num, by rw [tpre_succ]; exact hown1, (hbel.alloc hz _).trans hb1⟩
        case measure => simp [intOf]; omega
    · obtain rfl : k = l.length := by omega
      go_wp2
      go_ret
      exact ⟨_, rfl, hown, hbel⟩

set_option maxRecDepth 100000 in
set_option maxHeartbeats 1600000 in
theorem rTurn_s2 (l : List UInt8) (A : Option Addr) (c s : Nat) (w : World) (hr : Rd w A l) (hl : l.length ≤ 65536) (h1 : 1 ≤ s) (h8 : s ≤ 8) (hb : (topI s == 0) = false) :
    Calls Try.prog 13 #[.slice A l.length c, .int .i64 s, .int .i64 2] w fun e w' => ∃ v, e = .returned v ∧ Ob w' w.heap.size v (tpre l s 2 l.length) ∧ Below w.heap.size w w' := by
  go_enter Try.func13, Try.ntmps13
  go_wp2_with (go_at_call 30; (with_reducible refine (top_any s _).mono ?_); rintro e w1 ⟨rfl, rfl⟩)
  go_loopw [7, 8] (fun v i wr => ∃ k : Nat, k ≤ l.length ∧ i = .int .i64 k ∧ Ob wr w.heap.size v (tpre l s 2 k) ∧ Below w.heap.size w wr) (fun _ i _ => l.length - (intOf i).toNat)
  case atStart => exact ⟨0, Nat.zero_le _, rfl, Ob.nil _ _, Below.refl _ _⟩
  case round =>
    obtain ⟨k, hk, rfl, hown, hbel⟩ := hrel
    have hz := hbel.size
    have hm := Nat.mod_le l.length s
    by_cases hlt : k < l.length
    · obtain ⟨b, o0, rfl, hcell⟩ := hr.resolve_left (fun e => by rw [e] at hlt; simp at hlt)
      have HC := Lib.hid hcell
      clear hcell
      · have hi : Hid (tix l.length s 2 k = k) := by show _ = _; unfold tix; rw [if_neg (fun e => by have := e.1; omega)]
        have c0 := cell_later hbel (HC.out _ hlt)
        have E1 : Hid (bt l k = ((l.getD (tix l.length s 2 k) 0).toNat : Int)) := by show _ = _; rw [hi.out]; rfl
        have E2 : Hid ((tpre l s 2 k).length + [l.getD (tix l.length s 2 k) 0].length ≤ 140737488355328) := by show _ ≤ _; rw [tpre_len]; simp; omega
        go_wp2_with (
          at_builtin
          refine wpList_app _ rfl _ _ rfl w.heap.size _ (tpre l s 2 k) rfl (hown.below ((Below.refl _ _).alloc (Nat.le_refl _) _)) (some ⟨wr.heap.size, 0, none⟩) [l.getD (tix l.length s 2 k) 0] 1 1 rfl rfl (Rd.one _ _ _ _ E1.out) E2.out (by simp; omega) ?_
          intro v1 w1 hown1 hb1 _)
        go_roundw
        case rel => exact ⟨k + 1, by omega, by go_num, by rw [tpre_succ]; exact hown1, (hbel.alloc hz _).trans hb1⟩
        case measure => simp [intOf]; omega
    · obtain rfl : k = l.length := by omega
      go_wp2
      go_ret
      exact ⟨_, rfl, hown, hbel⟩

set_option maxRecDepth 100000 in
set_option maxHeartbeats 1600000 in
theorem rTurn_e1 (l : List UInt8) (A : Option Addr) (c s : Nat) (w : World) (hr : Rd w A l) (hl : l.length ≤ 65536) (h1 : 1 ≤ s) (h8 : s ≤ 8) (hb : (topI s == 0) = true) (he : ((s : Int) != 8) = false) :
    Calls Try.prog 13 #[.slice A l.length c, .int .i64 s, .int .i64 1] w fun e w' => ∃ v, e = .returned v ∧ Ob w' w.heap.size v (tpre l s 1 l.length) ∧ Below w.heap.size w w' := by
  go_enter Try.func13, Try.ntmps13
  go_wp2_with (go_at_call 30; (with_reducible refine (top_any s _).mono ?_); rintro e w1 ⟨rfl, rfl⟩)
  go_loopw [7, 8] (fun v i wr => ∃ k : Nat, k ≤ l.length ∧ i = .int .i64 k ∧ Ob wr w.heap.size v (tpre l s 1 k) ∧ Below w.heap.size w wr) (fun _ i _ => l.length - (intOf i).toNat)
  case atStart => exact ⟨0, Nat.zero_le _, rfl, Ob.nil _ _, Below.refl _ _⟩
  case round =>
    obtain ⟨k, hk, rfl, hown, hbel⟩ := hrel
    have hz := hbel.size
    have hm := Nat.mod_le l.length s
    by_cases hlt : k < l.length
    · obtain ⟨b, o0, rfl, hcell⟩ := hr.resolve_left (fun e => by rw [e] at hlt; simp at hlt)
      have HC := Lib.hid hcell
      clear hcell
      by_cases hg : k < l.length - l.length % s
      · have g1 := Nat.mod_lt k h1
        have g2 := Nat.mod_le k s
        have hi : Hid (tix l.length s 1 k = k - k % s + s - 1 - k % s) := by show _ = _; unfold tix; rw [if_pos ⟨rfl, hg⟩]
        have g3 : k - k % s + s - 1 - k % s < l.length := by
          rw [← hi.out]
          exact tix_lt (n := l.length) (s := s) 1 h1 hlt
        have c0 := cell_later hbel (HC.out _ g3)
        have E1 : Hid (bt l (k - k % s + s - 1 - k % s) = ((l.getD (tix l.length s 1 k) 0).toNat : Int)) := by show _ = _; rw [hi.out]; rfl
        have E2 : Hid ((tpre l s 1 k).length + [l.getD (tix l.length s 1 k) 0].length ≤ 140737488355328) := by show _ ≤ _; rw [tpre_len]; simp; omega
        go_wp2
        go_quiet (fail)
        go_wp2_with (
          at_builtin
          refine wpList_app _ rfl _ _ rfl w.heap.size _ (tpre l s 1 k) rfl (hown.below ((dN (Below.refl _ _) _).alloc (Nat.le_refl _) _)) (some ⟨wr.heap.size, 0, none⟩) [l.getD (tix l.length s 1 k) 0] 1 1 rfl rfl (Rd.one _ _ _ _ E1.out) E2.out (by simp; omega) ?_
          intro v1 w1 hown1 hb1 _)
        go_roundw
        case rel => exact ⟨k + 1, by omega, by go_num, by rw [tpre_succ]; exact hown1, ((dN hbel _).alloc hz _).trans hb1⟩
        case measure => simp [intOf]; omega
      · have hi : Hid (tix l.length s 1 k = k) := by show _ = _; unfold tix; rw [if_neg (fun e => hg e.2)]
        have c0 := cell_later hbel (HC.out _ hlt)
        have E1 : Hid (bt l k = ((l.getD (tix l.length s 1 k) 0).toNat : Int)) := by show _ = _; rw [hi.out]; rfl
        have E2 : Hid ((tpre l s 1 k).length + [l.getD (tix l.length s 1 k) 0].length ≤ 140737488355328) := by show _ ≤ _; rw [tpre_len]; simp; omega
        go_wp2_with (
          at_builtin
          refine wpList_app _ rfl _ _ rfl w.heap.size _ (tpre l s 1 k) rfl (hown.below ((Below.refl _ _).alloc (Nat.le_refl _) _)) (some ⟨wr.heap.size, 0, none⟩) [l.getD (tix l.length s 1 k) 0] 1 1 rfl rfl (Rd.one _ _ _ _ E1.out) E2.out (by simp; omega) ?_
          intro v1 w1 hown1 hb1 _)
        go_roundw
        case rel => exact ⟨k + 1, by omega, by go_num, by rw [tpre_succ]; exact hown1, (hbel.alloc hz _).trans hb1⟩
        case measure => simp [intOf]; omega
    · obtain rfl : k = l.length := by omega
      go_wp2
      go_ret
      exact ⟨_, rfl, hown, hbel⟩

set_option maxRecDepth 100000 in
set_option maxHeartbeats 1600000 in
theorem rTurn_e2 (l : List UInt8) (A : Option Addr) (c s : Nat) (w : World) (hr : Rd w A l) (hl : l.length ≤ 65536) (h1 : 1 ≤ s) (h8 : s ≤ 8) (hb : (topI s == 0) = true) (he : ((s : Int) != 8) = false) :
    Calls Try.prog 13 #[.slice A l.length c, .int .i64 s, .int .i64 2] w fun e w' => ∃ v, e = .returned v ∧ Ob w' w.heap.size v (tpre l s 2 l.length) ∧ Below w.heap.size w w' := by
  go_enter Try.func13, Try.ntmps13
  go_wp2_with (go_at_call 30; (with_reducible refine (top_any s _).mono ?_); rintro e w1 ⟨rfl, rfl⟩)
  go_loopw [7, 8] (fun v i wr => ∃ k : Nat, k ≤ l.length ∧ i = .int .i64 k ∧ Ob wr w.heap.size v (tpre l s 2 k) ∧ Below w.heap.size w wr) (fun _ i _ => l.length - (intOf i).toNat)
  case atStart => exact ⟨0, Nat.zero_le _, rfl, Ob.nil _ _, Below.refl _ _⟩
  case round =>
    obtain ⟨k, hk, rfl, hown, hbel⟩ := hrel
    have hz := hbel.size
    have hm := Nat.mod_le l.length s
    by_cases hlt : k < l.length
    · obtain ⟨b, o0, rfl, hcell⟩ := hr.resolve_left (fun e => by rw [e] at hlt; simp at hlt)
      have HC := Lib.hid hcell
      clear hcell
      · have hi : Hid (tix l.length s 2 k = k) := by show _ = _; unfold tix; rw [if_neg (fun e => by have := e.1; omega)]
        have c0 := cell_later hbel (HC.out _ hlt)
        have E1 : Hid (bt l k = ((l.getD (tix l.length s 2 k) 0).toNat : Int)) := by show _ = _; rw [hi.out]; rfl
        have E2 : Hid ((tpre l s 2 k).length + [l.getD (tix l.length s 2 k) 0].length ≤ 140737488355328) := by show _ ≤ _; rw [tpre_len]; simp; omega
        go_wp2_with (
          at_builtin
          refine wpList_app _ rfl _ _ rfl w.heap.size _ (tpre l s 2 k) rfl (hown.below ((Below.refl _ _).alloc (Nat.le_refl _) _)) (some ⟨wr.heap.size, 0, none⟩) [l.getD (tix l.length s 2 k) 0] 1 1 rfl rfl (Rd.one _ _ _ _ E1.out) E2.out (by simp; omega) ?_
          intro v1 w1 hown1 hb1 _)
        go_roundw
        case rel => exact ⟨k + 1, by omega, by go_num, by rw [tpre_succ]; exact hown1, (hbel.alloc hz _).trans hb1⟩
        case measure => simp [intOf]; omega
    · obtain rfl : k = l.length := by omega
      go_wp2
      go_ret
      exact ⟨_, rfl, hown, hbel⟩

theorem rTurn_no (l : List UInt8) (A : Option Addr) (c : Nat) (s o : Int) (w : World) (h : ¬ okTurn s o) :
    Calls Try.prog 13 #[.slice A l.length c, .int .i64 s, .int .i64 o] w fun e w' => e = .returned (.slice none 0 0) ∧ w = w' := by
  by_cases hs : okSize s
  · have hb : (topI s == 0) = false := by have := topI_pos hs; simp; omega
    have ho : o < 1 ∨ 2 < o := by
      have : ¬ (o = 1 ∨ o = 2) := fun x => h ⟨.inl hs, x⟩
      omega
    clear h hs
    by_cases o1 : o < 1
    · clear ho
      go_enter Try.func13, Try.ntmps13
      go_wp2_with (go_at_call 30; (with_reducible refine (top_any s _).mono ?_); rintro e w1 ⟨rfl, rfl⟩)
      go_ret
      exact ⟨rfl, rfl⟩
    · have o2 : 2 < o := by omega
      clear ho
      go_enter Try.func13, Try.ntmps13
      go_wp2_with (go_at_call 30; (with_reducible refine (top_any s _).mono ?_); rintro e w1 ⟨rfl, rfl⟩)
      go_ret
      exact ⟨rfl, rfl⟩
  have hb : (topI s == 0) = true := by rw [topI_zero hs]; rfl
  by_cases h8 : s = 8
  · have he : (s != 8) = false := by rw [h8]; rfl
    have ho : o < 1 ∨ 2 < o := by
      have : ¬ (o = 1 ∨ o = 2) := fun x => h ⟨.inr h8, x⟩
      omega
    clear h hs h8
    by_cases o1 : o < 1
    · clear ho
      go_enter Try.func13, Try.ntmps13
      go_wp2_with (go_at_call 30; (with_reducible refine (top_any s _).mono ?_); rintro e w1 ⟨rfl, rfl⟩)
      go_ret
      exact ⟨rfl, rfl⟩
    · have o2 : 2 < o := by omega
      clear ho
      go_enter Try.func13, Try.ntmps13
      go_wp2_with (go_at_call 30; (with_reducible refine (top_any s _).mono ?_); rintro e w1 ⟨rfl, rfl⟩)
      go_ret
      exact ⟨rfl, rfl⟩
  · have he : (s != 8) = true := by rw [bne_iff_ne]; exact h8
    clear h hs h8
    go_enter Try.func13, Try.ntmps13
    go_wp2_with (go_at_call 30; (with_reducible refine (top_any s _).mono ?_); rintro e w1 ⟨rfl, rfl⟩)
    go_ret
    exact ⟨rfl, rfl⟩

theorem rTurn_any (l : List UInt8) (A : Option Addr) (c : Nat) (s o : Int) (w : World) (hr : Rd w A l) (hl : l.length ≤ 65536) :
    Calls Try.prog 13 #[.slice A l.length c, .int .i64 s, .int .i64 o] w fun e w' => ∃ v, e = .returned v ∧ Ob w' w.heap.size v (turnL l s o) ∧ Below w.heap.size w w' := by
  by_cases h : okTurn s o
  · rw [turnL_yes h]
    obtain ⟨hs, ho⟩ := h
    obtain ⟨k, rfl⟩ := Int.eq_ofNat_of_zero_le (show 0 ≤ s by unfold okSize at hs; omega)
    have hk : 1 ≤ k ∧ k ≤ 8 := by unfold okSize at hs; omega
    rw [Int.toNat_natCast]
    by_cases hs4 : okSize (k : Int)
    · have hb : (topI k == 0) = false := by have := topI_pos hs4; simp; omega
      rcases ho with rfl | rfl
      · exact rTurn_s1 l A c k w hr hl hk.1 hk.2 hb
      · exact rTurn_s2 l A c k w hr hl hk.1 hk.2 hb
    · have hb : (topI k == 0) = true := by rw [topI_zero hs4]; rfl
      have he : ((k : Int) != 8) = false := by rw [hs.resolve_left hs4]; rfl
      rcases ho with rfl | rfl
      · exact rTurn_e1 l A c k w hr hl hk.1 hk.2 hb he
      · exact rTurn_e2 l A c k w hr hl hk.1 hk.2 hb he
  · rw [turnL_no h]
    exact (rTurn_no l A c s o w h).mono fun e w' ⟨he, hw⟩ => ⟨_, he, Ob.nil _ _, hw ▸ Below.refl _ _⟩
end Go.Proofs.Ytdjpdpdaaahmiaa
