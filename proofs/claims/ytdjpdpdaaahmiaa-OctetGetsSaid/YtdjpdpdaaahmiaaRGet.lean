/- The call Get of the document's answer. -/
import Derived.Test.YtdjpdpdaaahmiaaNum
namespace Go.Proofs.Ytdjpdpdaaahmiaa
open Go.RowKit

theorem pair_val {a b : Int} (h : a = b) : (a, true) = (b, true) := by rw [h]

set_option maxRecDepth 100000 in
set_option maxHeartbeats 800000 in
theorem rGet_1_1 (l : List UInt8) (b o0 c k : Nat) (w : World) (hl : l.length ≤ 140737488355328) (hk : k + 1 ≤ l.length)
    (c0 : w.cell? ⟨b, o0 + k, none⟩ = some (.int .u8 (bt l k))) :
    Calls Try.prog 10 #[.slice (some ⟨b, o0, none⟩) l.length c, .int .i64 k, .int .i64 1, .int .i64 1] w fun e w' => e = .returned (.tuple #[.int .i64 (gV l k 1 1), .bool true]) ∧ w = w' := by
  obtain ⟨b00, b01⟩ := bt_rng l k
  have hb : (topI 1 == 0) = false := rfl
  go_enter Try.func10, Try.ntmps10
  go_wp2_with (go_at_call 30; (with_reducible refine (top_any 1 _).mono ?_); rintro e w1 ⟨rfl, rfl⟩)
  refine wp_loop_rounds 2 ?_
  rw [rounds_succ]
  go_wp2
  rw [rounds_succ]
  go_wp2
  go_ret2
  exact ⟨ret_pair (pair_val (by simp [gV])), rfl⟩

set_option maxRecDepth 100000 in
set_option maxHeartbeats 800000 in
theorem rGet_1_2 (l : List UInt8) (b o0 c k : Nat) (w : World) (hl : l.length ≤ 140737488355328) (hk : k + 1 ≤ l.length)
    (c0 : w.cell? ⟨b, o0 + k, none⟩ = some (.int .u8 (bt l k))) :
    Calls Try.prog 10 #[.slice (some ⟨b, o0, none⟩) l.length c, .int .i64 k, .int .i64 1, .int .i64 2] w fun e w' => e = .returned (.tuple #[.int .i64 (gV l k 1 2), .bool true]) ∧ w = w' := by
  obtain ⟨b00, b01⟩ := bt_rng l k
  have hb : (topI 1 == 0) = false := rfl
  go_enter Try.func10, Try.ntmps10
  go_wp2_with (go_at_call 30; (with_reducible refine (top_any 1 _).mono ?_); rintro e w1 ⟨rfl, rfl⟩)
  refine wp_loop_rounds 2 ?_
  rw [rounds_succ]
  go_wp2
  rw [rounds_succ]
  go_wp2
  go_ret2
  exact ⟨ret_pair (pair_val (by simp [gV])), rfl⟩

set_option maxRecDepth 100000 in
set_option maxHeartbeats 800000 in
theorem rGet_2_1 (l : List UInt8) (b o0 c k : Nat) (w : World) (hl : l.length ≤ 140737488355328) (hk : k + 2 ≤ l.length)
    (c0 : w.cell? ⟨b, o0 + k, none⟩ = some (.int .u8 (bt l k)))
    (c1 : w.cell? ⟨b, o0 + (k + 1), none⟩ = some (.int .u8 (bt l (k + 1)))) :
    Calls Try.prog 10 #[.slice (some ⟨b, o0, none⟩) l.length c, .int .i64 k, .int .i64 2, .int .i64 1] w fun e w' => e = .returned (.tuple #[.int .i64 (gV l k 2 1), .bool true]) ∧ w = w' := by
  obtain ⟨b00, b01⟩ := bt_rng l k
  obtain ⟨b10, b11⟩ := bt_rng l (k + 1)
  have hb : (topI 2 == 0) = false := rfl
  go_enter Try.func10, Try.ntmps10
  go_wp2_with (go_at_call 30; (with_reducible refine (top_any 2 _).mono ?_); rintro e w1 ⟨rfl, rfl⟩)
  refine wp_loop_rounds 3 ?_
  rw [rounds_succ]
  go_wp2
  rw [rounds_succ]
  go_wp2
  rw [rounds_succ]
  go_wp2
  go_ret2
  exact ⟨ret_pair (pair_val (by simp [gV])), rfl⟩

set_option maxRecDepth 100000 in
set_option maxHeartbeats 800000 in
theorem rGet_2_2 (l : List UInt8) (b o0 c k : Nat) (w : World) (hl : l.length ≤ 140737488355328) (hk : k + 2 ≤ l.length)
    (c0 : w.cell? ⟨b, o0 + k, none⟩ = some (.int .u8 (bt l k)))
    (c1 : w.cell? ⟨b, o0 + (k + 1), none⟩ = some (.int .u8 (bt l (k + 1)))) :
    Calls Try.prog 10 #[.slice (some ⟨b, o0, none⟩) l.length c, .int .i64 k, .int .i64 2, .int .i64 2] w fun e w' => e = .returned (.tuple #[.int .i64 (gV l k 2 2), .bool true]) ∧ w = w' := by
  obtain ⟨b00, b01⟩ := bt_rng l k
  obtain ⟨b10, b11⟩ := bt_rng l (k + 1)
  have hb : (topI 2 == 0) = false := rfl
  go_enter Try.func10, Try.ntmps10
  go_wp2_with (go_at_call 30; (with_reducible refine (top_any 2 _).mono ?_); rintro e w1 ⟨rfl, rfl⟩)
  refine wp_loop_rounds 3 ?_
  rw [rounds_succ]
  go_wp2
  rw [rounds_succ]
  go_wp2
  rw [rounds_succ]
  go_wp2
  go_ret2
  exact ⟨ret_pair (pair_val (by simp [gV]; omega)), rfl⟩

set_option maxRecDepth 100000 in
set_option maxHeartbeats 800000 in
theorem rGet_4_1 (l : List UInt8) (b o0 c k : Nat) (w : World) (hl : l.length ≤ 140737488355328) (hk : k + 4 ≤ l.length)
    (c0 : w.cell? ⟨b, o0 + k, none⟩ = some (.int .u8 (bt l k)))
    (c1 : w.cell? ⟨b, o0 + (k + 1), none⟩ = some (.int .u8 (bt l (k + 1))))
    (c2 : w.cell? ⟨b, o0 + (k + 2), none⟩ = some (.int .u8 (bt l (k + 2))))
    (c3 : w.cell? ⟨b, o0 + (k + 3), none⟩ = some (.int .u8 (bt l (k + 3)))) :
    Calls Try.prog 10 #[.slice (some ⟨b, o0, none⟩) l.length c, .int .i64 k, .int .i64 4, .int .i64 1] w fun e w' => e = .returned (.tuple #[.int .i64 (gV l k 4 1), .bool true]) ∧ w = w' := by
  obtain ⟨b00, b01⟩ := bt_rng l k
  obtain ⟨b10, b11⟩ := bt_rng l (k + 1)
  obtain ⟨b20, b21⟩ := bt_rng l (k + 2)
  obtain ⟨b30, b31⟩ := bt_rng l (k + 3)
  have hb : (topI 4 == 0) = false := rfl
  go_enter Try.func10, Try.ntmps10
  go_wp2_with (go_at_call 30; (with_reducible refine (top_any 4 _).mono ?_); rintro e w1 ⟨rfl, rfl⟩)
  refine wp_loop_rounds 5 ?_
  rw [rounds_succ]
  go_wp2
  rw [rounds_succ]
  go_wp2
  rw [rounds_succ]
  go_wp2
  rw [rounds_succ]
  go_wp2
  rw [rounds_succ]
  go_wp2
  go_ret2
  exact ⟨ret_pair (pair_val (by simp [gV])), rfl⟩

set_option maxRecDepth 100000 in
set_option maxHeartbeats 800000 in
theorem rGet_4_2 (l : List UInt8) (b o0 c k : Nat) (w : World) (hl : l.length ≤ 140737488355328) (hk : k + 4 ≤ l.length)
    (c0 : w.cell? ⟨b, o0 + k, none⟩ = some (.int .u8 (bt l k)))
    (c1 : w.cell? ⟨b, o0 + (k + 1), none⟩ = some (.int .u8 (bt l (k + 1))))
    (c2 : w.cell? ⟨b, o0 + (k + 2), none⟩ = some (.int .u8 (bt l (k + 2))))
    (c3 : w.cell? ⟨b, o0 + (k + 3), none⟩ = some (.int .u8 (bt l (k + 3)))) :
    Calls Try.prog 10 #[.slice (some ⟨b, o0, none⟩) l.length c, .int .i64 k, .int .i64 4, .int .i64 2] w fun e w' => e = .returned (.tuple #[.int .i64 (gV l k 4 2), .bool true]) ∧ w = w' := by
  obtain ⟨b00, b01⟩ := bt_rng l k
  obtain ⟨b10, b11⟩ := bt_rng l (k + 1)
  obtain ⟨b20, b21⟩ := bt_rng l (k + 2)
  obtain ⟨b30, b31⟩ := bt_rng l (k + 3)
  have hb : (topI 4 == 0) = false := rfl
  go_enter Try.func10, Try.ntmps10
  go_wp2_with (go_at_call 30; (with_reducible refine (top_any 4 _).mono ?_); rintro e w1 ⟨rfl, rfl⟩)
  refine wp_loop_rounds 5 ?_
  rw [rounds_succ]
  go_wp2
  rw [rounds_succ]
  go_wp2
  rw [rounds_succ]
  go_wp2
  rw [rounds_succ]
  go_wp2
  rw [rounds_succ]
  go_wp2
  go_ret2
  exact ⟨ret_pair (pair_val (by simp [gV]; omega)), rfl⟩

set_option maxRecDepth 100000 in
theorem rGet_no (l : List UInt8) (A : Option Addr) (c : Nat) (a s o : Int) (w : World) (_hl : l.length ≤ 140737488355328) (s2 : s ≤ 9223372036854775807)
    (h : ¬ okSize s ∨ o < 1 ∨ 2 < o ∨ a < 0 ∨ (l.length : Int) < a ∨ (l.length : Int) - a < s) :
    Calls Try.prog 10 #[.slice A l.length c, .int .i64 a, .int .i64 s, .int .i64 o] w fun e w' => e = .returned (.tuple #[.int .i64 0, .bool false]) ∧ w = w' := by
  by_cases hs : okSize s
  · have hb : (topI s == 0) = false := by have := topI_pos hs; simp; omega
    have h' := h.resolve_left (fun e => e hs)
    clear h hs
    by_cases o1 : o < 1
    · clear h'
      go_enter Try.func10, Try.ntmps10
      go_wp2_with (go_at_call 30; (with_reducible refine (top_any s _).mono ?_); rintro e w1 ⟨rfl, rfl⟩)
      go_ret2
      exact ⟨rfl, rfl⟩
    by_cases o2 : 2 < o
    · clear h'
      go_enter Try.func10, Try.ntmps10
      go_wp2_with (go_at_call 30; (with_reducible refine (top_any s _).mono ?_); rintro e w1 ⟨rfl, rfl⟩)
      go_ret2
      exact ⟨rfl, rfl⟩
    by_cases a1 : a < 0
    · clear h'
      go_enter Try.func10, Try.ntmps10
      go_wp2_with (go_at_call 30; (with_reducible refine (top_any s _).mono ?_); rintro e w1 ⟨rfl, rfl⟩)
      go_ret2
      exact ⟨rfl, rfl⟩
    by_cases a2 : (l.length : Int) < a
    · clear h'
      go_enter Try.func10, Try.ntmps10
      go_wp2_with (go_at_call 30; (with_reducible refine (top_any s _).mono ?_); rintro e w1 ⟨rfl, rfl⟩)
      go_ret2
      exact ⟨rfl, rfl⟩
    have a3 : (l.length : Int) - a < s := by omega
    clear h'
    go_enter Try.func10, Try.ntmps10
    go_wp2_with (go_at_call 30; (with_reducible refine (top_any s _).mono ?_); rintro e w1 ⟨rfl, rfl⟩)
    go_ret2
    exact ⟨rfl, rfl⟩
  · have hb : (topI s == 0) = true := by rw [topI_zero hs]; rfl
    clear h hs
    go_enter Try.func10, Try.ntmps10
    go_wp2_with (go_at_call 30; (with_reducible refine (top_any s _).mono ?_); rintro e w1 ⟨rfl, rfl⟩)
    go_ret2
    exact ⟨rfl, rfl⟩

theorem rGet_any (l : List UInt8) (A : Option Addr) (c : Nat) (a s o : Int) (w : World) (hr : Rd w A l) (hl : l.length ≤ 140737488355328) (s2 : s ≤ 9223372036854775807) :
    Calls Try.prog 10 #[.slice A l.length c, .int .i64 a, .int .i64 s, .int .i64 o] w fun e w' => e = .returned (.tuple #[.int .i64 (getP l a s o).1, .bool (getP l a s o).2]) ∧ w = w' := by
  by_cases h : ¬ okSize s ∨ o < 1 ∨ 2 < o ∨ a < 0 ∨ (l.length : Int) < a ∨ (l.length : Int) - a < s
  · rw [getP_no h]
    exact rGet_no l A c a s o w hl s2 h
  · simp only [not_or, Classical.not_not] at h
    obtain ⟨hs, h1, h2, h3, h4, h5⟩ := h
    obtain ⟨k, rfl⟩ := Int.eq_ofNat_of_zero_le (by omega : 0 ≤ a)
    have ho : o = 1 ∨ o = 2 := by omega
    rw [getP_yes hs ho (by omega)]
    have hs0 : 0 < s := by unfold okSize at hs; omega
    obtain ⟨b, o0, rfl, hcell⟩ := hr.resolve_left (fun e => by rw [e] at h5; simp at h5; omega)
    rcases hs with rfl | rfl | rfl
    · have c0 := hcell k (by omega)
      rcases ho with rfl | rfl
      · exact rGet_1_1 l b o0 c k w hl (by omega) c0
      · exact rGet_1_2 l b o0 c k w hl (by omega) c0
    · have c0 := hcell k (by omega)
      have c1 := hcell (k + 1) (by omega)
      rcases ho with rfl | rfl
      · exact rGet_2_1 l b o0 c k w hl (by omega) c0 c1
      · exact rGet_2_2 l b o0 c k w hl (by omega) c0 c1
    · have c0 := hcell k (by omega)
      have c1 := hcell (k + 1) (by omega)
      have c2 := hcell (k + 2) (by omega)
      have c3 := hcell (k + 3) (by omega)
      rcases ho with rfl | rfl
      · exact rGet_4_1 l b o0 c k w hl (by omega) c0 c1 c2 c3
      · exact rGet_4_2 l b o0 c k w hl (by omega) c0 c1 c2 c3
end Go.Proofs.Ytdjpdpdaaahmiaa
