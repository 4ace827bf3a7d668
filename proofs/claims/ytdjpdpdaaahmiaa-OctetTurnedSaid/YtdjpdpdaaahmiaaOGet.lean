/- The call octet.Get. -/
import Derived.Test.YtdjpdpdaaahmiaaNum
namespace Go.Proofs.Ytdjpdpdaaahmiaa
open Go.RowKit

set_option maxHeartbeats 800000 in
theorem oGet_1_1 (l : List UInt8) (b o0 c k : Nat) (w : World) (hl : l.length ≤ 140737488355328) (hc : l.length ≤ c) (hk : k + 1 ≤ l.length)
    (c0 : w.cell? ⟨b, o0 + k, none⟩ = some (.int .u8 (bt l k))) :
    Calls Try.prog 9 #[.slice (some ⟨b, o0, none⟩) l.length c, .int .i64 k, .int .i64 1, .int .i64 1] w fun e w' => e = .returned (.tuple #[.int .i64 (gV l k 1 1), .bool true]) ∧ Below w.heap.size w w' := by
  obtain ⟨b00, b01⟩ := bt_rng l (k)
  have hb : sizeB 1 4 = true := rfl
  have hr : roomB k 1 l.length = true := by simp [roomB]; omega
  have ho : decide ((1 : Int) = 1 ∨ (1 : Int) = 2) = true := rfl
  go_enter Try.func9, Try.ntmps9
  go_wp2_with (first
    | (go_at_call 27; (with_reducible refine (isSize_any 1 4 _).mono ?_); rintro e w1 ⟨rfl, hw1⟩; have C0 := cell_later hw1 c0)
    | (go_at_call 28; (with_reducible refine (isOrder_any 1 _).mono ?_); rintro e w2 ⟨rfl, rfl⟩)
    | (go_at_call 23; (with_reducible refine (oRoom_any k 1 l.length _ (by omega)).mono ?_); rintro e w2 ⟨rfl, rfl⟩))
  refine wp_loop_rounds 2 ?_
  rw [rounds_succ]
  go_wp2
  rw [rounds_succ]
  go_wp2
  go_ret2
  exact ⟨ret_pair (congrArg (fun z => (z, true)) (or0 _ b00 (by omega))), hw1⟩

set_option maxHeartbeats 800000 in
theorem oGet_1_2 (l : List UInt8) (b o0 c k : Nat) (w : World) (hl : l.length ≤ 140737488355328) (hc : l.length ≤ c) (hk : k + 1 ≤ l.length)
    (c0 : w.cell? ⟨b, o0 + k, none⟩ = some (.int .u8 (bt l k))) :
    Calls Try.prog 9 #[.slice (some ⟨b, o0, none⟩) l.length c, .int .i64 k, .int .i64 1, .int .i64 2] w fun e w' => e = .returned (.tuple #[.int .i64 (gV l k 1 2), .bool true]) ∧ Below w.heap.size w w' := by
  obtain ⟨b00, b01⟩ := bt_rng l (k)
  have hb : sizeB 1 4 = true := rfl
  have hr : roomB k 1 l.length = true := by simp [roomB]; omega
  have ho : decide ((2 : Int) = 1 ∨ (2 : Int) = 2) = true := rfl
  go_enter Try.func9, Try.ntmps9
  go_wp2_with (first
    | (go_at_call 27; (with_reducible refine (isSize_any 1 4 _).mono ?_); rintro e w1 ⟨rfl, hw1⟩; have C0 := cell_later hw1 c0)
    | (go_at_call 28; (with_reducible refine (isOrder_any 2 _).mono ?_); rintro e w2 ⟨rfl, rfl⟩)
    | (go_at_call 23; (with_reducible refine (oRoom_any k 1 l.length _ (by omega)).mono ?_); rintro e w2 ⟨rfl, rfl⟩))
  refine wp_loop_rounds 2 ?_
  rw [rounds_succ]
  go_wp2
  rw [rounds_succ]
  go_wp2
  go_ret2
  exact ⟨ret_pair (congrArg (fun z => (z, true)) (or0 _ b00 (by omega))), hw1⟩

set_option maxHeartbeats 800000 in
theorem oGet_2_1 (l : List UInt8) (b o0 c k : Nat) (w : World) (hl : l.length ≤ 140737488355328) (hc : l.length ≤ c) (hk : k + 2 ≤ l.length)
    (c0 : w.cell? ⟨b, o0 + k, none⟩ = some (.int .u8 (bt l k)))
    (c1 : w.cell? ⟨b, o0 + k + 1, none⟩ = some (.int .u8 (bt l (k + 1)))) :
    Calls Try.prog 9 #[.slice (some ⟨b, o0, none⟩) l.length c, .int .i64 k, .int .i64 2, .int .i64 1] w fun e w' => e = .returned (.tuple #[.int .i64 (gV l k 2 1), .bool true]) ∧ Below w.heap.size w w' := by
  obtain ⟨b00, b01⟩ := bt_rng l (k)
  obtain ⟨b10, b11⟩ := bt_rng l (k + 1)
  have hb : sizeB 2 4 = true := rfl
  have hr : roomB k 2 l.length = true := by simp [roomB]; omega
  have ho : decide ((1 : Int) = 1 ∨ (1 : Int) = 2) = true := rfl
  go_enter Try.func9, Try.ntmps9
  go_wp2_with (first
    | (go_at_call 27; (with_reducible refine (isSize_any 2 4 _).mono ?_); rintro e w1 ⟨rfl, hw1⟩; have C0 := cell_later hw1 c0; have C1 := cell_later hw1 c1)
    | (go_at_call 28; (with_reducible refine (isOrder_any 1 _).mono ?_); rintro e w2 ⟨rfl, rfl⟩)
    | (go_at_call 23; (with_reducible refine (oRoom_any k 2 l.length _ (by omega)).mono ?_); rintro e w2 ⟨rfl, rfl⟩))
  refine wp_loop_rounds 3 ?_
  rw [rounds_succ]
  go_wp2
  rw [rounds_succ]
  go_wp2
  rw [rounds_succ]
  go_wp2
  go_ret2
  exact ⟨ret_pair (congrArg (fun z => (z, true)) (le2 b00 b01 b10 b11)), hw1⟩

set_option maxHeartbeats 800000 in
theorem oGet_2_2 (l : List UInt8) (b o0 c k : Nat) (w : World) (hl : l.length ≤ 140737488355328) (hc : l.length ≤ c) (hk : k + 2 ≤ l.length)
    (c0 : w.cell? ⟨b, o0 + k, none⟩ = some (.int .u8 (bt l k)))
    (c1 : w.cell? ⟨b, o0 + k + 1, none⟩ = some (.int .u8 (bt l (k + 1)))) :
    Calls Try.prog 9 #[.slice (some ⟨b, o0, none⟩) l.length c, .int .i64 k, .int .i64 2, .int .i64 2] w fun e w' => e = .returned (.tuple #[.int .i64 (gV l k 2 2), .bool true]) ∧ Below w.heap.size w w' := by
  obtain ⟨b00, b01⟩ := bt_rng l (k)
  obtain ⟨b10, b11⟩ := bt_rng l (k + 1)
  have hb : sizeB 2 4 = true := rfl
  have hr : roomB k 2 l.length = true := by simp [roomB]; omega
  have ho : decide ((2 : Int) = 1 ∨ (2 : Int) = 2) = true := rfl
  go_enter Try.func9, Try.ntmps9
  go_wp2_with (first
    | (go_at_call 27; (with_reducible refine (isSize_any 2 4 _).mono ?_); rintro e w1 ⟨rfl, hw1⟩; have C0 := cell_later hw1 c0; have C1 := cell_later hw1 c1)
    | (go_at_call 28; (with_reducible refine (isOrder_any 2 _).mono ?_); rintro e w2 ⟨rfl, rfl⟩)
    | (go_at_call 23; (with_reducible refine (oRoom_any k 2 l.length _ (by omega)).mono ?_); rintro e w2 ⟨rfl, rfl⟩))
  refine wp_loop_rounds 3 ?_
  rw [rounds_succ]
  go_wp2
  rw [rounds_succ]
  go_wp2
  rw [rounds_succ]
  go_wp2
  go_ret2
  exact ⟨ret_pair (congrArg (fun z => (z, true)) (be2 b00 b01 b10 b11)), hw1⟩

set_option maxHeartbeats 800000 in
theorem oGet_4_1 (l : List UInt8) (b o0 c k : Nat) (w : World) (hl : l.length ≤ 140737488355328) (hc : l.length ≤ c) (hk : k + 4 ≤ l.length)
    (c0 : w.cell? ⟨b, o0 + k, none⟩ = some (.int .u8 (bt l k)))
    (c1 : w.cell? ⟨b, o0 + k + 1, none⟩ = some (.int .u8 (bt l (k + 1))))
    (c2 : w.cell? ⟨b, o0 + k + 2, none⟩ = some (.int .u8 (bt l (k + 2))))
    (c3 : w.cell? ⟨b, o0 + k + 3, none⟩ = some (.int .u8 (bt l (k + 3)))) :
    Calls Try.prog 9 #[.slice (some ⟨b, o0, none⟩) l.length c, .int .i64 k, .int .i64 4, .int .i64 1] w fun e w' => e = .returned (.tuple #[.int .i64 (gV l k 4 1), .bool true]) ∧ Below w.heap.size w w' := by
  obtain ⟨b00, b01⟩ := bt_rng l (k)
  obtain ⟨b10, b11⟩ := bt_rng l (k + 1)
  obtain ⟨b20, b21⟩ := bt_rng l (k + 2)
  obtain ⟨b30, b31⟩ := bt_rng l (k + 3)
  have hb : sizeB 4 4 = true := rfl
  have hr : roomB k 4 l.length = true := by simp [roomB]; omega
  have ho : decide ((1 : Int) = 1 ∨ (1 : Int) = 2) = true := rfl
  go_enter Try.func9, Try.ntmps9
  go_wp2_with (first
    | (go_at_call 27; (with_reducible refine (isSize_any 4 4 _).mono ?_); rintro e w1 ⟨rfl, hw1⟩; have C0 := cell_later hw1 c0; have C1 := cell_later hw1 c1; have C2 := cell_later hw1 c2; have C3 := cell_later hw1 c3)
    | (go_at_call 28; (with_reducible refine (isOrder_any 1 _).mono ?_); rintro e w2 ⟨rfl, rfl⟩)
    | (go_at_call 23; (with_reducible refine (oRoom_any k 4 l.length _ (by omega)).mono ?_); rintro e w2 ⟨rfl, rfl⟩))
  refine wp_loop_rounds 5 ?_
  rw [rounds_succ]
  go_wp2
  rw [rounds_succ]
  go_wp2
  rw [rounds_succ]
  go_wp2
  rw [rounds_succ]
  go_wp2
  rw [rounds_succ]
  go_wp2
  go_ret2
  exact ⟨ret_pair (congrArg (fun z => (z, true)) (le4 b00 b01 b10 b11 b20 b21 b30 b31)), hw1⟩

set_option maxHeartbeats 800000 in
theorem oGet_4_2 (l : List UInt8) (b o0 c k : Nat) (w : World) (hl : l.length ≤ 140737488355328) (hc : l.length ≤ c) (hk : k + 4 ≤ l.length)
    (c0 : w.cell? ⟨b, o0 + k, none⟩ = some (.int .u8 (bt l k)))
    (c1 : w.cell? ⟨b, o0 + k + 1, none⟩ = some (.int .u8 (bt l (k + 1))))
    (c2 : w.cell? ⟨b, o0 + k + 2, none⟩ = some (.int .u8 (bt l (k + 2))))
    (c3 : w.cell? ⟨b, o0 + k + 3, none⟩ = some (.int .u8 (bt l (k + 3)))) :
    Calls Try.prog 9 #[.slice (some ⟨b, o0, none⟩) l.length c, .int .i64 k, .int .i64 4, .int .i64 2] w fun e w' => e = .returned (.tuple #[.int .i64 (gV l k 4 2), .bool true]) ∧ Below w.heap.size w w' := by
  obtain ⟨b00, b01⟩ := bt_rng l (k)
  obtain ⟨b10, b11⟩ := bt_rng l (k + 1)
  obtain ⟨b20, b21⟩ := bt_rng l (k + 2)
  obtain ⟨b30, b31⟩ := bt_rng l (k + 3)
  have hb : sizeB 4 4 = true := rfl
  have hr : roomB k 4 l.length = true := by simp [roomB]; omega
  have ho : decide ((2 : Int) = 1 ∨ (2 : Int) = 2) = true := rfl
  go_enter Try.func9, Try.ntmps9
  go_wp2_with (first
    | (go_at_call 27; (with_reducible refine (isSize_any 4 4 _).mono ?_); rintro e w1 ⟨rfl, hw1⟩; have C0 := cell_later hw1 c0; have C1 := cell_later hw1 c1; have C2 := cell_later hw1 c2; have C3 := cell_later hw1 c3)
    | (go_at_call 28; (with_reducible refine (isOrder_any 2 _).mono ?_); rintro e w2 ⟨rfl, rfl⟩)
    | (go_at_call 23; (with_reducible refine (oRoom_any k 4 l.length _ (by omega)).mono ?_); rintro e w2 ⟨rfl, rfl⟩))
  refine wp_loop_rounds 5 ?_
  rw [rounds_succ]
  go_wp2
  rw [rounds_succ]
  go_wp2
  rw [rounds_succ]
  go_wp2
  rw [rounds_succ]
  go_wp2
  rw [rounds_succ]
  go_wp2
  go_ret2
  exact ⟨ret_pair (congrArg (fun z => (z, true)) (be4 b00 b01 b10 b11 b20 b21 b30 b31)), hw1⟩

theorem oGet_no (l : List UInt8) (A : Option Addr) (c : Nat) (a s o : Int) (w : World) (hl : l.length ≤ 140737488355328)
    (h : ¬ okSize s ∨ o < 1 ∨ 2 < o ∨ a < 0 ∨ (l.length : Int) < a ∨ (l.length : Int) - a < s) :
    Calls Try.prog 9 #[.slice A l.length c, .int .i64 a, .int .i64 s, .int .i64 o] w fun e w' => e = .returned (.tuple #[.int .i64 0, .bool false]) ∧ Below w.heap.size w w' := by
  by_cases hs : okSize s
  · have hb := sizeB_four hs
    by_cases ho : o = 1 ∨ o = 2
    · have hd : decide (o = 1 ∨ o = 2) = true := by simpa using ho
      have hr : roomB a s l.length = false := by
        have h6 := h.resolve_left (fun e => e hs)
        unfold okSize at hs
        simp only [roomB, decide_eq_false_iff_not]
        omega
      have H := Lib.hid h
      have HS := Lib.hid hs
      have HO := Lib.hid ho
      clear h hs ho
      go_enter Try.func9, Try.ntmps9
      go_wp2_with (first
        | (go_at_call 27; (with_reducible refine (isSize_any s 4 _).mono ?_); rintro e w1 ⟨rfl, hw1⟩)
        | (go_at_call 28; (with_reducible refine (isOrder_any o _).mono ?_); rintro e w2 ⟨rfl, rfl⟩)
        | (go_at_call 23; (with_reducible refine (oRoom_any a s l.length _ (by omega)).mono ?_); rintro e w2 ⟨rfl, rfl⟩))
      go_ret2
      exact ⟨rfl, hw1⟩
    · have hd : decide (o = 1 ∨ o = 2) = false := by simpa using ho
      have H := Lib.hid h
      have HS := Lib.hid hs
      have HO := Lib.hid ho
      clear h hs ho
      go_enter Try.func9, Try.ntmps9
      go_wp2_with (first
        | (go_at_call 27; (with_reducible refine (isSize_any s 4 _).mono ?_); rintro e w1 ⟨rfl, hw1⟩)
        | (go_at_call 28; (with_reducible refine (isOrder_any o _).mono ?_); rintro e w2 ⟨rfl, rfl⟩))
      go_ret2
      exact ⟨rfl, hw1⟩
  · have hb := sizeB_no hs
    have H := Lib.hid h
    have HS := Lib.hid hs
    clear h hs
    go_enter Try.func9, Try.ntmps9
    go_wp2_with (go_at_call 27; (with_reducible refine (isSize_any s 4 _).mono ?_); rintro e w1 ⟨rfl, hw1⟩)
    go_ret2
    exact ⟨rfl, hw1⟩

theorem oGet_any (l : List UInt8) (A : Option Addr) (c : Nat) (a s o : Int) (w : World) (hr : Rd w A l) (hl : l.length ≤ 140737488355328) (hc : l.length ≤ c) :
    Calls Try.prog 9 #[.slice A l.length c, .int .i64 a, .int .i64 s, .int .i64 o] w fun e w' => e = .returned (.tuple #[.int .i64 (getP l a s o).1, .bool (getP l a s o).2]) ∧ Below w.heap.size w w' := by
  by_cases h : ¬ okSize s ∨ o < 1 ∨ 2 < o ∨ a < 0 ∨ (l.length : Int) < a ∨ (l.length : Int) - a < s
  · rw [getP_no h]
    exact oGet_no l A c a s o w hl h
  · simp only [not_or, Classical.not_not] at h
    obtain ⟨hs, h1, h2, h3, h4, h5⟩ := h
    obtain ⟨k, rfl⟩ := Int.eq_ofNat_of_zero_le (by omega : 0 ≤ a)
    have ho : o = 1 ∨ o = 2 := by omega
    rw [getP_yes hs ho (by omega)]
    have hs0 : 0 < s := by unfold okSize at hs; omega
    obtain ⟨b, o0, rfl, hcell⟩ := hr.resolve_left (fun e => by rw [e] at h5; simp at h5; omega)
    rcases hs with rfl | rfl | rfl
    · have c0 := hcell k (by omega)
      rcases ho with rfl | rfl
      · exact oGet_1_1 l b o0 c k w hl hc (by omega) c0
      · exact oGet_1_2 l b o0 c k w hl hc (by omega) c0
    · have c0 := hcell k (by omega)
      have c1 := hcell (k + 1) (by omega)
      rcases ho with rfl | rfl
      · exact oGet_2_1 l b o0 c k w hl hc (by omega) c0 c1
      · exact oGet_2_2 l b o0 c k w hl hc (by omega) c0 c1
    · have c0 := hcell k (by omega)
      have c1 := hcell (k + 1) (by omega)
      have c2 := hcell (k + 2) (by omega)
      have c3 := hcell (k + 3) (by omega)
      rcases ho with rfl | rfl
      · exact oGet_4_1 l b o0 c k w hl hc (by omega) c0 c1 c2 c3
      · exact oGet_4_2 l b o0 c k w hl hc (by omega) c0 c1 c2 c3
end Go.Proofs.Ytdjpdpdaaahmiaa
