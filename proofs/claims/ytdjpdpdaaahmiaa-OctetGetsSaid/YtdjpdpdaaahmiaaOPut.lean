/- The call octet.Put. -/
import Derived.Test.YtdjpdpdaaahmiaaPutN
namespace Go.Proofs.Ytdjpdpdaaahmiaa
open Go.RowKit

set_option maxRecDepth 100000 in
set_option maxHeartbeats 800000 in
theorem oPut_1_1 (n : Int) (w : World) (h0 : 0 ≤ n) (h1 : n < 256) :
    Calls Try.prog 14 #[.int .i64 n, .int .i64 1, .int .i64 1] w fun e w' => ∃ v, e = .returned (.tuple #[v, .bool true]) ∧ Ob w' w.heap.size v (leL n 1) ∧ Below w.heap.size w w' := by
  have hmk : ∀ w, (Instr.makeSlice 22 (.int .i64 1) (.int .i64 1)).run Try.prog w = .ok (.slice (some ⟨w.heap.size, 0, none⟩) 1 1) (w.alloc (.cells #[.int .u8 0] 5)) := fun _ => by kernel_rfl
  have HS : Hid (okSize 1) := Or.inl rfl
  have hb : sizeB 1 4 = true := rfl
  have hq : (n != n % topI 1) = false := by rw [(low_eq (Or.inl rfl)).2 ⟨h0, h1⟩]; simp
  have ho : decide ((1 : Int) = 1 ∨ (1 : Int) = 2) = true := rfl
  go_enter Try.func14, Try.ntmps14
  go_wp2_with (first
    | (go_at_call 27; (with_reducible refine (isSize_any 1 4 _).mono ?_); rintro e w1 ⟨rfl, hw1⟩)
    | (go_at_call 28; (with_reducible refine (isOrder_any 1 _).mono ?_); rintro e w2 ⟨rfl, rfl⟩)
    | (go_at_call 32; (with_reducible refine (low_any n 1 _ HS.out).mono ?_); rintro e w2 ⟨rfl, rfl⟩))
  refine wp_loop_rounds 2 ?_
  rw [rounds_succ]
  go_wp2
  rw [rounds_succ]
  go_wp2
  go_ret2
  exact ⟨_, rfl, Ob.lits hw1.size (cells1 h0 h1) ((leL_len n 1).symm) (by rw [leL_len]; decide), hw1.alloc hw1.size _⟩

set_option maxRecDepth 100000 in
set_option maxHeartbeats 800000 in
theorem oPut_1_2 (n : Int) (w : World) (h0 : 0 ≤ n) (h1 : n < 256) :
    Calls Try.prog 14 #[.int .i64 n, .int .i64 1, .int .i64 2] w fun e w' => ∃ v, e = .returned (.tuple #[v, .bool true]) ∧ Ob w' w.heap.size v ((leL n 1).reverse) ∧ Below w.heap.size w w' := by
  have hmk : ∀ w, (Instr.makeSlice 22 (.int .i64 1) (.int .i64 1)).run Try.prog w = .ok (.slice (some ⟨w.heap.size, 0, none⟩) 1 1) (w.alloc (.cells #[.int .u8 0] 5)) := fun _ => by kernel_rfl
  have HS : Hid (okSize 1) := Or.inl rfl
  have hb : sizeB 1 4 = true := rfl
  have hq : (n != n % topI 1) = false := by rw [(low_eq (Or.inl rfl)).2 ⟨h0, h1⟩]; simp
  have ho : decide ((2 : Int) = 1 ∨ (2 : Int) = 2) = true := rfl
  go_enter Try.func14, Try.ntmps14
  go_wp2_with (first
    | (go_at_call 27; (with_reducible refine (isSize_any 1 4 _).mono ?_); rintro e w1 ⟨rfl, hw1⟩)
    | (go_at_call 28; (with_reducible refine (isOrder_any 2 _).mono ?_); rintro e w2 ⟨rfl, rfl⟩)
    | (go_at_call 32; (with_reducible refine (low_any n 1 _ HS.out).mono ?_); rintro e w2 ⟨rfl, rfl⟩))
  refine wp_loop_rounds 2 ?_
  rw [rounds_succ]
  go_wp2
  rw [rounds_succ]
  go_wp2
  go_ret2
  exact ⟨_, rfl, Ob.lits hw1.size (cellsr1 h0 h1) (by rw [List.length_reverse]; exact (leL_len n 1).symm) (by rw [List.length_reverse, leL_len]; decide), hw1.alloc hw1.size _⟩

set_option maxRecDepth 100000 in
set_option maxHeartbeats 800000 in
theorem oPut_2_1 (n : Int) (w : World) (h0 : 0 ≤ n) (h1 : n < 65536) :
    Calls Try.prog 14 #[.int .i64 n, .int .i64 2, .int .i64 1] w fun e w' => ∃ v, e = .returned (.tuple #[v, .bool true]) ∧ Ob w' w.heap.size v (leL n 2) ∧ Below w.heap.size w w' := by
  have hmk : ∀ w, (Instr.makeSlice 22 (.int .i64 2) (.int .i64 2)).run Try.prog w = .ok (.slice (some ⟨w.heap.size, 0, none⟩) 2 2) (w.alloc (.cells #[.int .u8 0, .int .u8 0] 5)) := fun _ => by kernel_rfl
  have HS : Hid (okSize 2) := Or.inr (Or.inl rfl)
  have hb : sizeB 2 4 = true := rfl
  have hq : (n != n % topI 2) = false := by rw [(low_eq (Or.inr (Or.inl rfl))).2 ⟨h0, h1⟩]; simp
  have ho : decide ((1 : Int) = 1 ∨ (1 : Int) = 2) = true := rfl
  go_enter Try.func14, Try.ntmps14
  go_wp2_with (first
    | (go_at_call 27; (with_reducible refine (isSize_any 2 4 _).mono ?_); rintro e w1 ⟨rfl, hw1⟩)
    | (go_at_call 28; (with_reducible refine (isOrder_any 1 _).mono ?_); rintro e w2 ⟨rfl, rfl⟩)
    | (go_at_call 32; (with_reducible refine (low_any n 2 _ HS.out).mono ?_); rintro e w2 ⟨rfl, rfl⟩))
  refine wp_loop_rounds 3 ?_
  rw [rounds_succ]
  go_wp2
  rw [rounds_succ]
  go_wp2
  rw [rounds_succ]
  go_wp2
  go_ret2
  exact ⟨_, rfl, Ob.lits hw1.size (cells2 h0 h1) ((leL_len n 2).symm) (by rw [leL_len]; decide), hw1.alloc hw1.size _⟩

set_option maxRecDepth 100000 in
set_option maxHeartbeats 800000 in
theorem oPut_2_2 (n : Int) (w : World) (h0 : 0 ≤ n) (h1 : n < 65536) :
    Calls Try.prog 14 #[.int .i64 n, .int .i64 2, .int .i64 2] w fun e w' => ∃ v, e = .returned (.tuple #[v, .bool true]) ∧ Ob w' w.heap.size v ((leL n 2).reverse) ∧ Below w.heap.size w w' := by
  have hmk : ∀ w, (Instr.makeSlice 22 (.int .i64 2) (.int .i64 2)).run Try.prog w = .ok (.slice (some ⟨w.heap.size, 0, none⟩) 2 2) (w.alloc (.cells #[.int .u8 0, .int .u8 0] 5)) := fun _ => by kernel_rfl
  have HS : Hid (okSize 2) := Or.inr (Or.inl rfl)
  have hb : sizeB 2 4 = true := rfl
  have hq : (n != n % topI 2) = false := by rw [(low_eq (Or.inr (Or.inl rfl))).2 ⟨h0, h1⟩]; simp
  have ho : decide ((2 : Int) = 1 ∨ (2 : Int) = 2) = true := rfl
  go_enter Try.func14, Try.ntmps14
  go_wp2_with (first
    | (go_at_call 27; (with_reducible refine (isSize_any 2 4 _).mono ?_); rintro e w1 ⟨rfl, hw1⟩)
    | (go_at_call 28; (with_reducible refine (isOrder_any 2 _).mono ?_); rintro e w2 ⟨rfl, rfl⟩)
    | (go_at_call 32; (with_reducible refine (low_any n 2 _ HS.out).mono ?_); rintro e w2 ⟨rfl, rfl⟩))
  refine wp_loop_rounds 3 ?_
  rw [rounds_succ]
  go_wp2
  rw [rounds_succ]
  go_wp2
  rw [rounds_succ]
  go_wp2
  go_ret2
  exact ⟨_, rfl, Ob.lits hw1.size (cellsr2 h0 h1) (by rw [List.length_reverse]; exact (leL_len n 2).symm) (by rw [List.length_reverse, leL_len]; decide), hw1.alloc hw1.size _⟩

set_option maxRecDepth 100000 in
set_option maxHeartbeats 800000 in
theorem oPut_4_1 (n : Int) (w : World) (h0 : 0 ≤ n) (h1 : n < 4294967296) :
    Calls Try.prog 14 #[.int .i64 n, .int .i64 4, .int .i64 1] w fun e w' => ∃ v, e = .returned (.tuple #[v, .bool true]) ∧ Ob w' w.heap.size v (leL n 4) ∧ Below w.heap.size w w' := by
  have hmk : ∀ w, (Instr.makeSlice 22 (.int .i64 4) (.int .i64 4)).run Try.prog w = .ok (.slice (some ⟨w.heap.size, 0, none⟩) 4 4) (w.alloc (.cells #[.int .u8 0, .int .u8 0, .int .u8 0, .int .u8 0] 5)) := fun _ => by kernel_rfl
  have HS : Hid (okSize 4) := Or.inr (Or.inr rfl)
  have hb : sizeB 4 4 = true := rfl
  have hq : (n != n % topI 4) = false := by rw [(low_eq (Or.inr (Or.inr rfl))).2 ⟨h0, h1⟩]; simp
  have ho : decide ((1 : Int) = 1 ∨ (1 : Int) = 2) = true := rfl
  go_enter Try.func14, Try.ntmps14
  go_wp2_with (first
    | (go_at_call 27; (with_reducible refine (isSize_any 4 4 _).mono ?_); rintro e w1 ⟨rfl, hw1⟩)
    | (go_at_call 28; (with_reducible refine (isOrder_any 1 _).mono ?_); rintro e w2 ⟨rfl, rfl⟩)
    | (go_at_call 32; (with_reducible refine (low_any n 4 _ HS.out).mono ?_); rintro e w2 ⟨rfl, rfl⟩))
  refine wp_loop_rounds 5 ?_
  rw [rounds_succ]
  go_wp2
  rw [rounds_succ]
  go_wp2
  rw [rounds_succ]
  go_wp2
  rw [rounds_succ]
  go_wp2
  rw [rounds_succ]
  go_wp2
  go_ret2
  exact ⟨_, rfl, Ob.lits hw1.size (cells4 h0 h1) ((leL_len n 4).symm) (by rw [leL_len]; decide), hw1.alloc hw1.size _⟩

set_option maxRecDepth 100000 in
set_option maxHeartbeats 800000 in
theorem oPut_4_2 (n : Int) (w : World) (h0 : 0 ≤ n) (h1 : n < 4294967296) :
    Calls Try.prog 14 #[.int .i64 n, .int .i64 4, .int .i64 2] w fun e w' => ∃ v, e = .returned (.tuple #[v, .bool true]) ∧ Ob w' w.heap.size v ((leL n 4).reverse) ∧ Below w.heap.size w w' := by
  have hmk : ∀ w, (Instr.makeSlice 22 (.int .i64 4) (.int .i64 4)).run Try.prog w = .ok (.slice (some ⟨w.heap.size, 0, none⟩) 4 4) (w.alloc (.cells #[.int .u8 0, .int .u8 0, .int .u8 0, .int .u8 0] 5)) := fun _ => by kernel_rfl
  have HS : Hid (okSize 4) := Or.inr (Or.inr rfl)
  have hb : sizeB 4 4 = true := rfl
  have hq : (n != n % topI 4) = false := by rw [(low_eq (Or.inr (Or.inr rfl))).2 ⟨h0, h1⟩]; simp
  have ho : decide ((2 : Int) = 1 ∨ (2 : Int) = 2) = true := rfl
  go_enter Try.func14, Try.ntmps14
  go_wp2_with (first
    | (go_at_call 27; (with_reducible refine (isSize_any 4 4 _).mono ?_); rintro e w1 ⟨rfl, hw1⟩)
    | (go_at_call 28; (with_reducible refine (isOrder_any 2 _).mono ?_); rintro e w2 ⟨rfl, rfl⟩)
    | (go_at_call 32; (with_reducible refine (low_any n 4 _ HS.out).mono ?_); rintro e w2 ⟨rfl, rfl⟩))
  refine wp_loop_rounds 5 ?_
  rw [rounds_succ]
  go_wp2
  rw [rounds_succ]
  go_wp2
  rw [rounds_succ]
  go_wp2
  rw [rounds_succ]
  go_wp2
  rw [rounds_succ]
  go_wp2
  go_ret2
  exact ⟨_, rfl, Ob.lits hw1.size (cellsr4 h0 h1) (by rw [List.length_reverse]; exact (leL_len n 4).symm) (by rw [List.length_reverse, leL_len]; decide), hw1.alloc hw1.size _⟩

theorem oPut_no (n s o : Int) (w : World) (h : ¬ (okSize s ∧ (o = 1 ∨ o = 2) ∧ 0 ≤ n ∧ n < topI s)) :
    Calls Try.prog 14 #[.int .i64 n, .int .i64 s, .int .i64 o] w fun e w' => e = .returned (.tuple #[.slice none 0 0, .bool false]) ∧ Below w.heap.size w w' := by
  by_cases hs : okSize s
  · have hb := sizeB_four hs
    by_cases ho : o = 1 ∨ o = 2
    · have hd : decide (o = 1 ∨ o = 2) = true := by simpa using ho
      have hq : (n != n % topI s) = true := by
        rw [bne_iff_ne]
        exact fun e => h ⟨hs, ho, (low_eq hs).1 e.symm⟩
      have HS := Lib.hid hs
      clear h hs ho
      go_enter Try.func14, Try.ntmps14
      go_wp2_with (first
        | (go_at_call 27; (with_reducible refine (isSize_any s 4 _).mono ?_); rintro e w1 ⟨rfl, hw1⟩)
        | (go_at_call 28; (with_reducible refine (isOrder_any o _).mono ?_); rintro e w2 ⟨rfl, rfl⟩)
        | (go_at_call 32; (with_reducible refine (low_any n s _ HS.out).mono ?_); rintro e w2 ⟨rfl, rfl⟩))
      go_ret2
      exact ⟨rfl, hw1⟩
    · have hd : decide (o = 1 ∨ o = 2) = false := by simpa using ho
      clear h hs ho
      go_enter Try.func14, Try.ntmps14
      go_wp2_with (first
        | (go_at_call 27; (with_reducible refine (isSize_any s 4 _).mono ?_); rintro e w1 ⟨rfl, hw1⟩)
        | (go_at_call 28; (with_reducible refine (isOrder_any o _).mono ?_); rintro e w2 ⟨rfl, rfl⟩))
      go_ret2
      exact ⟨rfl, hw1⟩
  · have hb := sizeB_no hs
    clear h hs
    go_enter Try.func14, Try.ntmps14
    go_wp2_with (go_at_call 27; (with_reducible refine (isSize_any s 4 _).mono ?_); rintro e w1 ⟨rfl, hw1⟩)
    go_ret2
    exact ⟨rfl, hw1⟩

theorem oPut_any (n s o : Int) (w : World) :
    Calls Try.prog 14 #[.int .i64 n, .int .i64 s, .int .i64 o] w fun e w' => ∃ v, e = .returned (.tuple #[v, .bool (putOk n s o)]) ∧ Ob w' w.heap.size v (putL n s o) ∧ Below w.heap.size w w' := by
  by_cases h : okSize s ∧ (o = 1 ∨ o = 2) ∧ 0 ≤ n ∧ n < topI s
  · obtain ⟨hs, ho, h0, h1⟩ := h
    have hy := putOk_yes hs ho h0 h1
    rw [hy]
    rcases ho with rfl | rfl
    · rw [putL_yes1 hy]
      rcases hs with rfl | rfl | rfl
      · exact oPut_1_1 n w h0 h1
      · exact oPut_2_1 n w h0 h1
      · exact oPut_4_1 n w h0 h1
    · rw [putL_yes2 hy]
      rcases hs with rfl | rfl | rfl
      · exact oPut_1_2 n w h0 h1
      · exact oPut_2_2 n w h0 h1
      · exact oPut_4_2 n w h0 h1
  · have hy := putOk_no h
    rw [hy, putL_no hy]
    exact (oPut_no n s o w h).mono fun e w' ⟨he, hw⟩ => ⟨_, he, Ob.nil _ _, hw⟩
end Go.Proofs.Ytdjpdpdaaahmiaa
