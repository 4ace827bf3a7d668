/- The call Put of the document's answer. -/
import Derived.Test.YtdjpdpdaaahmiaaPutN
namespace Go.Proofs.Ytdjpdpdaaahmiaa
open Go.RowKit

theorem div_step (n : Int) (k : Nat) : n / 256 ^ k / 256 = n / 256 ^ (k + 1) := by
  rw [Int.pow_succ, Int.ediv_ediv_of_nonneg (Int.pow_nonneg (by decide))]

set_option maxRecDepth 100000 in
set_option maxHeartbeats 800000 in
theorem rPut_1 (n : Int) (s : Nat) (w : World) (h0 : 0 ≤ n) (h1 : n < 4294967296) (ht : n < topI s) (hs : s ≤ 4) :
    Calls Try.prog 15 #[.int .i64 n, .int .i64 s, .int .i64 1] w fun e w' => ∃ v, e = .returned (.tuple #[v, .bool true]) ∧ Ob w' w.heap.size v (leL n s) ∧ Below w.heap.size w w' := by
  go_enter Try.func15, Try.ntmps15
  go_wp2_with (go_at_call 30; (with_reducible refine (top_any s _).mono ?_); rintro e w1 ⟨rfl, rfl⟩)
  go_loopw [0, 8, 9] (fun m v i wr => ∃ (k : Nat) (q : Int), k ≤ s ∧ 0 ≤ q ∧ q < 4294967296 ∧ Hid (q = n / 256 ^ k) ∧ m = .int .i64 q ∧ i = .int .i64 k ∧ Ob wr w.heap.size v (leL n k) ∧ Below w.heap.size w wr) (fun _ _ i _ => s - (intOf i).toNat)
  case atStart => exact ⟨0, n, Nat.zero_le _, h0, h1, (by simp : n = n / 256 ^ 0), rfl, rfl, Ob.nil _ _, Below.refl _ _⟩
  case round =>
    obtain ⟨k, q, hk, q0, q1, HQ, rfl, rfl, hown, hbel⟩ := hrel
    have hz := hbel.size
    by_cases hlt : k < s
    · have E1 : Hid (q % 256 = ((byI n k).toNat : Int)) := by show _ = _; rw [byI_val, ← HQ.out]
      have E2 : Hid ((leL n k).length + [byI n k].length ≤ 140737488355328) := by show _ ≤ _; rw [leL_len]; simp; omega
      go_wp2_with (
        at_builtin
        refine wpList_app _ rfl _ _ rfl w.heap.size _ (leL n k) rfl (hown.below ((Below.refl _ _).alloc (Nat.le_refl _) _)) (some ⟨wr.heap.size, 0, none⟩) [byI n k] 1 1 rfl rfl (Rd.one _ _ _ _ E1.out) E2.out (by simp; omega) ?_
        intro v1 w1 hown1 hb1 _)
      go_roundw
      case rel => exact ⟨k + 1, q / 256, by omega, by omega, by omega, (by rw [HQ.out, div_step] : q / 256 = n / 256 ^ (k + 1)), by go_num, by go_num, hown1, (hbel.alloc hz _).trans hb1⟩
      case measure => simp [intOf]; omega
    · obtain rfl : k = s := by omega
      go_wp2
      go_ret2
      exact ⟨_, rfl, hown, hbel⟩
set_option maxRecDepth 100000 in
set_option maxHeartbeats 800000 in
theorem rPut_2 (n : Int) (s : Nat) (w : World) (h0 : 0 ≤ n) (h1 : n < 4294967296) (ht : n < topI s) (hs : s ≤ 4) :
    Calls Try.prog 15 #[.int .i64 n, .int .i64 s, .int .i64 2] w fun e w' => ∃ v, e = .returned (.tuple #[v, .bool true]) ∧ Ob w' w.heap.size v (leL n s).reverse ∧ Below w.heap.size w w' := by
  go_enter Try.func15, Try.ntmps15
  go_wp2_with (go_at_call 30; (with_reducible refine (top_any s _).mono ?_); rintro e w1 ⟨rfl, rfl⟩)
  go_loopw [0, 8, 9] (fun m v i wr => ∃ (k : Nat) (q : Int), k ≤ s ∧ 0 ≤ q ∧ q < 4294967296 ∧ Hid (q = n / 256 ^ k) ∧ m = .int .i64 q ∧ i = .int .i64 k ∧ Ob wr w.heap.size v (leL n k).reverse ∧ Below w.heap.size w wr) (fun _ _ i _ => s - (intOf i).toNat)
  case atStart => exact ⟨0, n, Nat.zero_le _, h0, h1, (by simp : n = n / 256 ^ 0), rfl, rfl, Ob.nil _ _, Below.refl _ _⟩
  case round =>
    obtain ⟨k, q, hk, q0, q1, HQ, rfl, rfl, hown, hbel⟩ := hrel
    have hz := hbel.size
    by_cases hlt : k < s
    · have E1 : Hid (#[Value.int .u8 (q % 256)] = ([byI n k].map bv).toArray) := by show _ = _; rw [HQ.out]; simp [bv_by]
      have E2 : Hid ([byI n k].length + (leL n k).reverse.length ≤ 140737488355328) := by show _ ≤ _; rw [List.length_reverse, leL_len]; simp; omega
      have E3 : Hid ([byI n k] ++ (leL n k).reverse = (leL n (k + 1)).reverse) := by show _ = _; simp [leL]
      have E5 : Hid ([byI n k].length ≤ maxLen) := by show _ ≤ _; unfold maxLen; simp
      obtain ⟨A, c, rfl, _, _, hrd, _⟩ := hown.open
      go_wp2_with (
        at_builtin
        refine wpList_app _ rfl _ _ rfl w.heap.size (.slice (some ⟨wr.heap.size, 0, none⟩) 1 1) [byI n k] rfl (Ob.lits hz E1.out rfl E5.out) A (leL n k).reverse _ c rfl rfl (hrd.alloc _) E2.out (by simp; omega) ?_
        intro v1 w1 hown1 hb1 _)
      go_roundw
      case rel => exact ⟨k + 1, q / 256, by omega, by omega, by omega, (by rw [HQ.out, div_step] : q / 256 = n / 256 ^ (k + 1)), by go_num, by go_num, by rw [← E3.out]; exact hown1, (hbel.alloc hz _).trans hb1⟩
      case measure => simp [intOf]; omega
    · obtain rfl : k = s := by omega
      go_wp2
      go_ret2
      exact ⟨_, rfl, hown, hbel⟩

theorem rPut_no (n s o : Int) (w : World) (h : ¬ (okSize s ∧ (o = 1 ∨ o = 2) ∧ 0 ≤ n ∧ n < topI s)) :
    Calls Try.prog 15 #[.int .i64 n, .int .i64 s, .int .i64 o] w fun e w' => e = .returned (.tuple #[.slice none 0 0, .bool false]) ∧ w = w' := by
  have h4 : o < 1 ∨ 2 < o ∨ n < 0 ∨ topI s ≤ n := by
    by_cases hs : okSize s
    · have h' : ¬ ((o = 1 ∨ o = 2) ∧ 0 ≤ n ∧ n < topI s) := fun x => h ⟨hs, x⟩
      omega
    · rw [topI_zero hs]
      omega
  clear h
  by_cases o1 : o < 1
  · clear h4
    go_enter Try.func15, Try.ntmps15
    go_wp2_with (go_at_call 30; (with_reducible refine (top_any s _).mono ?_); rintro e w1 ⟨rfl, rfl⟩)
    go_ret2
    exact ⟨rfl, rfl⟩
  by_cases o2 : 2 < o
  · clear h4
    go_enter Try.func15, Try.ntmps15
    go_wp2_with (go_at_call 30; (with_reducible refine (top_any s _).mono ?_); rintro e w1 ⟨rfl, rfl⟩)
    go_ret2
    exact ⟨rfl, rfl⟩
  by_cases n1 : n < 0
  · clear h4
    go_enter Try.func15, Try.ntmps15
    go_wp2_with (go_at_call 30; (with_reducible refine (top_any s _).mono ?_); rintro e w1 ⟨rfl, rfl⟩)
    go_ret2
    exact ⟨rfl, rfl⟩
  have n2 : topI s ≤ n := by omega
  clear h4
  go_enter Try.func15, Try.ntmps15
  go_wp2_with (go_at_call 30; (with_reducible refine (top_any s _).mono ?_); rintro e w1 ⟨rfl, rfl⟩)
  go_ret2
  exact ⟨rfl, rfl⟩

theorem rPut_any (n s o : Int) (w : World) :
    Calls Try.prog 15 #[.int .i64 n, .int .i64 s, .int .i64 o] w fun e w' => ∃ v, e = .returned (.tuple #[v, .bool (putOk n s o)]) ∧ Ob w' w.heap.size v (putL n s o) ∧ Below w.heap.size w w' := by
  by_cases h : okSize s ∧ (o = 1 ∨ o = 2) ∧ 0 ≤ n ∧ n < topI s
  · obtain ⟨hs, ho, h0, h1⟩ := h
    have hy := putOk_yes hs ho h0 h1
    have ht := topI_rng s
    rw [hy]
    obtain ⟨k, rfl⟩ := Int.eq_ofNat_of_zero_le (show 0 ≤ s by unfold okSize at hs; omega)
    have hk : k ≤ 4 := by unfold okSize at hs; omega
    rcases ho with rfl | rfl
    · rw [putL_yes1 hy, Int.toNat_natCast]
      exact rPut_1 n k w h0 (by omega) h1 hk
    · rw [putL_yes2 hy, Int.toNat_natCast]
      exact rPut_2 n k w h0 (by omega) h1 hk
  · have hy := putOk_no h
    rw [hy, putL_no hy]
    exact (rPut_no n s o w h).mono fun e w' ⟨he, hw⟩ => ⟨_, he, Ob.nil _ _, hw ▸ Below.refl _ _⟩
end Go.Proofs.Ytdjpdpdaaahmiaa
