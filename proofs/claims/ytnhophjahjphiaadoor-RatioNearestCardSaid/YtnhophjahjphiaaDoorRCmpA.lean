/- Contracts of what ratio.Cmp calls: signs, magnitudes, products, two rows of two numbers compared. -/
import Derived.Test.YtnhophjahjphiaaDoorRVal
import Derived.Deep.QuietTactic
import Derived.BigQuiet
import Derived.Outline
namespace Go.Proofs.YtnhophjahjphiaaDoor
open Go.RowKit
open Go.Lib (compareInt)

theorem quietL {P : Program} {f : FuncId} {args : Array Value} {w : World} {n : Nat} {v : Value}
    (h : Calls P f args (w.drewN n) fun e w' => e = .returned v ∧ w.drewN n = w') : Calls P f args (w.drewN n) fun e w'' => e = .returned v ∧ ∃ m, w'' = w.drewN m :=
  h.mono fun _ _ ⟨he, hm⟩ => ⟨he, n, hm.symm⟩

theorem bdrew {B : Nat} {a w : World} (h : Below B a w) (n : Nat) : Below B a (w.drewN n) := ⟨h.os, h.tape, h.output, h.size, h.block⟩
theorem ret_i {a b : Int} (h : a = b) : Ending.returned (.int .i64 a) = .returned (.int .i64 b) := by rw [h]
theorem mag_any (n : Int) (w : World) (h0 : -4294967296 ≤ n) (h1 : n ≤ 4294967296) :
    Calls Tryd.prog 42 #[.int .i64 n] w fun e w' => e = .returned (.int .i64 (absI n)) ∧ w = w' := by
  go_enter Tryd.func42, Tryd.ntmps42
  go_wp2
  go_ret
  exact ⟨ret_i (by unfold absI; split <;> omega), rfl⟩

theorem sign_any (n d : Int) (w : World) :
    Calls Tryd.prog 35 #[.agg #[.int .i64 n, .int .i64 d]] w fun e w' => e = .returned (.int .i64 (sgn n d)) ∧ Below w.heap.size w w' := by
  unfold sgn
  have r1 := cI_rng n 0
  have r2 := cI_rng d 0
  generalize hp : compareInt n 0 = p at r1
  generalize hq : compareInt d 0 = q at r2
  have HP := Lib.hid hp
  have HQ := Lib.hid hq
  clear hp hq
  go_enter Tryd.func35, Tryd.ntmps35
  go_wp2_with fail
  go_quiet ((go_at_call 36; exact quietL (cmpInt_any _ _ _)))
  rw [HP.out, HQ.out]
  go_wp2
  go_ret
  have hm : -1 ≤ p * q ∧ p * q ≤ 1 := by
    obtain rfl | rfl | rfl : p = -1 ∨ p = 0 ∨ p = 1 := by omega
    · omega
    · omega
    · omega
  exact ⟨ret_i (by unfold wrap64; omega), bdrew (by go_grown) _⟩

theorem nan_any (x : Int) (w : World) : Calls Tryd.prog 66 #[.int .u64 x] w fun e w' => e = .returned (.bool false) ∧ w = w' := by
  go_enter Tryd.func66, Tryd.ntmps66
  go_wp2
  go_ret
  exact ⟨by simp, rfl⟩
theorem cmpU_any (x y : Int) (w : World) : Calls Tryd.prog 54 #[.int .u64 x, .int .u64 y] w fun e w' => e = .returned (.int .i64 (compareInt x y)) ∧ w = w' := by
  rcases cI_cases x y with ⟨h, e⟩ | ⟨h, e⟩ | ⟨h, e⟩ <;> rw [e]
  all_goals
    have HE := Lib.hid e
    clear e
    go_enter Tryd.func54, Tryd.ntmps54
    go_wp2_with (go_at_call 66; (with_reducible refine (nan_any _ _).mono ?_); rintro e w1 ⟨rfl, rfl⟩)
  all_goals (go_ret; exact ⟨by first | rfl | (exfalso; omega), rfl⟩)

/-- Two rows of two numbers, the greater part first. -/
theorem lex_cmp {a b c d : Int} (b0 : 0 ≤ b) (b1 : b < 18446744073709551616) (d0 : 0 ≤ d) (d1 : d < 18446744073709551616) :
    (a ≠ c → compareInt a c = compareInt (a * 18446744073709551616 + b) (c * 18446744073709551616 + d)) ∧ (a = c → compareInt b d = compareInt (a * 18446744073709551616 + b) (c * 18446744073709551616 + d)) := by
  generalize hX : a * 18446744073709551616 + b = X
  generalize hY : c * 18446744073709551616 + d = Y
  rcases cI_cases a c with h | h | h <;> rcases cI_cases b d with k | k | k <;> rcases cI_cases X Y with j | j | j <;> constructor <;> intro g <;> omega

set_option maxRecDepth 100000 in
theorem slc_any (g : Nat) (a b c d : Int) (w : World) (h0 : w.cell? ⟨g, 0, none⟩ = some (.int .u64 a)) (h1 : w.cell? ⟨g, 1, none⟩ = some (.int .u64 b)) (h2 : w.cell? ⟨g, 2, none⟩ = some (.int .u64 c)) (h3 : w.cell? ⟨g, 3, none⟩ = some (.int .u64 d))
    (b0 : 0 ≤ b) (b1 : b < 18446744073709551616) (d0 : 0 ≤ d) (d1 : d < 18446744073709551616) :
    Calls Tryd.prog 38 #[.slice (some ⟨g, 0, none⟩) 2 2, .slice (some ⟨g, 2, none⟩) 2 2] w fun e w' => e = .returned (.int .i64 (compareInt (a * 18446744073709551616 + b) (c * 18446744073709551616 + d))) ∧ w = w' := by
  obtain ⟨L1, L2⟩ := lex_cmp b0 b1 d0 d1 (a := a) (c := c)
  generalize compareInt (a * 18446744073709551616 + b) (c * 18446744073709551616 + d) = R at L1 L2
  by_cases hac : a = c
  · have hR := L2 hac
    clear L1 L2
    subst hac
    have e0 : compareInt a a = 0 := cI_eq rfl
    by_cases hbd : b = d
    · subst hbd
      have e1 : compareInt b b = 0 := cI_eq rfl
      have HR := Lib.hid (hR.symm.trans e1)
      clear hR
      have E0 := Lib.hid e0
      have E1 := Lib.hid e1
      clear e0 e1
      go_enter Tryd.func38, Tryd.ntmps38
      go_wp2_with fail
      refine wp_loop_rounds 3 ?_
      rw [rounds_succ]
      go_wp2_with fail
      (with_reducible refine (cmpU_any a a _).mono ?_); rintro e w1 ⟨rfl, rfl⟩
      rw [E0.out]
      go_wp2_with fail
      rw [rounds_succ]
      go_wp2_with fail
      (with_reducible refine (cmpU_any b b _).mono ?_); rintro e w1 ⟨rfl, rfl⟩
      rw [E1.out]
      go_wp2_with fail
      rw [rounds_succ]
      go_wp2
      go_ret
      exact ⟨ret_i HR.out.symm, rfl⟩
    · have hn : (compareInt b d != 0) = true := by rw [bne_iff_ne]; rcases cI_cases b d with k | k | k <;> omega
      have E0 := Lib.hid e0
      have HR := Lib.hid hR
      clear e0 hR
      go_enter Tryd.func38, Tryd.ntmps38
      go_wp2_with fail
      refine wp_loop_rounds 3 ?_
      rw [rounds_succ]
      go_wp2_with fail
      (with_reducible refine (cmpU_any a a _).mono ?_); rintro e w1 ⟨rfl, rfl⟩
      rw [E0.out]
      go_wp2_with fail
      rw [rounds_succ]
      go_wp2_with fail
      (with_reducible refine (cmpU_any b d _).mono ?_); rintro e w1 ⟨rfl, rfl⟩
      go_wp2
      go_ret
      exact ⟨ret_i HR.out, rfl⟩
  · have hR := L1 hac
    have hn : (compareInt a c != 0) = true := by rw [bne_iff_ne]; rcases cI_cases a c with k | k | k <;> omega
    have HR := Lib.hid hR
    clear L1 L2 hR
    go_enter Tryd.func38, Tryd.ntmps38
    go_wp2_with fail
    refine wp_loop_rounds 3 ?_
    rw [rounds_succ]
    go_wp2_with fail
    (with_reducible refine (cmpU_any a c _).mono ?_); rintro e w1 ⟨rfl, rfl⟩
    go_wp2
    go_ret
    exact ⟨ret_i HR.out, rfl⟩

theorem prod_any (m n : Int) (w : World) (m0 : -4294967296 ≤ m) (m1 : m ≤ 4294967296) (n0 : -4294967296 ≤ n) (n1 : n ≤ 4294967296) :
    Calls Tryd.prog 37 #[.int .i64 m, .int .i64 n] w fun e w' => (∃ h l : Int, e = .returned (.agg #[.int .u64 h, .int .u64 l]) ∧ 0 ≤ l ∧ l < 18446744073709551616 ∧ h * 18446744073709551616 + l = absI m * absI n) ∧ Below w.heap.size w w' := by
  obtain ⟨x, hx⟩ : ∃ x : Nat, absI m = x := ⟨(absI m).toNat, by have := absI_nn m; omega⟩
  obtain ⟨y, hy⟩ : ∃ y : Nat, absI n = y := ⟨(absI n).toNat, by have := absI_nn n; omega⟩
  have x1 : (x : Int) ≤ 4294967296 := by unfold absI at hx; split at hx <;> omega
  have y1 : (y : Int) ≤ 4294967296 := by unfold absI at hy; split at hy <;> omega
  have x0 : (0 : Int) ≤ (x : Int) := Int.natCast_nonneg _
  have y0 : (0 : Int) ≤ (y : Int) := Int.natCast_nonneg _
  rw [hx, hy]
  have hp := Nat.div_add_mod (x * y) 18446744073709551616
  have hq : x * y % 18446744073709551616 < 18446744073709551616 := Nat.mod_lt _ (by decide)
  have HX := Lib.hid hx
  have HY := Lib.hid hy
  have HP := Lib.hid hp
  have HQ := Lib.hid hq
  clear hx hy hp hq
  go_enter Tryd.func37, Tryd.ntmps37
  go_wp2_with fail
  (with_reducible refine (mag_any m _ (by omega) (by omega)).mono ?_); rintro e w1 ⟨rfl, rfl⟩
  rw [HX.out]
  go_wp2_with fail
  (with_reducible refine (mag_any n _ (by omega) (by omega)).mono ?_); rintro e w1 ⟨rfl, rfl⟩
  rw [HY.out]
  go_wp2_with fail
  (with_reducible refine (mul64_any x y (by omega) (by omega) _).mono ?_); rintro e w1 ⟨rfl, rfl⟩
  have hp := HP.out
  have hq := HQ.out
  generalize hH : x * y / 18446744073709551616 = H at hp
  generalize hL : x * y % 18446744073709551616 = L at hp hq
  clear hH hL
  have HP' := Lib.hid hp
  have HQ' := Lib.hid hq
  clear hp hq HP HQ
  go_wp2
  exact bodyPost_ret (v := .agg #[.int .u64 H, .int .u64 L]) (by simp [results, Tryd.results37, go_sem]) rfl ⟨⟨H, L, rfl, Int.natCast_nonneg _, by have := HQ'.out; omega, by have h := HP'.out; rw [← Int.natCast_mul]; omega⟩, by go_grown⟩
end Go.Proofs.YtnhophjahjphiaaDoor
