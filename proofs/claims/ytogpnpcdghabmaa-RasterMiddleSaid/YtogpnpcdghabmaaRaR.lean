/- The law's examples. -/
import Derived.Test.YtogpnpcdghabmaaRaQ
import Derived.Test.YtogpnpcdghabmaaRaK
namespace Go.Proofs.Ytogpnpcdghabmaa
open Go.RowKit Go.Lib
set_option linter.unusedVariables false
set_option maxRecDepth 100000
theorem ob_slice {w : World} {base : Nat} {v : Value} {l : List UInt8} (h : Ob w base v l) : ∃ A c, v = .slice A l.length c ∧ l.length ≤ c ∧ c ≤ maxLen ∧ Rd w A l := by
  obtain ⟨A, c, h1, h2, h3, h4, _⟩ := h.open
  exact ⟨A, c, h1, h2, h3, h4⟩
theorem aw_box (W' : World) (A : Option Addr) (hr : Rd W' A [10, 20, 30, 11, 21, 33]) : Calls Try.prog 16 #[.agg #[.int .i64 2, .int .i64 1, .slice A 6 6], .int .i64 1, .int .i64 1] W' fun e w' => ∃ A1 c1, e = .returned (.tuple #[.agg #[.int .i64 1, .int .i64 1, .slice A1 3 c1], .int .i64 0]) ∧ 3 ≤ c1 ∧ c1 ≤ maxLen ∧ Rd w' A1 [11, 21, 32] ∧ Below W'.heap.size W' w' := by
  have := box_yes [10, 20, 30, 11, 21, 33] 2 1 ⟨by decide, by decide, by decide, by decide, by decide⟩ A 6 6 rfl (by decide) (by decide) W' hr 1 1 (by decide) (by decide) (by decide) (by decide) (by decide) (by decide) (by decide)
  refine this.mono fun e w' ⟨s, h1, h2, h3⟩ => ?_
  rw [ex_box] at h2
  obtain ⟨A1, c1, rfl, k1, k2, k3⟩ := ob_slice h2
  exact ⟨A1, c1, h1, k1, k2, k3, h3⟩
theorem aw_pad (W' : World) (A : Option Addr) (c : Nat) (hc : 3 ≤ c) (hm : c ≤ maxLen) (hr : Rd W' A [11, 21, 32]) : Calls Try.prog 17 #[.agg #[.int .i64 1, .int .i64 1, .slice A 3 c], .int .i64 2, .int .i64 1] W' fun e w' => ∃ A1 c1, e = .returned (.tuple #[.agg #[.int .i64 2, .int .i64 1, .slice A1 6 c1], .int .i64 0]) ∧ Rd w' A1 [11, 21, 32, 11, 21, 32] ∧ Below W'.heap.size W' w' := by
  have := pad_yes [11, 21, 32] 1 1 ⟨by decide, by decide, by decide, by decide, by decide⟩ A 3 c rfl hc hm W' hr 2 1 (by decide) (by decide) (by decide) (by decide) (by decide) (by decide) (by decide)
  refine this.mono fun e w' ⟨s, h1, h2, h3⟩ => ?_
  rw [ex_pad] at h2
  obtain ⟨A1, c1, rfl, k1, k2, k3⟩ := ob_slice h2
  exact ⟨A1, c1, h1, k3, h3⟩
set_option maxHeartbeats 4000000 in
theorem awake_any (w : World) : Calls Try.prog 7 #[] w fun e w' => e = .returned (.bool true) ∧ Below w.heap.size w w' := by
  have HF1 : Hid (∀ W', Calls Try.prog 23 #[.int .i64 4000, .int .i64 3000, .int .i64 160, .int .i64 120, .int .i64 160, .int .i64 120] W' fun e w' => e = .returned (.bool true) ∧ Below W'.heap.size W' w') := fun W' => fits_any 4000 3000 160 120 160 120 W' (by decide) (by decide) (by decide) (by decide) (by decide) (by decide) (by decide) (by decide) ex_f1
  have HF2 : Hid (∀ W', Calls Try.prog 23 #[.int .i64 100, .int .i64 50, .int .i64 160, .int .i64 120, .int .i64 100, .int .i64 50] W' fun e w' => e = .returned (.bool true) ∧ Below W'.heap.size W' w') := fun W' => fits_any 100 50 160 120 100 50 W' (by decide) (by decide) (by decide) (by decide) (by decide) (by decide) (by decide) (by decide) ex_f2
  have HF3 : Hid (∀ W', Calls Try.prog 23 #[.int .i64 4096, .int .i64 1, .int .i64 16, .int .i64 16, .int .i64 16, .int .i64 1] W' fun e w' => e = .returned (.bool true) ∧ Below W'.heap.size W' w') := fun W' => fits_any 4096 1 16 16 16 1 W' (by decide) (by decide) (by decide) (by decide) (by decide) (by decide) (by decide) (by decide) ex_f3
  have HR0 := Lib.hid (Rd.lits w 5 #[.int .u8 10, .int .u8 20, .int .u8 30, .int .u8 11, .int .u8 21, .int .u8 33] [10, 20, 30, 11, 21, 33] rfl)
  have HB0 := Lib.hid ((Kc.refl w).any (.cells #[.int .u8 10, .int .u8 20, .int .u8 30, .int .u8 11, .int .u8 21, .int .u8 33] 5))
  go_enter Try.func7, Try.ntmps7
  go_wp2_with fail
  (with_reducible refine (aw_box _ _ HR0.out).mono ?_)
  rintro e w1 ⟨A1, c1, rfl, hc1, hm1, hr1, h1⟩
  have HC1 := Lib.hid (And.intro hc1 hm1)
  have K1 := Lib.hid ((HB0.out.call h1).new #[.int .i64 1, .int .i64 1, .slice A1 3 c1] 24 w1.heap.size rfl)
  have R1 := Lib.hid (hr1.alloc (.cells #[.int .i64 1, .int .i64 1, .slice A1 3 c1] 24))
  clear HB0 HR0 h1 hr1 hc1 hm1
  go_wp2_with fail
  (with_reducible refine (aw_pad _ _ _ HC1.out.1 HC1.out.2 R1.out).mono ?_)
  rintro e w2 ⟨A2, c2, rfl, hr2, h2⟩
  have K2 := Lib.hid ((K1.out.call h2).new #[.int .i64 2, .int .i64 1, .slice A2 6 c2] 24 w2.heap.size rfl)
  have R2 := Lib.hid (hr2.alloc (.cells #[.int .i64 2, .int .i64 1, .slice A2 6 c2] 24))
  have R1' := Lib.hid ((R1.out.below h2).alloc (.cells #[.int .i64 2, .int .i64 1, .slice A2 6 c2] 24))
  clear K1 R1 hr2 h2
  go_wp2_with fail
  (with_reducible refine (HF1.out _).mono ?_)
  rintro e w3 ⟨rfl, h3⟩
  have K3 := Lib.hid (K2.out.call h3)
  have Q1 := Lib.hid (R1'.out.below h3)
  have Q2 := Lib.hid (R2.out.below h3)
  clear K2 R1' R2 h3
  go_wp2_with fail
  (with_reducible refine (HF2.out _).mono ?_)
  rintro e w4 ⟨rfl, h3⟩
  have K4 := Lib.hid (K3.out.call h3)
  have P1 := Lib.hid (Q1.out.below h3)
  have P2 := Lib.hid (Q2.out.below h3)
  clear K3 Q1 Q2 h3
  go_wp2_with fail
  (with_reducible refine (HF3.out _).mono ?_)
  rintro e w5 ⟨rfl, h3⟩
  have K5 := Lib.hid (K4.out.call h3)
  have Q1 := Lib.hid (P1.out.below h3)
  have Q2 := Lib.hid (P2.out.below h3)
  clear K4 P1 P2 h3
  have c1' := K5.out.cell 0 2 rfl rfl
  have K6 := Lib.hid (K5.out.any (.cells #[.int .u8 11, .int .u8 21, .int .u8 32] 5))
  have c2' := K6.out.cell 1 2 rfl rfl
  have K7 := Lib.hid (K6.out.any (.cells #[.int .u8 11, .int .u8 21, .int .u8 32, .int .u8 11, .int .u8 21, .int .u8 32] 5))
  have q1 := run_strB w5 [11, 21, 32] A1 3 c1 rfl Q1.out
  have q2 := run_strB _ [11, 21, 32] _ 3 3 rfl (Rd.lits w5 5 #[.int .u8 11, .int .u8 21, .int .u8 32] [11, 21, 32] rfl)
  have q3 := run_strB _ [11, 21, 32, 11, 21, 32] A2 6 c2 rfl (Q2.out.alloc (.cells #[.int .u8 11, .int .u8 21, .int .u8 32] 5))
  have q4 := run_strB _ [11, 21, 32, 11, 21, 32] _ 6 6 rfl (Rd.lits (w5.alloc (.cells #[.int .u8 11, .int .u8 21, .int .u8 32] 5)) 5 #[.int .u8 11, .int .u8 21, .int .u8 32, .int .u8 11, .int .u8 21, .int .u8 32] [11, 21, 32, 11, 21, 32] rfl)
  rw [World.size_alloc] at q4
  go_wp2
  go_ret
  exact ⟨rfl, K7.out.be⟩
end Go.Proofs.Ytogpnpcdghabmaa
