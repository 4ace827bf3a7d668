/- Contracts of raster's May, view.has, and the document's May, Byte: a picture as a value. -/
import Derived.Test.YtogpnpcdghabmaaRaA
namespace Go.Proofs.Ytogpnpcdghabmaa
open Go.RowKit Go.Lib
set_option linter.unusedVariables false
set_option maxRecDepth 100000
/-- A picture's value. -/
def ra (W H : Int) (s : Value) : Value := .agg #[.int .i64 W, .int .i64 H, s]
/-- A picture? -/
def may9 (W H : Int) (n : Nat) : Bool := sd W && sd H && ((n : Int) == W * H * 3)
theorem sds2 (a b : Int) : sds [a, b] = (sd a && sd b) := by simp [sds]
theorem sds4 (a b c d : Int) : sds [a, b, c, d] = (sd a && (sd b && (sd c && sd d))) := by simp [sds]
theorem may_yes {W H : Int} {n : Nat} (h : may9 W H n = true) : 1 ≤ W ∧ W ≤ 4096 ∧ 1 ≤ H ∧ H ≤ 4096 ∧ (n : Int) = W * H * 3 := by
  unfold may9 at h
  simp only [Bool.and_eq_true, beq_iff_eq] at h
  obtain ⟨⟨h1, h2⟩, h3⟩ := h
  have := sd_yes h1
  have := sd_yes h2
  exact ⟨by omega, by omega, by omega, by omega, h3⟩
theorem mul_4096 {a b : Int} (ha : 0 ≤ a) (ha2 : a ≤ 4096) (hb : 0 ≤ b) (hb2 : b ≤ 4096) : 0 ≤ a * b ∧ a * b ≤ 16777216 :=
  ⟨Int.mul_nonneg ha hb, by
    have h1 : a * b ≤ 4096 * b := Int.mul_le_mul_of_nonneg_right ha2 hb
    omega⟩
set_option maxHeartbeats 1000000 in
theorem may_any (W H : Int) (A : Option Addr) (n c : Nat) (w : World) : Calls Try.prog 10 #[ra W H (.slice A n c)] w fun e w' => e = .returned (.bool (may9 W H n)) ∧ Below w.heap.size w w' := by
  have HM : Hid (may9 W H n = (sd W && sd H && ((n : Int) == W * H * 3))) := rfl
  have HA : Hid (∀ A' c' W', Ri W' A' [W, H] → Calls Try.prog 26 #[.slice A' 2 c'] W' fun e w' => e = .returned (.bool (sd W && sd H)) ∧ W' = w') := fun A' c' W' h => by rw [← sds2]; exact areSides_any [W, H] A' 2 c' W' rfl (by simp) h
  generalize may9 W H n = R at *
  have hp : sd W = true → sd H = true → 0 ≤ W * H ∧ W * H ≤ 16777216 := fun h1 h2 => by
    have := sd_yes h1
    have := sd_yes h2
    exact mul_4096 (by omega) (by omega) (by omega) (by omega)
  unfold ra
  have HR1 : Hid (Ri ((w.alloc (.cells #[.int .i64 W, .int .i64 H, .slice A n c] 24)).alloc (.cells #[.int .i64 W, .int .i64 H] 3)) (some ⟨w.heap.size + 1, 0, none⟩) [W, H]) := by
    have := Ri.lits (w.alloc (.cells #[.int .i64 W, .int .i64 H, .slice A n c] 24)) 3 #[.int .i64 W, .int .i64 H] [W, H] rfl
    rwa [World.size_alloc] at this
  have HB0 := Lib.hid (((Below.refl w.heap.size w).alloc (Nat.le_refl _) (.cells #[.int .i64 W, .int .i64 H, .slice A n c] 24)))
  have HB1 := Lib.hid (HB0.out.alloc (by simp) (.cells #[.int .i64 W, .int .i64 H] 3))
  clear HB0
  cases h1 : (sd W && sd H) with
  | false =>
    rw [h1] at HA HM
    clear hp
    go_enter Try.func10, Try.ntmps10
    go_wp2_with fail
    (with_reducible refine (HA.out _ _ _ HR1.out).mono ?_); rintro e w1 ⟨rfl, rfl⟩
    go_wp2
    go_ret
    exact ⟨by rw [HM.out]; rfl, HB1.out⟩
  | true =>
    rw [h1] at HA HM
    rw [Bool.and_eq_true] at h1
    have hq := hp h1.1 h1.2
    clear hp h1
    generalize hK : W * H = k at *
    have hw1 : IntKind.i64.wrap k = k := IntWalk.i64_in _ (by omega)
    have hw2 : IntKind.i64.wrap (k * 3) = k * 3 := IntWalk.i64_in _ (by omega)
    go_enter Try.func10, Try.ntmps10
    go_wp2_with fail
    (with_reducible refine (HA.out _ _ _ HR1.out).mono ?_); rintro e w1 ⟨rfl, rfl⟩
    go_wp2
    go_ret
    exact ⟨by rw [HM.out]; rfl, HB1.out⟩
end Go.Proofs.Ytogpnpcdghabmaa
