/- Contracts of view.has, view.colour, the document's May and Byte. -/
import Derived.Test.YtogpnpcdghabmaaRaB
namespace Go.Proofs.Ytogpnpcdghabmaa
open Go.RowKit Go.Lib
set_option linter.unusedVariables false
set_option maxRecDepth 100000
def has9 (W H x y : Int) : Bool := decide (0 ≤ x) && decide (x < W) && decide (0 ≤ y) && decide (y < H)
set_option maxHeartbeats 1000000 in
theorem has_any (W H : Int) (s : Value) (x y : Int) (w : World) : Calls Try.prog 24 #[ra W H s, .int .i64 x, .int .i64 y] w fun e w' => e = .returned (.bool (has9 W H x y)) ∧ Below w.heap.size w w' := by
  have HM : Hid (has9 W H x y = (decide (x ≥ 0) && decide (x < W) && decide (y ≥ 0) && decide (y < H))) := rfl
  generalize has9 W H x y = R at *
  unfold ra
  have HB0 := Lib.hid (((Below.refl w.heap.size w).alloc (Nat.le_refl _) (.cells #[.int .i64 W, .int .i64 H, s] 46)))
  cases h1 : decide (x ≥ 0) with
  | false =>
    go_enter Try.func24, Try.ntmps24
    go_wp2
    go_ret
    exact ⟨by rw [HM.out, h1]; rfl, HB0.out⟩
  | true =>
    cases h2 : decide (x < W) with
    | false =>
      go_enter Try.func24, Try.ntmps24
      go_wp2
      go_ret
      exact ⟨by rw [HM.out, h1, h2]; rfl, HB0.out⟩
    | true =>
      cases h3 : decide (y ≥ 0) with
      | false =>
        go_enter Try.func24, Try.ntmps24
        go_wp2
        go_ret
        exact ⟨by rw [HM.out, h1, h2, h3]; rfl, HB0.out⟩
      | true =>
        go_enter Try.func24, Try.ntmps24
        go_wp2
        go_ret
        exact ⟨by rw [HM.out, h1, h2, h3]; rfl, HB0.out⟩
set_option maxHeartbeats 1000000 in
theorem rMay_any (W H : Int) (A : Option Addr) (n c : Nat) (w : World) : Calls Try.prog 8 #[ra W H (.slice A n c)] w fun e w' => e = .returned (.bool (may9 W H n)) ∧ Below w.heap.size w w' := by
  have HM : Hid (may9 W H n = (sd W && sd H && ((n : Int) == W * H * 3))) := rfl
  have HW := Lib.hid (fun W' => rSize_any W W')
  have HH := Lib.hid (fun W' => rSize_any H W')
  generalize may9 W H n = R at *
  have hp : sd W = true → sd H = true → (0 ≤ W * H ∧ W * H ≤ 16777216) ∧ W ≤ 4096 ∧ 1 ≤ W := fun h1 h2 => by
    have := sd_yes h1
    have := sd_yes h2
    exact ⟨mul_4096 (by omega) (by omega) (by omega) (by omega), by omega, by omega⟩
  unfold ra
  have HB0 := Lib.hid (((Below.refl w.heap.size w).alloc (Nat.le_refl _) (.cells #[.int .i64 W, .int .i64 H, .slice A n c] 24)))
  cases h1 : sd W with
  | false =>
    rw [h1] at HW HM
    go_enter Try.func8, Try.ntmps8
    go_wp2_with (first
      | (go_at_call 13; first
         | ((with_reducible refine (HW.out _).mono ?_); rintro e w3 ⟨rfl, rfl⟩)))
    go_ret
    exact ⟨by rw [HM.out]; rfl, HB0.out⟩
  | true =>
    cases h2 : sd H with
    | false =>
      rw [h1] at HW HM
      rw [h2] at HH HM
      go_enter Try.func8, Try.ntmps8
      go_wp2_with (first
        | (go_at_call 13; first
           | ((with_reducible refine (HW.out _).mono ?_); rintro e w3 ⟨rfl, rfl⟩)
           | ((with_reducible refine (HH.out _).mono ?_); rintro e w3 ⟨rfl, rfl⟩)))
      go_ret
      exact ⟨by rw [HM.out]; rfl, HB0.out⟩
    | true =>
      obtain ⟨hq, hW, hW1⟩ := hp h1 h2
      clear hp
      rw [h1] at HW HM
      rw [h2] at HH HM
      clear h1 h2
      generalize hK : W * H = k at *
      have hK3 : 3 * W * H = k * 3 := by rw [Int.mul_assoc, hK, Int.mul_comm]
      clear hK
      have hw1 : IntKind.i64.wrap (3 * W) = 3 * W := IntWalk.i64_in _ (by omega)
      have hw2 : IntKind.i64.wrap (k * 3) = k * 3 := IntWalk.i64_in _ (by omega)
      go_enter Try.func8, Try.ntmps8
      go_wp2_with (first
        | (go_at_call 13; first
           | ((with_reducible refine (HW.out _).mono ?_); rintro e w3 ⟨rfl, rfl⟩)
           | ((with_reducible refine (HH.out _).mono ?_); rintro e w3 ⟨rfl, rfl⟩)))
      go_ret
      exact ⟨by rw [HM.out]; rfl, HB0.out⟩
end Go.Proofs.Ytogpnpcdghabmaa
