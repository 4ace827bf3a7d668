/- Contracts of the texts of numbers and ratios. -/
import Derived.Test.YtnhophjahjphiaaDoorRVal
import Derived.Test.YtnhophjahjphiaaDoorRCmpA
import Derived.Deep.DeepCutAuto
import Derived.Laws.IdiomStrings
namespace Go.Proofs.YtnhophjahjphiaaDoor
open Go.RowKit
open Go.Lib (decDigits itoa)
set_option linter.unusedVariables false

theorem one_str (c : UInt8) (x : Int) (hx : x = (c.toNat : Int)) (W : World) (g cap : Nat) (h : W.cell? ⟨g, 0, none⟩ = some (.int .u8 x)) :
    (convert 67 9 (.slice (some ⟨g, 0, none⟩) 1 cap)).run Tryd.prog W = .ok (.string (strB [c])) W := by
  refine run_convert_bytes_back W 67 9 5 ⟨g, 0, none⟩ cap [c] Tryd.underlying67 Tryd.underlying5 Tryd.underlying9 (fun j hj => ?_)
  have : j = 0 := by simpa using hj
  subst this
  subst hx
  exact h

set_option maxRecDepth 100000 in
theorem digits_small (u : Nat) (hu : u < 10) (w : World) :
    Calls Tryd.prog 33 #[.int .i64 (u : Int)] w fun e w' => e = .returned (.string (strB (decDigits u))) ∧ Below w.heap.size w w' := by
  rw [dec_small hu]
  have h0 : (0 : Int) ≤ (u : Int) := Int.natCast_nonneg _
  have h1 : (u : Int) < 10 := by omega
  have hx : (48 : Int) + (u : Int) = ((UInt8.ofNat (48 + u)).toNat : Int) := by rw [dig_nat hu]; omega
  have cv := one_str (UInt8.ofNat (48 + u)) (48 + (u : Int)) hx
  generalize UInt8.ofNat (48 + u) = c at *
  clear hx hu
  have hm : (u : Int) % 10 = u := by omega
  go_enter Tryd.func33, Tryd.ntmps33
  go_wp2_with fail
  go_ret
  exact ⟨rfl, by go_grown⟩

theorem strB_app (l r : List UInt8) : strB l ++ strB r = strB (l ++ r) := by
  apply ByteArray.ext
  rw [ByteArray.data_append]
  show l.toArray ++ r.toArray = (l ++ r).toArray
  simp
set_option maxRecDepth 100000 in
theorem digits_fuel (k : Nat) : ∀ (u : Nat) (w : World), u ≤ k → u ≤ 9223372036854775807 →
    Calls Tryd.prog 33 #[.int .i64 (u : Int)] w fun e w' => e = .returned (.string (strB (decDigits u))) ∧ Below w.heap.size w w' := by
  induction k with
  | zero => intro u w hk _; exact digits_small u (by omega) w
  | succ k ih =>
    intro u w hk hu
    by_cases h : u < 10
    · exact digits_small u h w
    · rw [dec_big h]
      have h0 : (0 : Int) ≤ (u : Int) := Int.natCast_nonneg _
      have h1 : (9 : Int) < (u : Int) := by omega
      have h2 : (u : Int) ≤ 9223372036854775807 := by omega
      have hd := Nat.mod_lt u (show 0 < 10 by decide)
      have hm : (u : Int) % 10 = ((u % 10 : Nat) : Int) := by omega
      have hq : (u : Int) / 10 = ((u / 10 : Nat) : Int) := by omega
      have hx : (48 : Int) + ((u % 10 : Nat) : Int) = ((UInt8.ofNat (48 + u % 10)).toNat : Int) := by rw [dig_nat hd]; omega
      have cv := one_str (UInt8.ofNat (48 + u % 10)) (48 + ((u % 10 : Nat) : Int)) hx
      have HR := Lib.hid (fun w => ih (u / 10) w (by omega) (by omega))
      have hd1 : ((u % 10 : Nat) : Int) < 10 := by omega
      have hd0 : (0 : Int) ≤ ((u % 10 : Nat) : Int) := Int.natCast_nonneg _
      have hl : (decDigits (u / 10)).length ≤ 19 := by rw [dec_len]; exact nDigits_le 18 (u / 10) (by omega)
      generalize UInt8.ofNat (48 + u % 10) = c at *
      have hz : (strB (decDigits (u / 10))).size + (strB [c]).size ≤ 9223372036854775807 := by rw [strB_size, strB_size]; simp; omega
      clear hl
      generalize hR : u % 10 = r at *
      generalize hQ : u / 10 = q at *
      clear hx hu h hk ih hR hQ hd
      go_enter Tryd.func33, Tryd.ntmps33
      go_wp2_with fail
      (with_reducible refine (HR.out _).mono ?_); rintro e w1 ⟨rfl, h1⟩
      have g1 := bboxed h1
      clear h1
      go_wp2_with fail
      go_ret
      exact ⟨by rw [← strB_app]; rfl, g1⟩

theorem ret_s {a b : ByteArray} (h : a = b) : Ending.returned (.string a) = .returned (.string b) := by rw [h]
set_option maxRecDepth 100000 in
/-- The document's Digits. -/
theorem digits_any (n : Int) (w : World) (h0 : -9223372036854775807 ≤ n) (h1 : n ≤ 9223372036854775807) :
    Calls Tryd.prog 33 #[.int .i64 n] w fun e w' => e = .returned (.string (strB (itoa n))) ∧ Below w.heap.size w w' := by
  by_cases hn : n < 0
  · obtain ⟨u, hu⟩ : ∃ u : Nat, -n = (u : Int) := ⟨(-n).toNat, by omega⟩
    have e : itoa n = 45 :: decDigits u := by
      unfold itoa; rw [if_pos hn]; congr 2; omega
    rw [e]
    have hl : (decDigits u).length ≤ 19 := by rw [dec_len]; exact nDigits_le 18 u (by omega)
    have hz : (strB [45]).size + (strB (decDigits u)).size ≤ 9223372036854775807 := by rw [strB_size, strB_size]; simp; omega
    have hz' : (⟨#[45]⟩ : ByteArray).size + (strB (decDigits u)).size ≤ 9223372036854775807 := hz
    have HR := Lib.hid (fun w => digits_fuel u u w (Nat.le_refl _) (by omega))
    have HE : Hid (strB [45] ++ strB (decDigits u) = strB (45 :: decDigits u)) := Lib.hid (strB_app [45] (decDigits u))
    clear e hl hz
    go_enter Tryd.func33, Tryd.ntmps33
    go_wp2_with fail
    (with_reducible refine (HR.out _).mono ?_); rintro e w1 ⟨rfl, h1⟩
    go_wp2_with fail
    go_ret
    exact ⟨ret_s HE.out, h1⟩
  · obtain ⟨u, rfl⟩ : ∃ u : Nat, n = (u : Int) := ⟨n.toNat, by omega⟩
    rw [Lib.itoa_nonneg]
    exact digits_fuel u u w (Nat.le_refl _) (by omega)

theorem text_no (n d : Int) (w : World) (h : validB n d = false) :
    Calls Tryd.prog 14 #[.agg #[.int .i64 n, .int .i64 d]] w fun e w' => e = .returned (.string (strB [])) ∧ Below w.heap.size w w' := by
  have H := Lib.hid h
  clear h
  go_enter Tryd.func14, Tryd.ntmps14
  go_wp2_with fail
  (with_reducible refine (isValid_any n d _).mono ?_); rintro e w1 ⟨rfl, h1⟩
  rw [H.out]
  have g1 := bboxed h1
  clear h1
  go_wp2
  go_ret
  exact ⟨rfl, g1⟩
theorem dText_no (n d : Int) (w : World) (h : validB n d = false) :
    Calls Tryd.prog 15 #[.agg #[.int .i64 n, .int .i64 d]] w fun e w' => e = .returned (.string (strB [])) ∧ Below w.heap.size w w' := by
  have H := Lib.hid h
  clear h
  go_enter Tryd.func15, Tryd.ntmps15
  go_wp2_with fail
  (with_reducible refine (dMay_any n d _).mono ?_); rintro e w1 ⟨rfl, h1⟩
  rw [H.out]
  have g1 := bboxed h1
  clear h1
  go_wp2
  go_ret
  exact ⟨rfl, g1⟩
end Go.Proofs.YtnhophjahjphiaaDoor
