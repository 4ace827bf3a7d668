/- Contract of the document's Cmp. -/
import Derived.Test.YtnhophjahjphiaaDoorRRefA
namespace Go.Proofs.YtnhophjahjphiaaDoor
open Go.RowKit
open Go.Lib (compareInt)

theorem dcmp_any (A p B q : Int) (w : World) (hp : 1 ≤ p) (p1 : p ≤ 8589934592) (hq : 1 ≤ q) (q1 : q ≤ 8589934592) (a0 : -8589934592 ≤ A) (a1 : A ≤ 8589934592) (b0 : -8589934592 ≤ B) (b1 : B ≤ 8589934592) :
    Calls Tryd.prog 39 #[.agg #[.int .i64 A, .int .i64 p], .agg #[.int .i64 B, .int .i64 q]] w fun e w' => e = .returned (.int .i64 (compareInt (A * q) (B * p))) ∧ Below w.heap.size w w' :=
  dcmp_fuel _ A p B q w (Nat.le_refl _) hp p1 hq q1 a0 a1 b0 b1

theorem has_no {n d : Int} (h : validB n d = false ∨ d = 0) : hasB n d = false := by
  unfold hasB
  rcases h with h | h
  · rw [h]; rfl
  · rw [h]; simp
theorem dCmp_no (an ad bn bd : Int) (w : World) (h : validB an ad = false) :
    Calls Tryd.prog 17 #[.agg #[.int .i64 an, .int .i64 ad], .agg #[.int .i64 bn, .int .i64 bd]] w fun e w' => e = .returned (.tuple #[.int .i64 0, .bool false]) ∧ Below w.heap.size w w' := by
  have H := Lib.hid h
  clear h
  go_enter Tryd.func17, Tryd.ntmps17
  go_wp2_with fail
  (with_reducible refine (dMay_any an ad _).mono ?_); rintro e w1 ⟨rfl, h1⟩
  rw [H.out]
  have g1 := bboxed (bboxed h1)
  clear h1
  go_wp2
  go_ret2
  exact ⟨rfl, g1⟩
theorem dCmp_no2 (an ad bn bd : Int) (w : World) (h : validB an ad = true) (h' : validB bn bd = false) :
    Calls Tryd.prog 17 #[.agg #[.int .i64 an, .int .i64 ad], .agg #[.int .i64 bn, .int .i64 bd]] w fun e w' => e = .returned (.tuple #[.int .i64 0, .bool false]) ∧ Below w.heap.size w w' := by
  have H := Lib.hid h
  have H' := Lib.hid h'
  clear h h'
  go_enter Tryd.func17, Tryd.ntmps17
  go_wp2_with fail
  (with_reducible refine (dMay_any an ad _).mono ?_); rintro e w1 ⟨rfl, h1⟩
  rw [H.out]
  have K1 := Lib.hid (Kp.new h1)
  have c0 := K1.out.2.2.1
  have c1 := K1.out.2.2.2.1
  clear h1
  go_wp2_with fail
  (with_reducible refine (dMay_any bn bd _).mono ?_); rintro e w2 ⟨rfl, h2⟩
  rw [H'.out]
  have K2 := Lib.hid (K1.out.call h2)
  clear h2 K1 c0 c1
  go_wp2
  go_ret2
  exact ⟨rfl, K2.out.2.2.2.2.2⟩
set_option maxHeartbeats 800000 in
theorem dCmp_zero (an ad bn bd : Int) (w : World) (h : validB an ad = true) (h' : validB bn bd = true) (hz : ad = 0 ∨ bd = 0) :
    Calls Tryd.prog 17 #[.agg #[.int .i64 an, .int .i64 ad], .agg #[.int .i64 bn, .int .i64 bd]] w fun e w' => e = .returned (.tuple #[.int .i64 0, .bool false]) ∧ Below w.heap.size w w' := by
  have H := Lib.hid h
  have H' := Lib.hid h'
  clear h h'
  by_cases ha : ad = 0
  · have ta : (ad == 0) = true := by rw [beq_iff_eq]; exact ha
    clear ha hz
    go_enter Tryd.func17, Tryd.ntmps17
    go_wp2_with fail
    (with_reducible refine (dMay_any an ad _).mono ?_); rintro e w1 ⟨rfl, h1⟩
    rw [H.out]
    have K1 := Lib.hid (Kp.new h1)
    have c0 := K1.out.2.2.1
    have c1 := K1.out.2.2.2.1
    clear h1
    go_wp2_with fail
    (with_reducible refine (dMay_any bn bd _).mono ?_); rintro e w2 ⟨rfl, h2⟩
    rw [H'.out]
    have K2 := Lib.hid (K1.out.call h2)
    clear h2 K1 c0 c1
    have a1 := K2.out.2.1
    go_wp2
    go_ret2
    exact ⟨rfl, K2.out.2.2.2.2.2⟩
  · have ta : (ad == 0) = false := by rw [beq_eq_false_iff_ne]; exact ha
    have tb : (bd == 0) = true := by rw [beq_iff_eq]; omega
    clear ha hz
    go_enter Tryd.func17, Tryd.ntmps17
    go_wp2_with fail
    (with_reducible refine (dMay_any an ad _).mono ?_); rintro e w1 ⟨rfl, h1⟩
    rw [H.out]
    have K1 := Lib.hid (Kp.new h1)
    have c0 := K1.out.2.2.1
    have c1 := K1.out.2.2.2.1
    clear h1
    go_wp2_with fail
    (with_reducible refine (dMay_any bn bd _).mono ?_); rintro e w2 ⟨rfl, h2⟩
    rw [H'.out]
    have K2 := Lib.hid (K1.out.call h2)
    clear h2 K1 c0 c1
    have a1 := K2.out.2.1
    have b1 := K2.out.2.2.2.1
    go_wp2
    go_ret2
    exact ⟨rfl, K2.out.2.2.2.2.2⟩

set_option maxHeartbeats 1600000 in
theorem dCmp_yes (an ad bn bd : Int) (w : World) (h : hasB an ad = true) (h' : hasB bn bd = true) :
    Calls Tryd.prog 17 #[.agg #[.int .i64 an, .int .i64 ad], .agg #[.int .i64 bn, .int .i64 bd]] w fun e w' => e = .returned (.tuple #[.int .i64 (cmpR an ad bn bd), .bool true]) ∧ Below w.heap.size w w' := by
  have ha := (hasB_iff.1 h)
  have hb := (hasB_iff.1 h')
  have H := Lib.hid ha.1
  have H' := Lib.hid hb.1
  have R1 := validB_rng ha.1
  have R2 := validB_rng hb.1
  have ta : (ad == 0) = false := by rw [beq_eq_false_iff_ne]; exact ha.2
  have tb : (bd == 0) = false := by rw [beq_eq_false_iff_ne]; exact hb.2
  have da := upD_pos ha.2
  have db := upD_pos hb.2
  have ra : upD ad ≤ 8589934592 ∧ -8589934592 ≤ upN an ad ∧ upN an ad ≤ 8589934592 := by unfold upD upN; split <;> omega
  have rb : upD bd ≤ 8589934592 ∧ -8589934592 ≤ upN bn bd ∧ upN bn bd ≤ 8589934592 := by unfold upD upN; split <;> omega
  clear h h' ha hb
  go_enter Tryd.func17, Tryd.ntmps17
  go_wp2_with fail
  (with_reducible refine (dMay_any an ad _).mono ?_); rintro e w1 ⟨rfl, h1⟩
  rw [H.out]
  have K1 := Lib.hid (Kp.new h1)
  have c0 := K1.out.2.2.1
  have c1 := K1.out.2.2.2.1
  clear h1
  go_wp2_with fail
  (with_reducible refine (dMay_any bn bd _).mono ?_); rintro e w2 ⟨rfl, h2⟩
  rw [H'.out]
  have K2 := Lib.hid (K1.out.call h2)
  clear h2 K1 c0 c1
  have a1 := K2.out.2.1
  have b1 := K2.out.2.2.2.1
  go_wp2_with fail
  clear a1 b1
  go_region_held3 (fun w' => w'.cell? ⟨w.heap.size, 0, none⟩ = some (.int .i64 an) ∧ w'.cell? ⟨w.heap.size, 1, none⟩ = some (.int .i64 ad) ∧ w'.cell? ⟨w.heap.size + 1, 0, none⟩ = some (.int .i64 bn) ∧ w'.cell? ⟨w.heap.size + 1, 1, none⟩ = some (.int .i64 bd) ∧ w.heap.size + 1 < w'.heap.size ∧ Below w.heap.size w w')
    ((show Kp w an ad bn bd _
      with_reducible first
        | exact kk.out
        | exact Kp.drew K2.out))
    (first
      | (go_at_call_of 40 (Value.agg #[Value.int IntKind.i64 an, Value.int IntKind.i64 ad]); refine (up_any an ad _ (by omega) (by omega) (by omega) (by omega)).mono ?_; rintro e w' ⟨rfl, h1⟩; have kk : Hid (Kp w an ad bn bd w') := (by show Kp w an ad bn bd w'; refine Kp.call ?_ h1; assumption))
      | (go_at_call_of 40 (Value.agg #[Value.int IntKind.i64 bn, Value.int IntKind.i64 bd]); refine (up_any bn bd _ (by omega) (by omega) (by omega) (by omega)).mono ?_; rintro e w' ⟨rfl, h1⟩; have kk : Hid (Kp w an ad bn bd w') := (by show Kp w an ad bn bd w'; refine Kp.call ?_ h1; assumption))
      | (go_at_call 39; refine (dcmp_any (upN an ad) (upD ad) (upN bn bd) (upD bd) _ (by omega) (by omega) (by omega) (by omega) (by omega) (by omega) (by omega) (by omega)).mono ?_; rintro e w' ⟨rfl, h1⟩; have kk : Hid (Kp w an ad bn bd w') := (by show Kp w an ad bn bd w'; refine Kp.call ?_ h1; assumption)))
  all_goals
    go_wp2
    go_ret2
    exact ⟨rfl, kk.out.2.2.2.2.2⟩

theorem dCmp_any (an ad bn bd : Int) (w : World) :
    Calls Tryd.prog 17 #[.agg #[.int .i64 an, .int .i64 ad], .agg #[.int .i64 bn, .int .i64 bd]] w fun e w' => e = .returned (.tuple #[.int .i64 (cmpV an ad bn bd), .bool (cmpOk an ad bn bd)]) ∧ Below w.heap.size w w' := by
  cases ha : validB an ad with
  | false =>
    have e : cmpOk an ad bn bd = false := by unfold cmpOk; rw [has_no (.inl ha)]; rfl
    unfold cmpV; rw [e]
    exact dCmp_no an ad bn bd w ha
  | true =>
    cases hb : validB bn bd with
    | false =>
      have e : cmpOk an ad bn bd = false := by unfold cmpOk; rw [has_no (n := bn) (.inl hb), Bool.and_false]
      unfold cmpV; rw [e]
      exact dCmp_no2 an ad bn bd w ha hb
    | true =>
      by_cases hz : ad = 0 ∨ bd = 0
      · have e : cmpOk an ad bn bd = false := by
          unfold cmpOk
          rcases hz with hz | hz
          · rw [has_no (.inr hz)]; rfl
          · rw [has_no (n := bn) (.inr hz), Bool.and_false]
        unfold cmpV; rw [e]
        exact dCmp_zero an ad bn bd w ha hb hz
      · have h1 : hasB an ad = true := hasB_iff.2 ⟨ha, by omega⟩
        have h2 : hasB bn bd = true := hasB_iff.2 ⟨hb, by omega⟩
        have e : cmpOk an ad bn bd = true := by unfold cmpOk; rw [h1, h2]; rfl
        unfold cmpV; rw [e]
        exact dCmp_yes an ad bn bd w h1 h2
end Go.Proofs.YtnhophjahjphiaaDoor
