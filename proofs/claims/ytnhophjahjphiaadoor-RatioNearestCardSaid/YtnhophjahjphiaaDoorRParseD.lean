/- Contract of the document's Parse. -/
import Derived.Test.YtnhophjahjphiaaDoorRNumber
namespace Go.Proofs.YtnhophjahjphiaaDoor
open Go.RowKit
set_option linter.unusedVariables false

theorem both_num (a b : List UInt8) : both (numR a) (numR b) = if (numK a && numK b) = true then (if validB (numV a) (numV b) then some (numV a, numV b) else none) else none := by
  unfold numK numV
  cases ha : numR a with
  | none => rfl
  | some n =>
    cases hb : numR b with
    | none => rfl
    | some d => rfl
theorem byte_at (s : ByteArray) (k : Nat) (h : k < s.size) : s.data.toList.getD k 0 = s[k] := by
  have := Lib.data_getElem? s k h
  rw [List.getD_eq_getElem?_getD, this]; rfl

set_option maxHeartbeats 3200000 in
set_option maxRecDepth 100000 in
theorem dParse_any (s : ByteArray) (w : World) (hs : s.size ≤ 4000000000) :
    Calls Tryd.prog 9 #[.string s] w fun e w' => e = .returned (.tuple #[.agg #[.int .i64 (prN (parseP s.data.toList)), .int .i64 (prD (parseP s.data.toList))], .bool (parseP s.data.toList).isSome]) ∧ Below w.heap.size w w' := by
  have HP0 := Lib.hid (fun h => parse_none s.data.toList h)
  have HPA := Lib.hid (fun i hi h47 h => parse_at s.data.toList i hi h47 h)
  generalize hl : s.data.toList = l at HP0 HPA
  have HL := Lib.hid hl
  have HSZ : Hid (l.length = s.size) := Lib.hid (by rw [← hl, ← Lib.size_eq])
  have HBY := Lib.hid (fun k h => hl ▸ byte_at s k h)
  clear hl
  go_enter Tryd.func9, Tryd.ntmps9
  go_wp2_with fail
  go_loop [4] (fun i => ∃ k : Nat, k ≤ s.size ∧ i = .int .i64 k ∧ Hid (∀ j, j < k → l.getD j 0 ≠ 47)) (fun i => s.size - (intOf i).toNat)
  case atStart => exact ⟨0, Nat.zero_le _, rfl, Lib.hid (fun j hj => absurd hj (Nat.not_lt_zero _))⟩
  case round =>
    obtain ⟨k, hk, rfl, hn⟩ := hrel
    by_cases hlt : k < s.size
    · have hby := HBY.out k hlt
      by_cases h47 : s[k].toNat = 47
      · have hc : l.getD k 0 = 47 := by rw [hby]; exact UInt8.toNat_inj.1 h47
        have HA := Lib.hid (HPA.out k (by rw [HSZ.out]; exact hlt) hc hn.out)
        have t47 : ((s[k].toNat : Int) != 47) = false := by rw [h47]; rfl
        have q1 : (s.extract 0 k).data.toList = befS l := by
          rw [HA.out.1, Lib.extract_data, HL.out]; simp
        have q2 : (s.extract (k + 1) s.size).data.toList = aftS l := by
          rw [HA.out.2, Lib.extract_to_end, HL.out]
        have z1 : (s.extract 0 k).size ≤ 4000000000 := by rw [Lib.size_eq, q1]; have := bef_len l; have := HSZ.out; omega
        have z2 : (s.extract (k + 1) s.size).size ≤ 4000000000 := by rw [Lib.size_eq, q2]; have := aft_len l; have := HSZ.out; omega
        have Q1 := Lib.hid q1
        have Q2 := Lib.hid q2
        have hb : parseP l = if (numK (befS l) && numK (aftS l)) = true then (if validB (numV (befS l)) (numV (aftS l)) then some (numV (befS l), numV (aftS l)) else none) else none := by
          show both (numC _) (numC _) = _
          rw [← both_same, both_num]
        generalize hx : numK (befS l) = x at hb
        generalize hy : numK (aftS l) = y at hb
        generalize hX : numV (befS l) = X at hb
        generalize hY : numV (aftS l) = Y at hb
        have HX := Lib.hid hx
        have HY := Lib.hid hy
        have HXX := Lib.hid hX
        have HYY := Lib.hid hY
        have HB := Lib.hid hb
        clear hby hc h47 q1 q2 hx hy hX hY hb
        go_wp2_with fail
        (with_reducible refine (number_any _ _ z1).mono ?_); rintro e w1 ⟨rfl, rfl⟩
        rw [Q1.out, HX.out, HXX.out]
        go_wp2_with fail
        (with_reducible refine (number_any _ _ z2).mono ?_); rintro e w1 ⟨rfl, rfl⟩
        rw [Q2.out, HY.out, HYY.out]
        cases x
        · have HP : Hid (parseP l = none) := Lib.hid HB.out
          clear HB
          go_wp2
          exact bodyPost_ret (v := .tuple #[.agg #[.int .i64 0, .int .i64 0], .bool false]) (by simp [results, Tryd.results9, go_sem]) rfl ⟨(by rw [HP.out]; rfl), by go_grown⟩
        · cases y
          · have HP : Hid (parseP l = none) := Lib.hid HB.out
            clear HB
            go_wp2
            exact bodyPost_ret (v := .tuple #[.agg #[.int .i64 0, .int .i64 0], .bool false]) (by simp [results, Tryd.results9, go_sem]) rfl ⟨(by rw [HP.out]; rfl), by go_grown⟩
          · go_wp2_with fail
            (with_reducible refine (dMay_any X Y _).mono ?_); rintro e w1 ⟨rfl, h1⟩
            have K1 := Lib.hid (Kp.new h1)
            obtain ⟨hc, hf, hz⟩ := bcell h1
            clear h1
            have r0 := K1.out.1
            have r1 := K1.out.2.1
            cases hv : validB X Y with
            | false =>
              have HP : Hid (parseP l = none) := Lib.hid (HB.out.trans (by rw [hv]; rfl))
              clear HB hv
              have Z := Lib.hid (two_set (w := w1) (g := w.heap.size) (.int .i64 0) (.int .i64 0) (by rw [r0]; rfl) (by rw [r1]; rfl))
              go_wp2
              have z0 := Z.out.1
              have z1 := Z.out.2
              exact bodyPost_ret (v := .tuple #[.agg #[.int .i64 0, .int .i64 0], .bool false]) (by simp [results, Tryd.results9, go_sem, z0, z1]) rfl ⟨(by rw [HP.out]; rfl), below_two K1.out.2.2.2.2.2 (Nat.le_refl _) _ _⟩
            | true =>
              have HP : Hid (parseP l = some (X, Y)) := Lib.hid (HB.out.trans (by rw [hv]; rfl))
              clear HB hv
              have Z := Lib.hid (two_set (w := w1) (g := w.heap.size) (.int .i64 X) (.int .i64 Y) (by rw [r0]; rfl) (by rw [r1]; rfl))
              have c0 := K1.out.2.2.1
              have c1 := K1.out.2.2.2.1
              go_wp2
              have z0 := Z.out.1
              have z1 := Z.out.2
              exact bodyPost_ret (v := .tuple #[.agg #[.int .i64 X, .int .i64 Y], .bool true]) (by simp [results, Tryd.results9, go_sem, z0, z1]) rfl ⟨(by rw [HP.out]; rfl), below_two K1.out.2.2.2.2.2 (Nat.le_refl _) _ _⟩
      · have hc : l.getD k 0 ≠ 47 := by
          rw [hby]; intro e; apply h47; rw [e]; rfl
        have t47 : ((s[k].toNat : Int) != 47) = true := by rw [bne_iff_ne]; omega
        have HN : Hid (∀ j, j < k + 1 → l.getD j 0 ≠ 47) := Lib.hid (fun j hj => by
          rcases Nat.lt_succ_iff_lt_or_eq.1 hj with h | rfl
          · exact hn.out j h
          · exact hc)
        clear hby hc h47 hn
        go_wp2
        go_round
        case rel => exact ⟨k + 1, by omega, by go_num, HN⟩
        case measure => simp [intOf]; omega
    · obtain rfl : k = s.size := by omega
      have HP := Lib.hid (HP0.out (fun j hj => hn.out j (by rw [← HSZ.out]; exact hj)))
      go_wp2
      exact bodyPost_ret (v := .tuple #[.agg #[.int .i64 0, .int .i64 0], .bool false]) (by simp [results, Tryd.results9, go_sem]) rfl ⟨(by rw [HP.out]; rfl), by go_grown⟩
end Go.Proofs.YtnhophjahjphiaaDoor
