/- Contract of the document's Number. -/
import Derived.Test.YtnhophjahjphiaaDoorRParse
namespace Go.Proofs.YtnhophjahjphiaaDoor
open Go.RowKit
set_option linter.unusedVariables false

theorem valD_lt (l : List UInt8) (h : digB l = true) : valD l < 10 ^ l.length := by
  have key : ∀ (k : Nat) (l : List UInt8), l.length = k → digB l = true → valD l < 10 ^ k := by
    intro k
    induction k with
    | zero => intro l hl _; rw [List.length_eq_zero_iff.1 hl]; decide
    | succ k ih =>
      intro l hl hd
      have hn : l ≠ [] := fun e => by rw [e] at hl; simp at hl
      obtain ⟨l', c, rfl⟩ : ∃ l' c, l = l' ++ [c] := ⟨l.dropLast, l.getLast hn, (List.dropLast_concat_getLast hn).symm⟩
      rw [digB_snoc, Bool.and_eq_true] at hd
      have h1 := ih l' (by simpa using hl) hd.1
      have h2 := hd.2
      unfold isDig at h2
      rw [decide_eq_true_eq] at h2
      rw [valD_snoc, Nat.pow_succ]
      omega
  exact key _ l rfl h

def numV (l : List UInt8) : Int := (numR l).getD 0
def numK (l : List UInt8) : Bool := (numR l).isSome

theorem empty_iff (s : ByteArray) : s.toList.isEmpty = true ↔ s.size = 0 := by
  rw [Lib.toList_data, List.isEmpty_iff, ← List.length_eq_zero_iff, ← Lib.size_eq]
theorem ret_ib2 {a b : Int} {c d : Bool} (h : a = b) (k : c = d) : Ending.returned (.tuple #[.int .i64 a, .bool c]) = .returned (.tuple #[.int .i64 b, .bool d]) := by rw [h, k]
/-- Whether the digits behind the sign are refused at once. -/
def badM (m : List UInt8) (neg : Bool) : Bool := m.isEmpty || decide (10 < m.length) || (m.head? == some 48 && (decide (1 < m.length) || neg))
theorem byte_head (T : ByteArray) (h : 0 < T.size) : T.data.toList.head? = some T[0] := by
  have := Lib.data_getElem? T 0 h
  rw [List.head?_eq_getElem?]
  exact this
theorem bad_empty {T : ByteArray} {neg : Bool} (h : T.size = 0) : badM T.data.toList neg = true := by
  have e : T.data.toList = [] := List.length_eq_zero_iff.1 (by rw [← Lib.size_eq]; exact h)
  unfold badM; rw [e]; rfl
theorem bad_long {T : ByteArray} {neg : Bool} (h : 10 < T.size) : badM T.data.toList neg = true := by
  unfold badM
  rw [← Lib.size_eq, decide_eq_true h]
  simp
theorem bad_zero {T : ByteArray} {neg : Bool} (hp : 0 < T.size) (h : T[0].toNat = 48) (k : 1 < T.size ∨ neg = true) : badM T.data.toList neg = true := by
  have e : T[0] = 48 := UInt8.toNat_inj.1 h
  unfold badM
  rw [byte_head T hp, e, ← Lib.size_eq]
  rcases k with k | k
  · rw [decide_eq_true k]; simp
  · rw [k]; simp
theorem bad_not {T : ByteArray} {neg : Bool} (hp : 0 < T.size) (h10 : ¬ 10 < T.size) (h : ¬ (T[0].toNat = 48 ∧ (1 < T.size ∨ neg = true))) : badM T.data.toList neg = false := by
  unfold badM
  rw [byte_head T hp, ← Lib.size_eq]
  have e1 : T.data.toList.isEmpty = false := by
    rw [List.isEmpty_eq_false_iff]
    intro e
    have k : T.data.toList.length = 0 := by rw [e]; rfl
    rw [← Lib.size_eq] at k
    omega
  rw [e1, decide_eq_false h10]
  by_cases h48 : T[0].toNat = 48
  · have e2 : decide (1 < T.size) = false := by rw [decide_eq_false_iff_not]; exact fun k => h ⟨h48, .inl k⟩
    have e3 : neg = false := by cases neg; rfl; exact absurd ⟨h48, .inr rfl⟩ h
    rw [e2, e3]; simp
  · have e2 : (some T[0] == some (48 : UInt8)) = false := by
      rw [beq_eq_false_iff_ne]; intro e; injection e with e; rw [e] at h48; exact h48 rfl
    rw [e2]; rfl
theorem numR_parts (l : List UInt8) : numR l = if badM (magL l) (negL l) then none else if digB (magL l) then some (if negL l then -(valD (magL l) : Int) else valD (magL l)) else none := rfl
theorem num_bad {l m : List UInt8} {neg : Bool} (h1 : magL l = m) (h2 : negL l = neg) (hb : badM m neg = true) : numV l = 0 ∧ numK l = false := by
  have : numR l = none := by rw [numR_parts, h1, h2, if_pos hb]
  unfold numV numK; rw [this]; exact ⟨rfl, rfl⟩
theorem num_nodig {l m : List UInt8} {neg : Bool} (h1 : magL l = m) (h2 : negL l = neg) (hb : badM m neg = false) (hd : digB m = false) : numV l = 0 ∧ numK l = false := by
  have : numR l = none := by rw [numR_parts, h1, h2, if_neg (by rw [hb]; exact fun e => by cases e), if_neg (by rw [hd]; exact fun e => by cases e)]
  unfold numV numK; rw [this]; exact ⟨rfl, rfl⟩
theorem num_dig {l m : List UInt8} {neg : Bool} (h1 : magL l = m) (h2 : negL l = neg) (hb : badM m neg = false) (hd : digB m = true) : numV l = (if neg then -(valD m : Int) else valD m) ∧ numK l = true := by
  have : numR l = some (if neg then -(valD m : Int) else valD m) := by rw [numR_parts, h1, h2, if_neg (by rw [hb]; exact fun e => by cases e), if_pos hd]
  unfold numV numK; rw [this]; exact ⟨rfl, rfl⟩

theorem take_next (T : ByteArray) (k : Nat) (h : k < T.size) : T.data.toList.take (k + 1) = T.data.toList.take k ++ [T[k]] := by
  rw [List.take_succ_eq_append_getElem (by rw [← Lib.size_eq]; exact h)]
  congr 2
theorem val_next (T : ByteArray) (k : Nat) (h : k < T.size) (hd : isDig T[k] = true) :
    ((valD (T.data.toList.take (k + 1)) : Nat) : Int) = 10 * (valD (T.data.toList.take k) : Int) + ((T[k].toNat : Int) - 48) := by
  unfold isDig at hd
  rw [decide_eq_true_eq] at hd
  rw [take_next T k h, valD_snoc]
  omega
theorem val_rng (T : ByteArray) (k : Nat) (h : T.size ≤ 10) (hd : digB (T.data.toList.take k) = true) : valD (T.data.toList.take k) < 10000000000 := by
  have h1 := valD_lt _ hd
  have h2 : (T.data.toList.take k).length ≤ 10 := by rw [List.length_take, ← Lib.size_eq]; omega
  exact Nat.lt_of_lt_of_le h1 (Nat.pow_le_pow_right (by decide) h2)
theorem dig_next (T : ByteArray) (k : Nat) (h : k < T.size) (h1 : digB (T.data.toList.take k) = true) (h2 : isDig T[k] = true) : digB (T.data.toList.take (k + 1)) = true := by
  rw [take_next T k h, digB_snoc, h1, h2]; rfl
theorem dig_not (T : ByteArray) (k : Nat) (h : k < T.size) (h2 : isDig T[k] = false) : digB T.data.toList = false := by
  have hm : T[k] ∈ T.data.toList := by
    have := Lib.data_getElem? T k h
    exact List.mem_of_getElem? this
  cases e : digB T.data.toList with
  | false => rfl
  | true =>
    have := List.all_eq_true.1 e _ hm
    rw [h2] at this; cases this
theorem take_all (T : ByteArray) : T.data.toList.take T.size = T.data.toList := List.take_of_length_le (by rw [← Lib.size_eq]; exact Nat.le_refl _)

set_option maxRecDepth 100000 in
set_option maxHeartbeats 1600000 in
theorem num_plain (T : ByteArray) (w : World) (hneg : negL T.data.toList = false) :
    Calls Tryd.prog 29 #[.string T] w fun e w' => e = .returned (.tuple #[.int .i64 (numV T.data.toList), .bool (numK T.data.toList)]) ∧ w = w' := by
  have hmag : magL T.data.toList = T.data.toList := by unfold magL; rw [hneg]; rfl
  have HN := Lib.hid (fun (hb : badM T.data.toList false = true) => num_bad hmag hneg hb)
  have h45 : (hp : 0 < T.size) → ((T[0].toNat : Int) == 45) = false := fun hp => by
    unfold negL at hneg
    rw [byte_head T hp, beq_eq_false_iff_ne] at hneg
    rw [beq_eq_false_iff_ne]
    intro e
    apply hneg
    congr 1
    exact UInt8.toNat_inj.1 (by have : (45 : UInt8).toNat = 45 := rfl; omega)
  by_cases h0 : T.size = 0
  · have te : T.toList.isEmpty = true := by rw [empty_iff]; exact h0
    have te' : T.toList = [] := by rw [← List.isEmpty_iff]; exact te
    have HB := Lib.hid (HN.out (bad_empty h0))
    have hle : T.size ≤ 0 := by omega
    clear h0
    go_enter Tryd.func29, Tryd.ntmps29
    go_wp2
    go_ret2
    exact ⟨ret_ib2 HB.out.1.symm HB.out.2.symm, rfl⟩
  · have te : T.toList.isEmpty = false := by rw [Bool.eq_false_iff, ne_eq, empty_iff]; exact h0
    have te' : ¬ T.toList = [] := by rw [← List.isEmpty_iff, te]; exact fun e => by cases e
    have hp : 0 < T.size := by omega
    have h45' := h45 hp
    clear h45
    by_cases h10 : 10 < T.size
    · have HB := Lib.hid (HN.out (bad_long h10))
      clear h0
      go_enter Tryd.func29, Tryd.ntmps29
      go_wp2
      go_ret2
      exact ⟨ret_ib2 HB.out.1.symm HB.out.2.symm, rfl⟩
    · by_cases hz : T[0].toNat = 48 ∧ (1 < T.size ∨ False)
      · have HB := Lib.hid (HN.out (bad_zero hp hz.1 (.inl (by rcases hz.2 with h | h; exact h; exact h.elim))))
        have tz : ((T[0].toNat : Int) == 48) = true := by rw [beq_iff_eq]; have := hz.1; omega
        have t1 : 1 < T.size := by rcases hz.2 with h | h; exact h; exact h.elim
        clear h0 hz
        go_enter Tryd.func29, Tryd.ntmps29
        go_wp2
        go_ret2
        exact ⟨ret_ib2 HB.out.1.symm HB.out.2.symm, rfl⟩
      · have hb : badM T.data.toList false = false := bad_not hp h10 (fun h => hz ⟨h.1, h.2.elim .inl (fun e => by cases e)⟩)
        have ND := Lib.hid (fun hd => num_nodig hmag hneg hb hd)
        have YD := Lib.hid (fun hd => num_dig hmag hneg hb hd)
        by_cases h48 : T[0].toNat = 48
        · have tz : ((T[0].toNat : Int) == 48) = true := by rw [beq_iff_eq]; omega
          have ts : T.size ≤ 1 := by
            rcases Nat.lt_or_ge 1 T.size with h | h
            · exact absurd ⟨h48, .inl h⟩ hz
            · exact h
          clear h0 hz h48 hb
          go_enter Tryd.func29, Tryd.ntmps29
          go_wp2_with fail
          go_loop [5, 6] (fun n i => ∃ k : Nat, k ≤ T.size ∧ i = .int .i64 k ∧ n = .int .i64 ((valD (T.data.toList.take k) : Nat) : Int) ∧ digB (T.data.toList.take k) = true) (fun _ i => T.size - (intOf i).toNat)
          case atStart => exact ⟨0, Nat.zero_le _, rfl, rfl, rfl⟩
          case round =>
            obtain ⟨k, hk, rfl, rfl, hd⟩ := hrel
            have hv := val_rng T k (by omega) hd
            have hv0 : ((valD (T.data.toList.take k) : Nat) : Int) < 10000000000 := by omega
            have hv1 : (0 : Int) ≤ ((valD (T.data.toList.take k) : Nat) : Int) := Int.natCast_nonneg _
            have HD := Lib.hid hd
            clear hd hv tz h45' te te' hmag hneg HN
            by_cases hlt : k < T.size
            · have VN := fun h => val_next T k hlt h
              have DN := Lib.hid (fun h => dig_next T k hlt HD.out h)
              have NN := fun h => ND.out (dig_not T k hlt h)
              have hb : isDig T[k] = decide (48 ≤ (T[k].toNat : Int) ∧ (T[k].toNat : Int) ≤ 57) := by unfold isDig; exact decide_eq_decide.2 ⟨fun h => by omega, fun h => by omega⟩
              rw [hb] at VN DN NN
              generalize hx : (T[k].toNat : Int) = x at VN DN NN hb
              have x0 : 0 ≤ x := by omega
              have x1 : x ≤ 255 := by have := UInt8.toNat_lt T[k]; omega
              have VN' := Lib.hid VN
              have NN' := Lib.hid NN
              clear hb VN NN
              by_cases h48 : x < 48
              · have HV := Lib.hid (NN'.out (by rw [decide_eq_false_iff_not]; omega))
                go_wp2
                go_ret2
                exact ⟨ret_ib2 HV.out.1.symm HV.out.2.symm, rfl⟩
              · by_cases h57 : 57 < x
                · have HV := Lib.hid (NN'.out (by rw [decide_eq_false_iff_not]; omega))
                  go_wp2
                  go_ret2
                  exact ⟨ret_ib2 HV.out.1.symm HV.out.2.symm, rfl⟩
                · have hdg : decide (48 ≤ x ∧ x ≤ 57) = true := by rw [decide_eq_true_eq]; omega
                  have HV := Lib.hid (VN'.out hdg)
                  have HX := Lib.hid (DN.out hdg)
                  clear hdg
                  go_wp2
                  go_round
                  case rel => exact ⟨k + 1, by omega, by go_num, by rw [HV.out], HX.out⟩
                  case measure => simp [intOf]; omega
            · obtain rfl : k = T.size := by omega
              rw [take_all] at HD hv0 hv1 ⊢
              have HV := Lib.hid (YD.out HD.out)
              go_wp2
              go_ret2
              exact ⟨ret_ib2 (by rw [HV.out.1]; simp) HV.out.2.symm, rfl⟩
        · have tz : ((T[0].toNat : Int) == 48) = false := by rw [beq_eq_false_iff_ne]; omega
          clear h0 hz h48 hb
          go_enter Tryd.func29, Tryd.ntmps29
          go_wp2_with fail
          go_loop [5, 6] (fun n i => ∃ k : Nat, k ≤ T.size ∧ i = .int .i64 k ∧ n = .int .i64 ((valD (T.data.toList.take k) : Nat) : Int) ∧ digB (T.data.toList.take k) = true) (fun _ i => T.size - (intOf i).toNat)
          case atStart => exact ⟨0, Nat.zero_le _, rfl, rfl, rfl⟩
          case round =>
            obtain ⟨k, hk, rfl, rfl, hd⟩ := hrel
            have hv := val_rng T k (by omega) hd
            have hv0 : ((valD (T.data.toList.take k) : Nat) : Int) < 10000000000 := by omega
            have hv1 : (0 : Int) ≤ ((valD (T.data.toList.take k) : Nat) : Int) := Int.natCast_nonneg _
            have HD := Lib.hid hd
            clear hd hv tz h45' te te' hmag hneg HN
            by_cases hlt : k < T.size
            · have VN := fun h => val_next T k hlt h
              have DN := Lib.hid (fun h => dig_next T k hlt HD.out h)
              have NN := fun h => ND.out (dig_not T k hlt h)
              have hb : isDig T[k] = decide (48 ≤ (T[k].toNat : Int) ∧ (T[k].toNat : Int) ≤ 57) := by unfold isDig; exact decide_eq_decide.2 ⟨fun h => by omega, fun h => by omega⟩
              rw [hb] at VN DN NN
              generalize hx : (T[k].toNat : Int) = x at VN DN NN hb
              have x0 : 0 ≤ x := by omega
              have x1 : x ≤ 255 := by have := UInt8.toNat_lt T[k]; omega
              have VN' := Lib.hid VN
              have NN' := Lib.hid NN
              clear hb VN NN
              by_cases h48 : x < 48
              · have HV := Lib.hid (NN'.out (by rw [decide_eq_false_iff_not]; omega))
                go_wp2
                go_ret2
                exact ⟨ret_ib2 HV.out.1.symm HV.out.2.symm, rfl⟩
              · by_cases h57 : 57 < x
                · have HV := Lib.hid (NN'.out (by rw [decide_eq_false_iff_not]; omega))
                  go_wp2
                  go_ret2
                  exact ⟨ret_ib2 HV.out.1.symm HV.out.2.symm, rfl⟩
                · have hdg : decide (48 ≤ x ∧ x ≤ 57) = true := by rw [decide_eq_true_eq]; omega
                  have HV := Lib.hid (VN'.out hdg)
                  have HX := Lib.hid (DN.out hdg)
                  clear hdg
                  go_wp2
                  go_round
                  case rel => exact ⟨k + 1, by omega, by go_num, by rw [HV.out], HX.out⟩
                  case measure => simp [intOf]; omega
            · obtain rfl : k = T.size := by omega
              rw [take_all] at HD hv0 hv1 ⊢
              have HV := Lib.hid (YD.out HD.out)
              go_wp2
              go_ret2
              exact ⟨ret_ib2 (by rw [HV.out.1]; simp) HV.out.2.symm, rfl⟩
set_option maxRecDepth 100000 in
set_option maxHeartbeats 1600000 in
theorem num_neg (s : ByteArray) (w : World) (hneg : negL s.data.toList = true) (hs : s.size ≤ 4000000000) :
    Calls Tryd.prog 29 #[.string s] w fun e w' => e = .returned (.tuple #[.int .i64 (numV s.data.toList), .bool (numK s.data.toList)]) ∧ w = w' := by
  have hp0 : 0 < s.size := by
    rcases Nat.eq_zero_or_pos s.size with h | h
    · have e : s.data.toList = [] := List.length_eq_zero_iff.1 (by rw [← Lib.size_eq]; exact h)
      rw [e] at hneg; cases hneg
    · exact h
  have s45 : ((s[0].toNat : Int) == 45) = true := by
    have h := hneg
    unfold negL at h
    rw [byte_head s hp0, beq_iff_eq] at h
    injection h with h
    rw [beq_iff_eq, h]; rfl
  have hmag : magL s.data.toList = (s.extract 1 s.size).data.toList := by
    unfold magL; rw [hneg, Lib.extract_to_end]; simp
  have hsz : (s.extract 1 s.size).size ≤ 4000000000 := by simp; omega
  generalize hT : s.extract 1 s.size = T at *
  have HN := Lib.hid (fun (hb : badM T.data.toList true = true) => num_bad hmag hneg hb)
  by_cases h0 : T.size = 0
  · have te : T.toList.isEmpty = true := by rw [empty_iff]; exact h0
    have te' : T.toList = [] := by rw [← List.isEmpty_iff]; exact te
    have HB := Lib.hid (HN.out (bad_empty h0))
    have hle : T.size ≤ 0 := by omega
    clear h0
    go_enter Tryd.func29, Tryd.ntmps29
    go_wp2
    go_ret2
    exact ⟨ret_ib2 HB.out.1.symm HB.out.2.symm, rfl⟩
  · have te : T.toList.isEmpty = false := by rw [Bool.eq_false_iff, ne_eq, empty_iff]; exact h0
    have te' : ¬ T.toList = [] := by rw [← List.isEmpty_iff, te]; exact fun e => by cases e
    have hp : 0 < T.size := by omega
    by_cases h10 : 10 < T.size
    · have HB := Lib.hid (HN.out (bad_long h10))
      clear h0
      go_enter Tryd.func29, Tryd.ntmps29
      go_wp2
      go_ret2
      exact ⟨ret_ib2 HB.out.1.symm HB.out.2.symm, rfl⟩
    · by_cases hz : T[0].toNat = 48
      · have HB := Lib.hid (HN.out (bad_zero hp hz (.inr rfl)))
        have tz : ((T[0].toNat : Int) == 48) = true := by rw [beq_iff_eq]; omega
        clear h0 hz
        go_enter Tryd.func29, Tryd.ntmps29
        go_wp2
        all_goals (go_ret2; exact ⟨ret_ib2 HB.out.1.symm HB.out.2.symm, rfl⟩)
      · have hb : badM T.data.toList true = false := bad_not hp h10 (fun h => hz h.1)
        have ND := Lib.hid (fun hd => num_nodig hmag hneg hb hd)
        have YD := Lib.hid (fun hd => num_dig hmag hneg hb hd)
        have tz : ((T[0].toNat : Int) == 48) = false := by rw [beq_eq_false_iff_ne]; omega
        clear h0 hz hb
        go_enter Tryd.func29, Tryd.ntmps29
        go_wp2_with fail
        go_loop [5, 6] (fun n i => ∃ k : Nat, k ≤ T.size ∧ i = .int .i64 k ∧ n = .int .i64 ((valD (T.data.toList.take k) : Nat) : Int) ∧ digB (T.data.toList.take k) = true) (fun _ i => T.size - (intOf i).toNat)
        case atStart => exact ⟨0, Nat.zero_le _, rfl, rfl, rfl⟩
        case round =>
          obtain ⟨k, hk, rfl, rfl, hd⟩ := hrel
          have hv := val_rng T k (by omega) hd
          have hv0 : ((valD (T.data.toList.take k) : Nat) : Int) < 10000000000 := by omega
          have hv1 : (0 : Int) ≤ ((valD (T.data.toList.take k) : Nat) : Int) := Int.natCast_nonneg _
          have HD := Lib.hid hd
          clear hd hv tz s45 te te' hmag hneg HN hT
          by_cases hlt : k < T.size
          · have VN := fun h => val_next T k hlt h
            have DN := Lib.hid (fun h => dig_next T k hlt HD.out h)
            have NN := fun h => ND.out (dig_not T k hlt h)
            have hb : isDig T[k] = decide (48 ≤ (T[k].toNat : Int) ∧ (T[k].toNat : Int) ≤ 57) := by unfold isDig; exact decide_eq_decide.2 ⟨fun h => by omega, fun h => by omega⟩
            rw [hb] at VN DN NN
            generalize hx : (T[k].toNat : Int) = x at VN DN NN hb
            have x0 : 0 ≤ x := by omega
            have x1 : x ≤ 255 := by have := UInt8.toNat_lt T[k]; omega
            have VN' := Lib.hid VN
            have NN' := Lib.hid NN
            clear hb VN NN
            by_cases h48 : x < 48
            · have HV := Lib.hid (NN'.out (by rw [decide_eq_false_iff_not]; omega))
              go_wp2
              go_ret2
              exact ⟨ret_ib2 HV.out.1.symm HV.out.2.symm, rfl⟩
            · by_cases h57 : 57 < x
              · have HV := Lib.hid (NN'.out (by rw [decide_eq_false_iff_not]; omega))
                go_wp2
                go_ret2
                exact ⟨ret_ib2 HV.out.1.symm HV.out.2.symm, rfl⟩
              · have hdg : decide (48 ≤ x ∧ x ≤ 57) = true := by rw [decide_eq_true_eq]; omega
                have HV := Lib.hid (VN'.out hdg)
                have HX := Lib.hid (DN.out hdg)
                clear hdg
                go_wp2
                go_round
                case rel => exact ⟨k + 1, by omega, by go_num, by rw [HV.out], HX.out⟩
                case measure => simp [intOf]; omega
          · obtain rfl : k = T.size := by omega
            rw [take_all] at HD hv0 hv1 ⊢
            have HV := Lib.hid (YD.out HD.out)
            go_wp2
            go_ret2
            exact ⟨ret_ib2 (by rw [HV.out.1]; simp) HV.out.2.symm, rfl⟩
theorem number_any (s : ByteArray) (w : World) (hs : s.size ≤ 4000000000) :
    Calls Tryd.prog 29 #[.string s] w fun e w' => e = .returned (.tuple #[.int .i64 (numV s.data.toList), .bool (numK s.data.toList)]) ∧ w = w' := by
  cases h : negL s.data.toList with
  | false => exact num_plain s w h
  | true => exact num_neg s w h hs
end Go.Proofs.YtnhophjahjphiaaDoor
