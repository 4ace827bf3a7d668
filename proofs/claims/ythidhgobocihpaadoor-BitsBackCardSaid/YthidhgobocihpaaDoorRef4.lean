/- Contracts of the document's Bare, Data, Same, Lowest, Number. -/
import Derived.Test.YthidhgobocihpaaDoorRef3
namespace Go.Proofs.YthidhgobocihpaaDoor
open Go.RowKit Go.Lib
set_option linter.unusedVariables false

theorem bareT (l : List UInt8) : bareF true l = bareF false (l.drop 1) := by
  cases l with
  | nil => rfl
  | cons c l => rw [bareF, if_pos rfl]; rfl
theorem getD_at {l : List UInt8} {k : Nat} (h : k < l.length) : l.getD k 0 = l[k] := by rw [List.getD_eq_getElem?_getD, List.getElem?_eq_getElem h]; rfl
theorem bare_yes {l : List UInt8} {k : Nat} (h : k < l.length) (h5 : bt l k = 255) : bareF false (l.drop k) = [l.getD k 0] ++ bareF false (l.drop (k + 2)) := by
  rw [drop_cons l k h, bareF, if_neg (by simp), decide_eq_true ((bt_255 h).1 h5), bareT, List.drop_drop, getD_at h]
  rfl
theorem bare_no {l : List UInt8} {k : Nat} (h : k < l.length) (h5 : ¬ bt l k = 255) : bareF false (l.drop k) = [l.getD k 0] ++ bareF false (l.drop (k + 1)) := by
  rw [drop_cons l k h, bareF, if_neg (by simp), decide_eq_false ((not_congr (bt_255 h)).1 h5), getD_at h]
  rfl
set_option maxHeartbeats 800000 in
theorem rBare_any (l : List UInt8) (A : Option Addr) (c : Nat) (w : World) (hr : Rd w A l) (hl : l.length ≤ 100000000) :
    Calls Tryd.prog 18 #[.slice A l.length c] w fun e w' => ∃ v, e = .returned v ∧ Ob w' w.heap.size v (bareF false l) ∧ Below w.heap.size w w' := by
  go_enter Tryd.func18, Tryd.ntmps18
  go_wp2
  go_loopw [3, 4] (fun o i wr => ∃ (k : Nat) (v : Value) (acc : List UInt8), k ≤ l.length + 1 ∧ i = .int .i64 k ∧ v = o ∧ acc.length ≤ k ∧ Hid (acc ++ bareF false (l.drop k) = bareF false l) ∧ Hid (Ob wr w.heap.size v acc) ∧ Hid (Below w.heap.size w wr)) (fun _ i _ => l.length + 1 - (RowKit.intOf i).toNat)
  case atStart => exact ⟨0, _, [], Nat.zero_le _, rfl, rfl, Nat.le_refl _, (show Hid _ from by show _ = _; simp), Ob.nil _ _, Below.refl _ _⟩
  case round =>
    obtain ⟨k, v, acc, hk, rfl, rfl, hal, HE, HO, HB⟩ := hrel
    by_cases hlt : k < l.length
    · obtain ⟨b, o, rfl, hc⟩ := hr.at (by omega)
      have e1 := cell_later HB.out (hc k hlt)
      have z := HB.out.size
      have r1 := Lib.hid (Rd.one wr 5 (bt l k) (l.getD k 0) rfl)
      have HO1 := Lib.hid (HO.out.alloc (.cells #[.int .u8 (bt l k)] 5))
      have HB1 := Lib.hid (HB.out.alloc z (.cells #[.int .u8 (bt l k)] 5))
      clear HO HB hc
      by_cases h5 : bt l k = 255
      · have hq : (bt l k == 255) = true := by rw [h5]; rfl
        have hst := Lib.hid (bare_yes hlt h5)
        clear h5
        go_wp2_with (
          ((with_reducible refine wpList_appB _ rfl (.tmp 11) (.tmp 16) rfl w.heap.size v acc rfl HO1.out (some ⟨wr.heap.size, 0, none⟩) 1 1 [l.getD k 0] rfl rfl r1.out (by simp; omega) (by simp; omega) ?_)
           intro v1 w1 ho1 hg1 _
           have HB2 := Lib.hid (HO1.out.grown HB1.out hg1 (by simp; omega))
           have e2 := cell_later HB2.out (hr.at' k hlt)
           have HO2 := Lib.hid ho1
           clear ho1 hg1 HO1 HB1 r1))
        go_roundw
        case rel => exact ⟨k + 2, v1, acc ++ [l.getD k 0], by omega, by go_num, rfl, by rw [List.length_append]; simp; omega, (show Hid _ from by show _ = _; rw [List.append_assoc, ← hst.out]; exact HE.out), HO2, HB2⟩
        case measure => simp [RowKit.intOf]; omega
      · have hq : (bt l k == 255) = false := by rw [beq_eq_false_iff_ne]; exact h5
        have hst := Lib.hid (bare_no hlt h5)
        clear h5
        go_wp2_with (
          ((with_reducible refine wpList_appB _ rfl (.tmp 11) (.tmp 16) rfl w.heap.size v acc rfl HO1.out (some ⟨wr.heap.size, 0, none⟩) 1 1 [l.getD k 0] rfl rfl r1.out (by simp; omega) (by simp; omega) ?_)
           intro v1 w1 ho1 hg1 _
           have HB2 := Lib.hid (HO1.out.grown HB1.out hg1 (by simp; omega))
           have e2 := cell_later HB2.out (hr.at' k hlt)
           have HO2 := Lib.hid ho1
           clear ho1 hg1 HO1 HB1 r1))
        go_roundw
        case rel => exact ⟨k + 1, v1, acc ++ [l.getD k 0], by omega, by go_num, rfl, by rw [List.length_append]; simp; omega, (show Hid _ from by show _ = _; rw [List.append_assoc, ← hst.out]; exact HE.out), HO2, HB2⟩
        case measure => simp [RowKit.intOf]; omega
    · have e : acc = bareF false l := by
        have := HE.out
        rwa [List.drop_eq_nil_of_le (by omega), bareF, List.append_nil] at this
      rw [e] at HO
      clear e HE
      go_wp2
      go_ret
      exact ⟨v, rfl, HO.out, HB.out⟩

theorem dat_end {l : List UInt8} {k : Nat} (h : k < l.length) (h5 : bt l k = 255) (hn : ¬ (k + 1 < l.length ∧ bt l (k + 1) = 0)) : dat (l.drop k) = 0 := by
  rw [drop_cons l k h]
  refine dat_no ⟨(bt_255 h).1 h5, fun e => hn ?_⟩
  rcases Nat.lt_or_ge (k + 1) l.length with h1 | h1
  · rw [drop_cons l (k + 1) h1] at e
    exact ⟨h1, (bt_0 h1).2 (by simpa only [List.head?_cons, Option.some.injEq] using e)⟩
  · rw [List.drop_eq_nil_of_le h1] at e
    cases e
theorem dat_two {l : List UInt8} {k : Nat} (h : k + 1 < l.length) (h5 : bt l k = 255) (h0 : bt l (k + 1) = 0) : dat (l.drop k) = 2 + dat (l.drop (k + 2)) := by
  have e0 : l[k + 1] = 0 := (bt_0 h).1 h0
  rw [drop_cons l k (by omega), drop_cons l (k + 1) h, e0, dat_yes (by simp), dat_zero_cons, Nat.add_assoc k 1 1]
  omega
theorem dat_one {l : List UInt8} {k : Nat} (h : k < l.length) (h5 : ¬ bt l k = 255) : dat (l.drop k) = 1 + dat (l.drop (k + 1)) := by
  rw [drop_cons l k h, dat_yes (by intro e; exact (not_congr (bt_255 h)).1 h5 e.1)]
theorem rData_any (l : List UInt8) (A : Option Addr) (c : Nat) (w : World) (hr : Rd w A l) (hl : l.length ≤ 100000000) :
    Calls Tryd.prog 17 #[.slice A l.length c] w fun e w' => e = .returned (.int .i64 (dat l)) ∧ w = w' := by
  go_enter Tryd.func17, Tryd.ntmps17
  go_wp2
  go_loop [3] (fun i => ∃ k : Nat, k ≤ l.length ∧ i = .int .i64 k ∧ Hid (dat l = k + dat (l.drop k))) (fun i => l.length - (RowKit.intOf i).toNat)
  case atStart => exact ⟨0, Nat.zero_le _, rfl, (show Hid _ from by show _ = _; simp)⟩
  case round =>
    obtain ⟨k, hk, rfl, HD⟩ := hrel
    by_cases hlt : k < l.length
    · obtain ⟨b, o, rfl, hc⟩ := hr.at (by omega)
      have e1 := hc k hlt
      by_cases h5 : bt l k = 255
      · have hq : (bt l k == 255) = true := by rw [h5]; rfl
        by_cases h1 : k + 1 < l.length
        · have e2 := hc (k + 1) h1
          have hg : decide ((l.length : Int) ≤ (k : Int) + 1) = false := by rw [decide_eq_false_iff_not]; omega
          by_cases h0 : bt l (k + 1) = 0
          · have hq2 : (bt l (k + 1) != 0) = false := by rw [h0]; rfl
            have HS := Lib.hid (dat_two h1 h5 h0)
            clear h5 h0 hc
            go_wp2
            go_round
            case rel => exact ⟨k + 2, by omega, by go_num, (show Hid _ from by show _ = _; rw [HD.out, HS.out]; omega)⟩
            case measure => simp [RowKit.intOf]; omega
          · have hq2 : (bt l (k + 1) != 0) = true := by rw [bne_iff_ne]; exact h0
            have HS := Lib.hid (dat_end hlt h5 (fun h => h0 h.2))
            clear h5 h0 hc
            go_wp2
            go_ret
            exact ⟨ret_int (by rw [HD.out, HS.out]; simp), rfl⟩
        · have hg : decide ((l.length : Int) ≤ (k : Int) + 1) = true := by rw [decide_eq_true_iff]; omega
          have HS := Lib.hid (dat_end hlt h5 (fun h => h1 h.1))
          clear h5 hc
          go_wp2
          go_ret
          exact ⟨ret_int (by rw [HD.out, HS.out]; simp), rfl⟩
      · have hq : (bt l k == 255) = false := by rw [beq_eq_false_iff_ne]; exact h5
        have HS := Lib.hid (dat_one hlt h5)
        clear h5 hc
        go_wp2
        go_round
        case rel => exact ⟨k + 1, by omega, by go_num, (show Hid _ from by show _ = _; rw [HD.out, HS.out]; omega)⟩
        case measure => simp [RowKit.intOf]; omega
    · have hk2 : Hid (dat l = l.length) := by
        show _ = _
        rw [HD.out, List.drop_eq_nil_of_le (by omega)]
        simp [dat]
        omega
      go_wp2
      go_ret
      exact ⟨ret_int (by rw [hk2.out]), rfl⟩
theorem same_any (l m : List UInt8) (A B : Option Addr) (c d : Nat) (w : World) (ha : Rd w A l) (hb : Rd w B m) :
    Calls Tryd.prog 11 #[.slice A l.length c, .slice B m.length d] w fun e w' => e = .returned (.bool (decide (l = m))) ∧ w = w' := by
  have h1 := run_strB w l A c ha
  have h2 := run_strB w m B d hb
  go_enter Tryd.func11, Tryd.ntmps11
  go_wp2
  go_ret
  refine ⟨ret_bool ?_, rfl⟩
  by_cases h : l = m
  · subst h; simp
  · simp [h]
end Go.Proofs.YthidhgobocihpaaDoor
