/- The law BitsWrites: it returns true, whatever deeds; its walk by the contracts of what it calls. -/
import Derived.Test.YthidhgobocihpaaDoorWrites
namespace Go.Proofs.YthidhgobocihpaaDoor
open Go.RowKit Go.Lib
set_option linter.unusedVariables false

theorem lowest_at (x : Int) (m : Nat) (w : World) (hm : m ≤ 16) :
    Calls Tryd.prog 9 #[.int .i64 x, .int .i64 m] w fun e w' => ∃ A c, e = .returned (.slice A m c) ∧ Ri w' A (lo x m) ∧ Below w.heap.size w w' := by
  refine (lowest_any x m w hm).mono ?_
  rintro e w' ⟨u, rfl, ho, hb⟩
  obtain ⟨A, c, rfl, _, _, r, _, _⟩ := ho.open
  rw [lo_len]
  exact ⟨A, c, rfl, r, hb⟩
set_option maxRecDepth 100000 in
set_option maxHeartbeats 1600000 in
theorem writes_near (l : List (Int × Int)) (A : Option Addr) (c : Nat) (w : World) (hw : Env w) (hr : Pz w A l) (hl : l.length ≤ 200) :
    Calls Tryd.prog 3 #[.slice A l.length c] w fun e w' => e = .returned (.bool true) ∧ Below w.heap.size w w' := by
  have S0 : Hid (St (w.alloc (.cells #[.slice none 0 0, .int .u32 0, .int .i64 0] 27)) w.heap.size w.heap.size [] [] (.slice none 0 0)) := ⟨none, Wtr.fresh w _, Oi.nil _ _, by simp [Value.ownBlock], fun k h => by cases h⟩
  have B0 := Lib.hid ((Below.refl w.heap.size w).alloc (Nat.le_refl _) (.cells #[.slice none 0 0, .int .u32 0, .int .i64 0] 27))
  go_enter Tryd.func3, Tryd.ntmps3
  go_wp2
  go_loopw [4, 5] (fun s4 s5 wr => ∃ (k : Nat) (v : Value), k ≤ l.length ∧ s5 = .int .i64 k ∧ v = s4 ∧ Hid (St wr w.heap.size w.heap.size (deeds (l.take k)) (deeds (l.take k)) v) ∧ Hid (Below w.heap.size w wr)) (fun _ i _ => l.length - (RowKit.intOf i).toNat)
  case atStart => exact ⟨0, _, Nat.zero_le _, rfl, rfl, S0, B0⟩
  case round =>
    clear S0 B0
    obtain ⟨k, v, hk, rfl, rfl, HS, HB⟩ := hrel
    by_cases hlt : k < l.length
    · obtain ⟨b, o, rfl, hbw, hc⟩ := hr.at hlt
      obtain ⟨B, hB⟩ : ∃ B, B = deeds (l.take k) := ⟨_, rfl⟩
      have hBl : B.length ≤ 3200 := by rw [hB]; have := deeds_len (l.take k); have := List.length_take_le k l; omega
      have hsu := deeds_succ l k hlt
      rw [← hB] at HS hsu
      obtain ⟨⟨x, n⟩, hd⟩ : ∃ d, l.getD k (0, 0) = d := ⟨_, rfl⟩
      have hcc := hc k hlt
      rw [hd] at hcc hsu
      simp only at hcc
      have HC := Lib.hid hcc
      have c1 := cell_later HB.out hcc.1
      have c2 := cell_later HB.out hcc.2
      have HBB := Lib.hid hB
      have HSU := Lib.hid hsu
      have z := HB.out.size
      clear hc hd hB hsu hcc
      by_cases h0 : 0 ≤ n
      · by_cases h16 : n ≤ 16
        · obtain ⟨m, rfl⟩ := Int.eq_ofNat_of_zero_le h0
          have hm : m ≤ 16 := by omega
          have hq : decide ((m : Int) ≤ 16) = true := by rw [decide_eq_true_iff]; omega
          have HD := Lib.hid (deed_yes x m hm)
          clear h0 h16
          go_wp2
          have HS2 := St.on HS ((Below.refl wr.heap.size wr).drew)
          have HB2 := Lib.hid HB.out.drew
          go_region_held3 (fun w' => w'.cell? ⟨b, o + k * 2, none⟩ = some (.int .i64 x) ∧ w'.cell? ⟨b, o + k * 2 + 1, none⟩ = some (.int .i64 m)) (first | go_keep | exact ⟨d1, d2⟩)
            (first | ((with_reducible refine (St.put x m HS2 hm (by omega) HB2.out.size).mono ?_); rintro e w1 ⟨rfl, S1, h1⟩; have B1 := Lib.hid (HB2.out.trans h1); have d1 := cell_later B1.out HC.out.1; have d2 := cell_later B1.out HC.out.2; have z1 := B1.out.size; clear h1 c1 c2 HS HB HS2 HB2))
          go_wp2
          have S2 := St.on S1 ((Below.refl w1.heap.size w1).drew)
          have B2 := Lib.hid B1.out.drew
          go_region_held3 (fun w' => w'.cell? ⟨b, o + k * 2, none⟩ = some (.int .i64 x) ∧ w'.cell? ⟨b, o + k * 2 + 1, none⟩ = some (.int .i64 m)) (first | go_keep | exact ⟨f1, f2⟩ | exact ⟨g1, g2⟩)
            (first
              | (refine step_appI (by rfl) (.tmp 45) (.tmp 56) (by rfl) w.heap.size v (.slice A2 m c3) B (by go_simp) A2 m c3 (lo x m) (by go_simp) rfl (by rw [lo_len]) (St.oi S3) r3 (by rw [lo_len]; omega) z3 ?_; intro v4 w4 ho4 hg4 hv4; have B4 := Lib.hid ((St.oi S3).grown B3.out hg4 z3); have S4 := St.grown S3 ho4 hg4 hv4; have g1 := cell_later B4.out HC.out.1; have g2 := cell_later B4.out HC.out.2; clear ho4 hg4 hv4 S3 B3 r3)
              | ((with_reducible refine (lowest_at x m _ hm).mono ?_); rintro e w3 ⟨A2, c3, rfl, r3, h3⟩; have S3 := St.on S2 h3; have B3 := Lib.hid (B2.out.trans (h3.mono B2.out.size)); have z3 := B3.out.size; have f1 := cell_later B3.out HC.out.1; have f2 := cell_later B3.out HC.out.2; clear h3 S1 S2 B1 B2 d1 d2))
          obtain ⟨D, hD⟩ : ∃ D, D = B ++ lo x m := ⟨_, rfl⟩
          have hDl : D.length ≤ 3216 := by rw [hD, List.length_append, lo_len]; omega
          rw [← hD] at S4
          have HDD := Lib.hid hD
          clear hD
          obtain ⟨A4, c4, rfl, _, _, _, _, _⟩ := (St.oi S4).open
          clear g1 g2
          go_wp2_with fail
          (with_reducible refine (len_at w.heap.size w.heap.size D (D.length : Int) _ (St.wt S4) rfl).mono ?_); rintro e w5 ⟨rfl, rfl⟩
          obtain ⟨R, hR⟩ : ∃ R, stf (pack (pad D)) = R := ⟨_, rfl⟩
          have HR := Lib.hid hR
          have hbit : Bit D := St.bit S4
          have z4 := B4.out.size
          clear hR
          go_wp2_with fail
          (with_reducible refine (done_at w.heap.size w.heap.size D R R.length _ (hw.below B4.out) (St.wt S4) (by omega) HR rfl).mono ?_); rintro e w6 ⟨A6, c6, rfl, r6, _, _, h6⟩
          have S6 := St.on S4 h6
          have B6 := Lib.hid (B4.out.trans (h6.mono z4))
          have z6 := B6.out.size
          have ri := Lib.hid (St.ri S6)
          clear h6 S4 B4
          go_wp2_with fail
          (with_reducible refine (rBytes_any D A4 c4 _ ri.out hbit (by omega)).mono ?_); rintro e w7 ⟨v7, rfl, ho7, h7⟩
          have S7 := St.on S6 h7
          have B7 := Lib.hid (B6.out.trans (h7.mono z6))
          have z7 := B7.out.size
          have r7 := Lib.hid (r6.below h7)
          rw [HR.out] at ho7
          obtain ⟨A7, c7, rfl, _, _, q7, _, _⟩ := ho7.open'
          have Q7 := Lib.hid q7
          clear h7 S6 B6 r6 ho7 q7 ri
          go_wp2_with fail
          (with_reducible refine (same_at R A6 A7 R.length c6 c7 _ rfl r7.out Q7.out).mono ?_); rintro e w8 ⟨rfl, rfl⟩
          go_wp2
          go_roundw
          case rel => exact ⟨k + 1, _, by omega, by go_num, rfl, (show Hid _ from by show St _ _ _ _ _ _; rw [HSU.out, HD.out, ← HDD.out]; exact S7.out), B7⟩
          case measure => simp [RowKit.intOf]; omega
        · have hq : decide (n ≤ 16) = false := by rw [decide_eq_false_iff_not]; omega
          have HD := Lib.hid (deed_no (d := (x, n)) (by simp; omega))
          have hbad := fun W => put_bad w.heap.size x n W (.inr (by omega))
          go_wp2
          have S2 := St.on HS ((Below.refl wr.heap.size wr).drew)
          have B2 := Lib.hid HB.out.drew
          clear h0 h16 HS HB
          go_region_held3 (fun w' => w'.cell? ⟨b, o + k * 2, none⟩ = some (.int .i64 x) ∧ w'.cell? ⟨b, o + k * 2 + 1, none⟩ = some (.int .i64 n)) (first | go_keep)
            (first | ((with_reducible refine (hbad _).mono ?_); rintro e w1 ⟨rfl, rfl⟩))
          obtain ⟨D, hD⟩ : ∃ D, D = B := ⟨_, rfl⟩
          have hDl : D.length ≤ 3216 := by rw [hD]; omega
          rw [← hD] at S2
          have HDD := Lib.hid hD
          have S4 := S2
          have B4 := B2
          clear hD S2 B2
          obtain ⟨A4, c4, rfl, _, _, _, _, _⟩ := (St.oi S4).open
          go_wp2_with fail
          (with_reducible refine (len_at w.heap.size w.heap.size D (D.length : Int) _ (St.wt S4) rfl).mono ?_); rintro e w5 ⟨rfl, rfl⟩
          obtain ⟨R, hR⟩ : ∃ R, stf (pack (pad D)) = R := ⟨_, rfl⟩
          have HR := Lib.hid hR
          have hbit : Bit D := St.bit S4
          have z4 := B4.out.size
          clear hR
          go_wp2_with fail
          (with_reducible refine (done_at w.heap.size w.heap.size D R R.length _ (hw.below B4.out) (St.wt S4) (by omega) HR rfl).mono ?_); rintro e w6 ⟨A6, c6, rfl, r6, _, _, h6⟩
          have S6 := St.on S4 h6
          have B6 := Lib.hid (B4.out.trans (h6.mono z4))
          have z6 := B6.out.size
          have ri := Lib.hid (St.ri S6)
          clear h6 S4 B4
          go_wp2_with fail
          (with_reducible refine (rBytes_any D A4 c4 _ ri.out hbit (by omega)).mono ?_); rintro e w7 ⟨v7, rfl, ho7, h7⟩
          have S7 := St.on S6 h7
          have B7 := Lib.hid (B6.out.trans (h7.mono z6))
          have z7 := B7.out.size
          have r7 := Lib.hid (r6.below h7)
          rw [HR.out] at ho7
          obtain ⟨A7, c7, rfl, _, _, q7, _, _⟩ := ho7.open'
          have Q7 := Lib.hid q7
          clear h7 S6 B6 r6 ho7 q7 ri
          go_wp2_with fail
          (with_reducible refine (same_at R A6 A7 R.length c6 c7 _ rfl r7.out Q7.out).mono ?_); rintro e w8 ⟨rfl, rfl⟩
          go_wp2
          go_roundw
          case rel => exact ⟨k + 1, _, by omega, by go_num, rfl, (show Hid _ from by show St _ _ _ _ _ _; rw [HSU.out, HD.out, List.append_nil, ← HDD.out]; exact S7.out), B7⟩
          case measure => simp [RowKit.intOf]; omega
      · have hn0 : n < 0 := by omega
        have HD := Lib.hid (deed_no (d := (x, n)) (by simp; omega))
        have hbad := fun W => put_bad w.heap.size x n W (.inl hn0)
        clear h0
        go_wp2
        have S2 := St.on HS ((Below.refl wr.heap.size wr).drew)
        have B2 := Lib.hid HB.out.drew
        clear HS HB
        go_region_held3 (fun w' => w'.cell? ⟨b, o + k * 2, none⟩ = some (.int .i64 x) ∧ w'.cell? ⟨b, o + k * 2 + 1, none⟩ = some (.int .i64 n)) (first | go_keep)
          (first | ((with_reducible refine (hbad _).mono ?_); rintro e w1 ⟨rfl, rfl⟩))
        obtain ⟨D, hD⟩ : ∃ D, D = B := ⟨_, rfl⟩
        have hDl : D.length ≤ 3216 := by rw [hD]; omega
        rw [← hD] at S2
        have HDD := Lib.hid hD
        have S4 := S2
        have B4 := B2
        clear hD S2 B2
        obtain ⟨A4, c4, rfl, _, _, _, _, _⟩ := (St.oi S4).open
        go_wp2_with fail
        (with_reducible refine (len_at w.heap.size w.heap.size D (D.length : Int) _ (St.wt S4) rfl).mono ?_); rintro e w5 ⟨rfl, rfl⟩
        obtain ⟨R, hR⟩ : ∃ R, stf (pack (pad D)) = R := ⟨_, rfl⟩
        have HR := Lib.hid hR
        have hbit : Bit D := St.bit S4
        have z4 := B4.out.size
        clear hR
        go_wp2_with fail
        (with_reducible refine (done_at w.heap.size w.heap.size D R R.length _ (hw.below B4.out) (St.wt S4) (by omega) HR rfl).mono ?_); rintro e w6 ⟨A6, c6, rfl, r6, _, _, h6⟩
        have S6 := St.on S4 h6
        have B6 := Lib.hid (B4.out.trans (h6.mono z4))
        have z6 := B6.out.size
        have ri := Lib.hid (St.ri S6)
        clear h6 S4 B4
        go_wp2_with fail
        (with_reducible refine (rBytes_any D A4 c4 _ ri.out hbit (by omega)).mono ?_); rintro e w7 ⟨v7, rfl, ho7, h7⟩
        have S7 := St.on S6 h7
        have B7 := Lib.hid (B6.out.trans (h7.mono z6))
        have z7 := B7.out.size
        have r7 := Lib.hid (r6.below h7)
        rw [HR.out] at ho7
        obtain ⟨A7, c7, rfl, _, _, q7, _, _⟩ := ho7.open'
        have Q7 := Lib.hid q7
        clear h7 S6 B6 r6 ho7 q7 ri
        go_wp2_with fail
        (with_reducible refine (same_at R A6 A7 R.length c6 c7 _ rfl r7.out Q7.out).mono ?_); rintro e w8 ⟨rfl, rfl⟩
        go_wp2
        go_roundw
        case rel => exact ⟨k + 1, _, by omega, by go_num, rfl, (show Hid _ from by show St _ _ _ _ _ _; rw [HSU.out, HD.out, List.append_nil, ← HDD.out]; exact S7.out), B7⟩
        case measure => simp [RowKit.intOf]; omega
    · obtain rfl : k = l.length := by omega
      rw [List.take_length] at HS
      obtain ⟨D, hD⟩ : ∃ D, D = deeds l := ⟨_, rfl⟩
      have hDl : D.length ≤ 3200 := by rw [hD]; have := deeds_len l; omega
      rw [← hD] at HS
      clear hD
      obtain ⟨A4, c4, rfl, _, _, _, _, _⟩ := (St.oi HS).open
      go_wp2_with (first
        | ((with_reducible refine (len_at w.heap.size w.heap.size D (D.length : Int) _ (St.wt HS) rfl).mono ?_); rintro e w5 ⟨rfl, rfl⟩)
        | ((with_reducible refine (awake_any _ (hw.below HB.out)).mono ?_); rintro e w6 ⟨rfl, h6⟩))
      go_ret
      exact ⟨rfl, HB.out.trans (h6.mono HB.out.size)⟩
theorem writes_far (l : List (Int × Int)) (A : Option Addr) (c : Nat) (w : World) (hw : Env w) (hl : 200 < l.length) (hm : l.length ≤ maxLen) :
    Calls Tryd.prog 3 #[.slice A l.length c] w fun e w' => e = .returned (.bool true) ∧ Below w.heap.size w w' := by
  unfold maxLen at hm
  go_enter Tryd.func3, Tryd.ntmps3
  go_wp2_with ((with_reducible refine (awake_any _ hw).mono ?_); rintro e w1 ⟨rfl, hb⟩)
  go_ret
  exact ⟨rfl, hb⟩
theorem writes_any (l : List (Int × Int)) (A : Option Addr) (c : Nat) (w : World) (hw : Env w) (hr : Pz w A l) (hm : l.length ≤ maxLen) :
    Calls Tryd.prog 3 #[.slice A l.length c] w fun e w' => e = .returned (.bool true) ∧ Below w.heap.size w w' := by
  rcases Nat.lt_or_ge 200 l.length with h | h
  · exact writes_far l A c w hw h hm
  · exact writes_near l A c w hw hr h
end Go.Proofs.YthidhgobocihpaaDoor
