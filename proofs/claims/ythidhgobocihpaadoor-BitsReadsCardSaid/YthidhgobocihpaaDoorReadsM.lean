/- The law BitsReads where the bytes are not data as a whole. -/
import Derived.Test.YthidhgobocihpaaDoorReadsL
namespace Go.Proofs.YthidhgobocihpaaDoor
open Go.RowKit Go.Lib
set_option linter.unusedVariables false

set_option maxRecDepth 100000 in
set_option maxHeartbeats 6400000 in
theorem reads_no (l : List UInt8) (ns : List Int) (A A2 : Option Addr) (c c2 : Nat) (w : World) (hw : Env w) (hr : Rd w A l) (hcap : l.length ≤ c) (hA : A = none → c = 0) (hr2 : Ri w A2 ns) (hl : l.length ≤ 300) (hn : ns.length ≤ 200) (hd : dat l < l.length) :
    Calls Tryd.prog 4 #[.slice A l.length c, .slice A2 ns.length c2] w fun e w' => e = .returned (.bool true) ∧ Below w.heap.size w w' := by
  have HO := Lib.hid (own_any (w := w) l 5)
  obtain ⟨d, hdd⟩ : ∃ d, ustF false (l.take (dat l)) = d := ⟨_, rfl⟩
  have hdl : d.length ≤ 300 := by rw [← hdd, ust_data]; have := bare_len false (l.take (dat l)); have hlt0 : (l.take (dat l)).length ≤ l.length := (by rw [List.length_take]; omega); omega
  have hub := ust_data l
  rw [hdd] at hub
  have HDD := Lib.hid hdd
  have HUB := Lib.hid hub
  obtain ⟨S, hS⟩ : ∃ S, stf l = S := ⟨_, rfl⟩
  have HSS := Lib.hid hS
  clear hdd hub hS
  go_enter Tryd.func4, Tryd.ntmps4
  go_wp2_with (first
    | ((with_reducible refine wpList_appB _ rfl (.tmp 26) (.tmp 27) rfl w.heap.size (.slice (some ⟨w.heap.size, 0, none⟩) 0 0) [] rfl HO.out A l.length c l rfl rfl (hr.alloc _) (by simp; omega) (by simp) ?_)
       intro v1 w1 ho1 hg1 _
       have B1 := Lib.hid (HO.out.grown ((Below.refl w.heap.size w).alloc (Nat.le_refl _) _) hg1 (by simp))
       rw [List.nil_append] at ho1
       obtain ⟨A1, c1, hv1, hc1, _, r1, hb1, hA1⟩ := ho1.open'
       subst hv1
       have z1 := B1.out.size
       have C1 := Lib.hid hc1
       clear ho1 hg1 HO)
    | fail)
  (with_reducible refine (new_at l d A1 l.length c1 _ rfl (hw.below B1.out) r1 C1.out hA1 (by omega) HDD).mono ?_); rintro e w2 ⟨q, rfl, R2, hq2, h2⟩
  have B2 := Lib.hid (B1.out.trans (h2.mono z1))
  have z2 := B2.out.size
  have r2 := Lib.hid (r1.below h2)
  have hoff : Off A1 q := fun b o s e => by have := (hb1 b o s e).2; omega
  have hq : w.heap.size ≤ q := by omega
  have hq3 := R2.out.lt
  clear h2 r1 B1 hb1 hq2
  go_wp2_with fail
  (with_reducible refine (rBits_any l A c _ (hr.below B2.out) hcap (by omega)).mono ?_); rintro e w3 ⟨u3, rfl, ho3, h3⟩
  rw [← HUB.out] at ho3
  obtain ⟨A3, c3, rfl, hc3, _, r3, hb3, hA3⟩ := ho3.open
  have hoff3 : Off A3 q := fun b o s e => by have := (hb3 b o s e).1; omega
  have R3 := Lib.hid (R2.out.below h3)
  have q3 := Lib.hid (r2.out.below h3)
  have B3 := Lib.hid (B2.out.trans (h3.mono z2))
  have z3 := B3.out.size
  have I3 := Lib.hid r3
  obtain ⟨L, hL⟩ : ∃ L, bitsOf d = L := ⟨_, rfl⟩
  have hLl : L.length = 8 * d.length := by rw [← hL, bitsOf_len]
  have hLb : Bit L := by rw [← hL]; exact bitsOf_bit d
  rw [hL] at I3 hc3 ⊢
  have HL := Lib.hid hL
  have HLB := Lib.hid hLb
  have HC3 := Lib.hid hc3
  have hL1 : L.length ≤ 8 * d.length := by omega
  have hL2 : 8 * d.length ≤ L.length := by omega
  clear hL hLb hLl r3 ho3 h3 r2 R2 B2 hb3 hc3
  go_wp2_with fail
  (with_reducible refine (plain_bad l A1 l.length c1 _ rfl q3.out C1.out (by omega) hd).mono ?_); rintro e w5 ⟨rfl, h5⟩
  have R5 := Lib.hid (R3.out.below h5)
  have q5 := Lib.hid (q3.out.below h5)
  have I5 := Lib.hid (I3.out.below h5)
  have B5 := Lib.hid (B3.out.trans (h5.mono z3))
  have z5 := B5.out.size
  clear h5 R3 q3 I3 B3
  obtain ⟨m5, hm5⟩ : ∃ m, dat l = m := ⟨_, rfl⟩
  have hneq : ((m5 : Int) == (l.length : Int)) = false := by rw [beq_eq_false_iff_ne]; omega
  have HM5 := Lib.hid hm5
  clear hm5 hd
  go_wp2_with fail
  (with_reducible refine (data_at l A l.length c m5 _ rfl (hr.below B5.out) (by omega) HM5).mono ?_); rintro e w6 ⟨rfl, rfl⟩
  go_wp2_with fail
  (with_reducible refine (stuff_at l S A1 l.length S.length c1 _ rfl (hw.below B5.out) q5.out C1.out hA1 (by omega) HSS rfl).mono ?_); rintro e w6 ⟨A6, c6, rfl, r6, h6⟩
  have R6 := Lib.hid (R5.out.below h6)
  have q6 := Lib.hid (q5.out.below h6)
  have I6 := Lib.hid (I5.out.below h6)
  have B6 := Lib.hid (B5.out.trans (h6.mono z5))
  have z6 := B6.out.size
  have r6' := Lib.hid r6
  clear h6 r6 R5 q5 I5 B5
  go_wp2_with fail
  (with_reducible refine (rStuff_at l S A l.length S.length c _ rfl (hr.below B6.out) (by omega) HSS rfl).mono ?_); rintro e w7 ⟨A7, c7, rfl, r7, h7⟩
  have R7 := Lib.hid (R6.out.below h7)
  have q7 := Lib.hid (q6.out.below h7)
  have I7 := Lib.hid (I6.out.below h7)
  have B7 := Lib.hid (B6.out.trans (h7.mono z6))
  have z7 := B7.out.size
  have s6 := Lib.hid (r6'.out.below h7)
  have s7 := Lib.hid r7
  clear h7 r7 r6' R6 q6 I6 B6
  go_wp2_with fail
  (with_reducible refine (same_at S A6 A7 S.length c6 c7 _ rfl s6.out s7.out).mono ?_); rintro e w8 ⟨rfl, rfl⟩
  clear s6 s7
  go_wp2
  go_loopw [7, 11] (fun s7 s11 wr => ∃ (k j T : Nat) (A8 : Option Addr) (c8 : Nat), k ≤ ns.length ∧ T + j ≤ L.length ∧ L.length ≤ T + j ∧ s11 = .int .i64 k ∧ s7 = .slice A8 T c8 ∧ T ≤ c8 ∧ Hid (Ri wr A8 (L.drop j)) ∧ Hid (Off A8 q) ∧ Hid (Rdr wr q d j) ∧ Hid (Rd wr A1 l) ∧ Hid (Below w.heap.size w wr)) (fun _ i _ => ns.length - (RowKit.intOf i).toNat)
  case atStart => exact ⟨0, 0, L.length, A3, c3, Nat.zero_le _, Nat.le_refl _, Nat.le_refl _, rfl, rfl, HC3.out, I7, hoff3, R7, q7, B7⟩
  case round =>
    clear I7 R7 q7 B7 z7
    obtain ⟨k, j, T, A8, c8, hk, ht, ht', rfl, rfl, hc8, HI, HF, HRr, HQ, HB⟩ := hrel
    have z := HB.out.size
    by_cases hlt : k < ns.length
    · obtain ⟨b, o, rfl, hc⟩ := hr2.at (by omega)
      obtain ⟨n, hnn⟩ : ∃ n, ns.getD k 0 = n := ⟨_, rfl⟩
      have hcc := hc k hlt
      rw [hnn] at hcc
      have HC := Lib.hid hcc
      have e1 := cell_later HB.out hcc
      clear hc hnn hcc
      by_cases h0 : 0 ≤ n
      · by_cases h16 : n ≤ 16
        · by_cases hT : n ≤ (T : Int)
          · obtain ⟨m, rfl⟩ := Int.eq_ofNat_of_zero_le h0
            have hm : m ≤ 16 := by omega
            have hmT : m ≤ T := by omega
            clear h0 h16 hT
            have hq16 : decide ((m : Int) ≤ 16) = true := by rw [decide_eq_true_iff]; omega
            go_wp2_with fail
            (with_reducible refine (take_yes q d j m _ HRr.out (by omega) hm (by omega)).mono ?_); rintro e wa ⟨rfl, hr9, h9⟩
            rw [HL.out]
            obtain ⟨V, hV⟩ : ∃ V, val ((L.drop j).take m) = V := ⟨_, rfl⟩
            rw [hV]
            have HV := Lib.hid hV
            have Ia := Lib.hid (HI.out.chg h9 fun b o s e => HF.out b o s e)
            have q9 := Lib.hid (HQ.out.chg h9 fun b o s e => hoff b o s e)
            have B9 := Lib.hid (HB.out.trans (h9.below z (by rintro i rfl; exact hq)))
            have z9 := B9.out.size
            have c1m := cell_later B9.out HC.out
            have R9r := Lib.hid hr9
            have hsH := fun W => run_winI_h A8 T c8 m (m : Int) rfl (by omega) W
            have hsL := fun W => run_winI_l A8 T c8 m (m : Int) rfl (by omega) W
            have Hh := Lib.hid (Ia.out.head c8 m (by rw [List.length_drop]; omega))
            have Hr := Lib.hid (Ia.out.rest c8 m (by rw [List.length_drop]; omega))
            have O9 := Lib.hid (HF.out.win c8 m)
            obtain ⟨A0, hA0⟩ : ∃ A0, winA A8 c8 0 = A0 := ⟨_, rfl⟩
            obtain ⟨A9, hA9'⟩ : ∃ A9, winA A8 c8 m = A9 := ⟨_, rfl⟩
            obtain ⟨T9, hT9⟩ : ∃ T9, T - m = T9 := ⟨_, rfl⟩
            obtain ⟨c9, hc9⟩ : ∃ c9, c8 - m = c9 := ⟨_, rfl⟩
            obtain ⟨R9, hR9⟩ : ∃ R, L.drop (j + m) = R := ⟨_, rfl⟩
            rw [hA0] at hsH Hh
            rw [hA9', hT9, hc9] at hsL
            rw [hA9'] at Hr O9
            rw [List.drop_drop, hR9] at Hr
            have I9 := Hr
            have HRD := Lib.hid hR9
            have HR9 : Hid (R9.length = T9) := by show _ = _; rw [← hR9, List.length_drop]; omega
            have hlm : Hid (m = ((L.drop j).take m).length) := by show _ = _; rw [List.length_take, List.length_drop]; omega
            have hbm := Lib.hid ((HLB.out.drop j).take m)
            have ht1 : T9 + m ≤ T := by omega
            have ht2 : T ≤ T9 + m := by omega
            have hcc : T9 ≤ c9 := by omega
            clear e1 hV hr9 h9 HI HQ HB HRr HF hA0 hA9' hT9 hc9 hR9 Ia Hr
            go_wp2_with fail
            (with_reducible refine (number_any ((L.drop j).take m) A0 m c8 _ hlm.out Hh.out hbm.out (by omega)).mono ?_); rintro e wb ⟨rfl, rfl⟩
            rw [HV.out]
            clear Hh
            obtain ⟨g8, hg8⟩ : ∃ g8, decide ((T9 : Int) < 8) = g8 := ⟨_, rfl⟩
            have HG := Lib.hid hg8
            go_wp2
            clear hg8
            go_loop [15, 16] (fun s15 s16 => ∃ (i : Nat) (bb : Bool), i ≤ T9 ∧ s16 = .int .i64 i ∧ s15 = .bool bb ∧ Hid (bb = (g8 && (R9.take i).all (fun x => decide (x = 1))))) (fun _ s16 => T9 - (RowKit.intOf s16).toNat)
            case atStart => exact ⟨0, _, Nat.zero_le _, rfl, rfl, (show Hid _ from by show _ = _; simp)⟩
            case round =>
              obtain ⟨i, bb, hi, rfl, rfl, HBB⟩ := hrel
              by_cases hlt3 : i < T9
              · obtain ⟨b9, o9, hA9, hcell9⟩ := I9.out.at (by rw [HR9.out]; omega)
                subst hA9
                have e9 := hcell9 i (by rw [HR9.out]; exact hlt3)
                obtain ⟨x9, hx9⟩ : ∃ x, R9.getD i 0 = x := ⟨_, rfl⟩
                have hall := all_succ R9 i (by rw [HR9.out]; exact hlt3)
                rw [hx9] at e9 hall
                have HA := Lib.hid hall
                clear hcell9 hx9 hall
                cases bb with
                | true =>
                  by_cases h1 : x9 = 1
                  · have hq1 : (x9 == 1) = true := by rw [h1]; rfl
                    have H1 := Lib.hid h1
                    clear h1
                    go_wp2
                    go_round
                    case rel => exact ⟨i + 1, true, by omega, by go_num, rfl, (show Hid _ from by show _ = _; rw [HA.out, ← Bool.and_assoc, ← HBB.out, H1.out]; rfl)⟩
                    case measure => simp [RowKit.intOf]; omega
                  · have hq1 : (x9 == 1) = false := by rw [beq_eq_false_iff_ne]; exact h1
                    have H1 := Lib.hid (decide_eq_false h1)
                    clear h1
                    go_wp2
                    go_round
                    case rel => exact ⟨i + 1, false, by omega, by go_num, rfl, (show Hid _ from by show _ = _; rw [HA.out, ← Bool.and_assoc, ← HBB.out, H1.out]; rfl)⟩
                    case measure => simp [RowKit.intOf]; omega
                | false =>
                  go_wp2
                  go_round
                  case rel => exact ⟨i + 1, false, by omega, by go_num, rfl, (show Hid _ from by show _ = _; rw [HA.out, ← Bool.and_assoc, ← HBB.out]; rfl)⟩
                  case measure => simp [RowKit.intOf]; omega
              · have hfb : fillB R9 = bb := by
                  rw [HBB.out, List.take_of_length_le (by rw [HR9.out]; omega), ← HG.out]
                  unfold fillB
                  rw [HR9.out]
                  congr 1
                  exact decide_eq_decide.2 (by omega)
                have HFB : Hid (fillB ((bitsOf d).drop (j + m)) = bb) := by show _ = _; rw [HL.out, HRD.out]; exact hfb
                clear hfb
                go_wp2_with fail
                (with_reducible refine (left_at q d (j + m) (T9 : Int) _ R9r (by omega) (by omega) (by omega)).mono ?_); rintro e wb ⟨rfl, Rb, hb⟩
                have Ib := Lib.hid (I9.out.below hb)
                have qb := Lib.hid (q9.out.below hb)
                have Bb := Lib.hid (B9.out.trans (hb.mono z9))
                have zb := Bb.out.size
                clear hb R9r I9 q9 B9
                go_wp2_with fail
                (with_reducible refine (filled_at q d (j + m) bb _ Rb.out (by omega) (by omega) HFB).mono ?_); rintro e wc ⟨rfl, Rc, hc'⟩
                have Ic := Lib.hid (Ib.out.below hc')
                have qc := Lib.hid (qb.out.below hc')
                have Bc := Lib.hid (Bb.out.trans (hc'.mono zb))
                clear hc' Rb Ib qb Bb
                go_wp2
                go_roundw
                case rel => exact ⟨k + 1, j + m, T9, _, _, by omega, by omega, by omega, by go_num, rfl, by omega, (show Hid _ from by show Ri _ _ _; rw [HRD.out]; exact Ic.out), O9, Rc, qc, Bc⟩
                case measure => simp [RowKit.intOf]; omega
          · have hqT : decide (n ≤ (T : Int)) = false := by rw [decide_eq_false_iff_not]; exact hT
            have hq16 : decide (n ≤ 16) = true := by rw [decide_eq_true_iff]; omega
            have hTn : (T : Int) < n := by omega
            clear hT h16
            go_wp2_with fail
            (with_reducible refine (take_any q d j n _ HRr.out (by omega) (by omega) (.inr (.inr (by omega)))).mono ?_); rintro e wa ⟨rfl, R9r, h9⟩
            have I9 := Lib.hid (HI.out.below h9)
            have q9 := Lib.hid (HQ.out.below h9)
            have B9 := Lib.hid (HB.out.trans (h9.mono z))
            have z9 := B9.out.size
            have c1m := cell_later B9.out HC.out
            obtain ⟨R9, hR9⟩ : ∃ R, L.drop j = R := ⟨_, rfl⟩
            rw [hR9] at I9
            have HRD := Lib.hid hR9
            have HR9 : Hid (R9.length = T) := by show _ = _; rw [← hR9, List.length_drop]; omega
            have O9 := HF
            clear e1 hR9 h9 HI HQ HB HRr
            obtain ⟨g8, hg8⟩ : ∃ g8, decide ((T : Int) < 8) = g8 := ⟨_, rfl⟩
            have HG := Lib.hid hg8
            go_wp2
            clear hg8
            go_loop [15, 16] (fun s15 s16 => ∃ (i : Nat) (bb : Bool), i ≤ T ∧ s16 = .int .i64 i ∧ s15 = .bool bb ∧ Hid (bb = (g8 && (R9.take i).all (fun x => decide (x = 1))))) (fun _ s16 => T - (RowKit.intOf s16).toNat)
            case atStart => exact ⟨0, _, Nat.zero_le _, rfl, rfl, (show Hid _ from by show _ = _; simp)⟩
            case round =>
              obtain ⟨i, bb, hi, rfl, rfl, HBB⟩ := hrel
              by_cases hlt3 : i < T
              · obtain ⟨b9, o9, hA9, hcell9⟩ := I9.out.at (by rw [HR9.out]; omega)
                subst hA9
                have e9 := hcell9 i (by rw [HR9.out]; exact hlt3)
                obtain ⟨x9, hx9⟩ : ∃ x, R9.getD i 0 = x := ⟨_, rfl⟩
                have hall := all_succ R9 i (by rw [HR9.out]; exact hlt3)
                rw [hx9] at e9 hall
                have HA := Lib.hid hall
                clear hcell9 hx9 hall
                cases bb with
                | true =>
                  by_cases h1 : x9 = 1
                  · have hq1 : (x9 == 1) = true := by rw [h1]; rfl
                    have H1 := Lib.hid h1
                    clear h1
                    go_wp2
                    go_round
                    case rel => exact ⟨i + 1, true, by omega, by go_num, rfl, (show Hid _ from by show _ = _; rw [HA.out, ← Bool.and_assoc, ← HBB.out, H1.out]; rfl)⟩
                    case measure => simp [RowKit.intOf]; omega
                  · have hq1 : (x9 == 1) = false := by rw [beq_eq_false_iff_ne]; exact h1
                    have H1 := Lib.hid (decide_eq_false h1)
                    clear h1
                    go_wp2
                    go_round
                    case rel => exact ⟨i + 1, false, by omega, by go_num, rfl, (show Hid _ from by show _ = _; rw [HA.out, ← Bool.and_assoc, ← HBB.out, H1.out]; rfl)⟩
                    case measure => simp [RowKit.intOf]; omega
                | false =>
                  go_wp2
                  go_round
                  case rel => exact ⟨i + 1, false, by omega, by go_num, rfl, (show Hid _ from by show _ = _; rw [HA.out, ← Bool.and_assoc, ← HBB.out]; rfl)⟩
                  case measure => simp [RowKit.intOf]; omega
              · have hfb : fillB R9 = bb := by
                  rw [HBB.out, List.take_of_length_le (by rw [HR9.out]; omega), ← HG.out]
                  unfold fillB
                  rw [HR9.out]
                  congr 1
                  exact decide_eq_decide.2 (by omega)
                have HFB : Hid (fillB ((bitsOf d).drop (j)) = bb) := by show _ = _; rw [HL.out, HRD.out]; exact hfb
                clear hfb
                go_wp2_with fail
                (with_reducible refine (left_at q d (j) (T : Int) _ R9r (by omega) (by omega) (by omega)).mono ?_); rintro e wb ⟨rfl, Rb, hb⟩
                have Ib := Lib.hid (I9.out.below hb)
                have qb := Lib.hid (q9.out.below hb)
                have Bb := Lib.hid (B9.out.trans (hb.mono z9))
                have zb := Bb.out.size
                clear hb R9r I9 q9 B9
                go_wp2_with fail
                (with_reducible refine (filled_at q d (j) bb _ Rb.out (by omega) (by omega) HFB).mono ?_); rintro e wc ⟨rfl, Rc, hc'⟩
                have Ic := Lib.hid (Ib.out.below hc')
                have qc := Lib.hid (qb.out.below hc')
                have Bc := Lib.hid (Bb.out.trans (hc'.mono zb))
                clear hc' Rb Ib qb Bb
                go_wp2
                go_roundw
                case rel => exact ⟨k + 1, j, T, _, _, by omega, by omega, by omega, by go_num, rfl, by omega, (show Hid _ from by show Ri _ _ _; rw [HRD.out]; exact Ic.out), O9, Rc, qc, Bc⟩
                case measure => simp [RowKit.intOf]; omega
        · have hq16 : decide (n ≤ 16) = false := by rw [decide_eq_false_iff_not]; exact h16
          have h16' : 16 < n := by omega
          clear h16
          go_wp2_with fail
          (with_reducible refine (take_any q d j n _ HRr.out (by omega) (by omega) (.inr (.inl h16'))).mono ?_); rintro e wa ⟨rfl, R9r, h9⟩
          have I9 := Lib.hid (HI.out.below h9)
          have q9 := Lib.hid (HQ.out.below h9)
          have B9 := Lib.hid (HB.out.trans (h9.mono z))
          have z9 := B9.out.size
          have c1m := cell_later B9.out HC.out
          obtain ⟨R9, hR9⟩ : ∃ R, L.drop j = R := ⟨_, rfl⟩
          rw [hR9] at I9
          have HRD := Lib.hid hR9
          have HR9 : Hid (R9.length = T) := by show _ = _; rw [← hR9, List.length_drop]; omega
          have O9 := HF
          clear e1 hR9 h9 HI HQ HB HRr
          obtain ⟨g8, hg8⟩ : ∃ g8, decide ((T : Int) < 8) = g8 := ⟨_, rfl⟩
          have HG := Lib.hid hg8
          go_wp2
          clear hg8
          go_loop [15, 16] (fun s15 s16 => ∃ (i : Nat) (bb : Bool), i ≤ T ∧ s16 = .int .i64 i ∧ s15 = .bool bb ∧ Hid (bb = (g8 && (R9.take i).all (fun x => decide (x = 1))))) (fun _ s16 => T - (RowKit.intOf s16).toNat)
          case atStart => exact ⟨0, _, Nat.zero_le _, rfl, rfl, (show Hid _ from by show _ = _; simp)⟩
          case round =>
            obtain ⟨i, bb, hi, rfl, rfl, HBB⟩ := hrel
            by_cases hlt3 : i < T
            · obtain ⟨b9, o9, hA9, hcell9⟩ := I9.out.at (by rw [HR9.out]; omega)
              subst hA9
              have e9 := hcell9 i (by rw [HR9.out]; exact hlt3)
              obtain ⟨x9, hx9⟩ : ∃ x, R9.getD i 0 = x := ⟨_, rfl⟩
              have hall := all_succ R9 i (by rw [HR9.out]; exact hlt3)
              rw [hx9] at e9 hall
              have HA := Lib.hid hall
              clear hcell9 hx9 hall
              cases bb with
              | true =>
                by_cases h1 : x9 = 1
                · have hq1 : (x9 == 1) = true := by rw [h1]; rfl
                  have H1 := Lib.hid h1
                  clear h1
                  go_wp2
                  go_round
                  case rel => exact ⟨i + 1, true, by omega, by go_num, rfl, (show Hid _ from by show _ = _; rw [HA.out, ← Bool.and_assoc, ← HBB.out, H1.out]; rfl)⟩
                  case measure => simp [RowKit.intOf]; omega
                · have hq1 : (x9 == 1) = false := by rw [beq_eq_false_iff_ne]; exact h1
                  have H1 := Lib.hid (decide_eq_false h1)
                  clear h1
                  go_wp2
                  go_round
                  case rel => exact ⟨i + 1, false, by omega, by go_num, rfl, (show Hid _ from by show _ = _; rw [HA.out, ← Bool.and_assoc, ← HBB.out, H1.out]; rfl)⟩
                  case measure => simp [RowKit.intOf]; omega
              | false =>
                go_wp2
                go_round
                case rel => exact ⟨i + 1, false, by omega, by go_num, rfl, (show Hid _ from by show _ = _; rw [HA.out, ← Bool.and_assoc, ← HBB.out]; rfl)⟩
                case measure => simp [RowKit.intOf]; omega
            · have hfb : fillB R9 = bb := by
                rw [HBB.out, List.take_of_length_le (by rw [HR9.out]; omega), ← HG.out]
                unfold fillB
                rw [HR9.out]
                congr 1
                exact decide_eq_decide.2 (by omega)
              have HFB : Hid (fillB ((bitsOf d).drop (j)) = bb) := by show _ = _; rw [HL.out, HRD.out]; exact hfb
              clear hfb
              go_wp2_with fail
              (with_reducible refine (left_at q d (j) (T : Int) _ R9r (by omega) (by omega) (by omega)).mono ?_); rintro e wb ⟨rfl, Rb, hb⟩
              have Ib := Lib.hid (I9.out.below hb)
              have qb := Lib.hid (q9.out.below hb)
              have Bb := Lib.hid (B9.out.trans (hb.mono z9))
              have zb := Bb.out.size
              clear hb R9r I9 q9 B9
              go_wp2_with fail
              (with_reducible refine (filled_at q d (j) bb _ Rb.out (by omega) (by omega) HFB).mono ?_); rintro e wc ⟨rfl, Rc, hc'⟩
              have Ic := Lib.hid (Ib.out.below hc')
              have qc := Lib.hid (qb.out.below hc')
              have Bc := Lib.hid (Bb.out.trans (hc'.mono zb))
              clear hc' Rb Ib qb Bb
              go_wp2
              go_roundw
              case rel => exact ⟨k + 1, j, T, _, _, by omega, by omega, by omega, by go_num, rfl, by omega, (show Hid _ from by show Ri _ _ _; rw [HRD.out]; exact Ic.out), O9, Rc, qc, Bc⟩
              case measure => simp [RowKit.intOf]; omega
      · have h0' : n < 0 := by omega
        clear h0
        go_wp2_with fail
        (with_reducible refine (take_any q d j n _ HRr.out (by omega) (by omega) (.inl h0')).mono ?_); rintro e wa ⟨rfl, R9r, h9⟩
        have I9 := Lib.hid (HI.out.below h9)
        have q9 := Lib.hid (HQ.out.below h9)
        have B9 := Lib.hid (HB.out.trans (h9.mono z))
        have z9 := B9.out.size
        have c1m := cell_later B9.out HC.out
        obtain ⟨R9, hR9⟩ : ∃ R, L.drop j = R := ⟨_, rfl⟩
        rw [hR9] at I9
        have HRD := Lib.hid hR9
        have HR9 : Hid (R9.length = T) := by show _ = _; rw [← hR9, List.length_drop]; omega
        have O9 := HF
        clear e1 hR9 h9 HI HQ HB HRr
        obtain ⟨g8, hg8⟩ : ∃ g8, decide ((T : Int) < 8) = g8 := ⟨_, rfl⟩
        have HG := Lib.hid hg8
        go_wp2
        clear hg8
        go_loop [15, 16] (fun s15 s16 => ∃ (i : Nat) (bb : Bool), i ≤ T ∧ s16 = .int .i64 i ∧ s15 = .bool bb ∧ Hid (bb = (g8 && (R9.take i).all (fun x => decide (x = 1))))) (fun _ s16 => T - (RowKit.intOf s16).toNat)
        case atStart => exact ⟨0, _, Nat.zero_le _, rfl, rfl, (show Hid _ from by show _ = _; simp)⟩
        case round =>
          obtain ⟨i, bb, hi, rfl, rfl, HBB⟩ := hrel
          by_cases hlt3 : i < T
          · obtain ⟨b9, o9, hA9, hcell9⟩ := I9.out.at (by rw [HR9.out]; omega)
            subst hA9
            have e9 := hcell9 i (by rw [HR9.out]; exact hlt3)
            obtain ⟨x9, hx9⟩ : ∃ x, R9.getD i 0 = x := ⟨_, rfl⟩
            have hall := all_succ R9 i (by rw [HR9.out]; exact hlt3)
            rw [hx9] at e9 hall
            have HA := Lib.hid hall
            clear hcell9 hx9 hall
            cases bb with
            | true =>
              by_cases h1 : x9 = 1
              · have hq1 : (x9 == 1) = true := by rw [h1]; rfl
                have H1 := Lib.hid h1
                clear h1
                go_wp2
                go_round
                case rel => exact ⟨i + 1, true, by omega, by go_num, rfl, (show Hid _ from by show _ = _; rw [HA.out, ← Bool.and_assoc, ← HBB.out, H1.out]; rfl)⟩
                case measure => simp [RowKit.intOf]; omega
              · have hq1 : (x9 == 1) = false := by rw [beq_eq_false_iff_ne]; exact h1
                have H1 := Lib.hid (decide_eq_false h1)
                clear h1
                go_wp2
                go_round
                case rel => exact ⟨i + 1, false, by omega, by go_num, rfl, (show Hid _ from by show _ = _; rw [HA.out, ← Bool.and_assoc, ← HBB.out, H1.out]; rfl)⟩
                case measure => simp [RowKit.intOf]; omega
            | false =>
              go_wp2
              go_round
              case rel => exact ⟨i + 1, false, by omega, by go_num, rfl, (show Hid _ from by show _ = _; rw [HA.out, ← Bool.and_assoc, ← HBB.out]; rfl)⟩
              case measure => simp [RowKit.intOf]; omega
          · have hfb : fillB R9 = bb := by
              rw [HBB.out, List.take_of_length_le (by rw [HR9.out]; omega), ← HG.out]
              unfold fillB
              rw [HR9.out]
              congr 1
              exact decide_eq_decide.2 (by omega)
            have HFB : Hid (fillB ((bitsOf d).drop (j)) = bb) := by show _ = _; rw [HL.out, HRD.out]; exact hfb
            clear hfb
            go_wp2_with fail
            (with_reducible refine (left_at q d (j) (T : Int) _ R9r (by omega) (by omega) (by omega)).mono ?_); rintro e wb ⟨rfl, Rb, hb⟩
            have Ib := Lib.hid (I9.out.below hb)
            have qb := Lib.hid (q9.out.below hb)
            have Bb := Lib.hid (B9.out.trans (hb.mono z9))
            have zb := Bb.out.size
            clear hb R9r I9 q9 B9
            go_wp2_with fail
            (with_reducible refine (filled_at q d (j) bb _ Rb.out (by omega) (by omega) HFB).mono ?_); rintro e wc ⟨rfl, Rc, hc'⟩
            have Ic := Lib.hid (Ib.out.below hc')
            have qc := Lib.hid (qb.out.below hc')
            have Bc := Lib.hid (Bb.out.trans (hc'.mono zb))
            clear hc' Rb Ib qb Bb
            go_wp2
            go_roundw
            case rel => exact ⟨k + 1, j, T, _, _, by omega, by omega, by omega, by go_num, rfl, by omega, (show Hid _ from by show Ri _ _ _; rw [HRD.out]; exact Ic.out), O9, Rc, qc, Bc⟩
            case measure => simp [RowKit.intOf]; omega
    · have e : k = ns.length := by omega
      clear e
      have HR7 := Lib.hid (hr.below HB.out)
      go_wp2_with fail
      (with_reducible refine (left_at q d j (T : Int) _ HRr (by omega) (by omega) (by omega)).mono ?_); rintro e wb ⟨rfl, Rb, hb⟩
      have qb := Lib.hid (HQ.out.below hb)
      have Bb := Lib.hid (HB.out.trans (hb.mono z))
      have zb := Bb.out.size
      clear hb Rb HRr HQ HB HI
      go_wp2_with fail
      (with_reducible refine (same_at l A1 A l.length c1 c _ rfl qb.out (hr.below Bb.out)).mono ?_); rintro e wc ⟨rfl, rfl⟩
      go_wp2_with fail
      (with_reducible refine (awake_any _ (hw.below Bb.out)).mono ?_); rintro e wd ⟨rfl, hd'⟩
      go_wp2
      go_ret
      exact ⟨rfl, Bb.out.trans (hd'.mono zb)⟩
end Go.Proofs.YthidhgobocihpaaDoor
