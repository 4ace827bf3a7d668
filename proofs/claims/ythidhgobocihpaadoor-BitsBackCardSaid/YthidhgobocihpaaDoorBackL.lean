/- The law BitsBack: it returns true, whatever deeds and bytes; its walk by the contracts of what it calls. -/
import Derived.Test.YthidhgobocihpaaDoorBackB
import Derived.Deep.Cut
import Derived.Deep.DeepCutAuto
namespace Go.Proofs.YthidhgobocihpaaDoor
open Go.RowKit Go.Lib
set_option linter.unusedVariables false

theorem done_own (base p : Nat) (l : List Int) (r : List UInt8) (n : Nat) (w : World) (hw : Env w) (h : Hid (∃ g, Wtr w base p l g)) (hl : l.length ≤ 10000000) (hr : Hid (stf (pack (pad l)) = r)) (hn : n = r.length) :
    Calls Tryd.prog 12 #[.pointer (some ⟨p, 0, none⟩)] w fun e w' => ∃ A c, e = .returned (.slice A n c) ∧ Hid (Rd w' A r) ∧ (A = none → c = 0) ∧ n ≤ c ∧ Below w.heap.size w w' := by
  refine (done_at base p l r n w hw h hl hr hn).mono ?_
  rintro e w' ⟨A, c, rfl, h1, h2, h3, h4⟩
  exact ⟨A, c, rfl, h1, h2, h3, h4⟩
theorem stuff_full (l r : List UInt8) (A : Option Addr) (n m c : Nat) (w : World) (hn : n = l.length) (hw : Env w) (hr : Rd w A l) (hcap : n ≤ c) (hA : A = none → c = 0) (hl : n ≤ 100000000) (hs : Hid (stf l = r)) (hm : m = r.length) :
    Calls Tryd.prog 19 #[.slice A n c] w fun e w' => ∃ B d, e = .returned (.slice B m d) ∧ Rd w' B r ∧ m ≤ d ∧ (B = none → d = 0) ∧ Below w.heap.size w w' := by
  subst hn hm
  rw [← hs.out]
  refine (stuff_any l A c w hw hr hcap hA hl).mono ?_
  rintro e w' ⟨v, rfl, ho, hb⟩
  obtain ⟨A, c, rfl, h1, _, h3, _, h5⟩ := ho.open'
  exact ⟨A, c, rfl, h3, h1, h5, hb⟩
theorem plain_back (l r : List UInt8) (A : Option Addr) (n m c : Nat) (w : World) (hn : n = l.length) (hw : Env w) (hr : Rd w A l) (hcap : n ≤ c) (hA : A = none → c = 0) (hl : n ≤ 100000000) (hd : Hid (dat l = l.length)) (hs : Hid (ustF false l = r)) (hm : m = r.length) :
    Calls Tryd.prog 16 #[.slice A n c] w fun e w' => ∃ B d, e = .returned (.tuple #[.slice B m d, .bool true]) ∧ Rd w' B r ∧ Below w.heap.size w w' := by
  subst hn hm
  rw [← hs.out]
  refine (plain_yes l A c w hw hr hcap hA hl hd).mono ?_
  rintro e w' ⟨v, rfl, ho, hb⟩
  obtain ⟨B, d, rfl, _, _, r, _, _⟩ := ho.open'
  exact ⟨B, d, rfl, r, hb⟩
set_option maxRecDepth 100000 in
set_option maxHeartbeats 6400000 in
theorem back_near (l : List (Int × Int)) (bs : List UInt8) (A A2 : Option Addr) (c c2 : Nat) (w : World) (hw : Env w) (hr : Pz w A l) (hr2 : Rd w A2 bs) (hcap2 : bs.length ≤ c2) (hA2 : A2 = none → c2 = 0) (hl : l.length ≤ 200) (hb : bs.length ≤ 300) :
    Calls Tryd.prog 6 #[.slice A l.length c, .slice A2 bs.length c2] w fun e w' => e = .returned (.bool true) ∧ Below w.heap.size w w' := by
  have T0 : Hid (Tw ((w.alloc (.cells #[.slice none 0 0, .int .u32 0, .int .i64 0] 27)).alloc (.cells #[.slice none 0 0, .int .u32 0, .int .i64 0] 27)) w.heap.size w.heap.size [] (w.heap.size + 1) []) := Tw.start w _
  have B0 := Lib.hid (((Below.refl w.heap.size w).alloc (Nat.le_refl _) (.cells #[.slice none 0 0, .int .u32 0, .int .i64 0] 27)).alloc (by simp) (.cells #[.slice none 0 0, .int .u32 0, .int .i64 0] 27))
  go_enter Tryd.func6, Tryd.ntmps6
  go_wp2
  go_loopw [7] (fun s7 wr => ∃ k : Nat, k ≤ l.length ∧ s7 = .int .i64 k ∧ Hid (Tw wr w.heap.size w.heap.size (deeds (l.take k)) (w.heap.size + 1) (deeds (l.take k))) ∧ Hid (Below w.heap.size w wr)) (fun i _ => l.length - (RowKit.intOf i).toNat)
  case atStart => exact ⟨0, Nat.zero_le _, rfl, T0, B0⟩
  case round =>
    clear T0 B0
    obtain ⟨k, hk, rfl, HT, HB⟩ := hrel
    have z := HB.out.size
    by_cases hlt : k < l.length
    · obtain ⟨b, o, rfl, hbw, hc⟩ := hr.at hlt
      obtain ⟨B, hB⟩ : ∃ B, B = deeds (l.take k) := ⟨_, rfl⟩
      have hBl : B.length ≤ 3200 := by rw [hB]; have := deeds_len (l.take k); have := List.length_take_le k l; omega
      have hsu := deeds_succ l k hlt
      rw [← hB] at HT hsu
      obtain ⟨⟨x, n⟩, hd⟩ : ∃ d, l.getD k (0, 0) = d := ⟨_, rfl⟩
      have hcc := hc k hlt
      rw [hd] at hcc hsu
      simp only at hcc
      have HC := Lib.hid hcc
      have c1 := cell_later HB.out hcc.1
      have c2' := cell_later HB.out hcc.2
      have HBB := Lib.hid hB
      have HSU := Lib.hid hsu
      clear hc hd hB hsu hcc
      by_cases hok : 0 ≤ n ∧ n ≤ 16
      · obtain ⟨m, rfl⟩ := Int.eq_ofNat_of_zero_le hok.1
        have hm : m ≤ 16 := by omega
        have HD := Lib.hid (deed_yes x m hm)
        clear hok
        go_wp2
        have T2 := Tw.on HT ((Below.refl wr.heap.size wr).drew)
        have B2 := Lib.hid HB.out.drew
        have z2 := B2.out.size
        go_region_held3 (fun w' => w'.cell? ⟨b, o + k * 2, none⟩ = some (.int .i64 x) ∧ w'.cell? ⟨b, o + k * 2 + 1, none⟩ = some (.int .i64 m)) (first | go_keep | exact ⟨d1, d2⟩ | exact ⟨f1, f2⟩)
          (first
            | ((with_reducible refine (Tw.put x m T2 hm (by omega) z2).mono ?_); rintro e w1 ⟨rfl, T3, h3⟩; have B3 := Lib.hid (B2.out.trans h3); have d1 := cell_later B3.out HC.out.1; have d2 := cell_later B3.out HC.out.2; have z3 := B3.out.size; clear h3 HT HB T2 B2)
            | ((with_reducible refine (Tw.put2 x m T3 hm (by omega) z3).mono ?_); rintro e w4 ⟨rfl, T4, h4⟩; have B4 := Lib.hid (B3.out.trans h4); have f1 := cell_later B4.out HC.out.1; have f2 := cell_later B4.out HC.out.2; have z4 := B4.out.size; clear h4 T3 B3))
        obtain ⟨D, hD⟩ : ∃ D, D = B ++ lo x m := ⟨_, rfl⟩
        have hDl : D.length ≤ 3216 := by rw [hD, List.length_append, lo_len]; omega
        rw [← hD] at T4
        have HDD := Lib.hid hD
        obtain ⟨R, hR⟩ : ∃ R, stf (pack (pad D)) = R := ⟨_, rfl⟩
        have HR := Lib.hid hR
        clear hD hR
        clear f1 f2 d1 d2 c1 c2'
        go_wp2_with fail
        (with_reducible refine (done_own w.heap.size (w.heap.size + 1) D R R.length _ (hw.below B4.out) (Tw.snd T4) (by omega) HR rfl).mono ?_); rintro e w5 ⟨A5, c5, rfl, r5, _, _, h5⟩
        have T5 := Tw.on T4 h5
        have B5 := Lib.hid (B4.out.trans (h5.mono z4))
        clear T4 B4 h5 r5
        go_wp2
        go_roundw
        case rel => exact ⟨k + 1, by omega, by go_num, (show Hid _ from by show Tw _ _ _ _ _ _; rw [HSU.out, HD.out, ← HDD.out]; exact T5.out), B5⟩
        case measure => simp [RowKit.intOf]; omega
      · have hbad : n < 0 ∨ 16 < n := by omega
        have HD := Lib.hid (deed_no (d := (x, n)) hbad)
        have HP := fun p W => put_bad p x n W hbad
        clear hok hbad
        go_wp2
        have T4 := Tw.on HT ((Below.refl wr.heap.size wr).drew)
        have B4 := Lib.hid HB.out.drew
        have z4 := B4.out.size
        obtain ⟨R, hR⟩ : ∃ R, stf (pack (pad B)) = R := ⟨_, rfl⟩
        have HR := Lib.hid hR
        clear hR
        go_region_held3 (fun w' => w'.cell? ⟨b, o + k * 2, none⟩ = some (.int .i64 x) ∧ w'.cell? ⟨b, o + k * 2 + 1, none⟩ = some (.int .i64 n)) (first | go_keep)
          (first | ((with_reducible refine (HP _ _).mono ?_); rintro e w1 ⟨rfl, rfl⟩))
        go_wp2_with fail
        (with_reducible refine (done_own w.heap.size (w.heap.size + 1) B R R.length _ (hw.below B4.out) (Tw.snd T4) (by omega) HR rfl).mono ?_); rintro e w5 ⟨A5, c5, rfl, r5, _, _, h5⟩
        have T5 := Tw.on T4 h5
        have B5 := Lib.hid (B4.out.trans (h5.mono z4))
        clear T4 B4 h5 r5
        go_wp2
        go_roundw
        case rel => exact ⟨k + 1, by omega, by go_num, (show Hid _ from by show Tw _ _ _ _ _ _; rw [HSU.out, HD.out, List.append_nil]; exact T5.out), B5⟩
        case measure => simp [RowKit.intOf]; omega
    · have hkl : k = l.length := by omega
      rw [hkl, List.take_length] at HT
      obtain ⟨D, hD⟩ : ∃ D, D = deeds l := ⟨_, rfl⟩
      have hDl : D.length ≤ 3200 := by rw [hD]; have := deeds_len l; omega
      rw [← hD] at HT
      have HDD := Lib.hid hD
      obtain ⟨R, hR⟩ : ∃ R, stf (pack (pad D)) = R := ⟨_, rfl⟩
      have HR := Lib.hid hR
      have HBT := Lib.hid (Tw.bit HT)
      have hRl : R.length ≤ 1000 := by rw [← HR.out]; have := stf_len (pack (pad D)); rw [pack_len, pad_8] at this; omega
      clear hD hR hkl
      go_wp2_with fail
      (with_reducible refine (done_own w.heap.size w.heap.size D R R.length _ (hw.below HB.out) (Tw.fst HT) (by omega) HR rfl).mono ?_); rintro e w5 ⟨A5, c5, rfl, r5, hA5, hc5, h5⟩
      have T5 := Tw.on HT h5
      have B5 := Lib.hid (HB.out.trans (h5.mono z))
      have z5 := B5.out.size
      clear HT HB h5
      go_upto_region 11 with fail
      go_cut [69] (fun s69 wx => s69 = .bool false ∧ Hid (Tw wx w.heap.size w.heap.size D (w.heap.size + 1) D) ∧ Hid (Rd wx A5 R) ∧ Hid (Below w.heap.size w wx))
      case first =>
        have T6 := Tw.on T5 ((Below.refl w5.heap.size w5).drew)
        have B6 := Lib.hid B5.out.drew
        have q6 := Lib.hid (r5.out.below ((Below.refl w5.heap.size w5).drew))
        have e0 := run_strB w5.drew R A5 c5 q6.out
        go_region_with (first
          | ((with_reducible refine (done_own w.heap.size (w.heap.size + 1) D R R.length _ (hw.below B6.out) (Tw.snd T6) (by omega) HR rfl).mono ?_); rintro e w6 ⟨A6, c6, rfl, r6, _, _, h6⟩; have T7 := Tw.on T6 h6; have B7 := Lib.hid (B6.out.trans (h6.mono B6.out.size)); have q7 := Lib.hid (q6.out.below h6); have e1 := run_strB w6 R A6 c6 r6.out; have e2 := run_strB w6 R A5 c5 q7.out)
          | ((with_reducible refine (done_own w.heap.size w.heap.size D R R.length _ (hw.below B7.out) (Tw.fst T7) (by omega) HR rfl).mono ?_); rintro e w7 ⟨A7, c7, rfl, r7, _, _, h7⟩; have T8 := Tw.on T7 h7; have B8 := Lib.hid (B7.out.trans (h7.mono B7.out.size)); have q8 := Lib.hid (q7.out.below h7); have e3 := run_strB w7 R A7 c7 r7.out; have e4 := run_strB w7 R A5 c5 q8.out))
        all_goals (go_wp2_with fail; go_meet; exact ⟨rfl, T8, q8, B8⟩)
      case rest =>
        obtain ⟨rfl, T8, q8, B8⟩ := hcut
        have z8 := B8.out.size
        clear T5 B5 z5 r5 T8
        go_wp2_with fail
        go_loop [9] (fun s9 => ∃ i : Nat, i ≤ R.length ∧ s9 = .int .i64 i) (fun s9 => R.length - (RowKit.intOf s9).toNat)
        case atStart => exact ⟨0, Nat.zero_le _, rfl⟩
        case round =>
          obtain ⟨i, hi, rfl⟩ := hrel
          by_cases hi2 : i < R.length
          · obtain ⟨b, o, hA5', hcell⟩ := q8.out.at (by omega)
            subst hA5'
            have e1 := hcell i hi2
            by_cases h5 : bt R i = 255
            · obtain ⟨hn1, hn2⟩ := ff_next HR.out hi2 h5
              have e2 := hcell (i + 1) hn1
              have hq : (bt R i == 255) = true := by rw [h5]; rfl
              have hg : decide ((R.length : Int) ≤ (i : Int) + 1) = false := by rw [decide_eq_false_iff_not]; omega
              have hq2 : (bt R (i + 1) != 0) = false := by rw [hn2]; rfl
              clear hcell h5 hn2
              go_wp2
              go_round
              case rel => exact ⟨i + 1, by omega, by go_num⟩
              case measure => simp [RowKit.intOf]; omega
            · have hq : (bt R i == 255) = false := by rw [beq_eq_false_iff_ne]; exact h5
              clear hcell h5
              go_wp2
              go_round
              case rel => exact ⟨i + 1, by omega, by go_num⟩
              case measure => simp [RowKit.intOf]; omega
          · obtain ⟨X, hX⟩ : ∃ X, pack (pad D) = X := ⟨_, rfl⟩
            obtain ⟨hx1, hx2⟩ := read_back HBT.out
            rw [HR.out, hX] at hx1
            rw [hX] at hx2
            have hXl : 8 * X.length = (pad D).length := by rw [← hx2, bitsOf_len]
            rw [pad_8] at hXl
            have hX1 : D.length ≤ 8 * X.length := by omega
            have hX2 : X.length ≤ 401 := by omega
            have HX1 := Lib.hid hx1
            have HX2 := Lib.hid hx2
            clear hX hx1 hx2 hXl
            go_wp2_with fail
            (with_reducible refine (new_at R X A5 R.length c5 _ rfl (hw.below B8.out) q8.out hc5 hA5 (by omega) HX1).mono ?_); rintro e wq ⟨q, rfl, Rq, hq, hnq⟩
            have Bq := Lib.hid (B8.out.trans (hnq.mono z8))
            have zq := Bq.out.size
            have hqb : w.heap.size ≤ q := by omega
            clear B8 q8 hnq
            go_wp2
            go_loopw [11] (fun s11 wr => ∃ k j : Nat, k ≤ l.length ∧ s11 = .int .i64 k ∧ j ≤ D.length ∧ Hid (j = (deeds (l.take k)).length) ∧ Hid (Rdr wr q X j) ∧ Hid (Below w.heap.size w wr)) (fun s11 _ => l.length - (RowKit.intOf s11).toNat)
            case atStart => exact ⟨0, 0, Nat.zero_le _, rfl, Nat.zero_le _, (show Hid _ from by show _ = _; simp [deeds]), Rq, Bq⟩
            case round =>
              clear Rq Bq zq
              obtain ⟨k, j, hk, rfl, hj, HJ, HRq, HB⟩ := hrel
              have z := HB.out.size
              by_cases hlt : k < l.length
              · obtain ⟨b, o, rfl, hbw, hc⟩ := hr.at hlt
                obtain ⟨⟨x, n⟩, hd⟩ : ∃ d, l.getD k (0, 0) = d := ⟨_, rfl⟩
                have hcc := hc k hlt
                rw [hd] at hcc
                simp only at hcc
                have HC := Lib.hid hcc
                have c1 := cell_later HB.out hcc.1
                have c2' := cell_later HB.out hcc.2
                by_cases hok : 0 ≤ n ∧ n ≤ 16
                · obtain ⟨m, rfl⟩ := Int.eq_ofNat_of_zero_le hok.1
                  have hm : m ≤ 16 := by omega
                  obtain ⟨g1, g2, g3⟩ := deed_at l k hlt x m hm hd
                  rw [← HDD.out, ← HJ.out] at g1 g2
                  rw [← HJ.out] at g3
                  obtain ⟨p, hpp⟩ : ∃ p : Int, (2 : Int) ^ m = p := ⟨_, rfl⟩
                  have hand := and_pow x m hm
                  have hp16 := pow_le16 hm
                  rw [hpp] at hand g1 hp16
                  obtain ⟨hp0, hp1⟩ := hp16
                  have G1 := Lib.hid g1
                  have G3 := Lib.hid g3
                  have hq16 : decide (16 < (m : Int)) = false := by rw [decide_eq_false_iff_not]; omega
                  clear hc hd hcc hok g1 g3
                  go_wp2_with fail
                  (with_reducible refine (take_yes q X j m _ HRq.out (by omega) hm (by omega)).mono ?_); rintro e wt ⟨rfl, hr3, h3⟩
                  rw [HX2.out, G1.out]
                  have B3 := Lib.hid (HB.out.trans (h3.below z (by rintro i rfl; exact hqb)))
                  have R3 := Lib.hid hr3
                  have d1 := cell_later B3.out HC.out.1
                  clear hr3 h3 HRq HB c1 c2'
                  go_wp2
                  go_roundw
                  case rel => exact ⟨k + 1, j + m, by omega, by go_num, by omega, (show Hid _ from by show _ = _; rw [G3.out]), R3, B3⟩
                  case measure => simp [RowKit.intOf]; omega
                · have hbad : n < 0 ∨ 16 < n := by omega
                  have g3 := deed_skip l k hlt (by rw [hd]; exact hbad)
                  have G3 := Lib.hid g3
                  clear hc hd hcc g3
                  by_cases hn0 : n < 0
                  · clear hok hbad
                    go_wp2
                    go_roundw
                    case rel => exact ⟨k + 1, j, by omega, by go_num, by omega, (show Hid _ from by show _ = _; rw [G3.out]; exact HJ.out), HRq, HB⟩
                    case measure => simp [RowKit.intOf]; omega
                  · have hn16 : decide (16 < n) = true := by rw [decide_eq_true_iff]; omega
                    have hn00 : 0 ≤ n := by omega
                    clear hok hbad hn0
                    go_wp2
                    go_roundw
                    case rel => exact ⟨k + 1, j, by omega, by go_num, by omega, (show Hid _ from by show _ = _; rw [G3.out]; exact HJ.out), HRq, HB⟩
                    case measure => simp [RowKit.intOf]; omega
              · have hkl : k = l.length := by omega
                have hjD : j = D.length := by rw [HJ.out, hkl, List.take_length, HDD.out]
                obtain ⟨S, hS⟩ : ∃ S, stf bs = S := ⟨_, rfl⟩
                have hS1 := stf_head bs
                have hS2 := ust_stf bs
                have hS3 := stf_len bs
                rw [hS] at hS1 hS2 hS3
                have HS0 := Lib.hid hS
                have HS1 := Lib.hid hS1
                have HS2 := Lib.hid hS2
                have HFB : Hid (fillB ((bitsOf X).drop j) = true) := by show _ = _; rw [HX2.out, hjD]; exact fill_pad HBT.out
                clear hkl hjD hS hS1 hS2
                go_wp2_with fail
                (with_reducible refine (stuff_full bs S A2 bs.length S.length c2 _ rfl (hw.below HB.out) (hr2.below HB.out) hcap2 hA2 (by omega) HS0 rfl).mono ?_); rintro e wa ⟨Aa, ca, rfl, ra, hca, hAa, ha⟩
                have Ba := Lib.hid (HB.out.trans (ha.mono z))
                have za := Ba.out.size
                have Ra := Lib.hid (HRq.out.below ha)
                clear HB HRq ha
                go_wp2_with fail
                (with_reducible refine (plain_back S bs Aa S.length bs.length ca _ rfl (hw.below Ba.out) ra hca hAa (by omega) HS1 HS2 rfl).mono ?_); rintro e wb ⟨Ab, cb, rfl, rb, hb'⟩
                have Bb := Lib.hid (Ba.out.trans (hb'.mono za))
                have zb := Bb.out.size
                have Rb := Lib.hid (Ra.out.below hb')
                clear Ba Ra hb' ra
                go_wp2_with fail
                (with_reducible refine (filled_at q X j true _ Rb.out (by omega) (by omega) HFB).mono ?_); rintro e wc ⟨rfl, Rc, hc'⟩
                have Bc := Lib.hid (Bb.out.trans (hc'.mono zb))
                have zc := Bc.out.size
                have e0 := run_strB wc bs Ab cb (rb.below hc')
                have e1 := run_strB wc bs A2 c2 (hr2.below Bc.out)
                have hlen : decide ((bs.length : Int) ≤ (S.length : Int)) = true := by rw [decide_eq_true_iff]; omega
                clear Bb Rb Rc hc' rb
                go_wp2_with fail
                (with_reducible refine (awake_any _ (hw.below Bc.out)).mono ?_); rintro e wd ⟨rfl, hd'⟩
                go_wp2
                go_ret
                exact ⟨rfl, Bc.out.trans (hd'.mono zc)⟩
end Go.Proofs.YthidhgobocihpaaDoor
