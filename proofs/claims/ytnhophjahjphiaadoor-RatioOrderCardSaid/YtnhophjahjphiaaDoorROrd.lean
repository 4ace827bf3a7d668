/- The law RatioOrder: it returns true, whatever the three ratios. -/
import Derived.Test.YtnhophjahjphiaaDoorROrdA
namespace Go.Proofs.YtnhophjahjphiaaDoor
open Go.RowKit
set_option linter.unusedVariables false

set_option maxRecDepth 100000 in
set_option maxHeartbeats 6400000 in
theorem rorder_any (an ad bn bd cn cd : Int) (w : World) (hw : Env w) :
    Calls Tryd.prog 5 #[.agg #[.int .i64 an, .int .i64 ad], .agg #[.int .i64 bn, .int .i64 bd], .agg #[.int .i64 cn, .int .i64 cd]] w fun e w' => e = .returned (.bool true) ∧ Below w.heap.size w w' := by
  have K0 := Lib.hid (K3.new w an ad bn bd cn cd 23 23 23)
  have HA := Lib.hid (text_any an ad _ (hw.below K0.out.g))
  go_enter Tryd.func5, Tryd.ntmps5
  have l0 := K0.out.a.c0
  have l1 := K0.out.a.c1
  go_wp2_with fail
  (with_reducible refine HA.out.mono ?_); rintro e w1 ⟨rfl, h1⟩
  have K1 := Lib.hid (K0.out.call h1)
  clear h1 K0 HA l0 l1
  go_upto_if 27 with fail
  go_cut [7] (fun s7 wx => K3 w an ad bn bd cn cd wx)
  case first => as_aux_lemma =>
    cases hv : validB an ad
    · rw [text_isE hv]
      go_wp2_with fail
      go_meet
      exact K1.out
    · rw [text_nonE hv]
      obtain ⟨p1, p2, p3⟩ := text_pr hv
      have hp := parse_any (textL an ad) w1 (hw.below K1.out.g) (by have := text_len an ad; omega)
      rw [p1, p2, p3] at hp
      have HP := Lib.hid hp
      have HB := Lib.hid (fun W hW => text_any bn bd W hW)
      have HT : Hid (∀ h : ¬ (an = bn ∧ ad = bd), ((strB (textL an ad)).toList == (strB (textL bn bd)).toList) = false) := Lib.hid (fun h => by rw [strB_beq, decide_eq_false_iff_not]; exact fun k => h (text_inj hv k))
      clear p1 p2 p3 hp
      generalize textL an ad = S at *
      generalize textL bn bd = R at *
      go_wp2_with fail
      (with_reducible refine HP.out.mono ?_); rintro e w2 ⟨rfl, h2⟩
      have K2 := Lib.hid ((K1.out.call h2).alloc (.cells #[.int .i64 an, .int .i64 ad] 23))
      have B2 := Lib.hid (Bx.new w2 an ad 23)
      clear h2 K1 HP
      have l0 := K2.out.a.c0
      have l1 := K2.out.a.c1
      have m0 := K2.out.b.c0
      have m1 := K2.out.b.c1
      have n0 := B2.out.c0
      have n1 := B2.out.c1
      by_cases hab : an = bn
      · subst hab
        by_cases had : ad = bd
        · subst had
          clear HT
          go_wp2_with fail
          go_meet
          exact K2.out
        · have ht := HT.out (fun k => had k.2)
          have hx : (ad == bd) = false := beq_eq_false_iff_ne.2 had
          clear HT
          go_wp2_with fail
          (with_reducible refine (HB.out _ (hw.below K2.out.g)).mono ?_); rintro e w3 ⟨rfl, h3⟩
          have K3' := Lib.hid (K2.out.call h3)
          clear h3 K2 B2 l0 l1 m0 m1 n0 n1
          go_wp2_with fail
          go_meet
          exact K3'.out
      · have ht := HT.out (fun k => hab k.1)
        have hx : (an == bn) = false := beq_eq_false_iff_ne.2 hab
        clear HT
        go_wp2_with fail
        (with_reducible refine (HB.out _ (hw.below K2.out.g)).mono ?_); rintro e w3 ⟨rfl, h3⟩
        have K3' := Lib.hid (K2.out.call h3)
        clear h3 K2 B2 l0 l1 m0 m1 n0 n1
        go_wp2_with fail
        go_meet
        exact K3'.out
  case rest =>
    have K4 := Lib.hid hcut
    clear hcut
    have HC1 := Lib.hid (fun W => cmp_any an ad bn bd W)
    have HC2 := Lib.hid (fun W => cmp_any bn bd cn cd W)
    have HC3 := Lib.hid (fun W => cmp_any an ad cn cd W)
    have HC4 := Lib.hid (fun W => cmp_any bn bd an ad W)
    rw [cmpV_swap an ad bn bd, cmpOk_swap an ad bn bd] at HC4
    have HL1 := Lib.hid (fun W => least_any an ad W)
    have HL2 := Lib.hid (fun W => least_any bn bd W)
    have HC5 := Lib.hid (fun W => cmp_any an ad (lstN an ad) (lstD an ad) W)
    have SP := Lib.hid (fun h k => self_pure (n := an) (d := ad) h k)
    have PO := Lib.hid (fun p q => order_pure (an := an) (ad := ad) (bn := bn) (bd := bd) (cn := cn) (cd := cd) p q)
    have RX := Lib.hid (cmpV_rng an ad bn bd)
    have RY := Lib.hid (cmpV_rng bn bd cn cd)
    have RZ := Lib.hid (cmpV_rng an ad cn cd)
    have HP := Lib.hid (fun W => cPlain_any (lstN an ad) (lstD an ad) W)
    have HS := Lib.hid (fun W => cSigned_any (lstN an ad) (lstD an ad) W)
    generalize cmpV an ad bn bd = x at *
    generalize cmpOk an ad bn bd = p at *
    generalize cmpV bn bd cn cd = y at *
    generalize cmpOk bn bd cn cd = q at *
    generalize cmpV an ad cn cd = z at *
    generalize cmpOk an ad cn cd = r at *
    generalize cmpV an ad (lstN an ad) (lstD an ad) = x5 at *
    generalize cmpOk an ad (lstN an ad) (lstD an ad) = p5 at *
    generalize lstN an ad = un at *
    generalize lstD an ad = ud at *
    generalize lstN bn bd = vn at *
    generalize lstD bn bd = vd at *
    generalize hasB an ad = ha at *
    generalize hasB bn bd = hb at *
    clear K1
    have la0 := K4.out.a.c0
    have la1 := K4.out.a.c1
    have lb0 := K4.out.b.c0
    have lb1 := K4.out.b.c1
    go_wp2_with fail
    (with_reducible refine (HC1.out _).mono ?_); rintro e v5 ⟨rfl, h5⟩
    have K5 := Lib.hid (K4.out.call h5)
    clear h5 K4 la0 la1 lb0 lb1
    have lb0 := K5.out.b.c0
    have lb1 := K5.out.b.c1
    have lc0 := K5.out.c.c0
    have lc1 := K5.out.c.c1
    go_wp2_with fail
    (with_reducible refine (HC2.out _).mono ?_); rintro e v6 ⟨rfl, h6⟩
    have K6 := Lib.hid (K5.out.call h6)
    clear h6 K5 lb0 lb1 lc0 lc1
    have la0 := K6.out.a.c0
    have la1 := K6.out.a.c1
    have lc0 := K6.out.c.c0
    have lc1 := K6.out.c.c1
    go_wp2_with fail
    (with_reducible refine (HC3.out _).mono ?_); rintro e v7 ⟨rfl, h7⟩
    have K7 := Lib.hid (K6.out.call h7)
    clear h7 K6 la0 la1 lc0 lc1
    have lb0 := K7.out.b.c0
    have lb1 := K7.out.b.c1
    have la0 := K7.out.a.c0
    have la1 := K7.out.a.c1
    go_wp2_with fail
    (with_reducible refine (HC4.out _).mono ?_); rintro e v8 ⟨rfl, h8⟩
    have K8 := Lib.hid (K7.out.call h8)
    clear h8 K7 lb0 lb1 la0 la1
    clear HC1 HC2 HC3 HC4
    go_upto_region 10 with fail
    go_cut [91] (fun c wx => c = .bool false ∧ wx = v8)
    case first => as_aux_lemma =>
      have rx := RX.out
      obtain rfl | rfl | rfl : x = -1 ∨ x = 0 ∨ x = 1 := by omega
      all_goals (go_wp2_with fail; go_meet; exact ⟨rfl, rfl⟩)
    case rest =>
      (obtain ⟨rfl, hh⟩ := hcut; subst wc)
      cases p
      · clear PO SP
        go_wp2_with fail
        (with_reducible refine (awake_any _ (hw.below K8.out.g)).mono ?_); rintro e wz ⟨rfl, hz⟩
        have gz := bstep K8.out.g hz
        clear hz
        go_wp2
        go_ret
        exact ⟨rfl, gz⟩
      · cases q
        · clear PO SP
          go_wp2_with fail
          (with_reducible refine (awake_any _ (hw.below K8.out.g)).mono ?_); rintro e wz ⟨rfl, hz⟩
          have gz := bstep K8.out.g hz
          clear hz
          go_wp2
          go_ret
          exact ⟨rfl, gz⟩
        · have po := PO.out rfl rfl
          obtain ⟨rfl, t1, t2, t3, t4, t5, t6, rfl, rfl⟩ := po
          have T1 := Lib.hid t1
          have T2 := Lib.hid t2
          have T3 := Lib.hid t3
          have T4 := Lib.hid t4
          have T5 := Lib.hid t5
          have T6 := Lib.hid t6
          have SP2 := Lib.hid (fun k => SP.out rfl k)
          clear t1 t2 t3 t4 t5 t6 PO SP
          go_upto_region 14 with fail
          go_cut [142] (fun c wx => c = .bool false ∧ wx = v8)
          case first => as_aux_lemma =>
            have rx := RX.out; have ry := RY.out; have rz := RZ.out; have t1 := T1.out; have t2 := T2.out; have t3 := T3.out; have t4 := T4.out
            obtain rfl | rfl | rfl : x = -1 ∨ x = 0 ∨ x = 1 := by omega
            all_goals (obtain rfl | rfl | rfl : y = -1 ∨ y = 0 ∨ y = 1 := by omega)
            all_goals (obtain rfl | rfl | rfl : z = -1 ∨ z = 0 ∨ z = 1 := by omega)
            all_goals first | (exfalso; omega) | (clear rx ry rz t1 t2 t3 t4; as_aux_lemma => (go_wp2_with fail; go_meet; exact ⟨rfl, rfl⟩))
          case rest =>
            (obtain ⟨rfl, hh⟩ := hcut; subst wc)
            clear T1 T2 T3 T4 RX RY RZ
            have la0 := K8.out.a.c0
            have la1 := K8.out.a.c1
            go_wp2_with fail
            (with_reducible refine (HL1.out _).mono ?_); rintro e v9 ⟨rfl, h9⟩
            have K9 := Lib.hid (K8.out.call h9)
            clear h9 K8 la0 la1
            have U9 := Lib.hid (Bx.new v9 un ud 23)
            have K10 := Lib.hid (K9.out.alloc (.cells #[.int .i64 un, .int .i64 ud] 23))
            clear K9
            have lb0 := K10.out.b.c0
            have lb1 := K10.out.b.c1
            go_wp2_with fail
            (with_reducible refine (HL2.out _).mono ?_); rintro e v11 ⟨rfl, h11⟩
            have K11 := Lib.hid ((K10.out.call h11).alloc (.cells #[.int .i64 vn, .int .i64 vd] 23))
            have U11 := Lib.hid ((U9.out.below h11).alloc (.cells #[.int .i64 vn, .int .i64 vd] 23))
            have V11 := Lib.hid (Bx.new v11 vn vd 23)
            clear h11 K10 U9 lb0 lb1 HL1 HL2
            have u0 := U11.out.c0
            have u1 := U11.out.c1
            have x0 := V11.out.c0
            have x1 := V11.out.c1
            go_upto_region 18 with fail
            go_cut [171] (fun c wx => c = .bool false ∧ wx = v11.alloc (.cells #[.int .i64 vn, .int .i64 vd] 23))
            case first => as_aux_lemma =>
              have hd : ¬ ud < 1 := by have := T6.out; omega
              have he : decide (ud < 1) = false := decide_eq_false_iff_not.2 hd
              by_cases hx : x = 0
              · have t5 := T5.out.1 hx
                subst hx
                obtain ⟨rfl, rfl⟩ := t5
                go_wp2_with fail
                go_meet
                exact ⟨rfl, rfl⟩
              · have hy : (x == 0) = false := beq_eq_false_iff_ne.2 hx
                have t5 := fun k => hx (T5.out.2 k)
                by_cases hn : un = vn
                · subst hn
                  have hm : ¬ ud = vd := fun k => t5 ⟨rfl, k⟩
                  have hm2 : (ud == vd) = false := beq_eq_false_iff_ne.2 hm
                  clear t5
                  go_wp2_with fail
                  go_meet
                  exact ⟨rfl, rfl⟩
                · have hn2 : (un == vn) = false := beq_eq_false_iff_ne.2 hn
                  clear t5
                  go_wp2_with fail
                  go_meet
                  exact ⟨rfl, rfl⟩
            case rest =>
              (obtain ⟨rfl, hh⟩ := hcut; subst wc)
              clear T5 T6 V11 x0 x1
              go_upto_region 20 with fail
              go_cut [179] (fun c wx => c = .bool (!validB un ud) ∧ K3 w an ad bn bd cn cd wx ∧ Bx wx v9.heap.size un ud)
              case first => as_aux_lemma =>
                have hv : validB un ud = (plainB un ud || signB un ud) := rfl
                have HV := Lib.hid hv
                clear hv
                generalize validB un ud = vv at *
                generalize plainB un ud = pp at *
                generalize signB un ud = ss at *
                go_wp2_with fail
                (with_reducible refine (HP.out _).mono ?_); rintro e v12 ⟨rfl, h12⟩
                have K12 := Lib.hid (K11.out.call h12)
                have U12 := Lib.hid (U11.out.below h12)
                clear h12 K11 U11 u0 u1
                cases pp
                · have u0 := U12.out.c0
                  have u1 := U12.out.c1
                  go_wp2_with fail
                  (with_reducible refine (HS.out _).mono ?_); rintro e v13 ⟨rfl, h13⟩
                  have K13 := Lib.hid (K12.out.call h13)
                  have U13 := Lib.hid (U12.out.below h13)
                  clear h13 K12 U12 u0 u1
                  cases ss
                  all_goals (go_wp2_with fail; go_meet; exact ⟨by rw [HV.out]; rfl, K13.out, U13.out⟩)
                · go_wp2_with fail
                  go_meet
                  exact ⟨by rw [HV.out]; rfl, K12.out, U12.out⟩
              case rest =>
                obtain ⟨rfl, kc, uc⟩ := hcut
                have K20 := Lib.hid kc
                have U20 := Lib.hid uc
                clear kc uc K11 U11 u0 u1 HP HS
                have SP3 := SP2.out
                clear SP2
                cases hv : validB un ud
                · skip
                  clear SP3
                  go_wp2_with fail
                  (with_reducible refine (awake_any _ (hw.below K20.out.g)).mono ?_); rintro e wz ⟨rfl, hz⟩
                  have gz := bstep K20.out.g hz
                  clear hz
                  go_wp2
                  go_ret
                  exact ⟨rfl, gz⟩
                · obtain ⟨rfl, rfl⟩ := SP3 hv
                  have u0 := U20.out.c0
                  have u1 := U20.out.c1
                  have la0 := K20.out.a.c0
                  have la1 := K20.out.a.c1
                  go_wp2_with fail
                  (with_reducible refine (HC5.out _).mono ?_); rintro e v21 ⟨rfl, h21⟩
                  have K21 := Lib.hid (K20.out.call h21)
                  clear h21 K20 la0 la1
                  go_wp2_with fail
                  (with_reducible refine (awake_any _ (hw.below K21.out.g)).mono ?_); rintro e wz ⟨rfl, hz⟩
                  have gz := bstep K21.out.g hz
                  clear hz
                  go_wp2
                  go_ret
                  exact ⟨rfl, gz⟩
end Go.Proofs.YtnhophjahjphiaaDoor
