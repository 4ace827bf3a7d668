/- The law RasterDoes (written by tools/gen_raU.py). -/
import Derived.Test.YtogpnpcdghabmaaRaT
namespace Go.Proofs.Ytogpnpcdghabmaa
open Go.RowKit Go.Lib
set_option linter.unusedVariables false
set_option maxRecDepth 100000
set_option linter.unusedSimpArgs false
/-- The law's own guard: what it asks nothing of. -/
def skip9 (n : Nat) (x y : Int) : Bool := decide ((n : Int) > 3000) || ((decide (x > 60) && decide (x ≤ 4096)) || (decide (y > 60) && decide (y ≤ 4096)))
theorem skip_no {n : Nat} {x y : Int} (h : skip9 n x y = false) : n ≤ 3000 ∧ (x ≤ 60 ∨ 4096 < x) ∧ (y ≤ 60 ∨ 4096 < y) := by
  unfold skip9 at h
  simp only [Bool.or_eq_false_iff, Bool.and_eq_false_iff, decide_eq_false_iff_not] at h
  omega
/-- What the document's function has made, in a statement. -/
def SmP (x y : Int) (ls : Nat → List UInt8) (i : Nat) (v : Value) (W : World) : Prop := ∃ A' c', v = .agg #[.int .i64 x, .int .i64 y, .slice A' (ls i).length c'] ∧ Rd W A' (ls i)
theorem SmP.st {x y : Int} {ls : Nat → List UInt8} (i : Nat) (v : Value) (W W' : World) (hT : Below W.heap.size W W') (h : SmP x y ls i v W) : SmP x y ls i v W' := by
  obtain ⟨A', c', h1, h2⟩ := h
  exact ⟨A', c', h1, h2.below hT⟩
theorem SmP.rd {x y p q : Int} {ls : Nat → List UInt8} {i : Nat} {A : Option Addr} {m c : Nat} {W : World} (h : SmP x y ls i (.agg #[.int .i64 p, .int .i64 q, .slice A m c]) W) : Rd W A (ls i) := by
  obtain ⟨A', c', h1, h2⟩ := h
  simp only [Value.agg.injEq, Array.mk.injEq, List.cons.injEq, Value.slice.injEq] at h1
  obtain ⟨_, _, ⟨rfl, _, _⟩, _⟩ := h1
  exact h2
theorem same_agg (l : List UInt8) (W H : Int) (A A2 : Option Addr) (n c n2 c2 : Nat) (hn : n = l.length) (hn2 : n2 = l.length) (w : World) (h1 : Rd w A l) (h2 : Rd w A2 l) :
    Calls Try.prog 19 #[.agg #[.int .i64 W, .int .i64 H, .slice A n c], .agg #[.int .i64 W, .int .i64 H, .slice A2 n2 c2]] w fun e w' => e = .returned (.bool true) ∧ Below w.heap.size w w' := same_yes l W H A A2 n c n2 c2 hn hn2 w h1 h2
theorem ent_rbox : ∀ args w, (callFunc 20 args).run Try.prog w = .ok (.enter 20 args) w := enters_of Try.func20 (by kernel_rfl) rfl
theorem ent_rpad : ∀ args w, (callFunc 21 args).run Try.prog w = .ok (.enter 21 args) w := enters_of Try.func21 (by kernel_rfl) rfl
theorem ent_same : ∀ args w, (callFunc 19 args).run Try.prog w = .ok (.enter 19 args) w := enters_of Try.func19 (by kernel_rfl) rfl
theorem ok_eq {M s1 s2 d1 d2 : Bool} : (M && ((s1 && s2) && (d1 && d2))) = (((M && s1) && s2) && (d1 && d2)) := by cases M <;> cases s1 <;> cases s2 <;> rfl
set_option maxHeartbeats 40000000 in
theorem does_any (l : List UInt8) (W H x y : Int) (A : Option Addr) (n c : Nat) (hn : n = l.length) (hnc : n ≤ c) (hcm : c ≤ maxLen) (w : World) (hr : Rd w A l) :
    Calls Try.prog 4 #[.agg #[.int .i64 W, .int .i64 H, .slice A n c], .int .i64 x, .int .i64 y] w fun e w' => e = .returned (.bool true) ∧ Below w.heap.size w w' := by
  have M0 := Lib.hid ((Ms.refl w).new #[.int .i64 W, .int .i64 H, .slice A n c] 24 w.heap.size rfl)
  have HSK : Hid (skip9 n x y = (decide ((n : Int) > 3000) || ((decide (x > 60) && decide (x ≤ 4096)) || (decide (y > 60) && decide (y ≤ 4096))))) := rfl
  have hsn := fun h => skip_no (n := n) (x := x) (y := y) h
  have HMR := Lib.hid (fun W' => rMay_any W H A n c W')
  have HZX := Lib.hid (fun W' => rSize_any x W')
  have HZY := Lib.hid (fun W' => rSize_any y W')
  have HR := Lib.hid hr
  have HOW := Lib.hid (fun h W' hr' => own_any l W H A n c hn h W' hr')
  have HSN : Hid (skip9 n x y = false → n ≤ 3000 ∧ (x ≤ 60 ∨ 4096 < x) ∧ (y ≤ 60 ∨ 4096 < y)) := hsn
  clear hsn
  generalize hsk : skip9 n x y = SK at *
  clear hsk
  have HNN := Lib.hid hn
  have HCC := Lib.hid (And.intro hnc hcm)
  clear hr hn hnc hcm
  unfold ra at *
  go_enter Try.func4, Try.ntmps4
  go_upto_region 1 with fail
  go_cut [35] (fun s35 wx => s35 = .bool SK ∧ wx = w.alloc (.cells #[.int .i64 W, .int .i64 H, .slice A n c] 24))
  case first => as_aux_lemma =>
    clear HMR HZX HZY HR HOW HSN M0
    cases k0 : decide ((n : Int) > 3000) with
    | true =>
      rw [k0] at HSK
      go_wp2_with fail
      go_meet
      exact ⟨by rw [HSK.out]; rfl, rfl⟩
    | false =>
      cases k1 : decide (x > 60) with
      | false =>
        cases k3 : decide (y > 60) with
        | false =>
          rw [k0, k1, k3] at HSK
          go_wp2_with fail
          go_meet
          exact ⟨by rw [HSK.out]; rfl, rfl⟩
        | true =>
          cases k4 : decide (y ≤ 4096) with
          | false =>
            rw [k0, k1, k3, k4] at HSK
            go_wp2_with fail
            go_meet
            exact ⟨by rw [HSK.out]; rfl, rfl⟩
          | true =>
            rw [k0, k1, k3, k4] at HSK
            go_wp2_with fail
            go_meet
            exact ⟨by rw [HSK.out]; rfl, rfl⟩
      | true =>
        cases k2 : decide (x ≤ 4096) with
        | true =>
          rw [k0, k1, k2] at HSK
          go_wp2_with fail
          go_meet
          exact ⟨by rw [HSK.out]; rfl, rfl⟩
        | false =>
          cases k3 : decide (y > 60) with
          | false =>
            rw [k0, k1, k2, k3] at HSK
            go_wp2_with fail
            go_meet
            exact ⟨by rw [HSK.out]; rfl, rfl⟩
          | true =>
            cases k4 : decide (y ≤ 4096) with
            | false =>
              rw [k0, k1, k2, k3, k4] at HSK
              go_wp2_with fail
              go_meet
              exact ⟨by rw [HSK.out]; rfl, rfl⟩
            | true =>
              rw [k0, k1, k2, k3, k4] at HSK
              go_wp2_with fail
              go_meet
              exact ⟨by rw [HSK.out]; rfl, rfl⟩
  case rest =>
    (obtain ⟨rfl, hh⟩ := hcut; subst wc)
    cases SK with
    | true =>
      go_wp2_with fail
      (with_reducible refine (awake_any _).mono ?_); rintro e w1 ⟨rfl, h1⟩
      have M1 := Lib.hid (M0.out.call h1)
      go_wp2
      go_ret
      exact ⟨rfl, M1.out.k.be⟩
    | false =>
      obtain ⟨g1, g2, g3⟩ := HSN.out rfl
      have hnl := HNN.out
      have hmu : ∀ p q : Nat, x = (p : Int) → y = (q : Int) → sd x = true → sd y = true → 3 * p * q ≤ 65536 := fun p q e1 e2 h1 h2 => by
        have := sd_yes h1
        have := sd_yes h2
        exact mul60 (by omega) (by omega)
      obtain ⟨bw, bh, be, BL, hbl, hbx, hbt, hbf⟩ := box_all l W H x y (fun p q e1 e2 h1 h2 _ => hmu p q e1 e2 h1 h2)
      obtain ⟨pw, ph, pe, PL, hpl, hpx, hpt, hpf⟩ := pad_all l W H x y hmu
      obtain ⟨cw, ch, ce, CL, hcl, hcx, hct, hcf⟩ := cut_all l W H x y (fun p q e1 e2 h1 h2 _ => hmu p q e1 e2 h1 h2)
      rw [← hnl] at hbt hbf hpt hpf hct hcf
      have HOB : Hid ((may9 W H n && ((sd x && sd y) && wi9 x y W H)) = (((may9 W H n && sd x) && sd y) && (decide (x ≤ W) && decide (y ≤ H)))) := ok_eq
      have HOP : Hid ((may9 W H n && ((sd x && sd y) && wi9 W H x y)) = (((may9 W H n && sd x) && sd y) && (decide (x ≥ W) && decide (y ≥ H)))) := ok_eq
      generalize (may9 W H n && ((sd x && sd y) && wi9 x y W H)) = OKB at *
      generalize (may9 W H n && ((sd x && sd y) && wi9 W H x y)) = OKP at *
      obtain ⟨MS, hms⟩ : ∃ b, b = ((may9 W H n && sd x) && sd y) := ⟨_, rfl⟩
      rw [← hms] at HOB HOP
      have HMS := Lib.hid hms
      clear hms
      have HBX := Lib.hid hbx
      have HPX := Lib.hid hpx
      have HCX := Lib.hid hcx
      have HBT := Lib.hid hbt
      have HPT := Lib.hid hpt
      have HCT := Lib.hid hct
      have HBF := Lib.hid hbf
      have HPF := Lib.hid hpf
      have HCF := Lib.hid hcf
      have HLE := Lib.hid (show l.length ≤ 100000 by omega)
      simp only [Gives9, Gives9r, ra] at HBX HPX HCX HBT HPT HCT
      clear hbx hpx hcx hbt hpt hct hbf hpf hcf hbl hpl hcl hmu g1 g2 g3 hnl HSN HSK
      go_wp2_with fail
      (with_reducible refine (HOW.out HLE.out _ (HR.out.below M0.out.k.be)).mono ?_)
      rintro e w1 ⟨s, rfl, ho, hb⟩
      have M1 := Lib.hid (M0.out.pic hb ho)
      obtain ⟨A0, c0, rfl, hc0, hc0m, _, _⟩ := ho.open
      have z1 := hb.size
      simp only [World.size_alloc] at M1 z1
      have HZ1 := Lib.hid z1
      clear z1
      have M1' := Lib.hid (M1.out.new #[.int .i64 W, .int .i64 H, .slice A0 l.length c0] 24 w1.heap.size rfl)
      have HBX0 := Lib.hid (HBX.out A0 l.length c0 rfl hc0 hc0m)
      have HPX0 := Lib.hid (HPX.out A0 l.length c0 rfl hc0 hc0m)
      have HCX0 := Lib.hid (HCX.out A0 l.length c0 rfl hc0 hc0m)
      clear HBX HPX HCX M0 M1 ho hb hc0 hc0m HOW
      go_wp2_with fail
      (with_reducible refine (HBX0.out _ (M1'.out.rd 0 rfl)).mono ?_)
      rintro e w2 ⟨A1, c1, rfl, ho, hb⟩
      have M2 := Lib.hid (M1'.out.pic hb ho)
      have z2 := hb.size
      simp only [World.size_alloc] at M2 z2
      have HZ2 := Lib.hid z2
      clear z2
      have M2' := Lib.hid (M2.out.new #[.int .i64 bw, .int .i64 bh, .slice A1 BL.length c1] 24 w2.heap.size rfl)
      clear M1' M2 ho hb HBX0
      have e0 := M2'.out.k.cell 1 0 rfl rfl
      have e1 := M2'.out.k.cell 1 1 rfl rfl
      have e2 := M2'.out.k.cell 1 2 rfl rfl
      go_wp2_with fail
      (with_reducible refine (HPX0.out _ (M2'.out.rd 0 rfl)).mono ?_)
      rintro e w3 ⟨A2, c2, rfl, ho, hb⟩
      have M3 := Lib.hid (M2'.out.pic hb ho)
      have z3 := hb.size
      simp only [World.size_alloc] at M3 z3
      have HZ3 := Lib.hid z3
      clear z3
      have M3' := Lib.hid (M3.out.new #[.int .i64 pw, .int .i64 ph, .slice A2 PL.length c2] 24 w3.heap.size rfl)
      clear M2' M3 ho hb HPX0 e0 e1 e2
      have e0 := M3'.out.k.cell 1 0 rfl rfl
      have e1 := M3'.out.k.cell 1 1 rfl rfl
      have e2 := M3'.out.k.cell 1 2 rfl rfl
      go_wp2_with fail
      (with_reducible refine (HCX0.out _ (M3'.out.rd 0 rfl)).mono ?_)
      rintro e w4 ⟨A3, c3, rfl, ho, hb⟩
      have M4 := Lib.hid (M3'.out.pic hb ho)
      have z4 := hb.size
      simp only [World.size_alloc] at M4 z4
      have HZ4 := Lib.hid z4
      clear z4
      have M4' := Lib.hid (M4.out.new #[.int .i64 cw, .int .i64 ch, .slice A3 CL.length c3] 24 w4.heap.size rfl)
      clear M3' M4 ho hb HCX0 e0 e1 e2
      have e0 := M4'.out.k.cell 0 0 rfl rfl
      have e1 := M4'.out.k.cell 0 1 rfl rfl
      have e2 := M4'.out.k.cell 0 2 rfl rfl
      go_upto_region 7 with fail
      go_cut [14] (fun s14 wx => s14 = .bool MS ∧ Hid (Ms w [(w.heap.size, #[.int .i64 W, .int .i64 H, .slice A n c]), (w1.heap.size, #[.int .i64 W, .int .i64 H, .slice A0 l.length c0]), (w2.heap.size, #[.int .i64 bw, .int .i64 bh, .slice A1 BL.length c1]), (w3.heap.size, #[.int .i64 pw, .int .i64 ph, .slice A2 PL.length c2]), (w4.heap.size, #[.int .i64 cw, .int .i64 ch, .slice A3 CL.length c3])] [⟨w.heap.size + 1, w1.heap.size, .slice A0 l.length c0, l⟩, ⟨w1.heap.size + 1, w2.heap.size, .slice A1 BL.length c1, BL⟩, ⟨w2.heap.size + 1, w3.heap.size, .slice A2 PL.length c2, PL⟩, ⟨w3.heap.size + 1, w4.heap.size, .slice A3 CL.length c3, CL⟩] wx))
      case first => as_aux_lemma =>
        clear HOB HOP HBT HPT HCT HBF HPF HCF HR
        cases k0 : may9 W H n with
        | false =>
          rw [k0] at HMS
          rw [k0] at HMR
          go_wp2_with fail
          (with_reducible refine (HMR.out _).mono ?_); rintro e w5 ⟨rfl, h5⟩
          have M5 := Lib.hid (M4'.out.call h5)
          clear M4' h5 e0 e1 e2
          go_wp2_with (first
            | (go_at_call 13; first
               | ((with_reducible refine (HZX.out _).mono ?_); rintro e w6 ⟨rfl, rfl⟩)
               | ((with_reducible refine (HZY.out _).mono ?_); rintro e w6 ⟨rfl, rfl⟩)))
          go_meet
          exact ⟨by rw [HMS.out]; rfl, M5⟩
        | true =>
          cases k1 : sd x with
          | false =>
            rw [k0, k1] at HMS
            rw [k0] at HMR
            rw [k1] at HZX
            go_wp2_with fail
            (with_reducible refine (HMR.out _).mono ?_); rintro e w5 ⟨rfl, h5⟩
            have M5 := Lib.hid (M4'.out.call h5)
            clear M4' h5 e0 e1 e2
            go_wp2_with (first
              | (go_at_call 13; first
                 | ((with_reducible refine (HZX.out _).mono ?_); rintro e w6 ⟨rfl, rfl⟩)
                 | ((with_reducible refine (HZY.out _).mono ?_); rintro e w6 ⟨rfl, rfl⟩)))
            go_meet
            exact ⟨by rw [HMS.out]; rfl, M5⟩
          | true =>
            cases k2 : sd y with
            | false =>
              rw [k0, k1, k2] at HMS
              rw [k0] at HMR
              rw [k1] at HZX
              rw [k2] at HZY
              go_wp2_with fail
              (with_reducible refine (HMR.out _).mono ?_); rintro e w5 ⟨rfl, h5⟩
              have M5 := Lib.hid (M4'.out.call h5)
              clear M4' h5 e0 e1 e2
              go_wp2_with (first
                | (go_at_call 13; first
                   | ((with_reducible refine (HZX.out _).mono ?_); rintro e w6 ⟨rfl, rfl⟩)
                   | ((with_reducible refine (HZY.out _).mono ?_); rintro e w6 ⟨rfl, rfl⟩)))
              go_meet
              exact ⟨by rw [HMS.out]; rfl, M5⟩
            | true =>
              rw [k0, k1, k2] at HMS
              rw [k0] at HMR
              rw [k1] at HZX
              rw [k2] at HZY
              go_wp2_with fail
              (with_reducible refine (HMR.out _).mono ?_); rintro e w5 ⟨rfl, h5⟩
              have M5 := Lib.hid (M4'.out.call h5)
              clear M4' h5 e0 e1 e2
              go_wp2_with (first
                | (go_at_call 13; first
                   | ((with_reducible refine (HZX.out _).mono ?_); rintro e w6 ⟨rfl, rfl⟩)
                   | ((with_reducible refine (HZY.out _).mono ?_); rintro e w6 ⟨rfl, rfl⟩)))
              go_meet
              exact ⟨by rw [HMS.out]; rfl, M5⟩
      case rest =>
        obtain ⟨rfl, M5⟩ := hcut
        clear M4' e0 e1 e2
        obtain ⟨w5, rfl⟩ : ∃ w5, w5 = wc := ⟨_, rfl⟩
        go_upto_region 9 with fail
        have M6 := Lib.hid (M5.out.new #[.int .i64 0, .int .i64 0, .slice none 0 0] 24 w5.heap.size rfl)
        have HZ : Hid (w.heap.size + 1 ≤ w1.heap.size ∧ w1.heap.size + 1 ≤ w2.heap.size ∧ w2.heap.size + 1 ≤ w3.heap.size ∧ w3.heap.size + 1 ≤ w4.heap.size ∧ w4.heap.size < w5.heap.size) := ⟨HZ1.out, HZ2.out, HZ3.out, HZ4.out, M5.out.k.fresh _ (List.mem_of_getElem? (i := 4) rfl)⟩
        clear HZ1 HZ2 HZ3 HZ4 M5
        generalize w5.alloc (.cells #[.int .i64 0, .int .i64 0, .slice none 0 0] 24) = wz at *
        have e0 := M6.out.k.cell 0 0 rfl rfl
        have e1 := M6.out.k.cell 0 1 rfl rfl
        go_cut [14, 83] (fun s14 s83 wx => s14 = .bool MS ∧ s83 = .bool OKB ∧ wx = wz)
        case first => as_aux_lemma =>
          clear HOP HBT HPT HCT HBF HPF HCF HR HMR HZX HZY M6 HMS
          cases k0 : MS with
          | false =>
            rw [k0] at HOB
            go_wp2_with fail
            go_meet
            exact ⟨by rw [k0], by rw [HOB.out]; rfl, rfl⟩
          | true =>
            cases k1 : decide (x ≤ W) with
            | false =>
              rw [k0, k1] at HOB
              go_wp2_with fail
              go_meet
              exact ⟨by rw [k0], by rw [HOB.out]; rfl, rfl⟩
            | true =>
              cases k2 : decide (y ≤ H) with
              | false =>
                rw [k0, k1, k2] at HOB
                go_wp2_with fail
                go_meet
                exact ⟨by rw [k0], by rw [HOB.out]; rfl, rfl⟩
              | true =>
                rw [k0, k1, k2] at HOB
                go_wp2_with fail
                go_meet
                exact ⟨by rw [k0], by rw [HOB.out]; rfl, rfl⟩
        case rest =>
          (obtain ⟨rfl, rfl, hh⟩ := hcut; subst wc)
          cases OKB with
          | true =>
            obtain ⟨rfl, e2, e3, hrb⟩ := HBT.out rfl
            replace e2 := e2.symm
            replace e3 := e3.symm
            subst e2 e3
            obtain ⟨rfl, e2, e3, hrc⟩ := HCT.out rfl
            replace e2 := e2.symm
            replace e3 := e3.symm
            subst e2 e3
            have HRB := Lib.hid (fun W' hr' => hrb A n c rfl W' hr')
            have HRC := Lib.hid (fun W' hr' => hrc A n c rfl W' hr')
            clear HBT HBF HCT HCF hrb hrc e0 e1
            go_wp2_with fail
            refine wp_region_seqH 23 (fun W' => Ms w [(w.heap.size, #[.int .i64 W, .int .i64 H, .slice A n c]), (w1.heap.size, #[.int .i64 W, .int .i64 H, .slice A0 l.length c0]), (w2.heap.size, #[.int .i64 x, .int .i64 y, .slice A1 BL.length c1]), (w3.heap.size, #[.int .i64 pw, .int .i64 ph, .slice A2 PL.length c2]), (w4.heap.size, #[.int .i64 x, .int .i64 y, .slice A3 CL.length c3]), (w5.heap.size, #[.int .i64 0, .int .i64 0, .slice none 0 0])] [⟨w.heap.size + 1, w1.heap.size, .slice A0 l.length c0, l⟩, ⟨w1.heap.size + 1, w2.heap.size, .slice A1 BL.length c1, BL⟩, ⟨w2.heap.size + 1, w3.heap.size, .slice A2 PL.length c2, PL⟩, ⟨w3.heap.size + 1, w4.heap.size, .slice A3 CL.length c3, CL⟩] W') (fun W W' => Below W.heap.size W W')
              (kvP [some (.int .i64 0), some (.bool false), some (.bool false), some (.int .i64 0), some (.bool false), some (.bool false), some (.bool false), some (.agg #[.int .i64 x, .int .i64 y, .slice A1 BL.length c1]), some (.agg #[.int .i64 W, .int .i64 H, .slice A n c]), some (.int .i64 x), some (.int .i64 y), none, some (.bool true), some (.bool false), some (.bool false), some (.bool false), some (.agg #[.int .i64 x, .int .i64 y, .slice A3 CL.length c3]), some (.agg #[.int .i64 W, .int .i64 H, .slice A n c]), some (.int .i64 x), some (.int .i64 y), none, some (.bool true), some (.bool false)] (SmP x y (fun i => if i = 11 then BL else CL))) (by kernel_rfl) (by kernel_rfl) (kvP_st fun i u W W' hT h => SmP.st i u W W' hT h) (M6.out.drew) ?_
            simp only [List.take_succ_cons, List.take_zero, List.drop_succ_cons, List.drop_zero]
            repeat (
              first
                | (refine seqH_val _ rfl w (fun _ => Below.refl _ _) (by rfl) ?_ ?_
                   focus (intro U hS; have a0 := hS.k.cell 0 0 rfl rfl; have a1 := hS.k.cell 0 1 rfl rfl; have a2 := hS.k.cell 0 2 rfl rfl; have b0 := hS.k.cell 2 0 rfl rfl; have b1 := hS.k.cell 2 1 rfl rfl; have b2 := hS.k.cell 2 2 rfl rfl; have d0 := hS.k.cell 4 0 rfl rfl; have d1 := hS.k.cell 4 1 rfl rfl; have d2 := hS.k.cell 4 2 rfl rfl; go_simp; (try with_reducible rfl); done))
              simp only [Act.put, List.setIfInBounds_toArray, List.set_cons_zero, List.set_cons_succ])
            refine seqH_callA 20 #[.agg #[.int .i64 W, .int .i64 H, .slice A n c], .int .i64 x, .int .i64 y] (by rfl) ?_ ⟨_, wz, A1, c1, rfl, M6.out.rd 1 rfl⟩ ?_ (fun x11 hx => ?_)
            · intro U; have eg : ∀ args w, (callFunc 20 args).run Try.prog w = .ok (.enter 20 args) w := ent_rbox; unfold execOp; simp [resolve, invoke, go_sem, eg]; done
            · intro U hS
              exact (HRB.out U (HR.out.below hS.k.be)).mono fun e w' ⟨A', c', h1, h2, h3⟩ => ⟨_, h1, h3, hS.call h3, A', c', rfl, h2⟩
            simp only [Act.put, List.setIfInBounds_toArray, List.set_cons_zero, List.set_cons_succ]
            obtain ⟨_, A8, c8, rfl, -⟩ := hx
            refine seqH_callK _ rfl w 19 #[.agg #[.int .i64 x, .int .i64 y, .slice A1 BL.length c1], .agg #[.int .i64 x, .int .i64 y, .slice A8 BL.length c8]] (by rfl) ?_ ?_ ?_
            · intro U; have eg : ∀ args w, (callFunc 19 args).run Try.prog w = .ok (.enter 19 args) w := ent_same; unfold execOp; simp [resolve, invoke, go_sem, eg]; done
            · intro U hS hp
              have hd : SmP x y (fun i => if i = 11 then BL else CL) 11 (.agg #[.int .i64 x, .int .i64 y, .slice A8 BL.length c8]) U := hp {on := 11, ground := .data} (by simp) rfl
              exact (same_yes BL x y A1 A8 BL.length c1 BL.length c8 rfl rfl U (hS.rd 1 rfl) hd.rd).mono fun e w' h => ⟨h.1, h.2, hS.call h.2⟩
            simp only [Act.put, List.setIfInBounds_toArray, List.set_cons_zero, List.set_cons_succ]
            repeat (
              first
                | (refine seqH_val _ rfl w (fun _ => Below.refl _ _) (by rfl) ?_ ?_
                   focus (intro U hS; have a0 := hS.k.cell 0 0 rfl rfl; have a1 := hS.k.cell 0 1 rfl rfl; have a2 := hS.k.cell 0 2 rfl rfl; have b0 := hS.k.cell 2 0 rfl rfl; have b1 := hS.k.cell 2 1 rfl rfl; have b2 := hS.k.cell 2 2 rfl rfl; have d0 := hS.k.cell 4 0 rfl rfl; have d1 := hS.k.cell 4 1 rfl rfl; have d2 := hS.k.cell 4 2 rfl rfl; go_simp; (try with_reducible rfl); done))
              simp only [Act.put, List.setIfInBounds_toArray, List.set_cons_zero, List.set_cons_succ])
            refine seqH_callA 21 #[.agg #[.int .i64 W, .int .i64 H, .slice A n c], .int .i64 x, .int .i64 y] (by rfl) ?_ ⟨_, wz, A3, c3, rfl, M6.out.rd 3 rfl⟩ ?_ (fun x11 hx => ?_)
            · intro U; have eg : ∀ args w, (callFunc 21 args).run Try.prog w = .ok (.enter 21 args) w := ent_rpad; unfold execOp; simp [resolve, invoke, go_sem, eg]; done
            · intro U hS
              exact (HRC.out U (HR.out.below hS.k.be)).mono fun e w' ⟨A', c', h1, h2, h3⟩ => ⟨_, h1, h3, hS.call h3, A', c', rfl, h2⟩
            simp only [Act.put, List.setIfInBounds_toArray, List.set_cons_zero, List.set_cons_succ]
            obtain ⟨_, A9, c9, rfl, -⟩ := hx
            refine seqH_callK _ rfl w 19 #[.agg #[.int .i64 x, .int .i64 y, .slice A3 CL.length c3], .agg #[.int .i64 x, .int .i64 y, .slice A9 CL.length c9]] (by rfl) ?_ ?_ ?_
            · intro U; have eg : ∀ args w, (callFunc 19 args).run Try.prog w = .ok (.enter 19 args) w := ent_same; unfold execOp; simp [resolve, invoke, go_sem, eg]; done
            · intro U hS hp
              have hd : SmP x y (fun i => if i = 11 then BL else CL) 20 (.agg #[.int .i64 x, .int .i64 y, .slice A9 CL.length c9]) U := hp {on := 20, ground := .data} (by simp) rfl
              exact (same_yes CL x y A3 A9 CL.length c3 CL.length c9 rfl rfl U (hS.rd 3 rfl) hd.rd).mono fun e w' h => ⟨h.1, h.2, hS.call h.2⟩
            simp only [Act.put, List.setIfInBounds_toArray, List.set_cons_zero, List.set_cons_succ]
            repeat (
              first
                | (refine seqH_val _ rfl w (fun _ => Below.refl _ _) (by rfl) ?_ ?_
                   focus (intro U hS; have a0 := hS.k.cell 0 0 rfl rfl; have a1 := hS.k.cell 0 1 rfl rfl; have a2 := hS.k.cell 0 2 rfl rfl; have b0 := hS.k.cell 2 0 rfl rfl; have b1 := hS.k.cell 2 1 rfl rfl; have b2 := hS.k.cell 2 2 rfl rfl; have d0 := hS.k.cell 4 0 rfl rfl; have d1 := hS.k.cell 4 1 rfl rfl; have d2 := hS.k.cell 4 2 rfl rfl; go_simp; (try with_reducible rfl); done))
              simp only [Act.put, List.setIfInBounds_toArray, List.set_cons_zero, List.set_cons_succ])
            refine seqH_nil fun U hS hF => ?_
            have M7 := Lib.hid hS
            clear hF hS M6
            have e0 := M7.out.k.cell 0 0 rfl rfl
            have e1 := M7.out.k.cell 0 1 rfl rfl
            go_upto_region 14 with fail
            go_cut [14, 138] (fun s14 s138 wx => s14 = .bool MS ∧ s138 = .bool OKP ∧ wx = U)
            case first => as_aux_lemma =>
              clear HPT HPF HR HMR HZX HZY M7 HMS
              cases k0 : MS with
              | false =>
                rw [k0] at HOP
                go_wp2_with fail
                go_meet
                exact ⟨by rw [k0], by rw [HOP.out]; rfl, rfl⟩
              | true =>
                cases k1 : decide (x ≥ W) with
                | false =>
                  rw [k0, k1] at HOP
                  go_wp2_with fail
                  go_meet
                  exact ⟨by rw [k0], by rw [HOP.out]; rfl, rfl⟩
                | true =>
                  cases k2 : decide (y ≥ H) with
                  | false =>
                    rw [k0, k1, k2] at HOP
                    go_wp2_with fail
                    go_meet
                    exact ⟨by rw [k0], by rw [HOP.out]; rfl, rfl⟩
                  | true =>
                    rw [k0, k1, k2] at HOP
                    go_wp2_with fail
                    go_meet
                    exact ⟨by rw [k0], by rw [HOP.out]; rfl, rfl⟩
            case rest =>
              (obtain ⟨rfl, rfl, hh⟩ := hcut; subst wc)
              clear e0 e1
              cases OKP with
              | true =>
                obtain ⟨rfl, e2, e3, hrp⟩ := HPT.out rfl
                replace e2 := e2.symm
                replace e3 := e3.symm
                subst e2 e3
                have HRP := Lib.hid (fun W' hr' => hrp A n c rfl W' hr')
                clear HPT HPF hrp
                go_wp2_with fail
                refine wp_region_seqH 10 (fun W' => Ms w [(w.heap.size, #[.int .i64 W, .int .i64 H, .slice A n c]), (w1.heap.size, #[.int .i64 W, .int .i64 H, .slice A0 l.length c0]), (w2.heap.size, #[.int .i64 x, .int .i64 y, .slice A1 BL.length c1]), (w3.heap.size, #[.int .i64 x, .int .i64 y, .slice A2 PL.length c2]), (w4.heap.size, #[.int .i64 x, .int .i64 y, .slice A3 CL.length c3]), (w5.heap.size, #[.int .i64 0, .int .i64 0, .slice none 0 0])] [⟨w.heap.size + 1, w1.heap.size, .slice A0 l.length c0, l⟩, ⟨w1.heap.size + 1, w2.heap.size, .slice A1 BL.length c1, BL⟩, ⟨w2.heap.size + 1, w3.heap.size, .slice A2 PL.length c2, PL⟩, ⟨w3.heap.size + 1, w4.heap.size, .slice A3 CL.length c3, CL⟩] W') (fun W W' => Below W.heap.size W W')
                  (kvP [some (.int .i64 0), some (.bool false), some (.bool false), some (.agg #[.int .i64 x, .int .i64 y, .slice A2 PL.length c2]), some (.agg #[.int .i64 W, .int .i64 H, .slice A n c]), some (.int .i64 x), some (.int .i64 y), none, some (.bool true), some (.bool false)] (SmP x y (fun _ => PL))) (by kernel_rfl) (by kernel_rfl) (kvP_st fun i u W W' hT h => SmP.st i u W W' hT h) (M7.out.drew) ?_
                simp only [List.take_succ_cons, List.take_zero, List.drop_succ_cons, List.drop_zero]
                repeat (
                  first
                    | (refine seqH_val _ rfl w (fun _ => Below.refl _ _) (by rfl) ?_ ?_
                       focus (intro U hS; have a0 := hS.k.cell 0 0 rfl rfl; have a1 := hS.k.cell 0 1 rfl rfl; have a2 := hS.k.cell 0 2 rfl rfl; have b0 := hS.k.cell 3 0 rfl rfl; have b1 := hS.k.cell 3 1 rfl rfl; have b2 := hS.k.cell 3 2 rfl rfl; go_simp; (try with_reducible rfl); done))
                  simp only [Act.put, List.setIfInBounds_toArray, List.set_cons_zero, List.set_cons_succ])
                refine seqH_callA 21 #[.agg #[.int .i64 W, .int .i64 H, .slice A n c], .int .i64 x, .int .i64 y] (by rfl) ?_ ⟨_, U, A2, c2, rfl, M7.out.rd 2 rfl⟩ ?_ (fun x11 hx => ?_)
                · intro U; have eg : ∀ args w, (callFunc 21 args).run Try.prog w = .ok (.enter 21 args) w := ent_rpad; unfold execOp; simp [resolve, invoke, go_sem, eg]; done
                · intro U hS
                  exact (HRP.out U (HR.out.below hS.k.be)).mono fun e w' ⟨A', c', h1, h2, h3⟩ => ⟨_, h1, h3, hS.call h3, A', c', rfl, h2⟩
                simp only [Act.put, List.setIfInBounds_toArray, List.set_cons_zero, List.set_cons_succ]
                obtain ⟨_, A8, c8, rfl, -⟩ := hx
                refine seqH_callK _ rfl w 19 #[.agg #[.int .i64 x, .int .i64 y, .slice A2 PL.length c2], .agg #[.int .i64 x, .int .i64 y, .slice A8 PL.length c8]] (by rfl) ?_ ?_ ?_
                · intro U; have eg : ∀ args w, (callFunc 19 args).run Try.prog w = .ok (.enter 19 args) w := ent_same; unfold execOp; simp [resolve, invoke, go_sem, eg]; done
                · intro U hS hp
                  have hd : SmP x y (fun _ => PL) 7 (.agg #[.int .i64 x, .int .i64 y, .slice A8 PL.length c8]) U := hp {on := 7, ground := .data} (by simp) rfl
                  exact (same_yes PL x y A2 A8 PL.length c2 PL.length c8 rfl rfl U (hS.rd 2 rfl) hd.rd).mono fun e w' h => ⟨h.1, h.2, hS.call h.2⟩
                simp only [Act.put, List.setIfInBounds_toArray, List.set_cons_zero, List.set_cons_succ]
                repeat (
                  first
                    | (refine seqH_val _ rfl w (fun _ => Below.refl _ _) (by rfl) ?_ ?_
                       focus (intro U hS; go_simp; (try with_reducible rfl); done))
                  simp only [Act.put, List.setIfInBounds_toArray, List.set_cons_zero, List.set_cons_succ])
                refine seqH_nil fun U hS hF => ?_
                have MF := Lib.hid hS
                clear hF hS M7
                have s0 := MF.out.k.cell 2 2 rfl rfl
                go_wp2_with (first
                  | ((refine wpList_clearC _ rfl (.tmp 159) rfl (w1.heap.size + 1) _ BL rfl (MF.out.get 1 rfl) ?_)
                     intro w9 hc9
                     have M9 := Lib.hid (MF.out.clear (Ps' := [⟨w.heap.size + 1, w1.heap.size, .slice A0 l.length c0, l⟩, ⟨w2.heap.size + 1, w3.heap.size, .slice A2 PL.length c2, PL⟩, ⟨w3.heap.size + 1, w4.heap.size, .slice A3 CL.length c3, CL⟩]) 1 rfl hc9 (by have := HZ.out; dsimp only; omega) (by have := HZ.out; intro p hp; simp only [List.cons_append, List.nil_append, List.mem_cons, List.not_mem_nil, or_false] at hp; rcases hp with rfl | rfl | rfl | rfl | rfl | rfl <;> dsimp only <;> omega) (by have := HZ.out; intro p hp; simp only [List.mem_cons, List.not_mem_nil, or_false] at hp; rcases hp with rfl | rfl | rfl <;> (refine ⟨by simp, ?_⟩; dsimp only; omega)))
                     clear MF hc9 s0
                     have s1 := M9.out.k.cell 3 2 rfl rfl)
                  | ((refine wpList_clearC _ rfl (.tmp 161) rfl (w2.heap.size + 1) _ PL rfl (M9.out.get 1 rfl) ?_)
                     intro w10 hc9
                     have M10 := Lib.hid (M9.out.clear (Ps' := [⟨w.heap.size + 1, w1.heap.size, .slice A0 l.length c0, l⟩, ⟨w3.heap.size + 1, w4.heap.size, .slice A3 CL.length c3, CL⟩]) 1 rfl hc9 (by have := HZ.out; dsimp only; omega) (by have := HZ.out; intro p hp; simp only [List.cons_append, List.nil_append, List.mem_cons, List.not_mem_nil, or_false] at hp; rcases hp with rfl | rfl | rfl | rfl | rfl | rfl <;> dsimp only <;> omega) (by have := HZ.out; intro p hp; simp only [List.mem_cons, List.not_mem_nil, or_false] at hp; rcases hp with rfl | rfl <;> (refine ⟨by simp, ?_⟩; dsimp only; omega)))
                     clear M9 hc9 s1
                     have s2 := M10.out.k.cell 4 2 rfl rfl)
                  | ((refine wpList_clearC _ rfl (.tmp 163) rfl (w3.heap.size + 1) _ CL rfl (M10.out.get 1 rfl) ?_)
                     intro w11 hc9
                     have M11 := Lib.hid (M10.out.clear (Ps' := [⟨w.heap.size + 1, w1.heap.size, .slice A0 l.length c0, l⟩]) 1 rfl hc9 (by have := HZ.out; dsimp only; omega) (by have := HZ.out; intro p hp; simp only [List.cons_append, List.nil_append, List.mem_cons, List.not_mem_nil, or_false] at hp; rcases hp with rfl | rfl | rfl | rfl | rfl | rfl <;> dsimp only <;> omega) (by have := HZ.out; intro p hp; simp only [List.mem_cons, List.not_mem_nil, or_false] at hp; rcases hp with rfl <;> (refine ⟨by simp, ?_⟩; dsimp only; omega)))
                     clear M10 hc9 s2
                     have t0 := M11.out.k.cell 0 0 rfl rfl
                     have t1 := M11.out.k.cell 0 1 rfl rfl
                     have t2 := M11.out.k.cell 0 2 rfl rfl
                     have v0 := M11.out.k.cell 1 0 rfl rfl
                     have v1 := M11.out.k.cell 1 1 rfl rfl
                     have v2 := M11.out.k.cell 1 2 rfl rfl))
                (with_reducible refine (same_agg l W H A0 A l.length c0 n c rfl HNN.out _ (M11.out.rd 0 rfl) (HR.out.below M11.out.k.be)).mono ?_); rintro e w12 ⟨rfl, h12⟩
                have M12 := Lib.hid (M11.out.call h12)
                clear M11 h12 t0 t1 t2 v0 v1 v2
                go_wp2_with fail
                (with_reducible refine (awake_any _).mono ?_); rintro e w13 ⟨rfl, h13⟩
                have M13 := Lib.hid (M12.out.call h13)
                go_wp2
                go_ret
                exact ⟨rfl, M13.out.k.be⟩
              | false =>
                obtain ⟨rfl, rfl, rfl, rfl⟩ := HPF.out rfl
                have q0 := M7.out.k.cell 3 0 rfl rfl
                have q1 := M7.out.k.cell 3 1 rfl rfl
                have q2 := M7.out.k.cell 3 2 rfl rfl
                have n0 := M7.out.k.cell 5 0 rfl rfl
                have n1 := M7.out.k.cell 5 1 rfl rfl
                have n2 := M7.out.k.cell 5 2 rfl rfl
                clear HPF HPT
                go_wp2_with fail
                (with_reducible refine (same_agg [] 0 0 A2 none 0 c2 0 0 rfl rfl _ (Rd.nil _ _) (Rd.nil _ _)).mono ?_); rintro e w8 ⟨rfl, h8⟩
                have MF := Lib.hid (M7.out.call h8)
                clear M7 h8 q0 q1 q2 n0 n1 n2
                have s0 := MF.out.k.cell 2 2 rfl rfl
                go_wp2_with (first
                  | ((refine wpList_clearC _ rfl (.tmp 159) rfl (w1.heap.size + 1) _ BL rfl (MF.out.get 1 rfl) ?_)
                     intro w9 hc9
                     have M9 := Lib.hid (MF.out.clear (Ps' := [⟨w.heap.size + 1, w1.heap.size, .slice A0 l.length c0, l⟩, ⟨w2.heap.size + 1, w3.heap.size, .slice A2 ([] : List UInt8).length c2, ([] : List UInt8)⟩, ⟨w3.heap.size + 1, w4.heap.size, .slice A3 CL.length c3, CL⟩]) 1 rfl hc9 (by have := HZ.out; dsimp only; omega) (by have := HZ.out; intro p hp; simp only [List.cons_append, List.nil_append, List.mem_cons, List.not_mem_nil, or_false] at hp; rcases hp with rfl | rfl | rfl | rfl | rfl | rfl <;> dsimp only <;> omega) (by have := HZ.out; intro p hp; simp only [List.mem_cons, List.not_mem_nil, or_false] at hp; rcases hp with rfl | rfl | rfl <;> (refine ⟨by simp, ?_⟩; dsimp only; omega)))
                     clear MF hc9 s0
                     have s1 := M9.out.k.cell 3 2 rfl rfl)
                  | ((refine wpList_clearC _ rfl (.tmp 161) rfl (w2.heap.size + 1) _ ([] : List UInt8) rfl (M9.out.get 1 rfl) ?_)
                     intro w10 hc9
                     have M10 := Lib.hid (M9.out.clear (Ps' := [⟨w.heap.size + 1, w1.heap.size, .slice A0 l.length c0, l⟩, ⟨w3.heap.size + 1, w4.heap.size, .slice A3 CL.length c3, CL⟩]) 1 rfl hc9 (by have := HZ.out; dsimp only; omega) (by have := HZ.out; intro p hp; simp only [List.cons_append, List.nil_append, List.mem_cons, List.not_mem_nil, or_false] at hp; rcases hp with rfl | rfl | rfl | rfl | rfl | rfl <;> dsimp only <;> omega) (by have := HZ.out; intro p hp; simp only [List.mem_cons, List.not_mem_nil, or_false] at hp; rcases hp with rfl | rfl <;> (refine ⟨by simp, ?_⟩; dsimp only; omega)))
                     clear M9 hc9 s1
                     have s2 := M10.out.k.cell 4 2 rfl rfl)
                  | ((refine wpList_clearC _ rfl (.tmp 163) rfl (w3.heap.size + 1) _ CL rfl (M10.out.get 1 rfl) ?_)
                     intro w11 hc9
                     have M11 := Lib.hid (M10.out.clear (Ps' := [⟨w.heap.size + 1, w1.heap.size, .slice A0 l.length c0, l⟩]) 1 rfl hc9 (by have := HZ.out; dsimp only; omega) (by have := HZ.out; intro p hp; simp only [List.cons_append, List.nil_append, List.mem_cons, List.not_mem_nil, or_false] at hp; rcases hp with rfl | rfl | rfl | rfl | rfl | rfl <;> dsimp only <;> omega) (by have := HZ.out; intro p hp; simp only [List.mem_cons, List.not_mem_nil, or_false] at hp; rcases hp with rfl <;> (refine ⟨by simp, ?_⟩; dsimp only; omega)))
                     clear M10 hc9 s2
                     have t0 := M11.out.k.cell 0 0 rfl rfl
                     have t1 := M11.out.k.cell 0 1 rfl rfl
                     have t2 := M11.out.k.cell 0 2 rfl rfl
                     have v0 := M11.out.k.cell 1 0 rfl rfl
                     have v1 := M11.out.k.cell 1 1 rfl rfl
                     have v2 := M11.out.k.cell 1 2 rfl rfl))
                (with_reducible refine (same_agg l W H A0 A l.length c0 n c rfl HNN.out _ (M11.out.rd 0 rfl) (HR.out.below M11.out.k.be)).mono ?_); rintro e w12 ⟨rfl, h12⟩
                have M12 := Lib.hid (M11.out.call h12)
                clear M11 h12 t0 t1 t2 v0 v1 v2
                go_wp2_with fail
                (with_reducible refine (awake_any _).mono ?_); rintro e w13 ⟨rfl, h13⟩
                have M13 := Lib.hid (M12.out.call h13)
                go_wp2
                go_ret
                exact ⟨rfl, M13.out.k.be⟩
          | false =>
            obtain ⟨rfl, rfl, rfl, rfl⟩ := HBF.out rfl
            obtain ⟨rfl, rfl, rfl, rfl⟩ := HCF.out rfl
            clear HBT HBF HCT HCF e0 e1
            have q0 := M6.out.k.cell 2 0 rfl rfl
            have q1 := M6.out.k.cell 2 1 rfl rfl
            have q2 := M6.out.k.cell 2 2 rfl rfl
            have n0 := M6.out.k.cell 5 0 rfl rfl
            have n1 := M6.out.k.cell 5 1 rfl rfl
            have n2 := M6.out.k.cell 5 2 rfl rfl
            go_wp2_with fail
            (with_reducible refine (same_agg [] 0 0 A1 none 0 c1 0 0 rfl rfl _ (Rd.nil _ _) (Rd.nil _ _)).mono ?_); rintro e w8 ⟨rfl, h8⟩
            have M66 := Lib.hid (M6.out.call h8)
            clear M6 h8 q0 q1 q2 n0 n1 n2
            have q0 := M66.out.k.cell 4 0 rfl rfl
            have q1 := M66.out.k.cell 4 1 rfl rfl
            have q2 := M66.out.k.cell 4 2 rfl rfl
            have n0 := M66.out.k.cell 5 0 rfl rfl
            have n1 := M66.out.k.cell 5 1 rfl rfl
            have n2 := M66.out.k.cell 5 2 rfl rfl
            go_wp2_with fail
            (with_reducible refine (same_agg [] 0 0 A3 none 0 c3 0 0 rfl rfl _ (Rd.nil _ _) (Rd.nil _ _)).mono ?_); rintro e w88 ⟨rfl, h8⟩
            have M7 := Lib.hid (M66.out.call h8)
            clear M66 h8 q0 q1 q2 n0 n1 n2
            have e0 := M7.out.k.cell 0 0 rfl rfl
            have e1 := M7.out.k.cell 0 1 rfl rfl
            go_upto_region 14 with fail
            go_cut [14, 138] (fun s14 s138 wx => s14 = .bool MS ∧ s138 = .bool OKP ∧ wx = w88)
            case first => as_aux_lemma =>
              clear HPT HPF HR HMR HZX HZY M7 HMS
              cases k0 : MS with
              | false =>
                rw [k0] at HOP
                go_wp2_with fail
                go_meet
                exact ⟨by rw [k0], by rw [HOP.out]; rfl, rfl⟩
              | true =>
                cases k1 : decide (x ≥ W) with
                | false =>
                  rw [k0, k1] at HOP
                  go_wp2_with fail
                  go_meet
                  exact ⟨by rw [k0], by rw [HOP.out]; rfl, rfl⟩
                | true =>
                  cases k2 : decide (y ≥ H) with
                  | false =>
                    rw [k0, k1, k2] at HOP
                    go_wp2_with fail
                    go_meet
                    exact ⟨by rw [k0], by rw [HOP.out]; rfl, rfl⟩
                  | true =>
                    rw [k0, k1, k2] at HOP
                    go_wp2_with fail
                    go_meet
                    exact ⟨by rw [k0], by rw [HOP.out]; rfl, rfl⟩
            case rest =>
              (obtain ⟨rfl, rfl, hh⟩ := hcut; subst wc)
              clear e0 e1
              cases OKP with
              | true =>
                obtain ⟨rfl, e2, e3, hrp⟩ := HPT.out rfl
                replace e2 := e2.symm
                replace e3 := e3.symm
                subst e2 e3
                have HRP := Lib.hid (fun W' hr' => hrp A n c rfl W' hr')
                clear HPT HPF hrp
                go_wp2_with fail
                refine wp_region_seqH 10 (fun W' => Ms w [(w.heap.size, #[.int .i64 W, .int .i64 H, .slice A n c]), (w1.heap.size, #[.int .i64 W, .int .i64 H, .slice A0 l.length c0]), (w2.heap.size, #[.int .i64 0, .int .i64 0, .slice A1 ([] : List UInt8).length c1]), (w3.heap.size, #[.int .i64 x, .int .i64 y, .slice A2 PL.length c2]), (w4.heap.size, #[.int .i64 0, .int .i64 0, .slice A3 ([] : List UInt8).length c3]), (w5.heap.size, #[.int .i64 0, .int .i64 0, .slice none 0 0])] [⟨w.heap.size + 1, w1.heap.size, .slice A0 l.length c0, l⟩, ⟨w1.heap.size + 1, w2.heap.size, .slice A1 ([] : List UInt8).length c1, ([] : List UInt8)⟩, ⟨w2.heap.size + 1, w3.heap.size, .slice A2 PL.length c2, PL⟩, ⟨w3.heap.size + 1, w4.heap.size, .slice A3 ([] : List UInt8).length c3, ([] : List UInt8)⟩] W') (fun W W' => Below W.heap.size W W')
                  (kvP [some (.int .i64 0), some (.bool false), some (.bool false), some (.agg #[.int .i64 x, .int .i64 y, .slice A2 PL.length c2]), some (.agg #[.int .i64 W, .int .i64 H, .slice A n c]), some (.int .i64 x), some (.int .i64 y), none, some (.bool true), some (.bool false)] (SmP x y (fun _ => PL))) (by kernel_rfl) (by kernel_rfl) (kvP_st fun i u W W' hT h => SmP.st i u W W' hT h) (M7.out.drew) ?_
                simp only [List.take_succ_cons, List.take_zero, List.drop_succ_cons, List.drop_zero]
                repeat (
                  first
                    | (refine seqH_val _ rfl w (fun _ => Below.refl _ _) (by rfl) ?_ ?_
                       focus (intro U hS; have a0 := hS.k.cell 0 0 rfl rfl; have a1 := hS.k.cell 0 1 rfl rfl; have a2 := hS.k.cell 0 2 rfl rfl; have b0 := hS.k.cell 3 0 rfl rfl; have b1 := hS.k.cell 3 1 rfl rfl; have b2 := hS.k.cell 3 2 rfl rfl; go_simp; (try with_reducible rfl); done))
                  simp only [Act.put, List.setIfInBounds_toArray, List.set_cons_zero, List.set_cons_succ])
                refine seqH_callA 21 #[.agg #[.int .i64 W, .int .i64 H, .slice A n c], .int .i64 x, .int .i64 y] (by rfl) ?_ ⟨_, w88, A2, c2, rfl, M7.out.rd 2 rfl⟩ ?_ (fun x11 hx => ?_)
                · intro U; have eg : ∀ args w, (callFunc 21 args).run Try.prog w = .ok (.enter 21 args) w := ent_rpad; unfold execOp; simp [resolve, invoke, go_sem, eg]; done
                · intro U hS
                  exact (HRP.out U (HR.out.below hS.k.be)).mono fun e w' ⟨A', c', h1, h2, h3⟩ => ⟨_, h1, h3, hS.call h3, A', c', rfl, h2⟩
                simp only [Act.put, List.setIfInBounds_toArray, List.set_cons_zero, List.set_cons_succ]
                obtain ⟨_, A8, c8, rfl, -⟩ := hx
                refine seqH_callK _ rfl w 19 #[.agg #[.int .i64 x, .int .i64 y, .slice A2 PL.length c2], .agg #[.int .i64 x, .int .i64 y, .slice A8 PL.length c8]] (by rfl) ?_ ?_ ?_
                · intro U; have eg : ∀ args w, (callFunc 19 args).run Try.prog w = .ok (.enter 19 args) w := ent_same; unfold execOp; simp [resolve, invoke, go_sem, eg]; done
                · intro U hS hp
                  have hd : SmP x y (fun _ => PL) 7 (.agg #[.int .i64 x, .int .i64 y, .slice A8 PL.length c8]) U := hp {on := 7, ground := .data} (by simp) rfl
                  exact (same_yes PL x y A2 A8 PL.length c2 PL.length c8 rfl rfl U (hS.rd 2 rfl) hd.rd).mono fun e w' h => ⟨h.1, h.2, hS.call h.2⟩
                simp only [Act.put, List.setIfInBounds_toArray, List.set_cons_zero, List.set_cons_succ]
                repeat (
                  first
                    | (refine seqH_val _ rfl w (fun _ => Below.refl _ _) (by rfl) ?_ ?_
                       focus (intro U hS; go_simp; (try with_reducible rfl); done))
                  simp only [Act.put, List.setIfInBounds_toArray, List.set_cons_zero, List.set_cons_succ])
                refine seqH_nil fun U hS hF => ?_
                have MF := Lib.hid hS
                clear hF hS M7
                have s0 := MF.out.k.cell 2 2 rfl rfl
                go_wp2_with (first
                  | ((refine wpList_clearC _ rfl (.tmp 159) rfl (w1.heap.size + 1) _ ([] : List UInt8) rfl (MF.out.get 1 rfl) ?_)
                     intro w9 hc9
                     have M9 := Lib.hid (MF.out.clear (Ps' := [⟨w.heap.size + 1, w1.heap.size, .slice A0 l.length c0, l⟩, ⟨w2.heap.size + 1, w3.heap.size, .slice A2 PL.length c2, PL⟩, ⟨w3.heap.size + 1, w4.heap.size, .slice A3 ([] : List UInt8).length c3, ([] : List UInt8)⟩]) 1 rfl hc9 (by have := HZ.out; dsimp only; omega) (by have := HZ.out; intro p hp; simp only [List.cons_append, List.nil_append, List.mem_cons, List.not_mem_nil, or_false] at hp; rcases hp with rfl | rfl | rfl | rfl | rfl | rfl <;> dsimp only <;> omega) (by have := HZ.out; intro p hp; simp only [List.mem_cons, List.not_mem_nil, or_false] at hp; rcases hp with rfl | rfl | rfl <;> (refine ⟨by simp, ?_⟩; dsimp only; omega)))
                     clear MF hc9 s0
                     have s1 := M9.out.k.cell 3 2 rfl rfl)
                  | ((refine wpList_clearC _ rfl (.tmp 161) rfl (w2.heap.size + 1) _ PL rfl (M9.out.get 1 rfl) ?_)
                     intro w10 hc9
                     have M10 := Lib.hid (M9.out.clear (Ps' := [⟨w.heap.size + 1, w1.heap.size, .slice A0 l.length c0, l⟩, ⟨w3.heap.size + 1, w4.heap.size, .slice A3 ([] : List UInt8).length c3, ([] : List UInt8)⟩]) 1 rfl hc9 (by have := HZ.out; dsimp only; omega) (by have := HZ.out; intro p hp; simp only [List.cons_append, List.nil_append, List.mem_cons, List.not_mem_nil, or_false] at hp; rcases hp with rfl | rfl | rfl | rfl | rfl | rfl <;> dsimp only <;> omega) (by have := HZ.out; intro p hp; simp only [List.mem_cons, List.not_mem_nil, or_false] at hp; rcases hp with rfl | rfl <;> (refine ⟨by simp, ?_⟩; dsimp only; omega)))
                     clear M9 hc9 s1
                     have s2 := M10.out.k.cell 4 2 rfl rfl)
                  | ((refine wpList_clearC _ rfl (.tmp 163) rfl (w3.heap.size + 1) _ ([] : List UInt8) rfl (M10.out.get 1 rfl) ?_)
                     intro w11 hc9
                     have M11 := Lib.hid (M10.out.clear (Ps' := [⟨w.heap.size + 1, w1.heap.size, .slice A0 l.length c0, l⟩]) 1 rfl hc9 (by have := HZ.out; dsimp only; omega) (by have := HZ.out; intro p hp; simp only [List.cons_append, List.nil_append, List.mem_cons, List.not_mem_nil, or_false] at hp; rcases hp with rfl | rfl | rfl | rfl | rfl | rfl <;> dsimp only <;> omega) (by have := HZ.out; intro p hp; simp only [List.mem_cons, List.not_mem_nil, or_false] at hp; rcases hp with rfl <;> (refine ⟨by simp, ?_⟩; dsimp only; omega)))
                     clear M10 hc9 s2
                     have t0 := M11.out.k.cell 0 0 rfl rfl
                     have t1 := M11.out.k.cell 0 1 rfl rfl
                     have t2 := M11.out.k.cell 0 2 rfl rfl
                     have v0 := M11.out.k.cell 1 0 rfl rfl
                     have v1 := M11.out.k.cell 1 1 rfl rfl
                     have v2 := M11.out.k.cell 1 2 rfl rfl))
                (with_reducible refine (same_agg l W H A0 A l.length c0 n c rfl HNN.out _ (M11.out.rd 0 rfl) (HR.out.below M11.out.k.be)).mono ?_); rintro e w12 ⟨rfl, h12⟩
                have M12 := Lib.hid (M11.out.call h12)
                clear M11 h12 t0 t1 t2 v0 v1 v2
                go_wp2_with fail
                (with_reducible refine (awake_any _).mono ?_); rintro e w13 ⟨rfl, h13⟩
                have M13 := Lib.hid (M12.out.call h13)
                go_wp2
                go_ret
                exact ⟨rfl, M13.out.k.be⟩
              | false =>
                obtain ⟨rfl, rfl, rfl, rfl⟩ := HPF.out rfl
                have q0 := M7.out.k.cell 3 0 rfl rfl
                have q1 := M7.out.k.cell 3 1 rfl rfl
                have q2 := M7.out.k.cell 3 2 rfl rfl
                have n0 := M7.out.k.cell 5 0 rfl rfl
                have n1 := M7.out.k.cell 5 1 rfl rfl
                have n2 := M7.out.k.cell 5 2 rfl rfl
                clear HPF HPT
                go_wp2_with fail
                (with_reducible refine (same_agg [] 0 0 A2 none 0 c2 0 0 rfl rfl _ (Rd.nil _ _) (Rd.nil _ _)).mono ?_); rintro e w8 ⟨rfl, h8⟩
                have MF := Lib.hid (M7.out.call h8)
                clear M7 h8 q0 q1 q2 n0 n1 n2
                have s0 := MF.out.k.cell 2 2 rfl rfl
                go_wp2_with (first
                  | ((refine wpList_clearC _ rfl (.tmp 159) rfl (w1.heap.size + 1) _ ([] : List UInt8) rfl (MF.out.get 1 rfl) ?_)
                     intro w9 hc9
                     have M9 := Lib.hid (MF.out.clear (Ps' := [⟨w.heap.size + 1, w1.heap.size, .slice A0 l.length c0, l⟩, ⟨w2.heap.size + 1, w3.heap.size, .slice A2 ([] : List UInt8).length c2, ([] : List UInt8)⟩, ⟨w3.heap.size + 1, w4.heap.size, .slice A3 ([] : List UInt8).length c3, ([] : List UInt8)⟩]) 1 rfl hc9 (by have := HZ.out; dsimp only; omega) (by have := HZ.out; intro p hp; simp only [List.cons_append, List.nil_append, List.mem_cons, List.not_mem_nil, or_false] at hp; rcases hp with rfl | rfl | rfl | rfl | rfl | rfl <;> dsimp only <;> omega) (by have := HZ.out; intro p hp; simp only [List.mem_cons, List.not_mem_nil, or_false] at hp; rcases hp with rfl | rfl | rfl <;> (refine ⟨by simp, ?_⟩; dsimp only; omega)))
                     clear MF hc9 s0
                     have s1 := M9.out.k.cell 3 2 rfl rfl)
                  | ((refine wpList_clearC _ rfl (.tmp 161) rfl (w2.heap.size + 1) _ ([] : List UInt8) rfl (M9.out.get 1 rfl) ?_)
                     intro w10 hc9
                     have M10 := Lib.hid (M9.out.clear (Ps' := [⟨w.heap.size + 1, w1.heap.size, .slice A0 l.length c0, l⟩, ⟨w3.heap.size + 1, w4.heap.size, .slice A3 ([] : List UInt8).length c3, ([] : List UInt8)⟩]) 1 rfl hc9 (by have := HZ.out; dsimp only; omega) (by have := HZ.out; intro p hp; simp only [List.cons_append, List.nil_append, List.mem_cons, List.not_mem_nil, or_false] at hp; rcases hp with rfl | rfl | rfl | rfl | rfl | rfl <;> dsimp only <;> omega) (by have := HZ.out; intro p hp; simp only [List.mem_cons, List.not_mem_nil, or_false] at hp; rcases hp with rfl | rfl <;> (refine ⟨by simp, ?_⟩; dsimp only; omega)))
                     clear M9 hc9 s1
                     have s2 := M10.out.k.cell 4 2 rfl rfl)
                  | ((refine wpList_clearC _ rfl (.tmp 163) rfl (w3.heap.size + 1) _ ([] : List UInt8) rfl (M10.out.get 1 rfl) ?_)
                     intro w11 hc9
                     have M11 := Lib.hid (M10.out.clear (Ps' := [⟨w.heap.size + 1, w1.heap.size, .slice A0 l.length c0, l⟩]) 1 rfl hc9 (by have := HZ.out; dsimp only; omega) (by have := HZ.out; intro p hp; simp only [List.cons_append, List.nil_append, List.mem_cons, List.not_mem_nil, or_false] at hp; rcases hp with rfl | rfl | rfl | rfl | rfl | rfl <;> dsimp only <;> omega) (by have := HZ.out; intro p hp; simp only [List.mem_cons, List.not_mem_nil, or_false] at hp; rcases hp with rfl <;> (refine ⟨by simp, ?_⟩; dsimp only; omega)))
                     clear M10 hc9 s2
                     have t0 := M11.out.k.cell 0 0 rfl rfl
                     have t1 := M11.out.k.cell 0 1 rfl rfl
                     have t2 := M11.out.k.cell 0 2 rfl rfl
                     have v0 := M11.out.k.cell 1 0 rfl rfl
                     have v1 := M11.out.k.cell 1 1 rfl rfl
                     have v2 := M11.out.k.cell 1 2 rfl rfl))
                (with_reducible refine (same_agg l W H A0 A l.length c0 n c rfl HNN.out _ (M11.out.rd 0 rfl) (HR.out.below M11.out.k.be)).mono ?_); rintro e w12 ⟨rfl, h12⟩
                have M12 := Lib.hid (M11.out.call h12)
                clear M11 h12 t0 t1 t2 v0 v1 v2
                go_wp2_with fail
                (with_reducible refine (awake_any _).mono ?_); rintro e w13 ⟨rfl, h13⟩
                have M13 := Lib.hid (M12.out.call h13)
                go_wp2
                go_ret
                exact ⟨rfl, M13.out.k.be⟩
end Go.Proofs.Ytogpnpcdghabmaa
