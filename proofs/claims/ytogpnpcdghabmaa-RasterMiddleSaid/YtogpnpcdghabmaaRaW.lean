/- The law RasterBack (written by tools/gen_raW.py). -/
import Derived.Test.YtogpnpcdghabmaaRaT
namespace Go.Proofs.Ytogpnpcdghabmaa
open Go.RowKit Go.Lib
set_option linter.unusedVariables false
set_option maxRecDepth 100000
theorem alike_agg (l : List UInt8) (W H : Int) (A A2 : Option Addr) (n c n2 c2 : Nat) (hn : n = l.length) (hn2 : n2 = l.length) (w : World) (h1 : Rd w A l) (h2 : Rd w A2 l) :
    Calls Try.prog 22 #[.agg #[.int .i64 W, .int .i64 H, .slice A n c], .agg #[.int .i64 W, .int .i64 H, .slice A2 n2 c2]] w fun e w' => e = .returned (.bool true) ∧ Below w.heap.size w w' := alike_yes l W H A A2 n c n2 c2 hn hn2 w h1 h2
theorem pc_pic {f : Nat → Nat → Nat → Int} {p q : Nat} (h1 : 1 ≤ p) (h2 : p ≤ 4096) (h3 : 1 ≤ q) (h4 : q ≤ 4096) : Pc (picL f p q) p q := ⟨pic_len f p q, h1, h2, h3, h4⟩
/-- To its own size. -/
theorem own_all (l : List UInt8) (W H : Int) (A : Option Addr) (n c : Nat) (hn : n = l.length) (hnc : n ≤ c) (hcm : c ≤ maxLen) (hl : n ≤ 3000) (hm : may9 W H n = true) :
    Gives9 16 W H W H A n c l W H 0 l ∧ Gives9 17 W H W H A n c l W H 0 l ∧ Gives9 18 W H W H A n c l W H 0 l := by
  subst hn
  obtain ⟨a, b, rfl, rfl, hp⟩ := pc_of hm
  have hb : 3 * a * b ≤ 65536 := by rw [← hp.len]; omega
  have h1 := hp.w1
  have h2 := hp.w2
  have h3 := hp.h1
  have h4 := hp.h2
  refine ⟨gives_of fun w hr => ?_, gives_of fun w hr => ?_, gives_of fun w hr => ?_⟩
  · have := box_yes l a b hp A l.length c rfl hnc hcm w hr a b h1 h2 h3 h4 (Nat.le_refl _) (Nat.le_refl _) hb
    rwa [box_own hp.len] at this
  · have := pad_yes l a b hp A l.length c rfl hnc hcm w hr a b h1 h2 h3 h4 (Nat.le_refl _) (Nat.le_refl _) hb
    rwa [pad_own hp.len] at this
  · have := cut_yes l a b hp A l.length c rfl hnc hcm w hr a b h1 h2 h3 h4 (Nat.le_refl _) (Nat.le_refl _) hb
    rwa [pad_own hp.len] at this
/-- Padded, and cut again. -/
theorem back_all (l : List UInt8) (W H x y : Int) (A : Option Addr) (n c : Nat) (hn : n = l.length) (hnc : n ≤ c) (hcm : c ≤ maxLen) (hm : may9 W H n = true) (hx : x ≤ 60) (hy : y ≤ 60) (hxW : W ≤ x) (hyH : H ≤ y) :
    ∃ PL : List UInt8, Gives9 17 W H x y A n c l x y 0 PL ∧ ∀ A' c', PL.length ≤ c' → c' ≤ maxLen → Gives9 18 x y W H A' PL.length c' PL W H 0 l := by
  subst hn
  obtain ⟨a, b, rfl, rfl, hp⟩ := pc_of hm
  have h1 := hp.w1
  have h2 := hp.w2
  have h3 := hp.h1
  have h4 := hp.h2
  obtain ⟨p, rfl⟩ : ∃ k : Nat, x = (k : Int) := ⟨x.toNat, by omega⟩
  obtain ⟨q, rfl⟩ : ∃ k : Nat, y = (k : Int) := ⟨y.toNat, by omega⟩
  have hpq : 3 * p * q ≤ 65536 := mul60 (by omega) (by omega)
  have hab : 3 * a * b ≤ 65536 := mul60 (by omega) (by omega)
  refine ⟨picL (padF l a b) p q, gives_of fun w hr => pad_yes l a b hp A l.length c rfl hnc hcm w hr p q (by omega) (by omega) (by omega) (by omega) (by omega) (by omega) hpq, fun A' c' hc hm' => gives_of fun w hr => ?_⟩
  have := cut_yes (picL (padF l a b) p q) p q (pc_pic (by omega) (by omega) (by omega) (by omega)) A' _ c' rfl hc hm' w hr a b h1 h2 h3 h4 (by omega) (by omega) hab
  rwa [pad_back hp.len (by omega) (by omega)] at this
/-- Cut twice. -/
theorem twice_all (l : List UInt8) (W H x y : Int) (A : Option Addr) (n c : Nat) (hn : n = l.length) (hnc : n ≤ c) (hcm : c ≤ maxLen) (hm : may9 W H n = true) (hx : x ≤ 60) (hy : y ≤ 60) (hx1 : 1 ≤ x) (hy1 : 1 ≤ y) (hxW : x ≤ W) (hyH : y ≤ H) :
    ∃ PL Q : List UInt8, Gives9 18 W H x y A n c l x y 0 PL ∧ (∀ A' c', PL.length ≤ c' → c' ≤ maxLen → Gives9 18 x y 1 1 A' PL.length c' PL 1 1 0 Q) ∧ Gives9 18 W H 1 1 A n c l 1 1 0 Q := by
  subst hn
  obtain ⟨a, b, rfl, rfl, hp⟩ := pc_of hm
  have h1 := hp.w1
  have h2 := hp.w2
  have h3 := hp.h1
  have h4 := hp.h2
  obtain ⟨p, rfl⟩ : ∃ k : Nat, x = (k : Int) := ⟨x.toNat, by omega⟩
  obtain ⟨q, rfl⟩ : ∃ k : Nat, y = (k : Int) := ⟨y.toNat, by omega⟩
  have hpq : 3 * p * q ≤ 65536 := mul60 (by omega) (by omega)
  refine ⟨picL (padF l a b) p q, picL (padF l a b) 1 1, gives_of fun w hr => cut_yes l a b hp A l.length c rfl hnc hcm w hr p q (by omega) (by omega) (by omega) (by omega) (by omega) (by omega) hpq, fun A' c' hc hm' => gives_of fun w hr => ?_, gives_of fun w hr => ?_⟩
  · have := cut_yes (picL (padF l a b) p q) p q (pc_pic (by omega) (by omega) (by omega) (by omega)) A' _ c' rfl hc hm' w hr 1 1 (by omega) (by omega) (by omega) (by omega) (by omega) (by omega) (by omega)
    rwa [cut_cut (l := l) (W := a) (H := b) (w := p) (h := q) (a := 1) (b := 1) (by omega) (by omega) (by omega) (by omega)] at this
  · exact cut_yes l a b hp A l.length c rfl hnc hcm w hr 1 1 (by omega) (by omega) (by omega) (by omega) (by omega) (by omega) (by omega)
def skipB (n : Nat) (x y : Int) (m : Bool) : Bool := decide ((n : Int) > 3000) || (decide (x > 60) || (decide (y > 60) || !m))
theorem skipB_no {n : Nat} {x y : Int} {m : Bool} (h : skipB n x y m = false) : n ≤ 3000 ∧ x ≤ 60 ∧ y ≤ 60 ∧ m = true := by
  unfold skipB at h
  simp only [Bool.or_eq_false_iff, decide_eq_false_iff_not, Bool.not_eq_false'] at h
  exact ⟨by omega, by omega, by omega, h.2.2.2⟩
set_option maxHeartbeats 40000000 in
theorem back_any (l : List UInt8) (W H x y : Int) (A : Option Addr) (n c : Nat) (hn : n = l.length) (hnc : n ≤ c) (hcm : c ≤ maxLen) (w : World) (hr : Rd w A l) :
    Calls Try.prog 5 #[.agg #[.int .i64 W, .int .i64 H, .slice A n c], .int .i64 x, .int .i64 y] w fun e w' => e = .returned (.bool true) ∧ Below w.heap.size w w' := by
  have M0 := Lib.hid ((Ms.refl w).new #[.int .i64 W, .int .i64 H, .slice A n c] 24 w.heap.size rfl)
  have HSK : Hid (skipB n x y (may9 W H n) = (decide ((n : Int) > 3000) || (decide (x > 60) || (decide (y > 60) || !(may9 W H n))))) := rfl
  have HMY := Lib.hid (fun W' => may_any W H A n c W')
  have HR := Lib.hid hr
  have HSN : Hid (skipB n x y (may9 W H n) = false → n ≤ 3000 ∧ x ≤ 60 ∧ y ≤ 60 ∧ may9 W H n = true) := fun h => skipB_no h
  have HOWN := Lib.hid (fun h1 h2 => own_all l W H A n c hn hnc hcm h1 h2)
  have HBACK := Lib.hid (fun h1 h2 h3 h4 h5 => back_all l W H x y A n c hn hnc hcm h1 h2 h3 h4 h5)
  have HTW := Lib.hid (fun h1 h2 h3 h4 h5 h6 h7 => twice_all l W H x y A n c hn hnc hcm h1 h2 h3 h4 h5 h6 h7)
  generalize hsk : skipB n x y (may9 W H n) = SK at *
  clear hsk
  have HNN := Lib.hid hn
  clear hr hn hnc hcm
  unfold ra at *
  go_enter Try.func5, Try.ntmps5
  go_upto_region 1 with fail
  have e0 := M0.out.k.cell 0 0 rfl rfl
  have e1 := M0.out.k.cell 0 1 rfl rfl
  have e2 := M0.out.k.cell 0 2 rfl rfl
  generalize w.alloc (.cells #[.int .i64 W, .int .i64 H, .slice A n c] 24) = w0 at *
  go_cut [39] (fun s39 wx => s39 = .bool SK ∧ Hid (Ms w [(w.heap.size, #[.int .i64 W, .int .i64 H, .slice A n c])] [] wx))
  case first => as_aux_lemma =>
    clear HR HSN HOWN HBACK HTW HNN
    cases k0 : decide ((n : Int) > 3000) with
    | true =>
      rw [k0] at HSK
      go_wp2_with fail
      go_meet
      exact ⟨by rw [HSK.out]; rfl, M0⟩
    | false =>
      cases k1 : decide (x > 60) with
      | true =>
        rw [k0, k1] at HSK
        go_wp2_with fail
        go_meet
        exact ⟨by rw [HSK.out]; rfl, M0⟩
      | false =>
        cases k2 : decide (y > 60) with
        | true =>
          rw [k0, k1, k2] at HSK
          go_wp2_with fail
          go_meet
          exact ⟨by rw [HSK.out]; rfl, M0⟩
        | false =>
          cases k3 : may9 W H n with
          | true =>
            rw [k0, k1, k2, k3] at HSK
            rw [k3] at HMY
            go_wp2_with fail
            (with_reducible refine (HMY.out _).mono ?_); rintro e w1 ⟨rfl, h1⟩
            have M1 := Lib.hid (M0.out.call h1)
            clear M0 h1 e0 e1 e2
            go_wp2_with fail
            go_meet
            exact ⟨by rw [HSK.out]; rfl, M1⟩
          | false =>
            rw [k0, k1, k2, k3] at HSK
            rw [k3] at HMY
            go_wp2_with fail
            (with_reducible refine (HMY.out _).mono ?_); rintro e w1 ⟨rfl, h1⟩
            have M1 := Lib.hid (M0.out.call h1)
            clear M0 h1 e0 e1 e2
            go_wp2_with fail
            go_meet
            exact ⟨by rw [HSK.out]; rfl, M1⟩
  case rest =>
    obtain ⟨rfl, M1⟩ := hcut
    clear M0 e0 e1 e2 HMY HSK
    obtain ⟨w1, rfl⟩ : ∃ w1, w1 = wc := ⟨_, rfl⟩
    cases SK with
    | true =>
      go_wp2_with fail
      (with_reducible refine (awake_any _).mono ?_); rintro e w2 ⟨rfl, h2⟩
      have M2 := Lib.hid (M1.out.call h2)
      go_wp2
      go_ret
      exact ⟨rfl, M2.out.k.be⟩
    | false =>
      obtain ⟨g1, g2, g3, g4⟩ := HSN.out rfl
      obtain ⟨o1, o2, o3⟩ := HOWN.out g1 g4
      have O1 := Lib.hid o1
      have O2 := Lib.hid o2
      have O3 := Lib.hid o3
      simp only [Gives9, ra] at O1 O2 O3
      have HG := Lib.hid (And.intro g2 (And.intro g3 g4))
      clear o1 o2 o3 HSN HOWN g1 g2 g3 g4
      have e0 := M1.out.k.cell 0 0 rfl rfl
      have e1 := M1.out.k.cell 0 1 rfl rfl
      have e2 := M1.out.k.cell 0 2 rfl rfl
      go_wp2_with fail
      (with_reducible refine (O1.out _ (HR.out.below M1.out.k.be)).mono ?_)
      rintro e w2 ⟨A2, c2, rfl, ho, hb⟩
      have M2q := Lib.hid (M1.out.pic hb ho)
      obtain ⟨hq1, hq2⟩ : l.length ≤ c2 ∧ c2 ≤ maxLen := by obtain ⟨_, _, e, h1, h2, _⟩ := ho.open; injection e with _ _ e3; subst e3; exact ⟨h1, h2⟩
      have HQ2 := Lib.hid (And.intro hq1 hq2)
      have M2 := Lib.hid (M2q.out.new #[.int .i64 W, .int .i64 H, .slice A2 l.length c2] 24 w2.heap.size rfl)
      clear M1 M2q ho hb hq1 hq2 e0 e1 e2
      have e0 := M2.out.k.cell 0 0 rfl rfl
      have e1 := M2.out.k.cell 0 1 rfl rfl
      have e2 := M2.out.k.cell 0 2 rfl rfl
      go_wp2_with fail
      (with_reducible refine (O2.out _ (HR.out.below M2.out.k.be)).mono ?_)
      rintro e w3 ⟨A3, c3, rfl, ho, hb⟩
      have M3q := Lib.hid (M2.out.pic hb ho)
      obtain ⟨hq1, hq2⟩ : l.length ≤ c3 ∧ c3 ≤ maxLen := by obtain ⟨_, _, e, h1, h2, _⟩ := ho.open; injection e with _ _ e3; subst e3; exact ⟨h1, h2⟩
      have HQ3 := Lib.hid (And.intro hq1 hq2)
      have M3 := Lib.hid (M3q.out.new #[.int .i64 W, .int .i64 H, .slice A3 l.length c3] 24 w3.heap.size rfl)
      clear M2 M3q ho hb hq1 hq2 e0 e1 e2
      have e0 := M3.out.k.cell 0 0 rfl rfl
      have e1 := M3.out.k.cell 0 1 rfl rfl
      have e2 := M3.out.k.cell 0 2 rfl rfl
      go_wp2_with fail
      (with_reducible refine (O3.out _ (HR.out.below M3.out.k.be)).mono ?_)
      rintro e w4 ⟨A4, c4, rfl, ho, hb⟩
      have M4q := Lib.hid (M3.out.pic hb ho)
      obtain ⟨hq1, hq2⟩ : l.length ≤ c4 ∧ c4 ≤ maxLen := by obtain ⟨_, _, e, h1, h2, _⟩ := ho.open; injection e with _ _ e3; subst e3; exact ⟨h1, h2⟩
      have HQ4 := Lib.hid (And.intro hq1 hq2)
      have M4 := Lib.hid (M4q.out.new #[.int .i64 W, .int .i64 H, .slice A4 l.length c4] 24 w4.heap.size rfl)
      clear M3 M4q ho hb hq1 hq2 e0 e1 e2
      have p0 := M4.out.k.cell 1 0 rfl rfl
      have p1 := M4.out.k.cell 1 1 rfl rfl
      have p2 := M4.out.k.cell 1 2 rfl rfl
      have q0 := M4.out.k.cell 0 0 rfl rfl
      have q1 := M4.out.k.cell 0 1 rfl rfl
      have q2 := M4.out.k.cell 0 2 rfl rfl
      go_wp2_with fail
      (with_reducible refine (alike_agg l W H A2 A l.length c2 n c rfl HNN.out _ (M4.out.rd 0 rfl) (HR.out.below M4.out.k.be)).mono ?_); rintro e w5 ⟨rfl, h5⟩
      have M5 := Lib.hid (M4.out.call h5)
      clear M4 h5 p0 p1 p2 q0 q1 q2
      have p0 := M5.out.k.cell 2 0 rfl rfl
      have p1 := M5.out.k.cell 2 1 rfl rfl
      have p2 := M5.out.k.cell 2 2 rfl rfl
      have q0 := M5.out.k.cell 0 0 rfl rfl
      have q1 := M5.out.k.cell 0 1 rfl rfl
      have q2 := M5.out.k.cell 0 2 rfl rfl
      go_wp2_with fail
      (with_reducible refine (alike_agg l W H A3 A l.length c3 n c rfl HNN.out _ (M5.out.rd 1 rfl) (HR.out.below M5.out.k.be)).mono ?_); rintro e w6 ⟨rfl, h6⟩
      have M6 := Lib.hid (M5.out.call h6)
      clear M5 h6 p0 p1 p2 q0 q1 q2
      have p0 := M6.out.k.cell 3 0 rfl rfl
      have p1 := M6.out.k.cell 3 1 rfl rfl
      have p2 := M6.out.k.cell 3 2 rfl rfl
      have q0 := M6.out.k.cell 0 0 rfl rfl
      have q1 := M6.out.k.cell 0 1 rfl rfl
      have q2 := M6.out.k.cell 0 2 rfl rfl
      go_wp2_with fail
      (with_reducible refine (alike_agg l W H A4 A l.length c4 n c rfl HNN.out _ (M6.out.rd 2 rfl) (HR.out.below M6.out.k.be)).mono ?_); rintro e w7 ⟨rfl, h7⟩
      have M7 := Lib.hid (M6.out.call h7)
      clear M6 h7 p0 p1 p2 q0 q1 q2
      clear O1 O2 O3
      have e0 := M7.out.k.cell 0 0 rfl rfl
      have e1 := M7.out.k.cell 0 1 rfl rfl
      have e2 := M7.out.k.cell 0 2 rfl rfl
      by_cases hgr : W ≤ x ∧ H ≤ y
      · have d1 : decide (x ≥ W) = true := decide_eq_true hgr.1
        have d2 : decide (y ≥ H) = true := decide_eq_true hgr.2
        obtain ⟨PL, g4, g5⟩ := HBACK.out HG.out.2.2 HG.out.1 HG.out.2.1 hgr.1 hgr.2
        have G4 := Lib.hid g4
        have G5 := Lib.hid g5
        simp only [Gives9, ra] at G4 G5
        clear g4 g5 hgr HBACK HTW e0 e1 e2
        have e0 := M7.out.k.cell 0 0 rfl rfl
        have e1 := M7.out.k.cell 0 1 rfl rfl
        have e2 := M7.out.k.cell 0 2 rfl rfl
        go_wp2_with fail
        (with_reducible refine (G4.out _ (HR.out.below M7.out.k.be)).mono ?_)
        rintro e w8 ⟨A8, c8, rfl, ho, hb⟩
        have M8q := Lib.hid (M7.out.pic hb ho)
        obtain ⟨hq1, hq2⟩ : PL.length ≤ c8 ∧ c8 ≤ maxLen := by obtain ⟨_, _, e, h1, h2, _⟩ := ho.open; injection e with _ _ e3; subst e3; exact ⟨h1, h2⟩
        have HQ8 := Lib.hid (And.intro hq1 hq2)
        have M8 := Lib.hid (M8q.out.new #[.int .i64 x, .int .i64 y, .slice A8 PL.length c8] 24 w8.heap.size rfl)
        clear M7 M8q ho hb hq1 hq2 e0 e1 e2
        have G5q := Lib.hid (G5.out A8 c8 HQ8.out.1 HQ8.out.2)
        have e0 := M8.out.k.cell 0 0 rfl rfl
        have e1 := M8.out.k.cell 0 1 rfl rfl
        have p0 := M8.out.k.cell 4 0 rfl rfl
        have p1 := M8.out.k.cell 4 1 rfl rfl
        have p2 := M8.out.k.cell 4 2 rfl rfl
        go_wp2_with fail
        (with_reducible refine (G5q.out _ (M8.out.rd 3 rfl)).mono ?_)
        rintro e w9 ⟨A9, c9, rfl, ho, hb⟩
        have M9q := Lib.hid (M8.out.pic hb ho)
        obtain ⟨hq1, hq2⟩ : l.length ≤ c9 ∧ c9 ≤ maxLen := by obtain ⟨_, _, e, h1, h2, _⟩ := ho.open; injection e with _ _ e3; subst e3; exact ⟨h1, h2⟩
        have HQ9 := Lib.hid (And.intro hq1 hq2)
        have M9 := Lib.hid (M9q.out.new #[.int .i64 W, .int .i64 H, .slice A9 l.length c9] 24 w9.heap.size rfl)
        clear M8 M9q ho hb hq1 hq2 p0 p1 p2
        clear e0 e1
        have r0 := M9.out.k.cell 4 0 rfl rfl
        have r1 := M9.out.k.cell 4 1 rfl rfl
        have p0 := M9.out.k.cell 5 0 rfl rfl
        have p1 := M9.out.k.cell 5 1 rfl rfl
        have p2 := M9.out.k.cell 5 2 rfl rfl
        have q0 := M9.out.k.cell 0 0 rfl rfl
        have q1 := M9.out.k.cell 0 1 rfl rfl
        have q2 := M9.out.k.cell 0 2 rfl rfl
        go_wp2_with fail
        (with_reducible refine (alike_agg l W H A9 A l.length c9 n c rfl HNN.out _ (M9.out.rd 4 rfl) (HR.out.below M9.out.k.be)).mono ?_); rintro e w10 ⟨rfl, h10⟩
        have M10 := Lib.hid (M9.out.call h10)
        clear M9 h10 p0 p1 p2 q0 q1 q2
        go_wp2_with fail
        (with_reducible refine (awake_any _).mono ?_); rintro e w20 ⟨rfl, h20⟩
        have M20 := Lib.hid (M10.out.call h20)
        go_wp2
        go_ret
        exact ⟨rfl, M20.out.k.be⟩
      · have hd : decide (x ≥ W) = false ∨ decide (x ≥ W) = true ∧ decide (y ≥ H) = false := by
          by_cases hq : W ≤ x
          · exact .inr ⟨decide_eq_true hq, decide_eq_false (fun h => hgr ⟨hq, h⟩)⟩
          · exact .inl (decide_eq_false hq)
        clear hgr HBACK
        by_cases hin : 1 ≤ x ∧ 1 ≤ y ∧ x ≤ W ∧ y ≤ H
        · obtain ⟨PL, Q, g6, g7, g8⟩ := HTW.out HG.out.2.2 HG.out.1 HG.out.2.1 hin.1 hin.2.1 hin.2.2.1 hin.2.2.2
          have G6 := Lib.hid g6
          have G7 := Lib.hid g7
          have G8 := Lib.hid g8
          simp only [Gives9, ra] at G6 G7 G8
          have d3 : decide (x < 1) = false := decide_eq_false (by omega)
          have d4 : decide (y < 1) = false := decide_eq_false (by omega)
          have d5 : decide (x > W) = false := decide_eq_false (by omega)
          have d6 : decide (y > H) = false := decide_eq_false (by omega)
          clear g6 g7 g8 hin HTW e0 e1 e2
          rcases hd with hd1 | ⟨hd1, hd2⟩
          all_goals (
            have e0 := M7.out.k.cell 0 0 rfl rfl
            have e1 := M7.out.k.cell 0 1 rfl rfl
            have e2 := M7.out.k.cell 0 2 rfl rfl
            go_wp2_with fail
            (with_reducible refine (G6.out _ (HR.out.below M7.out.k.be)).mono ?_)
            rintro e w8 ⟨A8, c8, rfl, ho, hb⟩
            have M8q := Lib.hid (M7.out.pic hb ho)
            obtain ⟨hq1, hq2⟩ : PL.length ≤ c8 ∧ c8 ≤ maxLen := by obtain ⟨_, _, e, h1, h2, _⟩ := ho.open; injection e with _ _ e3; subst e3; exact ⟨h1, h2⟩
            have HQ8 := Lib.hid (And.intro hq1 hq2)
            have M8 := Lib.hid (M8q.out.new #[.int .i64 x, .int .i64 y, .slice A8 PL.length c8] 24 w8.heap.size rfl)
            clear M7 M8q ho hb hq1 hq2 e0 e1 e2
            have G7q := Lib.hid (G7.out A8 c8 HQ8.out.1 HQ8.out.2)
            have p0 := M8.out.k.cell 4 0 rfl rfl
            have p1 := M8.out.k.cell 4 1 rfl rfl
            have p2 := M8.out.k.cell 4 2 rfl rfl
            go_wp2_with fail
            (with_reducible refine (G7q.out _ (M8.out.rd 3 rfl)).mono ?_)
            rintro e w9 ⟨A9, c9, rfl, ho, hb⟩
            have M9q := Lib.hid (M8.out.pic hb ho)
            obtain ⟨hq1, hq2⟩ : Q.length ≤ c9 ∧ c9 ≤ maxLen := by obtain ⟨_, _, e, h1, h2, _⟩ := ho.open; injection e with _ _ e3; subst e3; exact ⟨h1, h2⟩
            have HQ9 := Lib.hid (And.intro hq1 hq2)
            have M9 := Lib.hid (M9q.out.new #[.int .i64 1, .int .i64 1, .slice A9 Q.length c9] 24 w9.heap.size rfl)
            clear M8 M9q ho hb hq1 hq2 p0 p1 p2
            have e0 := M9.out.k.cell 0 0 rfl rfl
            have e1 := M9.out.k.cell 0 1 rfl rfl
            have e2 := M9.out.k.cell 0 2 rfl rfl
            go_wp2_with fail
            (with_reducible refine (G8.out _ (HR.out.below M9.out.k.be)).mono ?_)
            rintro e w10 ⟨A10, c10, rfl, ho, hb⟩
            have M10q := Lib.hid (M9.out.pic hb ho)
            obtain ⟨hq1, hq2⟩ : Q.length ≤ c10 ∧ c10 ≤ maxLen := by obtain ⟨_, _, e, h1, h2, _⟩ := ho.open; injection e with _ _ e3; subst e3; exact ⟨h1, h2⟩
            have HQ10 := Lib.hid (And.intro hq1 hq2)
            have M10 := Lib.hid (M10q.out.new #[.int .i64 1, .int .i64 1, .slice A10 Q.length c10] 24 w10.heap.size rfl)
            clear M9 M10q ho hb hq1 hq2 e0 e1 e2
            have p0 := M10.out.k.cell 5 0 rfl rfl
            have p1 := M10.out.k.cell 5 1 rfl rfl
            have p2 := M10.out.k.cell 5 2 rfl rfl
            have q0 := M10.out.k.cell 6 0 rfl rfl
            have q1 := M10.out.k.cell 6 1 rfl rfl
            have q2 := M10.out.k.cell 6 2 rfl rfl
            go_wp2_with fail
            (with_reducible refine (alike_agg Q 1 1 A9 A10 Q.length c9 Q.length c10 rfl rfl _ (M10.out.rd 4 rfl) (M10.out.rd 5 rfl)).mono ?_); rintro e w11 ⟨rfl, h11⟩
            have M11 := Lib.hid (M10.out.call h11)
            clear M10 h11 p0 p1 p2 q0 q1 q2
            go_wp2_with fail
            (with_reducible refine (awake_any _).mono ?_); rintro e w20 ⟨rfl, h20⟩
            have M20 := Lib.hid (M11.out.call h20)
            go_wp2
            go_ret
            exact ⟨rfl, M20.out.k.be⟩)
        · clear HTW
          have hk : x < 1 ∨ (¬ x < 1 ∧ y < 1) ∨ (¬ x < 1 ∧ ¬ y < 1 ∧ W < x) ∨ (¬ x < 1 ∧ ¬ y < 1 ∧ ¬ W < x ∧ H < y) := by omega
          clear hin
          rcases hd with hd1 | ⟨hd1, hd2⟩
          all_goals (
            rcases hk with k1 | ⟨k1, k2⟩ | ⟨k1, k2, k3⟩ | ⟨k1, k2, k3, k4⟩
            · have d3 : decide (x < 1) = true := decide_eq_true (by omega)
              go_wp2_with fail
              (with_reducible refine (awake_any _).mono ?_); rintro e w20 ⟨rfl, h20⟩
              have M20 := Lib.hid (M7.out.call h20)
              go_wp2
              go_ret
              exact ⟨rfl, M20.out.k.be⟩
            · have d3 : decide (x < 1) = false := decide_eq_false (by omega)
              have d4 : decide (y < 1) = true := decide_eq_true (by omega)
              go_wp2_with fail
              (with_reducible refine (awake_any _).mono ?_); rintro e w20 ⟨rfl, h20⟩
              have M20 := Lib.hid (M7.out.call h20)
              go_wp2
              go_ret
              exact ⟨rfl, M20.out.k.be⟩
            · have d3 : decide (x < 1) = false := decide_eq_false (by omega)
              have d4 : decide (y < 1) = false := decide_eq_false (by omega)
              have d5 : decide (x > W) = true := decide_eq_true (by omega)
              go_wp2_with fail
              (with_reducible refine (awake_any _).mono ?_); rintro e w20 ⟨rfl, h20⟩
              have M20 := Lib.hid (M7.out.call h20)
              go_wp2
              go_ret
              exact ⟨rfl, M20.out.k.be⟩
            · have d3 : decide (x < 1) = false := decide_eq_false (by omega)
              have d4 : decide (y < 1) = false := decide_eq_false (by omega)
              have d5 : decide (x > W) = false := decide_eq_false (by omega)
              have d6 : decide (y > H) = true := decide_eq_true (by omega)
              go_wp2_with fail
              (with_reducible refine (awake_any _).mono ?_); rintro e w20 ⟨rfl, h20⟩
              have M20 := Lib.hid (M7.out.call h20)
              go_wp2
              go_ret
              exact ⟨rfl, M20.out.k.be⟩)
end Go.Proofs.Ytogpnpcdghabmaa
