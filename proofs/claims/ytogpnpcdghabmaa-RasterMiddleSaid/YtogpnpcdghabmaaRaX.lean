/- The law RasterMiddle (written by tools/gen_raX.py). -/
import Derived.Test.YtogpnpcdghabmaaRaW
namespace Go.Proofs.Ytogpnpcdghabmaa
open Go.RowKit Go.Lib
set_option linter.unusedVariables false
set_option linter.unusedSimpArgs false
set_option maxRecDepth 100000
theorem c3_at (f : Nat → Int) {q : Nat} (hq : q < 3) : (c3 f)[q]? = some (.int .u8 (f q)) := by
  rcases q with _ | _ | _ | q
  · rfl
  · rfl
  · rfl
  · omega
theorem run_min8 (w : World) (ts : Array TypeId) (T : TypeId) (a b : Int) : (Builtin.min_ ts T #[.int .u8 a, .int .u8 b]).run Try.prog w = .ok (.int .u8 (min a b)) w := by
  have h : (if b < a then b else a) = min a b := by
    by_cases hb : b < a
    · rw [if_pos hb]; omega
    · rw [if_neg hb]; omega
  simp [Builtin.min_, Builtin.min2]
  exact h
theorem run_max8 (w : World) (ts : Array TypeId) (T : TypeId) (a b : Int) : (Builtin.max_ ts T #[.int .u8 a, .int .u8 b]).run Try.prog w = .ok (.int .u8 (max a b)) w := by
  have h : (if b > a then b else a) = max a b := by
    by_cases hb : b > a
    · rw [if_pos hb]; omega
    · rw [if_neg hb]; omega
  simp [Builtin.max_, Builtin.max2]
  exact h
/-- Between the least and the greatest of those that were looked at. -/
def Cov (F : Nat → Nat → Int) (nx i k : Nat) (lo hi : Int) : Prop := 0 ≤ lo ∧ lo ≤ 255 ∧ 0 ≤ hi ∧ hi ≤ 255 ∧ ∀ i' k', k' < nx → (i' < i ∨ i' = i ∧ k' < k) → lo ≤ F i' k' ∧ F i' k' ≤ hi
theorem Cov.zero (F : Nat → Nat → Int) (nx : Nat) : Cov F nx 0 0 255 0 := ⟨by decide, by decide, by decide, by decide, fun i' k' _ h => by omega⟩
theorem Cov.step {F : Nat → Nat → Int} {nx i k : Nat} {lo hi : Int} (h : Cov F nx i k lo hi) (hF : 0 ≤ F i k ∧ F i k ≤ 255) : Cov F nx i (k + 1) (min lo (F i k)) (max hi (F i k)) := by
  obtain ⟨h1, h2, h3, h4, h5⟩ := h
  refine ⟨by omega, by omega, by omega, by omega, fun i' k' hk hc => ?_⟩
  by_cases hn : i' < i ∨ i' = i ∧ k' < k
  · have := h5 i' k' hk hn
    omega
  · obtain ⟨rfl, rfl⟩ : i' = i ∧ k' = k := by omega
    omega
theorem Cov.row {F : Nat → Nat → Int} {nx i : Nat} {lo hi : Int} (h : Cov F nx i nx lo hi) : Cov F nx (i + 1) 0 lo hi := by
  obtain ⟨h1, h2, h3, h4, h5⟩ := h
  exact ⟨h1, h2, h3, h4, fun i' k' hk hc => h5 i' k' hk (by omega)⟩
theorem Ms.sub {w W : World} {L L' : List (Nat × Array Value)} {Ps : List Pt} (h : Ms w L Ps W) (hL : ∀ p ∈ L', p ∈ L) : Ms w L' Ps W := ⟨h.k.sub hL, h.ob⟩
/-- What the law's walk needs to know of a picture brought down. -/
theorem mid_all (l : List UInt8) (W H x y : Int) (A : Option Addr) (n c : Nat) (hn : n = l.length) (hnc : n ≤ c) (hcm : c ≤ maxLen) (hm : may9 W H n = true) (hx1 : 1 ≤ x) (hx : x ≤ 60) (hy1 : 1 ≤ y) (hy : y ≤ 60) :
    ∃ (a b p q : Nat) (BL : List UInt8), W = (a : Int) ∧ H = (b : Int) ∧ a ≤ 4096 ∧ b ≤ 4096 ∧ 1 ≤ p ∧ p ≤ a ∧ 1 ≤ q ∧ q ≤ b ∧
      (∀ w, Calls Try.prog 12 #[.int .i64 W, .int .i64 H, .int .i64 x, .int .i64 y] w fun e' w' => e' = .returned (.tuple #[.int .i64 p, .int .i64 q, .int .i64 0]) ∧ Below w.heap.size w w') ∧
      ((p : Int) ≤ min x W ∧ (q : Int) ≤ min y H ∧ ((p : Int) = min x W ∨ (q : Int) = min y H)) ∧ BL.length = 3 * p * q ∧ 3 * p * q ≤ 65536 ∧
      Gives9 16 W H p q A n c l p q 0 BL ∧
      (∀ A' c', BL.length ≤ c' → c' ≤ maxLen → ∀ w, Rd w A' BL → ∀ u v : Nat, u < p → v < q → Calls Try.prog 9 #[ra p q (.slice A' BL.length c'), .int .i64 u, .int .i64 v] w fun e w' => e = .returned (.tuple #[.agg (c3 (boxF l a b p q u v)), .bool true]) ∧ Below w.heap.size w w') ∧
      (∀ w, Rd w A l → ∀ u v : Nat, u < a → v < b → Calls Try.prog 9 #[ra W H (.slice A n c), .int .i64 u, .int .i64 v] w fun e w' => e = .returned (.tuple #[.agg (c3 (colF l a u v)), .bool true]) ∧ Below w.heap.size w w') := by
  subst hn
  obtain ⟨a, b, rfl, rfl, hp⟩ := pc_of hm
  have h1 := hp.w1
  have h2 := hp.w2
  have h3 := hp.h1
  have h4 := hp.h2
  obtain ⟨p, rfl⟩ : ∃ k : Nat, x = (k : Int) := ⟨x.toNat, by omega⟩
  obtain ⟨q, rfl⟩ : ∃ k : Nat, y = (k : Int) := ⟨y.toNat, by omega⟩
  obtain ⟨f1, f2, f3, f4, f5⟩ := fitN_ok (w := a) (h := b) (wide := p) (high := q) h1 h3 (by omega) (by omega)
  have hfit := fun w => fit_yes a b p q w h1 h2 h3 h4 (by omega) (by omega) (by omega) (by omega)
  generalize (fitN a b p q).1 = P at *
  generalize (fitN a b p q).2 = Q at *
  have hm3 : 3 * P * Q ≤ 65536 := mul60 (by omega) (by omega)
  refine ⟨a, b, P, Q, picL (boxF l a b P Q) P Q, rfl, rfl, h2, h4, f1, by omega, f2, by omega, hfit, ⟨by omega, by omega, by omega⟩, pic_len _ _ _, hm3,
    gives_of fun w hr => box_yes l a b hp A l.length c rfl hnc hcm w hr P Q f1 (by omega) f2 (by omega) (by omega) (by omega) hm3, fun A' c' hc hm' w hr u v hu hv => ?_, fun w hr u v hu hv => at_yes l a b hp A l.length c rfl hnc hcm w hr u v hu hv⟩
  have := at_yes (picL (boxF l a b P Q) P Q) P Q (pc_pic f1 (by omega) f2 (by omega)) A' _ c' rfl hc hm' w hr u v hu hv
  have e : c3 (colF (picL (boxF l a b P Q) P Q) P u v) = c3 (boxF l a b P Q u v) := by
    have hb : ∀ k, k < 3 → colF (picL (boxF l a b P Q) P Q) P u v k = boxF l a b P Q u v k := fun k hk => pb_pic hu hv hk (boxF_rng (bxN_pos (by omega) (by omega) (by omega) (by omega)))
    unfold c3
    rw [hb 0 (by omega), hb 1 (by omega), hb 2 (by omega)]
  rwa [e] at this
/-- The means lie between. -/
theorem mid_box {l : List UInt8} {a b p q u v k : Nat} {lo hi : Int} (hp1 : 1 ≤ p) (hp : p ≤ a) (hq1 : 1 ≤ q) (hq : q ≤ b) (h : Cov (bxF l a b p q u v k) (lo9 (u + 1) a p - lo9 u a p) (lo9 (v + 1) b q - lo9 v b q) 0 lo hi) : lo ≤ boxF l a b p q u v k ∧ boxF l a b p q u v k ≤ hi := by
  refine boxF_mid (bxN_pos (by omega) (by omega) hp hq) fun i j h1 h2 h3 h4 => ?_
  have := h.2.2.2.2 (i - lo9 v b q) (j - lo9 u a p) (by omega) (.inl (by omega))
  unfold bxF at this
  rwa [show lo9 u a p + (j - lo9 u a p) = j by omega, show lo9 v b q + (i - lo9 v b q) = i by omega] at this
def skipM (n : Nat) (x y : Int) (m : Bool) : Bool := decide ((n : Int) > 3000) || (decide (x > 60) || (decide (y > 60) || (decide (x < 1) || (decide (y < 1) || !m))))
theorem skipM_no {n : Nat} {x y : Int} {m : Bool} (h : skipM n x y m = false) : n ≤ 3000 ∧ x ≤ 60 ∧ y ≤ 60 ∧ 1 ≤ x ∧ 1 ≤ y ∧ m = true := by
  unfold skipM at h
  simp only [Bool.or_eq_false_iff, decide_eq_false_iff_not, Bool.not_eq_false'] at h
  exact ⟨by omega, by omega, by omega, by omega, by omega, h.2.2.2.2.2⟩
set_option maxHeartbeats 40000000 in
theorem middle_any (l : List UInt8) (W H x y : Int) (A : Option Addr) (n c : Nat) (hn : n = l.length) (hnc : n ≤ c) (hcm : c ≤ maxLen) (w : World) (hr : Rd w A l) :
    Calls Try.prog 6 #[.agg #[.int .i64 W, .int .i64 H, .slice A n c], .int .i64 x, .int .i64 y] w fun e w' => e = .returned (.bool true) ∧ Below w.heap.size w w' := by
  have M0 := Lib.hid ((Ms.refl w).new #[.int .i64 W, .int .i64 H, .slice A n c] 24 w.heap.size rfl)
  have HSK : Hid (skipM n x y (may9 W H n) = (decide ((n : Int) > 3000) || (decide (x > 60) || (decide (y > 60) || (decide (x < 1) || (decide (y < 1) || !(may9 W H n))))))) := rfl
  have HMY := Lib.hid (fun W' => may_any W H A n c W')
  have HR := Lib.hid hr
  have HSN : Hid (skipM n x y (may9 W H n) = false → n ≤ 3000 ∧ x ≤ 60 ∧ y ≤ 60 ∧ 1 ≤ x ∧ 1 ≤ y ∧ may9 W H n = true) := fun h => skipM_no h
  have HMID := Lib.hid (fun h1 h2 h3 h4 h5 => mid_all l W H x y A n c hn hnc hcm h1 h2 h3 h4 h5)
  generalize hsk : skipM n x y (may9 W H n) = SK at *
  clear hsk
  have HNN := Lib.hid hn
  clear hr hn hnc hcm
  unfold ra at *
  go_enter Try.func6, Try.ntmps6
  go_upto_region 1 with fail
  have e0 := M0.out.k.cell 0 0 rfl rfl
  have e1 := M0.out.k.cell 0 1 rfl rfl
  have e2 := M0.out.k.cell 0 2 rfl rfl
  generalize w.alloc (.cells #[.int .i64 W, .int .i64 H, .slice A n c] 24) = w0 at *
  go_cut [47] (fun s47 wx => s47 = .bool SK ∧ Hid (Ms w [(w.heap.size, #[.int .i64 W, .int .i64 H, .slice A n c])] [] wx))
  case first => as_aux_lemma =>
    clear HR HSN HMID HNN
    cases k0 : decide ((n : Int) > 3000) with
    | true =>
      rw [k0] at HSK
      go_wp2_with fail
      go_meet
      exact ⟨by rw [HSK.out]; rfl, M0⟩
    | false =>
      cases k1 : decide (x > 60) with
      | true =>
        rw [k0, k1] at HSK
        go_wp2_with fail
        go_meet
        exact ⟨by rw [HSK.out]; rfl, M0⟩
      | false =>
        cases k2 : decide (y > 60) with
        | true =>
          rw [k0, k1, k2] at HSK
          go_wp2_with fail
          go_meet
          exact ⟨by rw [HSK.out]; rfl, M0⟩
        | false =>
          cases k3 : decide (x < 1) with
          | true =>
            rw [k0, k1, k2, k3] at HSK
            go_wp2_with fail
            go_meet
            exact ⟨by rw [HSK.out]; rfl, M0⟩
          | false =>
            cases k4 : decide (y < 1) with
            | true =>
              rw [k0, k1, k2, k3, k4] at HSK
              go_wp2_with fail
              go_meet
              exact ⟨by rw [HSK.out]; rfl, M0⟩
            | false =>
              cases k9 : may9 W H n with
              | true =>
                rw [k0, k1, k2, k3, k4, k9] at HSK
                rw [k9] at HMY
                go_wp2_with fail
                (with_reducible refine (HMY.out _).mono ?_); rintro e w1 ⟨rfl, h1⟩
                have M1 := Lib.hid (M0.out.call h1)
                clear M0 h1 e0 e1 e2
                go_wp2_with fail
                go_meet
                exact ⟨by rw [HSK.out]; rfl, M1⟩
              | false =>
                rw [k0, k1, k2, k3, k4, k9] at HSK
                rw [k9] at HMY
                go_wp2_with fail
                (with_reducible refine (HMY.out _).mono ?_); rintro e w1 ⟨rfl, h1⟩
                have M1 := Lib.hid (M0.out.call h1)
                clear M0 h1 e0 e1 e2
                go_wp2_with fail
                go_meet
                exact ⟨by rw [HSK.out]; rfl, M1⟩
  case rest =>
    obtain ⟨rfl, M1⟩ := hcut
    clear M0 e0 e1 e2 HMY HSK
    obtain ⟨w1, rfl⟩ : ∃ w1, w1 = wc := ⟨_, rfl⟩
    cases SK with
    | true =>
      go_wp2_with fail
      (with_reducible refine (awake_any _).mono ?_); rintro e w2 ⟨rfl, h2⟩
      have M2 := Lib.hid (M1.out.call h2)
      go_wp2
      go_ret
      exact ⟨rfl, M2.out.k.be⟩
    | false =>
      obtain ⟨g1, g2, g3, g4, g5, g6⟩ := HSN.out rfl
      obtain ⟨a, b, p, q, BL, hWa, hHb, ha4, hb4, hp1, hpa, hq1, hqb, hfit, hmin, hbl, hpq, hbox, hat1, hat2⟩ := HMID.out g6 g4 g2 g5 g3
      have hWl : Hid (W = (a : Int)) := hWa
      have hHl : Hid (H = (b : Int)) := hHb
      have HFIT := Lib.hid hfit
      have HBX := Lib.hid hbox
      have HAT1 := Lib.hid hat1
      have HAT2 := Lib.hid hat2
      simp only [Gives9, ra] at HBX HAT1 HAT2
      have HQX := Lib.hid (fun u hu => quoB (b := u) (H := a) (y := p) ha4 hp1 hpa hu)
      have HQY := Lib.hid (fun v hv => quoB (b := v) (H := b) (y := q) hb4 hq1 hqb hv)
      have HBM : Hid (∀ u v k lo hi, Cov (bxF l a b p q u v k) (lo9 (u + 1) a p - lo9 u a p) (lo9 (v + 1) b q - lo9 v b q) 0 lo hi → lo ≤ boxF l a b p q u v k ∧ boxF l a b p q u v k ≤ hi) := fun u v k lo hi h => mid_box hp1 hpa hq1 hqb h
      have HFE : Hid (∀ u v k i j, colF l a (lo9 u a p + j) (lo9 v b q + i) k = bxF l a b p q u v k i j) := fun u v k i j => rfl
      have HFR := Lib.hid (fun u v k i j => bxF_rng l a b p q u v k i j)
      have k1 : IntKind.i64.wrap (3 * (p : Int)) = ((3 * p : Nat) : Int) := by push_cast; exact IntWalk.i64_in _ (by omega)
      have k2 : IntKind.i64.wrap (((3 * p : Nat) : Int) * (q : Int)) = (BL.length : Int) := by rw [hbl, ← Int.natCast_mul]; exact IntWalk.i64_in _ (by omega)
      have HA4 := Lib.hid ha4
      have HP4 : Hid (p ≤ 4096) := by show _ ≤ _; omega
      have HQ4 : Hid (q ≤ 4096) := by show _ ≤ _; omega
      have HB4 := Lib.hid hb4
      have zp : ¬ (p : Int) = 0 := by omega
      have zp2 : ((p : Int) == 0) = false := by rw [beq_eq_false_iff_ne]; exact zp
      have zq : ¬ (q : Int) = 0 := by omega
      have zq2 : ((q : Int) == 0) = false := by rw [beq_eq_false_iff_ne]; exact zq
      have v1 : decide ((p : Int) < 1) = false := decide_eq_false (by omega)
      have v2 : decide ((q : Int) < 1) = false := decide_eq_false (by omega)
      have HM1 : Hid (min x W = min x W) := rfl
      have HM2 : Hid (min y H = min y H) := rfl
      obtain ⟨m1, hm1⟩ : ∃ k, k = min x W := ⟨_, rfl⟩
      obtain ⟨m2, hm2⟩ : ∃ k, k = min y H := ⟨_, rfl⟩
      rw [← hm1, ← hm2] at hmin
      replace HM1 := Lib.hid hm1.symm
      replace HM2 := Lib.hid hm2.symm
      have v3 : decide ((p : Int) > m1) = false := decide_eq_false (by omega)
      have v4 : decide ((q : Int) > m2) = false := decide_eq_false (by omega)
      have hor : ((p : Int) != m1) = false ∨ ((p : Int) != m1) = true ∧ ((q : Int) != m2) = false := by
        by_cases hq : (p : Int) = m1
        · exact .inl (by rw [bne_eq_false_iff_eq]; exact hq)
        · refine .inr ⟨by rw [bne_iff_ne]; exact hq, by rw [bne_eq_false_iff_eq]; omega⟩
      clear hm1 hm2 hfit hmin hbox hat1 hat2 hbl hpq g1 g2 g3 g4 g5 g6 HSN HMID ha4 hb4 hp1 hpa hq1 hqb
      generalize boxF l a b p q = PF at *
      generalize bxF l a b p q = BF at *
      generalize colF l a = CF at *
      rw [← hWa] at HQX
      rw [← hHb] at HQY
      clear hWa hHb
      generalize hpI : (p : Int) = pI at *
      generalize hqI : (q : Int) = qI at *
      have HPI := Lib.hid hpI
      have HQI := Lib.hid hqI
      clear hpI hqI
      generalize ((3 * p : Nat) : Int) = p3 at *
      have e0 := M1.out.k.cell 0 0 rfl rfl
      have e1 := M1.out.k.cell 0 1 rfl rfl
      go_wp2_with fail
      (with_reducible refine (HFIT.out _).mono ?_); rintro e w2 ⟨rfl, h2⟩
      have M2 := Lib.hid (M1.out.call h2)
      clear M1 h2 e0 e1 HFIT
      have e0 := M2.out.k.cell 0 0 rfl rfl
      have e1 := M2.out.k.cell 0 1 rfl rfl
      have e2 := M2.out.k.cell 0 2 rfl rfl
      go_upto_region 4 with fail
      go_cut [101] (fun s101 wx => s101 = .bool false ∧ wx = w2)
      case first => as_aux_lemma =>
        clear HR HNN HBX HAT1 HAT2 HQX HQY HBM HFE HFR k1 k2 HA4 HB4 zp zp2 zq zq2 HPI HQI M2
        rcases hor with o1 | ⟨o1, o2⟩
        all_goals (
          go_wp2_with (first
            | (refine wpList_open (by rfl) (wpList_minI _ rfl (.tmp 72) (.tmp 74) rfl x W m1 rfl rfl HM1.out ?_))
            | (refine wpList_open (by rfl) (wpList_minI _ rfl (.tmp 80) (.tmp 82) rfl y H m2 rfl rfl HM2.out ?_))
            | (refine wpList_open (by rfl) (wpList_minI _ rfl (.tmp 88) (.tmp 90) rfl x W m1 rfl rfl HM1.out ?_))
            | (refine wpList_open (by rfl) (wpList_minI _ rfl (.tmp 95) (.tmp 97) rfl y H m2 rfl rfl HM2.out ?_)))
          go_meet
          exact ⟨rfl, rfl⟩)
      case rest =>
        (obtain ⟨rfl, hh⟩ := hcut; subst wc)
        clear hor v1 v2 v3 v4 HM1 HM2
        go_wp2_with fail
        (with_reducible refine (HBX.out _ (HR.out.below M2.out.k.be)).mono ?_)
        rintro e w3 ⟨A3, cc3, rfl, ho, hb⟩
        have M3q := Lib.hid (M2.out.pic hb ho)
        obtain ⟨hq1, hq2⟩ : BL.length ≤ cc3 ∧ cc3 ≤ maxLen := by obtain ⟨_, _, e, h1, h2, _⟩ := ho.open; injection e with _ _ e3; subst e3; exact ⟨h1, h2⟩
        have HAT1q := Lib.hid (HAT1.out A3 cc3 hq1 hq2)
        have M3 := Lib.hid (M3q.out.new #[.int .i64 pI, .int .i64 qI, .slice A3 BL.length cc3] 24 w3.heap.size rfl)
        clear M2 M3q ho hb hq1 hq2 e0 e1 e2 HBX HAT1
        go_wp2_with fail
        clear k1 k2
        go_loopw [12] (fun yv wr => ∃ v : Nat, v ≤ q ∧ yv = .int .i64 v ∧ Hid (Ms w [(w.heap.size, #[.int .i64 W, .int .i64 H, .slice A n c]), (w3.heap.size, #[.int .i64 pI, .int .i64 qI, .slice A3 BL.length cc3])] [⟨w2.heap.size, w3.heap.size, .slice A3 BL.length cc3, BL⟩] wr)) (fun yv _ => q - (RowKit.intOf yv).toNat)
        case atStart => exact ⟨0, Nat.zero_le _, rfl, M3⟩
        case round =>
          clear M3
          obtain ⟨v, hv, rfl, M4⟩ := hrel
          by_cases hvq : v < q
          · have hvi : (v : Int) < qI := by have := HQI.out; omega
            have hv4 : v ≤ 4096 := by have := HQ4.out; omega
            go_wp2_with fail
            go_loopw [13] (fun xv wr => ∃ u : Nat, u ≤ p ∧ xv = .int .i64 u ∧ Hid (Ms w [(w.heap.size, #[.int .i64 W, .int .i64 H, .slice A n c]), (w3.heap.size, #[.int .i64 pI, .int .i64 qI, .slice A3 BL.length cc3])] [⟨w2.heap.size, w3.heap.size, .slice A3 BL.length cc3, BL⟩] wr)) (fun xv _ => p - (RowKit.intOf xv).toNat)
            case atStart => exact ⟨0, Nat.zero_le _, rfl, M4⟩
            case round =>
              clear M4
              obtain ⟨u, hu, rfl, M5⟩ := hrel
              by_cases hup : u < p
              · have hui : (u : Int) < pI := by have := HPI.out; omega
                have hu4 : u ≤ 4096 := by have := HP4.out; omega
                have HC1 := Lib.hid (HAT1q.out wr (M5.out.rd 0 rfl) u v hup hvq)
                obtain ⟨P1, P2, q1, q2, q3, q4, q5, q6, q7, q8⟩ := HQY.out v hvq
                obtain ⟨P3, P4, r1, r2, r3, r4, r5, r6, r7, r8⟩ := HQX.out u hup
                have HBS := Lib.hid (fun k lo hi h => HBM.out u v k lo hi h)
                have HFF : Hid (∀ k i j, CF (lo9 u a p + j) (lo9 v b q + i) k = BF u v k i j) := fun k i j => HFE.out u v k i j
                have HFG : Hid (∀ k i j, 0 ≤ BF u v k i j ∧ BF u v k i j ≤ 255) := fun k i j => HFR.out u v k i j
                have HX1 : Hid (lo9 (u + 1) a p ≤ a) := r8
                have HY1 : Hid (lo9 (v + 1) b q ≤ b) := q8
                have t1 : lo9 (u + 1) a p ≤ 4096 := Nat.le_trans r8 HA4.out
                have t2 : lo9 (v + 1) b q ≤ 4096 := Nat.le_trans q8 HB4.out
                clear q8 r8
                generalize PF u v = cf at *
                generalize BF u v = BG at *
                generalize lo9 (u + 1) a p = x1 at *
                generalize lo9 u a p = x0 at *
                generalize lo9 (v + 1) b q = y1 at *
                generalize lo9 v b q = y0 at *
                simp only [c3] at HC1
                have e0 := M5.out.k.cell 1 0 rfl rfl
                have e1 := M5.out.k.cell 1 1 rfl rfl
                have e2 := M5.out.k.cell 1 2 rfl rfl
                go_wp2_with fail
                (with_reducible refine HC1.out.mono ?_); rintro e w4 ⟨rfl, h4⟩
                have M6 : Hid (Ms w _ _ _) := Lib.hid ((M5.out.call h4).new #[.int .u8 (cf 0), .int .u8 (cf 1), .int .u8 (cf 2)] 27 w4.heap.size rfl)
                clear M5 h4 e0 e1 e2 HC1
                go_wp2_with fail
                generalize w4.heap.size = gc at *
                generalize w4.alloc (.cells #[.int .u8 (cf 0), .int .u8 (cf 1), .int .u8 (cf 2)] 27) = w5 at *
                go_loopw [16] (fun kv wr => ∃ k : Nat, k ≤ 3 ∧ kv = .int .i64 k ∧ Hid (Ms w [(w.heap.size, #[.int .i64 W, .int .i64 H, .slice A n c]), (w3.heap.size, #[.int .i64 pI, .int .i64 qI, .slice A3 BL.length cc3]), (gc, #[.int .u8 (cf 0), .int .u8 (cf 1), .int .u8 (cf 2)])] [⟨w2.heap.size, w3.heap.size, .slice A3 BL.length cc3, BL⟩] wr)) (fun kv _ => 3 - (RowKit.intOf kv).toNat)
                case atStart => exact ⟨0, Nat.zero_le _, rfl, M6⟩
                case round =>
                  clear M6
                  obtain ⟨k, hk, rfl, M7⟩ := hrel
                  by_cases hk3 : k < 3
                  · have hki : (k : Int) < 3 := by omega
                    have HBK := Lib.hid (fun lo hi h => HBS.out k lo hi h)
                    have HFK : Hid (∀ i j, CF (x0 + j) (y0 + i) k = BG k i j) := fun i j => HFF.out k i j
                    have HFH : Hid (∀ i j, 0 ≤ BG k i j ∧ BG k i j ≤ 255) := fun i j => HFG.out k i j
                    have HCK : Hid ((c3 cf)[k]? = some (.int .u8 (cf k))) := c3_at cf hk3
                    generalize BG k = F at *
                    have e0 := M7.out.k.cell 0 0 rfl rfl
                    have e1 := M7.out.k.cell 0 1 rfl rfl
                    go_wp2_with fail
                    clear e0 e1
                    go_loopw [19, 17, 18] (fun iv lv hv wr => ∃ (i : Nat) (lo hi : Int), i ≤ y1 - y0 ∧ iv = .int .i64 ((y0 + i : Nat) : Int) ∧ lv = .int .u8 lo ∧ hv = .int .u8 hi ∧ Hid (Cov F (x1 - x0) i 0 lo hi) ∧ Hid (Ms w [(w.heap.size, #[.int .i64 W, .int .i64 H, .slice A n c]), (w3.heap.size, #[.int .i64 pI, .int .i64 qI, .slice A3 BL.length cc3]), (gc, #[.int .u8 (cf 0), .int .u8 (cf 1), .int .u8 (cf 2)])] [⟨w2.heap.size, w3.heap.size, .slice A3 BL.length cc3, BL⟩] wr)) (fun iv _ _ _ => y1 - (RowKit.intOf iv).toNat)
                    case atStart => exact ⟨0, 255, 0, Nat.zero_le _, rfl, rfl, rfl, Cov.zero _ _, M7⟩
                    case round =>
                      clear M7
                      obtain ⟨i, lo0, hi0, hi, rfl, rfl, rfl, HC0, M8⟩ := hrel
                      have e0 := M8.out.k.cell 0 0 rfl rfl
                      have e1 := M8.out.k.cell 0 1 rfl rfl
                      by_cases hli : i < y1 - y0
                      · have gi : ((y0 + i : Nat) : Int) < (y1 : Int) := by omega
                        have HRI : Hid (y0 + i < y1) := by show _ < _; omega
                        have hyi4 : y0 + i ≤ 4096 := by omega
                        generalize hyi : y0 + i = yi at *
                        have HYI2 := Lib.hid hyi
                        clear hyi
                        go_wp2_with fail
                        clear e0 e1
                        go_loopw [20, 17, 18] (fun jv lv hv wr => ∃ (j : Nat) (lo hi : Int), j ≤ x1 - x0 ∧ jv = .int .i64 ((x0 + j : Nat) : Int) ∧ lv = .int .u8 lo ∧ hv = .int .u8 hi ∧ Hid (Cov F (x1 - x0) i j lo hi) ∧ Hid (Ms w [(w.heap.size, #[.int .i64 W, .int .i64 H, .slice A n c]), (w3.heap.size, #[.int .i64 pI, .int .i64 qI, .slice A3 BL.length cc3]), (gc, #[.int .u8 (cf 0), .int .u8 (cf 1), .int .u8 (cf 2)])] [⟨w2.heap.size, w3.heap.size, .slice A3 BL.length cc3, BL⟩] wr)) (fun jv _ _ _ => x1 - (RowKit.intOf jv).toNat)
                        case atStart => exact ⟨0, lo0, hi0, Nat.zero_le _, rfl, rfl, rfl, HC0, M8⟩
                        case round =>
                          clear M8 HC0
                          obtain ⟨j, lo, hi', hj, rfl, rfl, rfl, HC1, M9⟩ := hrel
                          have e0 := M9.out.k.cell 0 0 rfl rfl
                          have e1 := M9.out.k.cell 0 1 rfl rfl
                          have e2 := M9.out.k.cell 0 2 rfl rfl
                          by_cases hlj : j < x1 - x0
                          · have gj : ((x0 + j : Nat) : Int) < (x1 : Int) := by omega
                            have HA := Lib.hid (HAT2.out wr (HR.out.below M9.out.k.be) (x0 + j) yi (by have := HX1.out; omega) (by have := HRI.out; have := HY1.out; omega))
                            have hff := HFK.out i j
                            rw [HYI2.out] at hff
                            have hz := HFH.out i j
                            have HCN := Lib.hid (HC1.out.step hz)
                            have hxj4 : x0 + j ≤ 4096 := by omega
                            generalize hdf : CF (x0 + j) yi = df at *
                            clear hdf
                            generalize hxj : x0 + j = xj at *
                            have HXJ := Lib.hid hxj
                            clear hxj
                            have HDK : Hid ((c3 df)[k]? = some (.int .u8 (F i j))) := by rw [← hff]; exact c3_at df hk3
                            clear hff
                            generalize F i j = z at *
                            simp only [c3] at HA
                            go_wp2_with fail
                            (with_reducible refine HA.out.mono ?_); rintro e w6 ⟨rfl, h6⟩
                            have M10 := Lib.hid ((M9.out.call h6).new #[.int .u8 (df 0), .int .u8 (df 1), .int .u8 (df 2)] 27 w6.heap.size rfl)
                            clear M9 h6 e0 e1 e2 HA
                            have HMN : Hid (∀ (ts : Array TypeId) (T : TypeId) W', (Builtin.min_ ts T #[.int .u8 lo, .int .u8 z]).run Try.prog W' = .ok (.int .u8 (min lo z)) W') := fun ts T W' => run_min8 W' ts T _ _
                            have HMX : Hid (∀ (ts : Array TypeId) (T : TypeId) W', (Builtin.max_ ts T #[.int .u8 hi', .int .u8 z]).run Try.prog W' = .ok (.int .u8 (max hi' z)) W') := fun ts T W' => run_max8 W' ts T _ _
                            generalize min lo z = lo2 at *
                            generalize max hi' z = hi2 at *
                            go_wp2_with fail
                            refine wp_region_seq (fun W' => Ms w [(w.heap.size, #[.int .i64 W, .int .i64 H, .slice A n c]), (w3.heap.size, #[.int .i64 pI, .int .i64 qI, .slice A3 BL.length cc3]), (gc, #[.int .u8 (cf 0), .int .u8 (cf 1), .int .u8 (cf 2)]), (w6.heap.size, #[.int .u8 (df 0), .int .u8 (df 1), .int .u8 (df 2)])] [⟨w2.heap.size, w3.heap.size, .slice A3 BL.length cc3, BL⟩] W') (by kernel_rfl) (by kernel_rfl) (by kernel_rfl) (M10.out.drew) ?_
                            clear M10
                            repeat (
                              first
                                | (refine seq_val (v := .int .u8 lo2) (by rfl) ?_ ?_; focus (intro U hS; have h0 := HMN.out #[5, 5] 5 U; unfold execOp; simp [resolve, invoke, builtin, go_sem, h0]; done))
                                | (refine seq_val (v := .int .u8 hi2) (by rfl) ?_ ?_; focus (intro U hS; have h0 := HMX.out #[5, 5] 5 U; unfold execOp; simp [resolve, invoke, builtin, go_sem, h0]; done))
                                | (apply seq_val (by rfl); focus (intro U hS; have d0 := hS.k.cell 3 k rfl HDK.out; go_simp; (try with_reducible rfl); done))
                              simp only [Act.put, List.setIfInBounds_toArray, List.set_cons_zero, List.set_cons_succ])
                            intro U hS
                            have M11 : Hid (Ms w [(w.heap.size, #[.int .i64 W, .int .i64 H, .slice A n c]), (w3.heap.size, #[.int .i64 pI, .int .i64 qI, .slice A3 BL.length cc3]), (gc, #[.int .u8 (cf 0), .int .u8 (cf 1), .int .u8 (cf 2)])] [⟨w2.heap.size, w3.heap.size, .slice A3 BL.length cc3, BL⟩] U) := hS.sub (fun p hp => by simp only [List.mem_cons, List.not_mem_nil, or_false] at hp ⊢; rcases hp with h | h | h <;> simp [h])
                            clear hS
                            go_wp2_with fail
                            go_roundw
                            case rel => exact ⟨j + 1, lo2, hi2, by omega, by have := HXJ.out; go_num, rfl, rfl, HCN, M11⟩
                            case measure =>
                              have := HXJ.out
                              simp [RowKit.intOf]
                              omega
                          · obtain rfl : j = x1 - x0 := by omega
                            have HXX : Hid (x0 + (x1 - x0) = x1) := by show _ = _; omega
                            have HCR := Lib.hid HC1.out.row
                            rw [HXX.out]
                            go_wp2_with fail
                            go_roundw
                            case rel => exact ⟨i + 1, lo, hi', by omega, by have := HYI2.out; go_num, rfl, rfl, HCR, M9⟩
                            case measure =>
                              have := HYI2.out
                              have := HRI.out
                              simp [RowKit.intOf]
                              omega
                      · obtain rfl : i = y1 - y0 := by omega
                        have HYY : Hid (y0 + (y1 - y0) = y1) := by show _ = _; omega
                        rw [HYY.out]
                        obtain ⟨b1, b2⟩ := HBK.out lo0 hi0 HC0.out
                        have w1' : decide (cf k < lo0) = false := decide_eq_false (by omega)
                        have w2' : decide (cf k > hi0) = false := decide_eq_false (by omega)
                        have d0 := M8.out.k.cell 2 k rfl HCK.out
                        go_wp2_with fail
                        go_roundw
                        case rel => exact ⟨k + 1, by omega, by go_num, M8⟩
                        case measure => simp [RowKit.intOf]; omega
                  · obtain rfl : k = 3 := by omega
                    have M12 : Hid (Ms w [(w.heap.size, #[.int .i64 W, .int .i64 H, .slice A n c]), (w3.heap.size, #[.int .i64 pI, .int .i64 qI, .slice A3 BL.length cc3])] [⟨w2.heap.size, w3.heap.size, .slice A3 BL.length cc3, BL⟩] wr) := M7.out.sub (fun p hp => by simp only [List.mem_cons, List.not_mem_nil, or_false] at hp ⊢; rcases hp with h | h <;> simp [h])
                    clear M7
                    go_wp2_with fail
                    go_roundw
                    case rel => exact ⟨u + 1, by omega, by have := HP4.out; go_num, M12⟩
                    case measure =>
                      have := HP4.out
                      simp [RowKit.intOf]
                      omega
              · obtain rfl : u = p := by omega
                have hux : ¬ (u : Int) < pI := by have := HPI.out; omega
                go_wp2_with fail
                go_roundw
                case rel => exact ⟨v + 1, by omega, by have := HQ4.out; go_num, M5⟩
                case measure =>
                  have := HQ4.out
                  simp [RowKit.intOf]
                  omega
          · obtain rfl : v = q := by omega
            have hvx : ¬ (v : Int) < qI := by have := HQI.out; omega
            go_wp2_with fail
            (with_reducible refine (awake_any _).mono ?_); rintro e w20 ⟨rfl, h20⟩
            have M20 := Lib.hid (M4.out.call h20)
            go_wp2
            go_ret
            exact ⟨rfl, M20.out.k.be⟩
end Go.Proofs.Ytogpnpcdghabmaa
