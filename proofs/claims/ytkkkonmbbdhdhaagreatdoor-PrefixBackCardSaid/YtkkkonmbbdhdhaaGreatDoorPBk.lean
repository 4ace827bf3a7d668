/- The law PrefixBack: it returns true, whatever table and symbols; its walk by the contracts of what it calls. -/
import Derived.Test.YtkkkonmbbdhdhaaGreatDoorPutM
namespace Go.Proofs.YtkkkonmbbdhdhaaGreatDoor
open Go.RowKit Go.Lib
set_option linter.unusedVariables false
set_option pp.maxSteps 200000
set_option pp.deepTerms true
set_option linter.unusedSimpArgs false
set_option maxRecDepth 100000
theorem len_at (base p : Nat) (B : List Int) (g : Option Nat) (n : Int) (w : World) (h : Wtr w base p B g) (hn : (B.length : Int) = n) : Calls Tryz.prog 13 #[.pointer (some ⟨p, 0, none⟩)] w fun e w' => e = .returned (.int .i64 n) ∧ w = w' := by
  subst hn; exact len_any base p B g w h
theorem read_back {B : List Int} (hb : Bit B) : ustF false ((stf (pack (pad B))).take (dat (stf (pack (pad B))))) = pack (pad B) ∧ bitsOf (pack (pad B)) = pad B := by
  refine ⟨?_, bitsOf_pack (pad_bit hb) (pad_8 B)⟩
  rw [stf_head, List.take_length, ust_stf]
theorem fill_pad {B : List Int} (hb : Bit B) : fillB ((pad B).drop B.length) = true := by
  unfold pad fillB
  rw [List.drop_left]
  have : padN B.length < 8 := by unfold padN; omega
  simp [this]
theorem wr_pow {N : Nat} (h : N ≤ 16) : wrap64 ((2 : Int) ^ N) = 2 ^ N ∧ wrap64 ((2 : Int) ^ N - 1) = 2 ^ N - 1 := by
  have h1 := p65 h
  have h0 := pow2_pos N
  generalize (2 : Int) ^ N = P at *
  exact ⟨IntWalk.wrap64_in _ ⟨by omega, by omega⟩, IntWalk.wrap64_in _ ⟨by omega, by omega⟩⟩
theorem top_no {V : Int} {N : Nat} (h : V + 1 < 2 ^ N) : decide ((2 : Int) ^ N - 1 ≤ V) = false := by
  generalize (2 : Int) ^ N = P at *
  rw [decide_eq_false_iff_not]; omega
theorem shr_no {V V2 : Int} {d : Nat} (h : (V + 1) * 2 ^ d ≤ V2) : (V2 / 2 ^ d == V) = false := by
  rw [beq_eq_false_iff_ne]
  have h7 : V + 1 ≤ V2 / 2 ^ d := Int.le_ediv_of_mul_le (pow2_pos _) h
  generalize V2 / 2 ^ d = P at *
  omega
/-- What stands behind the first j symbols' codes. -/
theorem codes_at (e : Int → List Int) (m B : List Int) (hB : B = m.flatMap e) (hb : Bit B) {j : Nat} (hj : j < m.length) :
    ∃ r, Bit r ∧ (pad B).drop ((m.take j).flatMap e).length = e (m.getD j 0) ++ r ∧ ((m.take (j + 1)).flatMap e).length = ((m.take j).flatMap e).length + (e (m.getD j 0)).length ∧ ((m.take (j + 1)).flatMap e).length ≤ B.length := by
  have h1 : B = (m.take j).flatMap e ++ (e (m.getD j 0) ++ (m.drop (j + 1)).flatMap e) := by
    rw [hB]
    conv => lhs; rw [← List.take_append_drop j m, List.drop_eq_getElem_cons hj, List.flatMap_append, List.flatMap_cons]
    rw [List.getD_eq_getElem?_getD, List.getElem?_eq_getElem hj]
    rfl
  have h2 : m.take (j + 1) = m.take j ++ [m.getD j 0] := take_snoc m j hj 0
  refine ⟨(m.drop (j + 1)).flatMap e ++ List.replicate (padN B.length) 1, ?_, ?_, ?_, ?_⟩
  · have h3 := pad_bit hb
    unfold pad at h3
    have h4 := hb
    rw [h1] at h4
    exact (h4.of.2.of.2).append h3.of.2
  · unfold pad
    conv => lhs; rw [h1]
    rw [List.append_assoc, List.drop_left]
    try rw [List.append_assoc, ← h1]
  · rw [h2, List.flatMap_append]; simp
  · rw [h2, List.flatMap_append]
    conv => rhs; rw [h1]
    simp
    try omega
/-- What is known in the law's great condition: the Writer, the ints, the code in block a. -/
structure BkS (B1 : World) (p a : Nat) (B : List Int) (v : Value) (m : List Int) (V : Int) (N : Nat) (W : World) : Prop where
  pw : ∃ g, PW W p p B v m g ∧ g ≠ some a
  ab : Blk W a #[.int .i64 V, .int .i64 (N : Int)]
  u : Below B1.heap.size B1 W
  z : p ≤ W.heap.size
  ne : a ≠ p
theorem BkS.drew {B1 W : World} {p a : Nat} {B m : List Int} {v : Value} {V : Int} {N : Nat} (h : BkS B1 p a B v m V N W) : BkS B1 p a B v m V N W.drew := by
  obtain ⟨g, hP, hga⟩ := h.pw
  exact ⟨⟨g, hP.on (Below.refl _ _).drew, hga⟩, h.ab.drew, h.u.drew, h.z, h.ne⟩
theorem BkS.call {w1 W : World} {p a : Nat} {B B' m : List Int} {v r : Value} {V : Int} {N : Nat} {f : FuncId} {args : Array Value} (h : BkS w1 p a B v m V N W) (hp : p = w1.heap.size)
    (hC : ∀ g, PW W p p B v m g → Calls Tryz.prog f args W fun e w' => e = .returned r ∧ ∃ g', PW w' p p B' v m g' ∧ (g' = g ∨ ∃ k, g' = some k ∧ W.heap.size ≤ k) ∧ Chg (fun i => i = p ∨ g = some i) W w') :
    Calls Tryz.prog f args W fun e w' => e = .returned r ∧ BkS w1 p a B' v m V N w' := by
  obtain ⟨g, hP, hga⟩ := h.pw
  refine (hC g hP).mono ?_
  rintro e w' ⟨rfl, g', h1, h2, h3⟩
  have hz := h.ab.lt
  have hu := hP.under h3 h.z
  refine ⟨rfl, ⟨g', h1, ?_⟩, h.ab.chg h3 ?_, h.u.trans (hp ▸ hu), Nat.le_trans h.z h3.size, h.ne⟩
  · rcases h2 with rfl | ⟨k, rfl, hk⟩
    · exact hga
    · intro e; injection e with e; omega
  · rintro (e | e)
    · exact h.ne e
    · exact hga e
set_option maxHeartbeats 8000000 in
theorem pbk_yes (cs l l2 : List Int) (A A2 : Option Addr) (c c2 : Nat) (w : World) (hcs : cs.length = 16) (hr : Ri w A l) (hw : Env w) (hr2 : Ri w A2 l2) (hrng : ∀ i, -9223372036854775808 ≤ l2.getD i 0 ∧ l2.getD i 0 ≤ 9223372036854775807)
    (hl : l.length ≤ 256) (hn : l2.length ≤ 200) (hmb : mayB cs l = true) :
    Calls Tryz.prog 4 #[.agg (hx cs (.slice A l.length c)), .slice A2 l2.length c2] w fun e w' => e = .returned (.bool true) ∧ Below w.heap.size w w' := by
  have HX := Lib.hid (hx_hv hcs (.slice A l.length c))
  have hX17 := hx17 hcs (.slice A l.length c)
  generalize hx cs (.slice A l.length c) = X at *
  have HMB := Lib.hid hmb
  have HM := Lib.hid (mayB_iff.1 hmb)
  have HW := Lib.hid ((Below.refl w.heap.size w).alloc (Nat.le_refl _) (.cells X 25))
  have HBL := Lib.hid (Blk.new w X 25)
  have HX17 := Lib.hid hX17
  have HRG := Lib.hid hrng
  have HSZ : Hid ((Tryz.prog.info? 25).map (·.size) = some X.size) := by show _ = _; rw [hX17]; kernel_rfl
  have HR := Lib.hid (hr.below HW.out)
  have HR2 := Lib.hid (hr2.below HW.out)
  have HE := Lib.hid (hw.below HW.out)
  have e16 := HX.out.syms
  have d1 : decide ((256 : Int) < (l.length : Int)) = false := by rw [decide_eq_false_iff_not]; omega
  have d2 : decide ((200 : Int) < (l2.length : Int)) = false := by rw [decide_eq_false_iff_not]; omega
  clear hr hr2 hw hX17 hmb hcs hrng
  go_enter Tryz.func4, Tryz.ntmps4
  go_wp2_with (with_reducible refine wpList_loadB _ rfl 25 (.tmp 2) rfl _ Tryz.underlying25 rfl w.heap.size rfl X HBL.out HSZ.out ?_)
  (with_reducible refine (fNew_yes X cs l A c _ HX.out HR.out (by omega) HMB.out HX17.out).mono ?_); rintro e w1 ⟨b, rfl, hb1, ht1, h1⟩
  have HT := Lib.hid ht1
  have HB1 := Lib.hid (HBL.out.below h1)
  have HRi := Lib.hid (HR.out.below h1)
  have HR21 := Lib.hid (HR2.out.below h1)
  have HE1 := Lib.hid (HE.out.below h1)
  have HW1 := Lib.hid (below_le HW.out h1 HW.out.size)
  clear ht1 h1 HR HR2 HE HW hb1
  go_wp2_with fail
  obtain ⟨p, hp⟩ : ∃ p, p = w1.heap.size := ⟨_, rfl⟩
  have HP0 : Hid (PW (w1.alloc (.cells #[.slice none 0 0, .int .u32 0, .int .i64 0] 43)) p p [] (.slice none 0 0) [] none) := by rw [hp]; exact PW.start w1 _
  have HU0 := Lib.hid ((Below.refl w1.heap.size w1).alloc (Nat.le_refl _) (.cells #[.slice none 0 0, .int .u32 0, .int .i64 0] 43))
  rw [← hp]
  have HPP := Lib.hid hp
  clear hp
  generalize w1.alloc (.cells #[.slice none 0 0, .int .u32 0, .int .i64 0] 43) = w0 at *
  go_loopw [8, 9] (fun v i wr => ∃ (k : Nat) (m : List Int) (B : List Int) (g : Option Nat), k ≤ l2.length ∧ i = .int .i64 k ∧ m.length ≤ k ∧ Hid (B = m.flatMap (encS cs l)) ∧ Hid (∀ x ∈ m, 0 < (codeAt cs l x).2) ∧ Hid (PW wr p p B v m g) ∧ Hid (Below w1.heap.size w1 wr)) (fun _ i _ => l2.length - (RowKit.intOf i).toNat)
  case atStart => exact ⟨0, [], [], none, Nat.zero_le _, rfl, Nat.le_refl _, (show Hid _ from rfl), (show Hid _ from fun x hx => by cases hx), HP0, HU0⟩
  case round =>
    obtain ⟨k, m, B, g, hk, rfl, hmk, HB, HPos, HPW, HU⟩ := hrel
    clear HP0 HU0
    have hBl : B.length ≤ 16 * 200 := by rw [HB.out]; have := encs_len cs l m; omega
    by_cases hlt : k < l2.length
    · obtain ⟨b2, o2, hA2, hc2⟩ := (HR21.out.below HU.out).get hlt
      subst hA2
      obtain ⟨x, hx⟩ : ∃ x, l2.getD k 0 = x := ⟨_, rfl⟩
      have hxr := HRG.out k
      rw [hx] at hc2 hxr
      have HR2x := Lib.hid (fun W (hW : Below w1.heap.size w1 W) => by
        obtain ⟨b3, o3, e3, h3⟩ := (HR21.out.below hW).get hlt
        cases e3
        rw [hx] at h3
        exact h3 : ∀ W, Below w1.heap.size w1 W → W.cell? ⟨b2, o2 + k, none⟩ = some (.int .i64 x))
      have hC := fCode_any b cs l x wr (HT.out.below HU.out) hxr.1 hxr.2
      have HTP := Lib.hid (fun W g hT hP hb => tput_any b p p cs l B m g x u8 W hT hP (by omega) hb hxr.1 hxr.2)
      obtain ⟨⟨V, N⟩, hVN⟩ : ∃ q, codeAt cs l x = q := ⟨_, rfl⟩
      have hle := codeAt_le (cs := cs) (l := l) x
      have hEl := encS_len cs l x
      rw [hVN] at hC HTP hle hEl
      simp only at hC HTP hle hEl
      have HVN := Lib.hid hVN
      clear hVN hx
      have hz := HU.out.size
      rcases Nat.eq_zero_or_pos N with h0 | h0
      · subst h0
        have dn : decide (0 < 0) = false := rfl
        have hwr : IntKind.i64.wrap (B.length : Int) = (B.length : Int) := IntWalk.i64_in _ (by omega)
        rw [dn] at hC HTP
        go_wp2_with fail
        (with_reducible refine hC.mono ?_); rintro e wa ⟨rfl, ha⟩
        have HPa := Lib.hid (HPW.out.on ha)
        have HUa := Lib.hid (HU.out.trans (ha.mono HU.out.size))
        clear ha hC HPW HU hc2
        go_wp2_with fail
        (with_reducible refine (len_at p p B g (B.length : Int) _ (HPa.out.on ((Below.refl _ _).alloc (Nat.le_refl _) _)).wt rfl).mono ?_); rintro e wb ⟨rfl, rfl⟩
        obtain ⟨a, ha⟩ : ∃ a, a = wa.heap.size := ⟨_, rfl⟩
        have hpa := HPa.out.wt.lt
        have hS0 : BkS w1 p a B u8 m V 0 (wa.alloc (.cells #[.int .i64 V, .int .i64 ((0 : Nat) : Int)] 47)) :=
          ⟨⟨g, HPa.out.on ((Below.refl _ _).alloc (Nat.le_refl _) _), fun e => by have := (HPa.out.wt.gt a e).2; omega⟩, by rw [ha]; exact Blk.new _ _ _, HUa.out.alloc HUa.out.size _, by simp; omega, by omega⟩
        rw [← ha]
        have HS0 := Lib.hid hS0
        clear hS0 ha hpa HPa HUa
        generalize wa.alloc (.cells #[.int .i64 V, .int .i64 ((0 : Nat) : Int)] 47) = wc at *
        have hLd : Hid (∀ W bb, ((bb = false ∧ W = wc.drew) ∨ BkS w1 p a (B ++ encS cs l x) u8 m V 0 W) → W.cell? ⟨b2, o2 + k, none⟩ = some (.int .i64 x)) := fun W bb hS => by
          rcases hS with ⟨_, rfl⟩ | hS
          · exact HR2x.out _ HS0.out.u.drew
          · exact HR2x.out _ hS.u
        have hNc : Hid (∀ W, ((true = false ∧ W = wc.drew) ∨ BkS w1 p a (B ++ encS cs l x) u8 m V 0 W) → W.cell? ⟨a, 1, none⟩ = some (.int .i64 ((0 : Nat) : Int))) := fun W hS => by
          rcases hS with ⟨h, _⟩ | hS
          · cases h
          · exact hS.ab.cell rfl
        go_upto_region 13 with fail
        refine wp_region_seqT 5 [0, 1, 2, 3, 4, 6, 5, 7, 8, 9, 10, 11, 12, 13, 14, 15, 16, 17, 18, 19, 20, 21, 22] (fun W => W = wc.drew) (BkS w1 p a (B ++ encS cs l x) u8 m V 0) (by kernel_rfl) (by kernel_rfl) rfl (by kernel_rfl) rfl ?_
        repeat (
          first
            | (refine seqT_p 12 _ _ [.pointer (some ⟨b, 0, none⟩), .pointer (some ⟨p, 0, none⟩), .int .i64 x] (by rfl) (by rfl) rfl (enters_of Tryz.func12 (by kernel_rfl) rfl) rfl (fun W hS => by subst hS; exact HS0.out.drew.call HPP.out fun g' hP' => HTP.out _ g' (HT.out.below HS0.out.u.drew) hP' HS0.out.z) ?_)
            | (refine seqT_callF 13 _ _ [.pointer (some ⟨p, 0, none⟩)] (by rfl) (by rfl) (by rfl) rfl (enters_of Tryz.func13 (by kernel_rfl) rfl) rfl (v := .int .i64 ((B.length : Int) + ((0 : Nat) : Int))) (fun W hS => by obtain ⟨g', hP', _⟩ := hS.pw; exact (len_at p p _ g' _ W hP'.wt (by rw [List.length_append, hEl]; omega)).mono fun e w' h => ⟨h.1, h.2 ▸ hS⟩) ?_)
            | (refine seqT_off (by rfl) (by rfl) (by rfl) ?_)
            | (refine seqT_val (v := .bool false) (by rfl) (by rfl) (by rfl) ?_ ?_
               focus (intro W hS; clear hS; go_simp; done))
            | (apply seqT_val (by rfl) (by rfl) (by rfl)
               focus (intro W hS; have e1 := hLd.out _ _ hS; (try have e2 := hNc.out _ hS); clear hS; go_simp; try with_reducible rfl))
          simp only [Act.put, List.setIfInBounds_toArray, List.set_cons_zero, List.set_cons_succ])
        refine seqT_nil fun W hS => ?_
        have HS := Lib.hid hS
        clear hS hLd hNc HS0
        obtain ⟨g', hP', _⟩ := HS.out.pw
        have HP' := Lib.hid hP'
        have he0 : encS cs l x = [] := List.eq_nil_of_length_eq_zero hEl
        rw [he0, List.append_nil] at HP'
        clear hP'
        go_wp2
        go_roundw
        case rel => exact ⟨k + 1, m, B, g', by omega, by go_num, by omega, HB, HPos, HP', (show Hid _ from HS.out.u)⟩
        case measure => simp [RowKit.intOf]; omega
      · have dn : decide (0 < N) = true := decide_eq_true h0
        have dz : decide ((0 : Int) < (N : Int)) = true := decide_eq_true (by omega)
        have hwr : IntKind.i64.wrap ((B.length : Int) + (N : Int)) = (B.length : Int) + (N : Int) := IntWalk.i64_in _ (by omega)
        rw [dn] at hC HTP
        go_wp2_with fail
        (with_reducible refine hC.mono ?_); rintro e wa ⟨rfl, ha⟩
        have HPa := Lib.hid (HPW.out.on ha)
        have HUa := Lib.hid (HU.out.trans (ha.mono HU.out.size))
        clear ha hC HPW HU hc2
        go_wp2_with fail
        (with_reducible refine (len_at p p B g (B.length : Int) _ (HPa.out.on ((Below.refl _ _).alloc (Nat.le_refl _) _)).wt rfl).mono ?_); rintro e wb ⟨rfl, rfl⟩
        obtain ⟨a, ha⟩ : ∃ a, a = wa.heap.size := ⟨_, rfl⟩
        have hpa := HPa.out.wt.lt
        have hS0 : BkS w1 p a B u8 m V N (wa.alloc (.cells #[.int .i64 V, .int .i64 (N : Int)] 47)) :=
          ⟨⟨g, HPa.out.on ((Below.refl _ _).alloc (Nat.le_refl _) _), fun e => by have := (HPa.out.wt.gt a e).2; omega⟩, by rw [ha]; exact Blk.new _ _ _, HUa.out.alloc HUa.out.size _, by simp; omega, by omega⟩
        rw [← ha]
        have HS0 := Lib.hid hS0
        clear hS0 ha hpa HPa HUa
        generalize wa.alloc (.cells #[.int .i64 V, .int .i64 (N : Int)] 47) = wc at *
        have hLd : Hid (∀ W bb, ((bb = false ∧ W = wc.drew) ∨ BkS w1 p a (B ++ encS cs l x) u8 m V N W) → W.cell? ⟨b2, o2 + k, none⟩ = some (.int .i64 x)) := fun W bb hS => by
          rcases hS with ⟨_, rfl⟩ | hS
          · exact HR2x.out _ HS0.out.u.drew
          · exact HR2x.out _ hS.u
        have hNc : Hid (∀ W, ((true = false ∧ W = wc.drew) ∨ BkS w1 p a (B ++ encS cs l x) u8 m V N W) → W.cell? ⟨a, 1, none⟩ = some (.int .i64 (N : Int))) := fun W hS => by
          rcases hS with ⟨h, _⟩ | hS
          · cases h
          · exact hS.ab.cell rfl
        go_upto_region 13 with fail
        refine wp_region_seqT 5 [0, 1, 2, 3, 4, 6, 5, 7, 8, 9, 10, 11, 12, 13, 14, 15, 16, 17, 18, 19, 20, 21, 22] (fun W => W = wc.drew) (BkS w1 p a (B ++ encS cs l x) u8 m V N) (by kernel_rfl) (by kernel_rfl) rfl (by kernel_rfl) rfl ?_
        repeat (
          first
            | (refine seqT_p 12 _ _ [.pointer (some ⟨b, 0, none⟩), .pointer (some ⟨p, 0, none⟩), .int .i64 x] (by rfl) (by rfl) rfl (enters_of Tryz.func12 (by kernel_rfl) rfl) rfl (fun W hS => by subst hS; exact HS0.out.drew.call HPP.out fun g' hP' => HTP.out _ g' (HT.out.below HS0.out.u.drew) hP' HS0.out.z) ?_)
            | (refine seqT_callF 13 _ _ [.pointer (some ⟨p, 0, none⟩)] (by rfl) (by rfl) (by rfl) rfl (enters_of Tryz.func13 (by kernel_rfl) rfl) rfl (v := .int .i64 ((B.length : Int) + (N : Int))) (fun W hS => by obtain ⟨g', hP', _⟩ := hS.pw; exact (len_at p p _ g' _ W hP'.wt (by rw [List.length_append, hEl]; omega)).mono fun e w' h => ⟨h.1, h.2 ▸ hS⟩) ?_)
            | (refine seqT_off (by rfl) (by rfl) (by rfl) ?_)
            | (refine seqT_val (v := .bool false) (by rfl) (by rfl) (by rfl) ?_ ?_
               focus (intro W hS; clear hS; go_simp; done))
            | (apply seqT_val (by rfl) (by rfl) (by rfl)
               focus (intro W hS; have e1 := hLd.out _ _ hS; (try have e2 := hNc.out _ hS); clear hS; go_simp; try with_reducible rfl))
          simp only [Act.put, List.setIfInBounds_toArray, List.set_cons_zero, List.set_cons_succ])
        refine seqT_nil fun W hS => ?_
        have HS := Lib.hid hS
        clear hS hLd hNc HS0
        obtain ⟨g', hP', _⟩ := HS.out.pw
        have HP' := Lib.hid hP'
        have HU' := Lib.hid HS.out.u
        have hz' := HS.out.z
        have e1 := HR2x.out _ HS.out.u
        have hoA := Lib.hid (HP'.out.on ((Below.refl _ _).alloc (Nat.le_refl _) (.cells #[.int .i64 x] 3)))
        have r1 := Lib.hid (Ri.one W 3 x)
        clear hP'
        go_wp2_with (
          ((with_reducible refine wpList_appI _ rfl (.tmp 89) (.tmp 94) rfl p u8 m rfl hoA.out.o (some ⟨W.heap.size, 0, none⟩) 1 1 [x] rfl rfl r1.out (by simp; omega) (by simp; omega) ?_)
           intro v1 w2 ho1 hg1 hv1
           have HP2 := Lib.hid (hoA.out.app ho1 hg1 hv1)
           have HU2 : Hid (Below w1.heap.size w1 w2) := by
             have h5 : Below p (W.alloc (.cells #[.int .i64 x] 3)) w2 := (Below.refl _ _).grown hg1 (by simp; omega) (fun k hk => (hoA.out.o.at k hk).1)
             rw [HPP.out] at h5
             exact (HU'.out.alloc HU'.out.size _).trans h5
           clear ho1 hg1 hv1 hoA))
        go_roundw
        case rel =>
          refine ⟨k + 1, m ++ [x], B ++ encS cs l x, g', by omega, by go_num, by simp; omega, (show Hid _ from ?_), (show Hid _ from ?_), HP2, HU2⟩
          · show _ = _
            rw [HB.out, List.flatMap_append]
            simp
          · intro y hy
            rcases List.mem_append.1 hy with hy | hy
            · exact HPos.out y hy
            · rw [List.mem_singleton.1 hy, HVN.out]
              exact h0
        case measure => simp [RowKit.intOf]; omega
    · obtain rfl : k = l2.length := by omega
      have hbit := HPW.out.wt.bit
      have hst := stf_len (pack (pad B))
      have hpl : (pack (pad B)).length = (pad B).length / 8 := pack_len _
      have hpd := pad_8 B
      obtain ⟨Am, cm, hu8, _, _, hrm, hbm, _⟩ := HPW.out.o.open
      subst hu8
      go_wp2_with fail
      (with_reducible refine (done_any p p B g _ (HE1.out.below HU.out) HPW.out.wt (by omega)).mono ?_); rintro e w2 ⟨vd, rfl, hod, h2⟩
      have HU2 := Lib.hid (HU.out.trans (h2.mono HU.out.size))
      have HRm := Lib.hid (hrm.below h2)
      obtain ⟨Ad, cd, rfl, hcd, _, hrd, hbd, hAd⟩ := hod.open'
      clear hod h2 hrm hbm HPW HU hbd
      go_wp2_with fail
      (with_reducible refine (newA_any (stf (pack (pad B))) Ad cd _ (HE1.out.below HU2.out) hrd hcd hAd (by omega)).mono ?_); rintro e w3 ⟨q, A3, c3, rfl, hrd3, hq, hA3, h3⟩
      rw [(read_back hbit).1] at hrd3
      have hbits := (read_back hbit).2
      have hfill := fill_pad hbit
      rw [← hbits] at hfill hpd
      obtain ⟨D, hD⟩ : ∃ D, D = pack (pad B) := ⟨_, rfl⟩
      rw [← hD] at hrd3 hbits hfill hpd
      rw [bitsOf_len] at hpd
      have HD3 := Lib.hid hrd3
      have HU3 := Lib.hid h3
      have HBits := Lib.hid hbits
      have HFill := Lib.hid hfill
      have hBD : B.length ≤ 8 * D.length := by have := pad_len B; rw [← hbits, bitsOf_len] at this; omega
      have hDl : D.length ≤ 1000 := by omega
      have HBit := Lib.hid hbit
      clear hrd3 h3 hbits hfill hD hst hpl hpd hA3 hrd hcd hAd hbit
      go_wp2_with fail
      go_loopw [14] (fun i wr => ∃ (j K : Nat), j ≤ m.length ∧ i = .int .i64 j ∧ Hid (K = ((m.take j).flatMap (encS cs l)).length) ∧ Hid (RdrA wr q A3 c3 D K) ∧ Hid (Below w2.heap.size w2 wr)) (fun i _ => m.length - (RowKit.intOf i).toNat)
      case atStart => exact ⟨0, 0, Nat.zero_le _, rfl, (show Hid _ from by show _ = _; simp), HD3, HU3⟩
      case round =>
        obtain ⟨j, K, hj, rfl, HK, HRd, HUr⟩ := hrel
        clear HD3 HU3
        have HUq := Lib.hid (HU2.out.trans (HUr.out.mono HU2.out.size))
        by_cases hlj : j < m.length
        · obtain ⟨r, hr, hdr, hlen1, hlen2⟩ := codes_at (encS cs l) m B HB.out HBit.out hlj
          rw [← HK.out] at hdr hlen1
          rw [← HBits.out] at hdr
          obtain ⟨b3, o3, hAm, hcm0⟩ := HRm.out.get hlj
          have hb3 := World.block_lt_of_cell? w2 _ hcm0
          have hcm := cell_later HUr.out hcm0
          subst hAm
          clear hcm0
          have hxm : m.getD j 0 ∈ m := by rw [List.getD_eq_getElem?_getD, List.getElem?_eq_getElem hlj]; exact List.getElem_mem hlj
          generalize m.getD j 0 = x at *
          have hpos := HPos.out x hxm
          have hlx := encS_len cs l x
          have hT := fTake_any b q A3 c3 cs l D K wr (HT.out.below HUq.out) HRd.out (by omega) (by omega)
          rw [hdr, enc_next HM.out hpos hr] at hT
          simp only at hT
          rw [decide_eq_true hpos, ← hlx, ← hlen1] at hT
          obtain ⟨K2, hK2⟩ : ∃ K2, K2 = ((m.take (j + 1)).flatMap (encS cs l)).length := ⟨_, rfl⟩
          rw [← hK2] at hT
          have HK2 := Lib.hid hK2
          clear hK2 hdr hlen1 hlen2 hpos hlx hr hxm
          go_wp2_with fail
          (with_reducible refine hT.mono ?_); rintro e w4 ⟨rfl, hr4, hc4⟩
          have hu4 : Below w2.heap.size w2 w4 := HUr.out.trans (hc4.below (B := w2.heap.size) HUr.out.size (fun i e => by omega))
          have HU4 := Lib.hid hu4
          have HR4 := Lib.hid hr4
          have e4 : w4.cell? ⟨b3, o3 + j, none⟩ = some (.int .i64 x) := hc4.cellv hcm (by simp only at hb3 ⊢; omega)
          clear hr4 hc4 hu4 hT
          go_wp2
          go_roundw
          case rel => exact ⟨j + 1, K2, by omega, by go_num, HK2, HR4, HU4⟩
          case measure => simp [RowKit.intOf]; omega
        · obtain rfl : j = m.length := by omega
          have hKB : K = B.length := by rw [HK.out, List.take_length, HB.out]
          subst hKB
          have HRW := Lib.hid (HRd.out.rdr)
          have hBB : B.length = B.length := rfl
          obtain ⟨nB, hnB⟩ : ∃ nB, nB = B.length := ⟨_, rfl⟩
          rw [← hnB] at HRW HFill
          have hnB2 : nB ≤ 8 * D.length := by omega
          have hlen : (cds (lensOf cs 16)).length = l.length := cds_many HM.out
          obtain ⟨L, hL⟩ : ∃ L, L = cds (lensOf cs 16) := ⟨_, rfl⟩
          rw [← hL] at hlen
          have HL := Lib.hid hL
          have HLn := Lib.hid hlen
          have HBx := Lib.hid (HB1.out.below HUq.out)
          have hCo := fCod_any X cs l A c wr HX.out (HRi.out.below HUq.out) (by omega) HMB.out HX17.out
          rw [← hL] at hCo
          clear hL hlen HK HRd HB HPos HBits HBit hBD hBB HRm HUr hnB hBl
          go_wp2_with (with_reducible refine wpList_loadB _ rfl 25 (.tmp 2) rfl _ Tryz.underlying25 rfl w.heap.size rfl X HBx.out HSZ.out ?_)
          (with_reducible refine hCo.mono ?_); rintro e w4 ⟨v4, rfl, ho4, h4⟩
          obtain ⟨Ac, cc, rfl, hrd4⟩ := ho4.open
          rw [HLn.out]
          have HRD := Lib.hid hrd4
          have HU4 := Lib.hid (HUq.out.trans (h4.mono HUq.out.size))
          have HR4 := Lib.hid (HRW.out.below h4)
          clear ho4 hrd4 h4 hCo HRW HBx HUq
          go_wp2_with fail
          go_loopw [18] (fun i wr => ∃ (k : Nat), k ≤ l.length ∧ i = .int .i64 k ∧ Hid (Below w4.heap.size w4 wr)) (fun i _ => l.length - (RowKit.intOf i).toNat)
          case atStart => exact ⟨0, Nat.zero_le _, rfl, (show Hid _ from Below.refl _ _)⟩
          case round =>
            obtain ⟨k, hk, rfl, HB4⟩ := hrel
            by_cases hlt : k < l.length
            · obtain ⟨⟨V, N⟩, hpr⟩ : ∃ p, L[k]? = some p := ⟨_, List.getElem?_eq_getElem (by have := HLn.out; omega)⟩
              obtain ⟨gc, hAc, _, _, e1, e2⟩ := HRD.out k _ hpr
              subst hAc
              simp only at e1 e2
              have hpg : L.getD k (0, 0) = (V, N) := by rw [List.getD_eq_getElem?_getD, hpr]; rfl
              have he := cd_each HM.out hlt
              rw [← HL.out, hpg] at he
              simp only at he
              obtain ⟨hN1, hN16, hV0, hV1⟩ := he
              have HPG := Lib.hid hpg
              have HPR := Lib.hid hpr
              have f1 := cell_later HB4.out e1
              have f2 := cell_later HB4.out e2
              have t1 : decide ((N : Int) < 1) = false := by rw [decide_eq_false_iff_not]; omega
              have t2 : decide ((16 : Int) < (N : Int)) = false := by rw [decide_eq_false_iff_not]; omega
              have t3 : decide (V < 0) = false := by rw [decide_eq_false_iff_not]; omega
              obtain ⟨hw1, hw2⟩ := wr_pow hN16
              have t4 := top_no hV1
              clear hpr hpg e1 e2 hV1
              have HBa := Lib.hid (Blk.new wr #[.int .i64 V, .int .i64 (N : Int)] 47)
              have HUa := Lib.hid (HB4.out.alloc HB4.out.size (.cells #[.int .i64 V, .int .i64 (N : Int)] 47))
              obtain ⟨wx, hwx⟩ : ∃ wx, wx = wr.alloc (.cells #[.int .i64 V, .int .i64 (N : Int)] 47) := ⟨_, rfl⟩
              obtain ⟨a, ha⟩ : ∃ a, a = wr.heap.size := ⟨_, rfl⟩
              rw [← hwx, ← ha] at HBa
              rw [← hwx] at HUa
              have g0 := HBa.out.cell (j := 0) (v := .int .i64 V) rfl
              have g1 := HBa.out.cell (j := 1) (v := .int .i64 (N : Int)) rfl
              go_upto_region 29 with fail
              rw [← hwx, ← ha]
              clear hwx ha
              go_quiet (fail)
              go_wp2
              clear hw1 hw2 t1 t2 t3 t4 f1 f2 g0 g1
              go_loopw [20] (fun i wr => ∃ (k2 : Nat), k < k2 ∧ k2 ≤ l.length ∧ i = .int .i64 k2 ∧ Hid (Below wx.heap.size wx wr)) (fun i _ => l.length - (RowKit.intOf i).toNat)
              case atStart => exact ⟨k + 1, by omega, by omega, by go_num, (show Hid _ from dN (Below.refl _ _) _)⟩
              case round =>
                obtain ⟨k2, hk2, hk3, rfl, HB5⟩ := hrel
                by_cases hlt2 : k2 < l.length
                · obtain ⟨⟨V2, N2⟩, hpr⟩ : ∃ p, L[k2]? = some p := ⟨_, List.getElem?_eq_getElem (by have := HLn.out; omega)⟩
                  obtain ⟨g3, hAc, _, _, e1, e2⟩ := HRD.out k2 _ hpr
                  cases hAc
                  simp only at e1 e2
                  have hpg : L.getD k2 (0, 0) = (V2, N2) := by rw [List.getD_eq_getElem?_getD, hpr]; rfl
                  have he := cd_two HM.out hk2 hlt2
                  rw [← HL.out, hpg, HPG.out] at he
                  simp only at he
                  have he2 := (cd_each HM.out hlt2).2.1
                  rw [← HL.out, hpg] at he2
                  simp only at he2
                  obtain ⟨hN2, hV2⟩ := he
                  obtain ⟨dd, hdd⟩ : ∃ dd, N2 = N + dd := ⟨N2 - N, by omega⟩
                  subst hdd
                  rw [Nat.add_sub_cancel_left] at hV2
                  have f1 := cell_later HB5.out (cell_later HUa.out e1)
                  have f2 := cell_later HB5.out (cell_later HUa.out e2)
                  have t1 : decide ((N : Int) + (dd : Int) < (N : Int)) = false := by rw [decide_eq_false_iff_not]; omega
                  have HBy := Lib.hid (Blk.new wr #[.int .i64 V2, .int .i64 ((N : Int) + (dd : Int))] 47)
                  have HUy := Lib.hid (HB5.out.alloc HB5.out.size (.cells #[.int .i64 V2, .int .i64 ((N : Int) + (dd : Int))] 47))
                  obtain ⟨wy, hwy⟩ : ∃ wy, wy = wr.alloc (.cells #[.int .i64 V2, .int .i64 ((N : Int) + (dd : Int))] 47) := ⟨_, rfl⟩
                  obtain ⟨a2, ha2⟩ : ∃ a2, a2 = wr.heap.size := ⟨_, rfl⟩
                  rw [← hwy, ← ha2] at HBy
                  rw [← hwy] at HUy
                  have k0 := HBy.out.cell (j := 0) (v := .int .i64 V2) rfl
                  have k1 := HBy.out.cell (j := 1) (v := .int .i64 ((N : Int) + (dd : Int))) rfl
                  have k2' := cell_later HUy.out (HBa.out.cell (j := 0) (v := .int .i64 V) rfl)
                  have k3 := cell_later HUy.out (HBa.out.cell (j := 1) (v := .int .i64 (N : Int)) rfl)
                  have t2 := shr_no hV2
                  clear hpr hpg e1 e2 hV2
                  go_upto_region 35 with fail
                  rw [← hwy, ← ha2]
                  clear hwy ha2 f1 f2
                  go_quiet (fail)
                  go_wp2
                  go_roundw
                  case rel => exact ⟨k2 + 1, by omega, by omega, by go_num, (show Hid _ from dN HUy.out _)⟩
                  case measure => simp [RowKit.intOf]; omega
                · obtain rfl : k2 = l.length := by omega
                  go_wp2
                  go_roundw
                  case rel => exact ⟨k + 1, by omega, by go_num, (show Hid _ from HUa.out.trans (HB5.out.mono HUa.out.size))⟩
                  case measure => simp [RowKit.intOf]; omega
            · obtain rfl : k = l.length := by omega
              have HU5 := Lib.hid (HU4.out.trans (HB4.out.mono HU4.out.size))
              have HR5 := Lib.hid (HR4.out.below HB4.out)
              clear HR4 HU4
              go_wp2_with fail
              (with_reducible refine (filled_at q D nB true _ HR5.out (by omega) hnB2 HFill).mono ?_); rintro e w6 ⟨rfl, hr6, h6⟩
              have HU6 := Lib.hid (HU5.out.trans (h6.mono HU5.out.size))
              clear hr6 h6
              go_wp2_with fail
              (with_reducible refine (tput_now b cs l 0 _ (HT.out.below HU6.out) (by decide) (by decide)).mono ?_); rintro e w7 ⟨rfl, h7⟩
              have HU7 := Lib.hid (HU6.out.trans (h7.mono HU6.out.size))
              clear h7
              have e17 := (HB1.out.below HU7.out).cell HX.out.syms
              go_wp2_with fail
              (with_reducible refine (awake_any _).mono ?_); rintro e w8 ⟨rfl, h8⟩
              have hz := HU7.out.size
              have hf := HW1.out.trans ((HU7.out.trans (h8.mono hz)).mono HW1.out.size)
              go_wp2
              go_ret
              exact ⟨rfl, hf⟩
end Go.Proofs.YtkkkonmbbdhdhaaGreatDoor
