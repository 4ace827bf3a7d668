/- Contracts of the document's All, where the bytes are three by three (written by tools/gen_colH.py). -/
import Derived.Test.YtefdimkiijmjbaaColG
namespace Go.Proofs.Ytefdimkiijmjbaa
open Go.RowKit Go.Lib
set_option linter.unusedVariables false
set_option maxRecDepth 100000
theorem newX_of {w W : World} {b o a : Nat} {l m : List UInt8} {v : Value} {z0 z1 z2 : Int} (h : Rg w (some ⟨b, o, none⟩) l v m b o a z0 z1 z2 W) :
    NewX w (some ⟨b, o, none⟩) b v (.pointer (some ⟨W.heap.size, 0, none⟩)) (W.alloc (.cells (ia [0, 0, 0]) 23)) := by
  have hb : b < W.heap.size := World.block_lt_of_cell? W _ h.c0
  refine ⟨W.heap.size, rfl, Blk.new W _ _, by omega, h.ar.be.size, fun b' o' s' e => ?_, fun k hk => ?_⟩
  · injection e with e
    injection e with e1 e2 e3
    omega
  · have := (h.ar.ob.at k hk).2
    omega
set_option maxHeartbeats 8000000 in
theorem rall_lu (l : List UInt8) (A : Option Addr) (c : Nat) (w : World) (hr : Rd w A l) (hl : l.length ≤ 65536) (hm : l.length % 3 = 0) :
    Calls Try.prog 15 #[.slice A l.length c, .bool false] w fun e w' => ∃ v, e = .returned v ∧ Ob w' w.heap.size v (allL false l) ∧ Below w.heap.size w w' := by
  have hb : (((l.length : Int) % 3) != 0) = false := by rw [bne_eq_false_iff_eq]; omega
  have HM := Lib.hid hm
  have HRR := Lib.hid hr
  have S0 : Hid (Ar w A l (.slice none 0 0) (allT false l 0) w) := ⟨hr, Ob.nil _ _, Below.refl _ w⟩
  clear hm hr
  go_enter Try.func15, Try.ntmps15
  go_wp2
  go_loopw [5, 6] (fun s i wr => ∃ (a : Nat) (v : Value), a ≤ l.length ∧ Hid (a % 3 = 0) ∧ i = .int .i64 a ∧ v = s ∧ Hid (Ar w A l v (allT false l a) wr)) (fun v i _ => l.length - (RowKit.intOf i).toNat)
  case atStart => exact ⟨0, _, Nat.zero_le _, rfl, rfl, rfl, S0⟩
  case round =>
    clear S0 hb
    obtain ⟨a, u, ha, HA, rfl, rfl, HS⟩ := hrel
    by_cases hlt : a < l.length
    · have h3 : a + 3 ≤ l.length := by have := HA.out; have := HM.out; omega
      have HN := Lib.hid (allT_succ false l a HA.out)
      have HTL := Lib.hid (allT_len false l a)
      generalize allT false l a = m at *
      obtain ⟨b, o, rfl, hc⟩ := HS.out.rd.resolve_left (fun e => by rw [e] at hlt; simp at hlt)
      have HG0 : Hid (Rg w (some ⟨b, o, none⟩) l u m b o a (bt l a) (bt l (a + 1)) (bt l (a + 2)) wr) := ⟨HS.out, hc a (by omega), hc (a + 1) (by omega), hc (a + 2) (by omega)⟩
      clear hc HS
      have HCC := Lib.hid (rcv_lu (bt l a) (bt l (a + 1)) (bt l (a + 2)))
      have HU0 := Lib.hid (u8w (cv_rng false 0 (bt l a) (bt l (a + 1)) (bt l (a + 2))).1 (cv_rng false 0 (bt l a) (bt l (a + 1)) (bt l (a + 2))).2)
      have g0 := cv_rng false 0 (bt l a) (bt l (a + 1)) (bt l (a + 2))
      generalize cv false 0 (bt l a) (bt l (a + 1)) (bt l (a + 2)) = y0 at *
      have HU1 := Lib.hid (u8w (cv_rng false 1 (bt l a) (bt l (a + 1)) (bt l (a + 2))).1 (cv_rng false 1 (bt l a) (bt l (a + 1)) (bt l (a + 2))).2)
      have g1 := cv_rng false 1 (bt l a) (bt l (a + 1)) (bt l (a + 2))
      generalize cv false 1 (bt l a) (bt l (a + 1)) (bt l (a + 2)) = y1 at *
      have HU2 := Lib.hid (u8w (cv_rng false 2 (bt l a) (bt l (a + 1)) (bt l (a + 2))).1 (cv_rng false 2 (bt l a) (bt l (a + 1)) (bt l (a + 2))).2)
      have g2 := cv_rng false 2 (bt l a) (bt l (a + 1)) (bt l (a + 2))
      generalize cv false 2 (bt l a) (bt l (a + 1)) (bt l (a + 2)) = y2 at *
      have u0 := bt_rng l a
      have u1 := bt_rng l (a + 1)
      have u2 := bt_rng l (a + 2)
      generalize bt l a = z0 at *
      generalize bt l (a + 1) = z1 at *
      generalize bt l (a + 2) = z2 at *
      have hla : (a : Int) < (l.length : Int) := by omega
      have hl1 : (a : Int) + 1 < (l.length : Int) := by omega
      have hl2 : (a : Int) + 2 < (l.length : Int) := by omega
      have hw1 : IntKind.i64.wrap ((a : Int) + 1) = (a : Int) + 1 := IntWalk.i64_in _ (by omega)
      have hw2 : IntKind.i64.wrap ((a : Int) + 2) = (a : Int) + 2 := IntWalk.i64_in _ (by omega)
      have hv0 : IntKind.i64.wrap z0 = z0 := IntWalk.i64_in _ (by omega)
      have hv1 : IntKind.i64.wrap z1 = z1 := IntWalk.i64_in _ (by omega)
      have hv2 : IntKind.i64.wrap z2 = z2 := IntWalk.i64_in _ (by omega)
      have hg1 : 0 ≤ (a : Int) + 1 := by omega
      have hg2 : 0 ≤ (a : Int) + 2 := by omega
      have ht1 : ((a : Int) + 1).toNat = a + 1 := by omega
      have ht2 : ((a : Int) + 2).toNat = a + 2 := by omega
      have HSZ := Lib.hid (size3 y0 y1 y2)
      have HON := Lib.hid (one_ia [y0, y1, y2])
      have HE := Lib.hid ent_rlu
      go_wp2
      refine wp_region_seqH 19 (Rg w (some ⟨b, o, none⟩) l u m b o a z0 z1 z2) (fun W W' => Below W.heap.size W W') (hsL (rgn b o a l.length c z0 z1 z2 (.agg #[.int .i64 y0, .int .i64 y1, .int .i64 y2])) (NewX w (some ⟨b, o, none⟩) b u)) (by kernel_rfl) (by kernel_rfl) (hsL_st fun _ _ _ hT h => NewX.st hT h) (HG0.out.call ((Below.refl _ _).drew)) ?_
      simp only [List.take_succ_cons, List.take_zero, List.drop_succ_cons, List.drop_zero]
      repeat (
        first
          | (refine seqH_call _ rfl w 10 #[.int .i64 z0, .int .i64 z1, .int .i64 z2] (by rfl) ?_ ?_ ?_
             focus (intro W; have eg : ∀ args w, (callFunc 10 args).run Try.prog w = .ok (.enter 10 args) w := HE.out; unfold execOp; simp [resolve, invoke, go_sem, eg]; done)
             focus (intro W hS; exact (HCC.out W).mono fun e w' h => ⟨h.1, h.2, hS.call h.2⟩))
          | (refine seqH_val _ rfl w (fun _ => Below.refl _ _) (by rfl) ?_ ?_
             focus (intro W hS; have e0 := hS.c0; have e1 := hS.c1; have e2 := hS.c2; go_simp; try with_reducible rfl; done))
        simp only [Act.put, List.setIfInBounds_toArray, List.set_cons_zero, List.set_cons_succ])
      refine seqH_any (by rfl) ⟨_, _, newX_of HG0.out⟩ (fun W hS => ⟨_, _, zero3_alloc rfl W, (Below.refl _ _).alloc (Nat.le_refl _) _, hS.call ((Below.refl _ _).alloc (Nat.le_refl _) _), newX_of hS⟩) (fun x hx => ?_)
      simp only [Act.put, List.setIfInBounds_toArray, List.set_cons_zero, List.set_cons_succ]
      obtain ⟨_, g, rfl, -⟩ := hx
      refine seqH_nil fun W hS hF => ?_
      obtain ⟨g', hgg, k1, k2, k3, k4, k5⟩ : NewX w (some ⟨b, o, none⟩) b u (.pointer (some ⟨g, 0, none⟩)) W := hF 18 (by omega)
      injection hgg with hgg
      injection hgg with hgg
      injection hgg with hgg
      subst hgg
      have KB := Lib.hid k1
      clear hF HG0 HE HCC
      refine wpList_storeB _ rfl 23 (.tmp 7) (.tmp 35) rfl g rfl (ia [0, 0, 0]) KB.out (ia [y0, y1, y2]) rfl HSZ.out rfl HON.out ?_
      intro w3 hb3 hc3 hs3
      have HG1 := Lib.hid (hS.chg hc3 k2 k4 k3 k5)
      have KX := Lib.hid hb3
      clear KB k1 hb3 hc3 hs3 hS
      have e0 := KX.out.cell (j := 0) (v := .int .i64 y0) rfl
      have e1 := KX.out.cell (j := 1) (v := .int .i64 y1) rfl
      have e2 := KX.out.cell (j := 2) (v := .int .i64 y2) rfl
      have HLT : Hid (#[Value.int .u8 y0, Value.int .u8 y1, Value.int .u8 y2] = (([UInt8.ofNat y0.toNat, UInt8.ofNat y1.toNat, UInt8.ofNat y2.toNat] : List UInt8).map bv).toArray) := by
        show _ = _
        simp only [List.map_cons, List.map_nil, HU0.out, HU1.out, HU2.out]
      have HLN : Hid (m.length + 3 ≤ 1000000000) := by have := HTL.out; show _ ≤ _; omega
      clear hw1 hw2 hv0 hv1 hv2 ht1 ht2 KX
      have HOB := Lib.hid (HG1.out.ar.ob.below ((Below.refl _ _).alloc (Nat.le_refl _) (.cells #[Value.int .u8 y0, Value.int .u8 y1, Value.int .u8 y2] 5)))
      have HRL := Lib.hid (Rd.lits w3 5 _ _ HLT.out)
      have HBE := Lib.hid (HG1.out.ar.be.alloc HG1.out.ar.be.size (.cells #[Value.int .u8 y0, Value.int .u8 y1, Value.int .u8 y2] 5))
      have HRD := Lib.hid (HG1.out.ar.rd.alloc (.cells #[Value.int .u8 y0, Value.int .u8 y1, Value.int .u8 y2] 5))
      go_wp2_with (first
        | (at_builtin
           (refine wpList_appB _ rfl (.tmp 55) (.tmp 65) rfl w.heap.size u m rfl HOB.out _ 3 3 [UInt8.ofNat y0.toNat, UInt8.ofNat y1.toNat, UInt8.ofNat y2.toNat] rfl rfl HRL.out HLN.out HBE.out.size ?_)
           intro v6 w6 ho6 hg6 _))
      have B6 := HBE.out.grown hg6 HBE.out.size fun k hk => (HG1.out.ar.ob.at k hk).1
      have HS6 : Hid (Ar w (some ⟨b, o, none⟩) l v6 (allT false l (a + 3)) w6) := ⟨HRR.out.below B6, by rw [HN.out]; exact ho6, B6⟩
      clear ho6 hg6 HOB HRL HBE HRD HG1 e0 e1 e2
      go_wp2
      go_roundw
      case rel => exact ⟨a + 3, _, by omega, (show (a + 3) % 3 = 0 by have := HA.out; omega), by go_num, rfl, HS6⟩
      case measure => simp [RowKit.intOf]; omega
    · obtain rfl : a = l.length := by omega
      go_wp2
      go_ret
      exact ⟨_, rfl, by rw [← allT_all HM.out]; exact HS.out.ob, HS.out.be⟩
set_option maxHeartbeats 8000000 in
theorem rall_pa (l : List UInt8) (A : Option Addr) (c : Nat) (w : World) (hr : Rd w A l) (hl : l.length ≤ 65536) (hm : l.length % 3 = 0) :
    Calls Try.prog 15 #[.slice A l.length c, .bool true] w fun e w' => ∃ v, e = .returned v ∧ Ob w' w.heap.size v (allL true l) ∧ Below w.heap.size w w' := by
  have hb : (((l.length : Int) % 3) != 0) = false := by rw [bne_eq_false_iff_eq]; omega
  have HM := Lib.hid hm
  have HRR := Lib.hid hr
  have S0 : Hid (Ar w A l (.slice none 0 0) (allT true l 0) w) := ⟨hr, Ob.nil _ _, Below.refl _ w⟩
  clear hm hr
  go_enter Try.func15, Try.ntmps15
  go_wp2
  go_loopw [5, 6] (fun s i wr => ∃ (a : Nat) (v : Value), a ≤ l.length ∧ Hid (a % 3 = 0) ∧ i = .int .i64 a ∧ v = s ∧ Hid (Ar w A l v (allT true l a) wr)) (fun v i _ => l.length - (RowKit.intOf i).toNat)
  case atStart => exact ⟨0, _, Nat.zero_le _, rfl, rfl, rfl, S0⟩
  case round =>
    clear S0 hb
    obtain ⟨a, u, ha, HA, rfl, rfl, HS⟩ := hrel
    by_cases hlt : a < l.length
    · have h3 : a + 3 ≤ l.length := by have := HA.out; have := HM.out; omega
      have HN := Lib.hid (allT_succ true l a HA.out)
      have HTL := Lib.hid (allT_len true l a)
      generalize allT true l a = m at *
      obtain ⟨b, o, rfl, hc⟩ := HS.out.rd.resolve_left (fun e => by rw [e] at hlt; simp at hlt)
      have HG0 : Hid (Rg w (some ⟨b, o, none⟩) l u m b o a (bt l a) (bt l (a + 1)) (bt l (a + 2)) wr) := ⟨HS.out, hc a (by omega), hc (a + 1) (by omega), hc (a + 2) (by omega)⟩
      clear hc HS
      have HCC := Lib.hid (rcv_lu (bt l a) (bt l (a + 1)) (bt l (a + 2)))
      have HCP := Lib.hid (rcv_pa (bt l a) (bt l (a + 1)) (bt l (a + 2)))
      have HU0 := Lib.hid (u8w (cv_rng true 0 (bt l a) (bt l (a + 1)) (bt l (a + 2))).1 (cv_rng true 0 (bt l a) (bt l (a + 1)) (bt l (a + 2))).2)
      have g0 := cv_rng true 0 (bt l a) (bt l (a + 1)) (bt l (a + 2))
      generalize cv true 0 (bt l a) (bt l (a + 1)) (bt l (a + 2)) = x0 at *
      generalize cv false 0 (bt l a) (bt l (a + 1)) (bt l (a + 2)) = y0 at *
      have HU1 := Lib.hid (u8w (cv_rng true 1 (bt l a) (bt l (a + 1)) (bt l (a + 2))).1 (cv_rng true 1 (bt l a) (bt l (a + 1)) (bt l (a + 2))).2)
      have g1 := cv_rng true 1 (bt l a) (bt l (a + 1)) (bt l (a + 2))
      generalize cv true 1 (bt l a) (bt l (a + 1)) (bt l (a + 2)) = x1 at *
      generalize cv false 1 (bt l a) (bt l (a + 1)) (bt l (a + 2)) = y1 at *
      have HU2 := Lib.hid (u8w (cv_rng true 2 (bt l a) (bt l (a + 1)) (bt l (a + 2))).1 (cv_rng true 2 (bt l a) (bt l (a + 1)) (bt l (a + 2))).2)
      have g2 := cv_rng true 2 (bt l a) (bt l (a + 1)) (bt l (a + 2))
      generalize cv true 2 (bt l a) (bt l (a + 1)) (bt l (a + 2)) = x2 at *
      generalize cv false 2 (bt l a) (bt l (a + 1)) (bt l (a + 2)) = y2 at *
      have u0 := bt_rng l a
      have u1 := bt_rng l (a + 1)
      have u2 := bt_rng l (a + 2)
      generalize bt l a = z0 at *
      generalize bt l (a + 1) = z1 at *
      generalize bt l (a + 2) = z2 at *
      have hla : (a : Int) < (l.length : Int) := by omega
      have hl1 : (a : Int) + 1 < (l.length : Int) := by omega
      have hl2 : (a : Int) + 2 < (l.length : Int) := by omega
      have hw1 : IntKind.i64.wrap ((a : Int) + 1) = (a : Int) + 1 := IntWalk.i64_in _ (by omega)
      have hw2 : IntKind.i64.wrap ((a : Int) + 2) = (a : Int) + 2 := IntWalk.i64_in _ (by omega)
      have hv0 : IntKind.i64.wrap z0 = z0 := IntWalk.i64_in _ (by omega)
      have hv1 : IntKind.i64.wrap z1 = z1 := IntWalk.i64_in _ (by omega)
      have hv2 : IntKind.i64.wrap z2 = z2 := IntWalk.i64_in _ (by omega)
      have hg1 : 0 ≤ (a : Int) + 1 := by omega
      have hg2 : 0 ≤ (a : Int) + 2 := by omega
      have ht1 : ((a : Int) + 1).toNat = a + 1 := by omega
      have ht2 : ((a : Int) + 2).toNat = a + 2 := by omega
      have HSZ := Lib.hid (size3 y0 y1 y2)
      have HON := Lib.hid (one_ia [y0, y1, y2])
      have HE := Lib.hid ent_rlu
      have HEP := Lib.hid ent_rpa
      have HSZ2 := Lib.hid (size3 x0 x1 x2)
      have HON2 := Lib.hid (one_ia [x0, x1, x2])
      go_wp2
      refine wp_region_seqH 19 (Rg w (some ⟨b, o, none⟩) l u m b o a z0 z1 z2) (fun W W' => Below W.heap.size W W') (hsL (rgn b o a l.length c z0 z1 z2 (.agg #[.int .i64 y0, .int .i64 y1, .int .i64 y2])) (NewX w (some ⟨b, o, none⟩) b u)) (by kernel_rfl) (by kernel_rfl) (hsL_st fun _ _ _ hT h => NewX.st hT h) (HG0.out.call ((Below.refl _ _).drew)) ?_
      simp only [List.take_succ_cons, List.take_zero, List.drop_succ_cons, List.drop_zero]
      repeat (
        first
          | (refine seqH_call _ rfl w 10 #[.int .i64 z0, .int .i64 z1, .int .i64 z2] (by rfl) ?_ ?_ ?_
             focus (intro W; have eg : ∀ args w, (callFunc 10 args).run Try.prog w = .ok (.enter 10 args) w := HE.out; unfold execOp; simp [resolve, invoke, go_sem, eg]; done)
             focus (intro W hS; exact (HCC.out W).mono fun e w' h => ⟨h.1, h.2, hS.call h.2⟩))
          | (refine seqH_val _ rfl w (fun _ => Below.refl _ _) (by rfl) ?_ ?_
             focus (intro W hS; have e0 := hS.c0; have e1 := hS.c1; have e2 := hS.c2; go_simp; try with_reducible rfl; done))
        simp only [Act.put, List.setIfInBounds_toArray, List.set_cons_zero, List.set_cons_succ])
      refine seqH_any (by rfl) ⟨_, _, newX_of HG0.out⟩ (fun W hS => ⟨_, _, zero3_alloc rfl W, (Below.refl _ _).alloc (Nat.le_refl _) _, hS.call ((Below.refl _ _).alloc (Nat.le_refl _) _), newX_of hS⟩) (fun x hx => ?_)
      simp only [Act.put, List.setIfInBounds_toArray, List.set_cons_zero, List.set_cons_succ]
      obtain ⟨_, g, rfl, -⟩ := hx
      refine seqH_nil fun W hS hF => ?_
      obtain ⟨g', hgg, k1, k2, k3, k4, k5⟩ : NewX w (some ⟨b, o, none⟩) b u (.pointer (some ⟨g, 0, none⟩)) W := hF 18 (by omega)
      injection hgg with hgg
      injection hgg with hgg
      injection hgg with hgg
      subst hgg
      have KB := Lib.hid k1
      clear hF HG0 HE HCC
      refine wpList_storeB _ rfl 23 (.tmp 7) (.tmp 35) rfl g rfl (ia [0, 0, 0]) KB.out (ia [y0, y1, y2]) rfl HSZ.out rfl HON.out ?_
      intro w3 hb3 hc3 hs3
      have HG1 := Lib.hid (hS.chg hc3 k2 k4 k3 k5)
      have KX := Lib.hid hb3
      clear KB k1 hb3 hc3 hs3 hS
      go_wp2
      refine wp_region_seqH 18 (fun W => Rg w (some ⟨b, o, none⟩) l u m b o a z0 z1 z2 W ∧ Blk W g (ia [y0, y1, y2])) (fun W W' => Below W.heap.size W W') (hsL (rgn b o a l.length c z0 z1 z2 (.agg #[.int .i64 x0, .int .i64 x1, .int .i64 x2])) (fun _ _ => True)) (by kernel_rfl) (by kernel_rfl) (hsL_st fun _ _ _ hT h => h) ⟨HG1.out.call ((Below.refl _ _).drew), KX.out.below ((Below.refl _ _).drew)⟩ ?_
      simp only [List.take_succ_cons, List.take_zero, List.drop_succ_cons, List.drop_zero]
      repeat (
        first
          | (refine seqH_call _ rfl w 12 #[.int .i64 z0, .int .i64 z1, .int .i64 z2] (by rfl) ?_ ?_ ?_
             focus (intro W; have eg : ∀ args w, (callFunc 12 args).run Try.prog w = .ok (.enter 12 args) w := HEP.out; unfold execOp; simp [resolve, invoke, go_sem, eg]; done)
             focus (intro W hS; exact (HCP.out W).mono fun e w' h => ⟨h.1, h.2, ⟨hS.1.call h.2, hS.2.below h.2⟩⟩))
          | (refine seqH_val _ rfl w (fun _ => Below.refl _ _) (by rfl) ?_ ?_
             focus (intro W hS; have e0 := hS.1.c0; have e1 := hS.1.c1; have e2 := hS.1.c2; go_simp; try with_reducible rfl; done))
        simp only [Act.put, List.setIfInBounds_toArray, List.set_cons_zero, List.set_cons_succ])
      refine seqH_nil fun W hS hF => ?_
      obtain ⟨hS, k1⟩ := hS
      refine wpList_storeB _ rfl 23 (.tmp 7) (.tmp 54) rfl g rfl (ia [y0, y1, y2]) k1 (ia [x0, x1, x2]) rfl HSZ2.out rfl HON2.out ?_
      intro w4 hb4 hc4 hs4
      have HG2 := Lib.hid (hS.chg hc4 k2 k4 k3 k5)
      have KX := Lib.hid hb4
      clear hb4 hc4 hs4 hS hF k1 HG1 HEP HCP
      have e0 := KX.out.cell (j := 0) (v := .int .i64 x0) rfl
      have e1 := KX.out.cell (j := 1) (v := .int .i64 x1) rfl
      have e2 := KX.out.cell (j := 2) (v := .int .i64 x2) rfl
      have HLT : Hid (#[Value.int .u8 x0, Value.int .u8 x1, Value.int .u8 x2] = (([UInt8.ofNat x0.toNat, UInt8.ofNat x1.toNat, UInt8.ofNat x2.toNat] : List UInt8).map bv).toArray) := by
        show _ = _
        simp only [List.map_cons, List.map_nil, HU0.out, HU1.out, HU2.out]
      have HLN : Hid (m.length + 3 ≤ 1000000000) := by have := HTL.out; show _ ≤ _; omega
      clear hw1 hw2 hv0 hv1 hv2 ht1 ht2 KX
      have HOB := Lib.hid (HG2.out.ar.ob.below ((Below.refl _ _).alloc (Nat.le_refl _) (.cells #[Value.int .u8 x0, Value.int .u8 x1, Value.int .u8 x2] 5)))
      have HRL := Lib.hid (Rd.lits w4 5 _ _ HLT.out)
      have HBE := Lib.hid (HG2.out.ar.be.alloc HG2.out.ar.be.size (.cells #[Value.int .u8 x0, Value.int .u8 x1, Value.int .u8 x2] 5))
      have HRD := Lib.hid (HG2.out.ar.rd.alloc (.cells #[Value.int .u8 x0, Value.int .u8 x1, Value.int .u8 x2] 5))
      go_wp2_with (first
        | (at_builtin
           (refine wpList_appB _ rfl (.tmp 55) (.tmp 65) rfl w.heap.size u m rfl HOB.out _ 3 3 [UInt8.ofNat x0.toNat, UInt8.ofNat x1.toNat, UInt8.ofNat x2.toNat] rfl rfl HRL.out HLN.out HBE.out.size ?_)
           intro v6 w6 ho6 hg6 _))
      have B6 := HBE.out.grown hg6 HBE.out.size fun k hk => (HG2.out.ar.ob.at k hk).1
      have HS6 : Hid (Ar w (some ⟨b, o, none⟩) l v6 (allT true l (a + 3)) w6) := ⟨HRR.out.below B6, by rw [HN.out]; exact ho6, B6⟩
      clear ho6 hg6 HOB HRL HBE HRD HG2 e0 e1 e2
      go_wp2
      go_roundw
      case rel => exact ⟨a + 3, _, by omega, (show (a + 3) % 3 = 0 by have := HA.out; omega), by go_num, rfl, HS6⟩
      case measure => simp [RowKit.intOf]; omega
    · obtain rfl : a = l.length := by omega
      go_wp2
      go_ret
      exact ⟨_, rfl, by rw [← allT_all HM.out]; exact HS.out.ob, HS.out.be⟩
end Go.Proofs.Ytefdimkiijmjbaa
