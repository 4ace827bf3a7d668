/- The law ColourOrder. -/
import Derived.Test.YtefdimkiijmjbaaColJ
import Derived.Test.YtefdimkiijmjbaaKb
import Derived.Test.YtefdimkiijmjbaaMaxI
namespace Go.Proofs.Ytefdimkiijmjbaa
open Go.RowKit Go.Lib
set_option linter.unusedVariables false
set_option maxRecDepth 100000
theorem bt_app_lo {l m : List UInt8} {i : Nat} (h : i < l.length) : bt (l ++ m) i = bt l i := by
  unfold bt; rw [List.getD_eq_getElem?_getD, List.getD_eq_getElem?_getD, List.getElem?_append_left h]
theorem bt_app_hi {l m : List UInt8} {i : Nat} : bt (l ++ m) (l.length + i) = bt m i := by
  unfold bt; rw [List.getD_eq_getElem?_getD, List.getD_eq_getElem?_getD, List.getElem?_append_right (by omega), Nat.add_sub_cancel_left]
theorem allL_app (p : Bool) {l m : List UInt8} (hl : l.length % 3 = 0) (hm : m.length % 3 = 0) : allL p (l ++ m) = allL p l ++ allL p m := by
  have hs : (l ++ m).length % 3 = 0 := by rw [List.length_append]; omega
  have e1 := allL_len (p := p) hs
  have e2 := allL_len (p := p) hl
  have e3 := allL_len (p := p) hm
  apply eq_of_bt
  · rw [e1, List.length_append, List.length_append, e2, e3]
  · intro i hi
    rw [e1] at hi
    rw [bt_allL hs hi]
    have hla : (l ++ m).length = l.length + m.length := List.length_append
    by_cases h : i < l.length
    · rw [bt_app_lo (by rw [e2]; exact h), bt_allL hl h]
      unfold colAt
      rw [bt_app_lo (by omega), bt_app_lo (by omega), bt_app_lo (by omega)]
    · obtain ⟨j, rfl⟩ : ∃ j, i = l.length + j := ⟨i - l.length, by omega⟩
      have := bt_app_hi (l := allL p l) (m := allL p m) (i := j)
      rw [e2] at this
      rw [this, bt_allL hm (by omega)]
      unfold colAt
      rw [show (l.length + j) % 3 = j % 3 by omega, show (l.length + j) / 3 * 3 = l.length + j / 3 * 3 by omega]
      rw [bt_app_hi, show l.length + j / 3 * 3 + 1 = l.length + (j / 3 * 3 + 1) by omega, bt_app_hi, show l.length + j / 3 * 3 + 2 = l.length + (j / 3 * 3 + 2) by omega, bt_app_hi]
theorem lu3_cl (r g b : Int) : lu3 (cl r) (cl g) (cl b) = lu3 r g b := by unfold lu3 luY luB luR; simp only [cl_cl]
theorem pa3_cl (r g b : Int) : pa3 (cl r) (cl g) (cl b) = pa3 r g b := by unfold pa3 paR paG paB; simp only [cl_cl]
theorem ent_lL : ∀ args w, (callFunc 9 args).run Try.prog w = .ok (.enter 9 args) w := enters_of Try.func9 (by kernel_rfl) rfl
theorem ent_lP : ∀ args w, (callFunc 11 args).run Try.prog w = .ok (.enter 11 args) w := enters_of Try.func11 (by kernel_rfl) rfl
theorem Blk.range3 {W : World} {g : Nat} {l : List Int} (h : Blk W g (ia l)) : W.rangeAt g 0 (l.map iv) := fun j v hv => by
  rw [Nat.zero_add]
  exact h.cell (by simpa [ia] using hv)
theorem Blk.ld3 {W : World} {g : Nat} {x y z : Int} (h : Blk W g (ia [x, y, z])) : (Instr.loadAt 23 (.pointer (some ⟨g, 0, none⟩))).run Try.prog W = .ok (.agg #[.int .i64 x, .int .i64 y, .int .i64 z]) W :=
  run_loadAt_mid W g 0 23 ([x, y, z].map iv) _ h.range3 Try.underlying23 rfl (by show _ = some 3; kernel_rfl)
theorem order_far1 (r g b m : Int) (l1 l2 : List UInt8) (A1 A2 : Option Addr) (c1 c2 : Nat) (w : World) (hl : 100 < l1.length) (h1 : l1.length ≤ maxLen) :
    Calls Try.prog 6 #[.int .i64 r, .int .i64 g, .int .i64 b, .int .i64 m, .slice A1 l1.length c1, .slice A2 l2.length c2] w fun e w' => e = .returned (.bool true) ∧ Below w.heap.size w w' := by
  unfold maxLen at h1
  go_enter Try.func6, Try.ntmps6
  go_wp2_with (go_at_call 13; (with_reducible refine (awake_any _).mono ?_); rintro e w1 ⟨rfl, hb⟩)
  go_ret
  exact ⟨rfl, hb⟩
theorem order_far2 (r g b m : Int) (l1 l2 : List UInt8) (A1 A2 : Option Addr) (c1 c2 : Nat) (w : World) (hl1 : l1.length ≤ 100) (hl : 100 < l2.length) (h1 : l2.length ≤ maxLen) :
    Calls Try.prog 6 #[.int .i64 r, .int .i64 g, .int .i64 b, .int .i64 m, .slice A1 l1.length c1, .slice A2 l2.length c2] w fun e w' => e = .returned (.bool true) ∧ Below w.heap.size w w' := by
  unfold maxLen at h1
  go_enter Try.func6, Try.ntmps6
  go_wp2_with (go_at_call 13; (with_reducible refine (awake_any _).mono ?_); rintro e w1 ⟨rfl, hb⟩)
  go_ret
  exact ⟨rfl, hb⟩
theorem kb_two {w W : World} {T U : TypeId} (h : Kb w [] W) : Kb w [(W.heap.size, [0, 0, 0]), (W.heap.size + 1, [0, 0, 0])] ((W.alloc (.cells (ia [0, 0, 0]) T)).alloc (.cells (ia [0, 0, 0]) U)) := by
  have := (h.new [0, 0, 0] T).new [0, 0, 0] U
  rwa [World.size_alloc] at this
theorem kb_l1 {a : Nat} {X z : List Int} : ∀ p ∈ [(a, X), (a + 1, z)], p = (a, X) ∨ (p ∈ [(a, z), (a + 1, z)] ∧ p.1 ≠ a) := by
  intro p hp
  simp only [List.mem_cons, List.not_mem_nil, or_false] at hp
  rcases hp with rfl | rfl
  · exact .inl rfl
  · exact .inr ⟨by simp, by show a + 1 ≠ a; omega⟩
theorem kb_l2 {a : Nat} {X Y z : List Int} : ∀ p ∈ [(a, X), (a + 1, Y)], p = (a + 1, Y) ∨ (p ∈ [(a, X), (a + 1, z)] ∧ p.1 ≠ a + 1) := by
  intro p hp
  simp only [List.mem_cons, List.not_mem_nil, or_false] at hp
  rcases hp with rfl | rfl
  · exact .inr ⟨by simp, by show a ≠ a + 1; omega⟩
  · exact .inl rfl
theorem cat_bytes (X Y : List UInt8) : (⟨X.toArray⟩ : ByteArray) ++ ⟨Y.toArray⟩ = ⟨(X ++ Y).toArray⟩ := by
  apply ByteArray.ext
  simp
theorem bytes_list (X : List UInt8) : (⟨X.toArray⟩ : ByteArray).toList = X := by simp
theorem bytes_size (X : List UInt8) : (⟨X.toArray⟩ : ByteArray).size = X.length := by show X.toArray.size = _; simp
set_option maxHeartbeats 8000000 in
theorem order_near (r g b m : Int) (l1 l2 : List UInt8) (A1 A2 : Option Addr) (c1 c2 : Nat) (w : World) (hl1 : l1.length ≤ 100) (hl2 : l2.length ≤ 100) (hr1 : Rd w A1 l1) (hr2 : Rd w A2 l2) :
    Calls Try.prog 6 #[.int .i64 r, .int .i64 g, .int .i64 b, .int .i64 m, .slice A1 l1.length c1, .slice A2 l2.length c2] w fun e w' => e = .returned (.bool true) ∧ Below w.heap.size w w' := by
  have HR1 := Lib.hid hr1
  have HR2 := Lib.hid hr2
  clear hr1 hr2
  have HL1 := Lib.hid (fun W => lLuma_at r g b _ _ _ W rfl)
  have HL2 := Lib.hid (fun W => lLuma_at (max r m) (max g m) (max b m) _ _ _ W rfl)
  have HP1 := Lib.hid (fun W => lPaint_at r g b _ _ _ W rfl)
  have HL3 : Hid (∀ W, Calls Try.prog 9 #[.int .i64 (cl r), .int .i64 (cl g), .int .i64 (cl b)] W fun e w' => e = .returned (.agg #[.int .i64 (luY r g b), .int .i64 (luB r g b), .int .i64 (luR r g b)]) ∧ Below W.heap.size W w') := fun W => lLuma_at _ _ _ _ _ _ W (lu3_cl r g b)
  have HP3 : Hid (∀ W, Calls Try.prog 11 #[.int .i64 (cl r), .int .i64 (cl g), .int .i64 (cl b)] W fun e w' => e = .returned (.agg #[.int .i64 (paR r g b), .int .i64 (paG r g b), .int .i64 (paB r g b)]) ∧ Below W.heap.size W w') := fun W => lPaint_at _ _ _ _ _ _ W (pa3_cl r g b)
  have HMO : luY r g b ≤ luY (max r m) (max g m) (max b m) := luY_mono (by omega) (by omega) (by omega)
  have HCr := Lib.hid (fun W => clamp_any r W)
  have HCg := Lib.hid (fun W => clamp_any g W)
  have HCb := Lib.hid (fun W => clamp_any b W)
  generalize luY (max r m) (max g m) (max b m) = z0 at *
  generalize luB (max r m) (max g m) (max b m) = z1 at *
  generalize luR (max r m) (max g m) (max b m) = z2 at *
  generalize luY r g b = x0 at *
  generalize luB r g b = x1 at *
  generalize luR r g b = x2 at *
  generalize paR r g b = y0 at *
  generalize paG r g b = y1 at *
  generalize paB r g b = y2 at *
  generalize cl r = k0 at *
  generalize cl g = k1 at *
  generalize cl b = k2 at *
  have t1 : decide (z0 < x0) = false := by rw [decide_eq_false_iff_not]; omega
  have HS1 := Lib.hid (size3 x0 x1 x2)
  have HS2 := Lib.hid (size3 z0 z1 z2)
  have H1 := Lib.hid (one_ia [x0, x1, x2])
  have H2 := Lib.hid (one_ia [z0, z1, z2])
  have HZ := Lib.hid zero3
  have hd1 : decide (100 < (l1.length : Int)) = false := by rw [decide_eq_false_iff_not]; omega
  have hd2 : decide (100 < (l2.length : Int)) = false := by rw [decide_eq_false_iff_not]; omega
  clear HMO
  go_enter Try.func6, Try.ntmps6
  go_upto_region 4 with (first
    | (go_at_call 9; (with_reducible refine (HL1.out _).mono ?_); rintro e w1 ⟨rfl, h1⟩; have K1 := Lib.hid ((Kb.refl w).call h1); clear h1)
    | (go_at_call 9; (with_reducible refine (HL2.out _).mono ?_); rintro e w2 ⟨rfl, h2⟩; have K2 := Lib.hid (K1.out.call h2); clear h2; have K2a := Lib.hid (kb_two (T := 23) (U := 23) K2.out))
    | (with_reducible refine wpList_maxI _ rfl (.tmp 33) (.tmp 34) rfl r m rfl rfl ?_)
    | (with_reducible refine wpList_maxI _ rfl (.tmp 36) (.tmp 37) rfl g m rfl rfl ?_)
    | (with_reducible refine wpList_maxI _ rfl (.tmp 39) (.tmp 40) rfl b m rfl rfl ?_)
    | (with_reducible refine wpList_allocZ _ rfl 23 rfl (ia [0, 0, 0]) HZ.out ?_)
    | ((refine wpList_storeB _ rfl 23 (.tmp 13) (.tmp 32) rfl w2.heap.size rfl (ia [0, 0, 0]) (K2a.out.get 0 rfl) (ia [x0, x1, x2]) (by rfl) HS1.out (by rfl) H1.out ?_)
       intro w3 hb3 hc3 hz3; have K3 := Lib.hid (K2a.out.upd (L' := [(w2.heap.size, [x0, x1, x2]), (w2.heap.size + 1, [0, 0, 0])]) K2.out.be.size hc3 hb3 kb_l1); clear hb3 hc3 hz3)
    | ((refine wpList_storeB _ rfl 23 (.tmp 14) (.tmp 42) rfl (w2.heap.size + 1) (by go_simp) (ia [0, 0, 0]) (K3.out.get 1 rfl) (ia [z0, z1, z2]) (by rfl) HS2.out (by rfl) H2.out ?_)
       intro w4 hb4 hc4 hz4; have K4 := Lib.hid (K3.out.upd (L' := [(w2.heap.size, [x0, x1, x2]), (w2.heap.size + 1, [z0, z1, z2])]) (Nat.le_succ_of_le K2.out.be.size) hc4 hb4 kb_l2); clear hb4 hc4 hz4))
  clear K1 K2a K3
  simp only [World.size_alloc]
  generalize w2.heap.size = a1 at *
  have HEL := Lib.hid ent_lL
  have HEP := Lib.hid ent_lP
  have HEC := Lib.hid ent_cl
  have q1 : ∀ W, (Op.equalIn 10000 23 (.agg #[.int .i64 x0, .int .i64 x1, .int .i64 x2]) (.agg #[.int .i64 x0, .int .i64 x1, .int .i64 x2])).run Try.prog W = .ok true W := fun W => eqvs W x0 x1 x2
  have q2 : ∀ W, (Op.equalIn 10000 23 (.agg #[.int .i64 y0, .int .i64 y1, .int .i64 y2]) (.agg #[.int .i64 y0, .int .i64 y1, .int .i64 y2])).run Try.prog W = .ok true W := fun W => eqvs W y0 y1 y2
  refine wp_region_seq (Kb w [(a1, [x0, x1, x2]), (a1 + 1, [z0, z1, z2])]) (by kernel_rfl) (by kernel_rfl) (by kernel_rfl) K4.out.drew ?_
  repeat (
    first
      | (apply seq_val (by rfl)
         focus (intro W hS; have e0 := hS.cell 0 (k := 0) rfl (by show _ < 3; omega) rfl; have e1 := hS.cell 1 (k := 0) rfl (by show _ < 3; omega) rfl; go_simp; (try with_reducible rfl); done))
      | (refine seq_load 23 (.tmp 13) _ _ (by rfl) rfl rfl (fun W hS => Blk.ld3 (hS.get 0 rfl)) ?_)
      | (apply seq_call (f := 9) (args := #[.int .i64 k0, .int .i64 k1, .int .i64 k2]) (by rfl)
         focus (intro W; have eg : ∀ args w, (callFunc 9 args).run Try.prog w = .ok (.enter 9 args) w := HEL.out; unfold execOp; simp [resolve, invoke, go_sem, eg]; done)
         focus (intro W hS; exact (HL3.out W).mono fun e w' h => ⟨h.1, hS.call h.2⟩))
      | (apply seq_call (f := 11) (args := #[.int .i64 k0, .int .i64 k1, .int .i64 k2]) (by rfl)
         focus (intro W; have eg : ∀ args w, (callFunc 11 args).run Try.prog w = .ok (.enter 11 args) w := HEP.out; unfold execOp; simp [resolve, invoke, go_sem, eg]; done)
         focus (intro W hS; exact (HP3.out W).mono fun e w' h => ⟨h.1, hS.call h.2⟩))
      | (apply seq_call (f := 11) (args := #[.int .i64 r, .int .i64 g, .int .i64 b]) (by rfl)
         focus (intro W; have eg : ∀ args w, (callFunc 11 args).run Try.prog w = .ok (.enter 11 args) w := HEP.out; unfold execOp; simp [resolve, invoke, go_sem, eg]; done)
         focus (intro W hS; exact (HP1.out W).mono fun e w' h => ⟨h.1, hS.call h.2⟩))
      | (apply seq_call (f := 7) (args := #[.int .i64 r]) (by rfl)
         focus (intro W; have eg : ∀ args w, (callFunc 7 args).run Try.prog w = .ok (.enter 7 args) w := HEC.out; unfold execOp; simp [resolve, invoke, go_sem, eg]; done)
         focus (intro W hS; exact (HCr.out W).mono fun e w' h => ⟨h.1, by rw [← h.2]; exact hS⟩))
      | (apply seq_call (f := 7) (args := #[.int .i64 g]) (by rfl)
         focus (intro W; have eg : ∀ args w, (callFunc 7 args).run Try.prog w = .ok (.enter 7 args) w := HEC.out; unfold execOp; simp [resolve, invoke, go_sem, eg]; done)
         focus (intro W hS; exact (HCg.out W).mono fun e w' h => ⟨h.1, by rw [← h.2]; exact hS⟩))
      | (apply seq_call (f := 7) (args := #[.int .i64 b]) (by rfl)
         focus (intro W; have eg : ∀ args w, (callFunc 7 args).run Try.prog w = .ok (.enter 7 args) w := HEC.out; unfold execOp; simp [resolve, invoke, go_sem, eg]; done)
         focus (intro W hS; exact (HCb.out W).mono fun e w' h => ⟨h.1, by rw [← h.2]; exact hS⟩))
    simp only [Act.put, List.setIfInBounds_toArray, List.set_cons_zero, List.set_cons_succ])
  refine seq_nil fun W hS => ?_
  have BW := Lib.hid hS.be
  clear hS K4 K2 HL1 HL2 HL3 HP1 HP3 HCr HCg HCb HEL HEP HEC q1 q2 HS1 HS2 H1 H2 HZ
  by_cases hm : l1.length % 3 = 0 ∧ l2.length % 3 = 0
  · obtain ⟨m1, m2⟩ := hm
    have hb1 : (((l1.length : Int) % 3) != 0) = false := by rw [bne_eq_false_iff_eq]; omega
    have hb2 : (((l2.length : Int) % 3) != 0) = false := by rw [bne_eq_false_iff_eq]; omega
    have HAP := Lib.hid (fun p => allL_app p m1 m2)
    have HAN := Lib.hid (fun p => allL_len (p := p) (l := l1 ++ l2) (by rw [List.length_append]; omega))
    have HLL : Hid ((l1 ++ l2).length ≤ 200) := by show _ ≤ _; rw [List.length_append]; omega
    have HO := Lib.hid (own_any W)
    have HB0 : Hid (Below w.heap.size w (W.alloc (.cells #[] 5))) := BW.out.alloc BW.out.size _
    have zW := BW.out.size
    clear m1 m2
    go_wp2_with (first
      | (at_builtin
         (refine wpList_appB _ rfl (.tmp 96) (.tmp 97) rfl W.heap.size (.slice (some ⟨W.heap.size, 0, none⟩) 0 0) [] rfl HO.out A1 l1.length c1 l1 rfl rfl (HR1.out.below HB0.out) (by simp; omega) (by simp) ?_)
         intro v5 w5 ho5 hg5 _
         have B5 := Lib.hid (HB0.out.grown hg5 (by simp; omega) (by rintro k ⟨⟩; exact BW.out.size))
         have z5 : W.heap.size ≤ w5.heap.size := Nat.le_trans (by simp) hg5.size
         rw [List.nil_append] at ho5
         have HO5 := Lib.hid ho5
         clear ho5 hg5 HO HB0)
      | (at_builtin
         (refine wpList_appB _ rfl (.tmp 98) (.tmp 99) rfl W.heap.size v5 l1 rfl HO5.out A2 l2.length c2 l2 rfl rfl (HR2.out.below B5.out) (by omega) z5 ?_)
         intro v6 w6 ho6 hg6 _
         have B6 := Lib.hid (B5.out.grown hg6 B5.out.size (fun k hk => Nat.le_trans zW (HO5.out.at k hk).1))
         obtain ⟨A6, c6, hv6, _, _, r6, _⟩ := ho6.open
         subst hv6
         have HR6 := Lib.hid r6
         clear ho6 hg6 HO5 B5 r6))
    have z6 := B6.out.size
    obtain ⟨N, hN⟩ : ∃ N, N = l1.length + l2.length := ⟨_, rfl⟩
    have HNN : Hid (N = (l1 ++ l2).length) := by show _ = _; rw [hN, List.length_append]
    have HLN : Hid (N ≤ 200) := by show _ ≤ _; omega
    have hN0 : (N : Int) ≤ 200 := by omega
    simp only [← hN]
    have HAM : Hid (∀ p, (allL p (l1 ++ l2)).length = N) := fun p => by rw [HAN.out p]; exact HNN.out.symm
    clear hN HAN HLL
    go_loopw [16] (fun i wr => ∃ k : Nat, k ≤ 2 ∧ i = .int .i64 k ∧ Hid (Below w6.heap.size w6 wr)) (fun i _ => 2 - (RowKit.intOf i).toNat)
    case atStart => exact ⟨0, Nat.zero_le _, rfl, Below.refl _ _⟩
    case round =>
      obtain ⟨k, hk, rfl, HB⟩ := hrel
      by_cases hlt : k < 2
      · have Bw := Lib.hid (B6.out.trans (HB.out.mono z6))
        have HQ1 := Lib.hid (HR1.out.below Bw.out)
        have HQ2 := Lib.hid (HR2.out.below Bw.out)
        have HQ6 := Lib.hid (HR6.out.below HB.out)
        have hz : w6.heap.size ≤ wr.heap.size := HB.out.size
        rcases (show k = 0 ∨ k = 1 by omega) with rfl | rfl
        · have hkk : ((0 : Nat) : Int) + 1 = 1 := by omega
          obtain ⟨X1, hX1⟩ : ∃ X, allL false l1 = X := ⟨_, rfl⟩
          obtain ⟨X2, hX2⟩ : ∃ X, allL false l2 = X := ⟨_, rfl⟩
          obtain ⟨X3, hX3⟩ : ∃ X, allL false (l1 ++ l2) = X := ⟨_, rfl⟩
          have H12 := HAP.out false
          have H3N := HAM.out false
          rw [hX1, hX2, hX3] at H12
          rw [hX3] at H3N
          have hcat : (⟨X1.toArray⟩ : ByteArray) ++ ⟨X2.toArray⟩ = ⟨X3.toArray⟩ := by rw [H12]; exact cat_bytes X1 X2
          have hx12 : X1.length + X2.length ≤ 200 := by rw [H12, List.length_append] at H3N; have := HLN.out; omega
          have hsz1 : (⟨X1.toArray⟩ : ByteArray).size = X1.length := bytes_size X1
          have hsz2 : (⟨X2.toArray⟩ : ByteArray).size = X2.length := bytes_size X2
          have hne : ((X3.length : Int) != (N : Int)) = false := by rw [H3N]; simp
          have HX1 := Lib.hid hX1
          have HX2 := Lib.hid hX2
          have HX3 := Lib.hid hX3
          clear hX1 hX2 hX3 H12 H3N hkk
          have hcl : ((⟨X1.toArray⟩ : ByteArray) ++ ⟨X2.toArray⟩).toList = X3 := by rw [hcat]; exact bytes_list X3
          have HCA := Lib.hid hcat
          have HS1 := Lib.hid hsz1
          have HS2 := Lib.hid hsz2
          clear hcat hsz1 hsz2
          go_wp2_with fail
          (with_reducible refine (all_at false l1 X1 A1 l1.length c1 _ rfl HQ1.out (by omega) HX1).mono ?_); rintro e w7 ⟨D7, d7, rfl, o7, h7⟩
          have B7 := Lib.hid (HB.out.trans (h7.mono hz))
          have z7 := B7.out.size
          have Q2 := Lib.hid (HQ2.out.below h7)
          have Q6 := Lib.hid (HQ6.out.below h7)
          have O7 := Lib.hid o7
          clear o7 h7
          go_wp2_with fail
          (with_reducible refine (all_at false l2 X2 A2 l2.length c2 _ rfl Q2.out (by omega) HX2).mono ?_); rintro e w8 ⟨D8, d8, rfl, o8, h8⟩
          have B8 := Lib.hid (B7.out.trans (h8.mono z7))
          have z8 := B8.out.size
          have P6 := Lib.hid (Q6.out.below h8)
          have P7 := Lib.hid (O7.out.below h8)
          have O8 := Lib.hid o8
          clear o8 h8
          go_wp2_with fail
          (with_reducible refine (all_at false (l1 ++ l2) X3 A6 N c6 _ HNN.out P6.out (by rw [← HNN.out]; omega) HX3).mono ?_); rintro e w9 ⟨D9, d9, rfl, o9, h9⟩
          have B9 := Lib.hid (B8.out.trans (h9.mono z8))
          have e7 := (P7.out.below h9).str
          have e8 := (O8.out.below h9).str
          have e9 := o9.str
          clear o9 h9 P7 O8 P6 O7 Q2 Q6
          go_wp2
          go_roundw
          case rel => exact ⟨1, by omega, by first | rfl | go_num, B9⟩
          case measure => simp [RowKit.intOf]
        · have hkk : ((0 : Nat) : Int) + 1 = 1 := by omega
          obtain ⟨X1, hX1⟩ : ∃ X, allL true l1 = X := ⟨_, rfl⟩
          obtain ⟨X2, hX2⟩ : ∃ X, allL true l2 = X := ⟨_, rfl⟩
          obtain ⟨X3, hX3⟩ : ∃ X, allL true (l1 ++ l2) = X := ⟨_, rfl⟩
          have H12 := HAP.out true
          have H3N := HAM.out true
          rw [hX1, hX2, hX3] at H12
          rw [hX3] at H3N
          have hcat : (⟨X1.toArray⟩ : ByteArray) ++ ⟨X2.toArray⟩ = ⟨X3.toArray⟩ := by rw [H12]; exact cat_bytes X1 X2
          have hx12 : X1.length + X2.length ≤ 200 := by rw [H12, List.length_append] at H3N; have := HLN.out; omega
          have hsz1 : (⟨X1.toArray⟩ : ByteArray).size = X1.length := bytes_size X1
          have hsz2 : (⟨X2.toArray⟩ : ByteArray).size = X2.length := bytes_size X2
          have hne : ((X3.length : Int) != (N : Int)) = false := by rw [H3N]; simp
          have HX1 := Lib.hid hX1
          have HX2 := Lib.hid hX2
          have HX3 := Lib.hid hX3
          clear hX1 hX2 hX3 H12 H3N hkk
          have hcl : ((⟨X1.toArray⟩ : ByteArray) ++ ⟨X2.toArray⟩).toList = X3 := by rw [hcat]; exact bytes_list X3
          have HCA := Lib.hid hcat
          have HS1 := Lib.hid hsz1
          have HS2 := Lib.hid hsz2
          clear hcat hsz1 hsz2
          go_wp2_with fail
          (with_reducible refine (all_at true l1 X1 A1 l1.length c1 _ rfl HQ1.out (by omega) HX1).mono ?_); rintro e w7 ⟨D7, d7, rfl, o7, h7⟩
          have B7 := Lib.hid (HB.out.trans (h7.mono hz))
          have z7 := B7.out.size
          have Q2 := Lib.hid (HQ2.out.below h7)
          have Q6 := Lib.hid (HQ6.out.below h7)
          have O7 := Lib.hid o7
          clear o7 h7
          go_wp2_with fail
          (with_reducible refine (all_at true l2 X2 A2 l2.length c2 _ rfl Q2.out (by omega) HX2).mono ?_); rintro e w8 ⟨D8, d8, rfl, o8, h8⟩
          have B8 := Lib.hid (B7.out.trans (h8.mono z7))
          have z8 := B8.out.size
          have P6 := Lib.hid (Q6.out.below h8)
          have P7 := Lib.hid (O7.out.below h8)
          have O8 := Lib.hid o8
          clear o8 h8
          go_wp2_with fail
          (with_reducible refine (all_at true (l1 ++ l2) X3 A6 N c6 _ HNN.out P6.out (by rw [← HNN.out]; omega) HX3).mono ?_); rintro e w9 ⟨D9, d9, rfl, o9, h9⟩
          have B9 := Lib.hid (B8.out.trans (h9.mono z8))
          have e7 := (P7.out.below h9).str
          have e8 := (O8.out.below h9).str
          have e9 := o9.str
          clear o9 h9 P7 O8 P6 O7 Q2 Q6
          go_wp2
          go_roundw
          case rel => exact ⟨2, by omega, by first | rfl | go_num, B9⟩
          case measure => simp [RowKit.intOf]
      · obtain rfl : k = 2 := by omega
        go_wp2_with fail
        (with_reducible refine (awake_any _).mono ?_); rintro e w7 ⟨rfl, h7⟩
        have B7 := B6.out.trans (HB.out.mono z6)
        have B8 := B7.trans (h7.mono B7.size)
        go_wp2
        go_ret
        exact ⟨rfl, B8⟩
  · by_cases m1 : l1.length % 3 = 0
    · have hb1 : (((l1.length : Int) % 3) != 0) = false := by rw [bne_eq_false_iff_eq]; omega
      have hb3 : (((l1.length : Int) % 3) == 0) = true := by rw [beq_iff_eq]; omega
      have hb2 : (((l2.length : Int) % 3) != 0) = true := by rw [bne_iff_ne]; omega
      clear hm m1
      go_wp2_with fail
      (with_reducible refine (awake_any _).mono ?_); rintro e w7 ⟨rfl, h7⟩
      have B7 := BW.out.trans (h7.mono BW.out.size)
      go_wp2
      go_ret
      exact ⟨rfl, B7⟩
    · have hb1 : (((l1.length : Int) % 3) != 0) = true := by rw [bne_iff_ne]; omega
      have hb3 : (((l1.length : Int) % 3) == 0) = false := by rw [beq_eq_false_iff_ne]; omega
      have HN := Lib.hid (all_no true l1 A1 c1 W (by omega) m1)
      clear hm m1
      go_wp2_with fail
      (with_reducible refine (HN.out).mono ?_); rintro e w6 ⟨rfl, h6⟩
      have B6 := BW.out.trans (h6.mono BW.out.size)
      clear h6
      go_wp2_with fail
      (with_reducible refine (awake_any _).mono ?_); rintro e w7 ⟨rfl, h7⟩
      have B7 := B6.trans (h7.mono B6.size)
      go_wp2
      go_ret
      exact ⟨rfl, B7⟩
theorem order_any (r g b m : Int) (l1 l2 : List UInt8) (A1 A2 : Option Addr) (c1 c2 : Nat) (w : World) (hr1 : Rd w A1 l1) (hr2 : Rd w A2 l2) (h1 : l1.length ≤ maxLen) (h2 : l2.length ≤ maxLen) :
    Calls Try.prog 6 #[.int .i64 r, .int .i64 g, .int .i64 b, .int .i64 m, .slice A1 l1.length c1, .slice A2 l2.length c2] w fun e w' => e = .returned (.bool true) ∧ Below w.heap.size w w' := by
  by_cases a1 : 100 < l1.length
  · exact order_far1 r g b m l1 l2 A1 A2 c1 c2 w a1 h1
  · by_cases a2 : 100 < l2.length
    · exact order_far2 r g b m l1 l2 A1 A2 c1 c2 w (by omega) a2 h2
    · exact order_near r g b m l1 l2 A1 A2 c1 c2 w (by omega) (by omega) hr1 hr2
end Go.Proofs.Ytefdimkiijmjbaa
