/- Contracts of the document's Bits, Bytes. -/
import Derived.Test.YthidhgobocihpaaDoorRef5
namespace Go.Proofs.YthidhgobocihpaaDoor
open Go.RowKit Go.Lib
set_option linter.unusedVariables false

theorem Oi.mono {w : World} {base base' : Nat} {v : Value} {l : List Int} (h : Oi w base v l) (hb : base' ≤ base) : Oi w base' v l := by
  obtain ⟨h1, h2⟩ := h
  refine ⟨h1, ?_⟩
  rcases h2 with h2 | ⟨g, cap, cur, hv, hg, r⟩
  · exact .inl h2
  · exact .inr ⟨g, cap, cur, hv, by omega, r⟩
theorem rBare_n (l : List UInt8) (A : Option Addr) (n c : Nat) (w : World) (hn : n = l.length) (hr : Rd w A l) (hl : n ≤ 100000000) :
    Calls Tryd.prog 18 #[.slice A n c] w fun e w' => ∃ v, e = .returned v ∧ Ob w' w.heap.size v (bareF false l) ∧ Below w.heap.size w w' := by
  subst hn; exact rBare_any l A c w hr hl
theorem bare_len (f : Bool) (l : List UInt8) : (bareF f l).length ≤ l.length := by
  induction l generalizing f with
  | nil => exact Nat.le_refl _
  | cons c l ih =>
    rw [bareF]
    split
    · have := ih false; simp; omega
    · have := ih (decide (c = 255)); simp; omega
theorem bitsOf_take {d : List UInt8} {k : Nat} (h : k < d.length) : bitsOf (d.take (k + 1)) = bitsOf (d.take k) ++ lo (bt d k) 8 := by
  rw [take_snoc d k h 0, bitsOf_append]
  simp [bitsOf, bt]
theorem lowest8 (v : Int) (w : World) : Calls Tryd.prog 9 #[.int .i64 v, .int .i64 8] w fun e w' => ∃ u, e = .returned u ∧ Oi w' w.heap.size u (lo v 8) ∧ Below w.heap.size w w' := lowest_any v 8 w (by decide)
set_option maxHeartbeats 1600000 in
theorem rBits_any (l : List UInt8) (A : Option Addr) (c : Nat) (w : World) (hr : Rd w A l) (hcap : l.length ≤ c) (hl : l.length ≤ 1000000) :
    Calls Tryd.prog 15 #[.slice A l.length c] w fun e w' => ∃ u, e = .returned u ∧ Oi w' w.heap.size u (bitsOf (bareF false (l.take (dat l)))) ∧ Below w.heap.size w w' := by
  have hd := dat_le l
  have hs := fun W => run_win_h A l.length c (dat l) (dat l : Int) rfl (by omega) W
  have rW := Lib.hid (by have := hr.win c 0 (dat l) hcap; rwa [List.drop_zero] at this : Rd w (winA A c 0) (l.take (dat l)))
  have hn : Hid (dat l = (l.take (dat l)).length) := by show _ = _; rw [List.length_take]; omega
  go_enter Tryd.func15, Tryd.ntmps15
  go_wp2_with fail
  (with_reducible refine (rData_any l A c _ hr (by omega)).mono ?_); rintro e w1 ⟨rfl, rfl⟩
  go_wp2_with fail
  (with_reducible refine (rBare_n (l.take (dat l)) (winA A c 0) (dat l) c _ hn.out rW.out (by omega)).mono ?_); rintro e w2 ⟨v, rfl, hv, h2⟩
  obtain ⟨d, hdd⟩ : ∃ d, d = bareF false (l.take (dat l)) := ⟨_, rfl⟩
  rw [← hdd] at hv
  have hdl : d.length ≤ l.length := by rw [hdd]; have := bare_len false (l.take (dat l)); have := hn.out; omega
  have HDD := Lib.hid hdd
  clear hdd hs
  obtain ⟨A3, c3, rfl, hc3, _, r3, hb3, _⟩ := hv.open'
  have R3 := Lib.hid r3
  have H2 := Lib.hid h2
  clear hv r3 h2 hb3
  go_wp2
  go_loopw [4, 5] (fun o i wr => ∃ (k : Nat) (u : Value), k ≤ d.length ∧ i = .int .i64 k ∧ u = o ∧ Hid (Oi wr w2.heap.size u (bitsOf (d.take k))) ∧ Hid (Below w2.heap.size w2 wr)) (fun _ i _ => d.length - (RowKit.intOf i).toNat)
  case atStart => exact ⟨0, _, Nat.zero_le _, rfl, rfl, Oi.nil _ _, Below.refl _ _⟩
  case round =>
    obtain ⟨k, u, hk, rfl, rfl, HO, HB⟩ := hrel
    by_cases hlt : k < d.length
    · have r4 := R3.out.below HB.out
      obtain ⟨b, o, rfl, hc⟩ := r4.at (by omega)
      have e1 := hc k hlt
      have HS := Lib.hid (bitsOf_take hlt)
      have z := HB.out.size
      have hbl : (bitsOf (d.take k)).length ≤ 8 * k := by rw [bitsOf_len]; have := List.length_take_le k d; omega
      obtain ⟨hb0, hb1⟩ := bt_rng d k
      clear hc r4
      go_wp2_with (first
        | ((with_reducible refine (lowest8 (bt d k) _).mono ?_); rintro e w3 ⟨u3, rfl, ho3, h3⟩
           obtain ⟨A4, c4, rfl, _, _, r4, _, _⟩ := ho3.open
           rw [lo_len]
           have r4 := Lib.hid r4
           have HO3 := Lib.hid (HO.out.below h3)
           have HB3 := Lib.hid (HB.out.trans (h3.mono z))
           have z3 := HB3.out.size
           clear ho3 h3 HO HB)
        | ((with_reducible refine wpList_appI _ rfl (.tmp 17) (.tmp 23) rfl w2.heap.size u (bitsOf (d.take k)) rfl HO3.out A4 8 c4 (lo (bt d k) 8) (by rw [lo_len]) rfl r4.out (by rw [lo_len]; omega) z3 ?_)
           intro v1 w4 ho1 hg1 _
           have HB5 := Lib.hid (HO3.out.grown HB3.out hg1 z3)
           have HO5 := Lib.hid ho1
           clear ho1 hg1 HO3 HB3 r4))
      go_roundw
      case rel => exact ⟨k + 1, v1, by omega, by go_num, rfl, (show Hid _ from by show Oi _ _ _ _; rw [HS.out]; exact HO5.out), HB5⟩
      case measure => simp [RowKit.intOf]; omega
    · have e : d.take k = d := List.take_of_length_le (by omega)
      rw [e, HDD.out] at HO
      clear e
      go_wp2
      go_ret
      exact ⟨u, rfl, HO.out.mono H2.out.size, H2.out.trans (HB.out.mono H2.out.size)⟩

theorem Oi.made (w : World) (base : Nat) (T : TypeId) (hb : base ≤ w.heap.size) : Oi (w.alloc (.cells #[] 3)) base (.slice (some ⟨w.heap.size, 0, none⟩) 0 0) [] := World.ownsRow_made w #[] 0 hb (Nat.zero_le _) rfl
theorem rep_succ (l : List Int) (k : Nat) : l ++ List.replicate (k + 1) 1 = l ++ List.replicate k 1 ++ [1] := by rw [List.replicate_succ', List.append_assoc]
set_option maxHeartbeats 1600000 in
theorem rBytes_any (l : List Int) (A : Option Addr) (c : Nat) (w : World) (hr : Ri w A l) (hb : Bit l) (hl : l.length ≤ 1000000) :
    Calls Tryd.prog 13 #[.slice A l.length c] w fun e w' => ∃ u, e = .returned u ∧ Ob w' w.heap.size u (stf (pack (pad l))) ∧ Below w.heap.size w w' := by
  have HM := Lib.hid (Oi.made w w.heap.size 3 (Nat.le_refl _))
  go_enter Tryd.func13, Tryd.ntmps13
  go_wp2_with (
    ((with_reducible refine wpList_appI _ rfl (.tmp 7) (.tmp 8) rfl w.heap.size (.slice (some ⟨w.heap.size, 0, none⟩) 0 0) [] rfl HM.out A l.length c l rfl rfl (hr.below ((Below.refl _ _).alloc (Nat.le_refl _) _)) (by simp; omega) (by simp) ?_)
     intro v1 w1 ho1 hg1 _
     have HB1 := Lib.hid (HM.out.grown ((Below.refl w.heap.size w).alloc (Nat.le_refl _) _) hg1 (by simp))
     rw [List.nil_append] at ho1
     have HO1 := Lib.hid ho1
     clear ho1 hg1 HM))
  go_loopw [0] (fun o wr => ∃ (k : Nat) (u : Value), k ≤ padN l.length ∧ u = o ∧ Hid (Oi wr w.heap.size u (l ++ List.replicate k 1)) ∧ Hid (Below w.heap.size w wr)) (fun o _ => padN l.length + l.length - (match o with | .slice _ n _ => n | _ => 0))
  case atStart => exact ⟨0, _, Nat.zero_le _, rfl, (show Hid _ from by show Oi _ _ _ _; rw [List.replicate_zero, List.append_nil]; exact HO1.out), HB1⟩
  case round =>
    obtain ⟨k, u, hk, rfl, HO, HB⟩ := hrel
    obtain ⟨m, hm⟩ : ∃ m, m = l ++ List.replicate k 1 := ⟨_, rfl⟩
    have hml : m.length = l.length + k := by rw [hm]; simp
    have hpn : padN l.length ≤ 7 := by unfold padN; omega
    rw [← hm] at HO
    obtain ⟨A2, c2, rfl, hc2, _, r2, hb2, hA2⟩ := HO.out.open
    have z := HB.out.size
    have HML := Lib.hid hml
    have HMM := Lib.hid hm
    have hmb : m.length ≤ 1000007 := by omega
    have R2 := Lib.hid r2
    have HB2 := Lib.hid hb2
    by_cases hlt : k < padN l.length
    · have hq : ((m.length : Int) % 8 != 0) = true := by rw [bne_iff_ne]; unfold padN at hlt; omega
      have r1 := Lib.hid (Ri.one wr 3 1)
      have HO2 := Lib.hid (HO.out.alloc (.cells #[.int .i64 1] 3))
      have HB3 := Lib.hid (HB.out.alloc z (.cells #[.int .i64 1] 3))
      clear hml hm r2 hb2 HB HO R2 HB2 HO1 HB1
      go_wp2_with (
        ((with_reducible refine wpList_appI _ rfl (.tmp 14) (.tmp 15) rfl w.heap.size (.slice A2 m.length c2) m rfl HO2.out (some ⟨wr.heap.size, 0, none⟩) 1 1 [1] rfl rfl r1.out (by simp; omega) (by simp; omega) ?_)
         intro v3 w3 ho3 hg3 _
         have HB4 := Lib.hid (HO2.out.grown HB3.out hg3 (by simp; omega))
         have HO4 := Lib.hid ho3
         clear ho3 hg3 HO2 HB3 r1))
      go_roundw
      case rel => exact ⟨k + 1, v3, by omega, rfl, (show Hid _ from by show Oi _ _ _ _; rw [rep_succ, ← HMM.out]; exact HO4.out), HB4⟩
      case measure =>
        obtain ⟨A5, c5, rfl, _, _, _, _, _⟩ := HO4.out.open
        have := HML.out
        simp
        omega
    · have hq : ((m.length : Int) % 8 != 0) = false := by rw [bne_eq_false_iff_eq]; unfold padN at hlt hk; omega
      have hpad : m = pad l := by rw [hm]; unfold pad; congr 2; omega
      obtain ⟨J, hJ⟩ : ∃ J, m.length = 8 * J := ⟨(l.length + 7) / 8, by rw [hpad, pad_8]⟩
      have HP := Lib.hid hpad
      have HJ := Lib.hid hJ
      have hbm : Bit m := by rw [hpad]; exact pad_bit hb
      have HBM := Lib.hid hbm
      have hJb : J ≤ 125001 := by omega
      have hJ1 : m.length ≤ 8 * J := by omega
      have hJ2 : 8 * J ≤ m.length := by omega
      clear hml hm r2 hb2 hpad hbm HO1 HB1 hJ HO
      go_wp2
      generalize hwa : wr = wa at *
      clear hwa wr
      go_loopw [3, 4] (fun o i wx => ∃ (j : Nat) (v : Value), j ≤ J ∧ i = .int .i64 (8 * (j : Int)) ∧ v = o ∧ Hid (Ob wx wa.heap.size v ((pack m).take j)) ∧ Hid (Below wa.heap.size wa wx)) (fun _ i _ => 8 * J - (RowKit.intOf i).toNat)
      case atStart => exact ⟨0, _, Nat.zero_le _, rfl, rfl, Ob.nil _ _, Below.refl _ _⟩
      case round =>
        obtain ⟨j, v, hj, rfl, rfl, HO, HB5⟩ := hrel
        by_cases hlt2 : j < J
        · have r5 := R2.out.below HB5.out
          obtain ⟨b, o, rfl, hc⟩ := r5.at (by omega)
          have HC := Lib.hid hc
          have z5 := HB5.out.size
          clear hc r5
          go_wp2
          go_loop [5, 6] (fun s5 s6 => ∃ (k2 : Nat) (y : Int), k2 ≤ 8 ∧ s6 = .int .i64 k2 ∧ s5 = .int .i64 y ∧ 0 ≤ y ∧ y ≤ 255 ∧ Hid (y = val ((m.drop (8 * j)).take k2))) (fun _ s6 => 8 - (RowKit.intOf s6).toNat)
          case atStart => exact ⟨0, 0, Nat.zero_le _, rfl, rfl, by decide, by decide, (show Hid _ from by show _ = _; simp [val_nil])⟩
          case round =>
            obtain ⟨k2, y, hk2, rfl, rfl, hy0, hy1, HY⟩ := hrel
            by_cases hlt3 : k2 < 8
            · have e1 := HC.out (8 * j + k2) (by omega)
              obtain ⟨x, hx⟩ : ∃ x, m.getD (8 * j + k2) 0 = x := ⟨_, rfl⟩
              have hxb := getB HBM.out (8 * j + k2)
              have hs := val_take_succ (l := m.drop (8 * j)) (k := k2) (by rw [List.length_drop]; omega)
              have hv := val_small ((HBM.out.drop (8 * j)).take (k2 + 1)) (k := 8) (by rw [List.length_take]; omega)
              have hgd : (m.drop (8 * j)).getD k2 0 = m.getD (8 * j + k2) 0 := by rw [List.getD_eq_getElem?_getD, List.getElem?_drop, List.getD_eq_getElem?_getD]
              rw [hs, ← HY.out, hgd, hx] at hv
              rw [hgd, hx] at hs
              rw [hx] at e1 hxb
              have HS := Lib.hid hs
              simp only [show (2 : Int) ^ 8 = 256 from rfl] at hv
              clear hs hx hgd
              go_wp2
              go_round
              case rel => exact ⟨k2 + 1, 2 * y + x, by omega, by go_num, by go_num, by omega, by omega, (show Hid _ from by show _ = _; rw [HS.out, HY.out])⟩
              case measure => simp [RowKit.intOf]; omega
            · obtain rfl : k2 = 8 := by omega
              have HT := Lib.hid (pack_take_succ (l := m) (k := j) (by omega))
              have hlp : ((pack m).take j).length ≤ j := List.length_take_le ..
              have r1 := Lib.hid (Rd.one wr 5 y (UInt8.ofNat y.toNat) (ofNat_num hy0 (by omega)).symm)
              have HO2 := Lib.hid (HO.out.alloc (.cells #[.int .u8 y] 5))
              have HB6 := Lib.hid (HB5.out.alloc z5 (.cells #[.int .u8 y] 5))
              clear HO HB5 HC
              go_wp2_with (
                ((with_reducible refine wpList_appB _ rfl (.tmp 36) (.tmp 39) rfl wa.heap.size v ((pack m).take j) rfl HO2.out (some ⟨wr.heap.size, 0, none⟩) 1 1 [UInt8.ofNat y.toNat] rfl rfl r1.out (by simp; omega) (by simp; omega) ?_)
                 intro v3 w3 ho3 hg3 _
                 have HB7 := Lib.hid (HO2.out.grown HB6.out hg3 (by simp; omega))
                 have HO4 := Lib.hid ho3
                 clear ho3 hg3 HO2 HB6 r1))
              go_roundw
              case rel =>
                refine ⟨j + 1, v3, by omega, by go_num, rfl, (show Hid _ from ?_), HB7⟩
                show Ob _ _ _ _
                rw [HT.out]
                have := HO4.out
                rw [HY.out] at this
                exact this
              case measure => simp [RowKit.intOf]; omega
        · have e : (pack m).take j = pack m := List.take_of_length_le (by rw [pack_len]; omega)
          rw [e, HP.out] at HO
          clear e
          obtain ⟨pl, hpl⟩ : ∃ pl, pl = pack (pad l) := ⟨_, rfl⟩
          have hpl2 : pl.length ≤ 125001 := by rw [hpl, pack_len, ← HP.out]; omega
          rw [← hpl] at HO
          have HPL := Lib.hid hpl
          clear hpl
          obtain ⟨A6, c6, rfl, _, _, r6, _, _⟩ := HO.out.open'
          go_wp2_with ((with_reducible refine (rStuff_any pl A6 c6 _ r6 (by omega)).mono ?_); rintro e w7 ⟨v7, rfl, ho7, h7⟩)
          go_ret
          have hz := HB.out.size
          have hz5 := HB5.out.size
          rw [HPL.out] at ho7
          exact ⟨v7, rfl, ho7.mono (by omega), (HB.out.trans (HB5.out.mono hz)).trans (h7.mono (by omega))⟩
end Go.Proofs.YthidhgobocihpaaDoor
