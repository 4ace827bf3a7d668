/- BitM: the texts New, Ref3, Ref4, Ref5, Ref6, Rdr, RdrA, Wtr, Done in one. -/
import Derived.Test.YtkkkonmbbdhdhaaGreatDoorStf
/- Contracts of bits.Plain, bits.New; a Reader in memory. -/
namespace Go.Proofs.YtkkkonmbbdhdhaaGreatDoor
open Go.RowKit Go.Lib
set_option linter.unusedVariables false
set_option maxRecDepth 100000

theorem winA_none {A : Option Addr} {c x : Nat} (hA : A = none → c = 0) : winA A c x = none → c = 0 := by
  intro h
  apply hA
  unfold winA at h
  split at h
  · exact h
  · cases A with
    | none => rfl
    | some a => cases h
theorem unst_n (l : List UInt8) (A : Option Addr) (n c : Nat) (w : World) (hn : n = l.length) (hw : Env w) (hr : Rd w A l) (hcap : n ≤ c) (hA : A = none → c = 0) (hl : n ≤ 100000000) :
    Calls Tryz.prog 24 #[.slice A n c] w fun e w' => ∃ v, e = .returned v ∧ Ob w' w.heap.size v (ustF false l) ∧ Below w.heap.size w w' := by
  subst hn; exact unst_any l A c w hw hr hcap hA hl

/-- A Reader in block q: its bytes, the bit that is next. -/
structure Rdr (w : World) (q : Nat) (d : List UInt8) (k : Nat) : Prop where
  ex : ∃ A c, w.cell? ⟨q, 0, none⟩ = some (.slice A d.length c) ∧ d.length ≤ c ∧ Rd w A d ∧ (∀ b o s, A = some ⟨b, o, s⟩ → b ≠ q ∧ b < w.heap.size)
  nx : w.cell? ⟨q, 1, none⟩ = some (.int .i64 k)
  fr : w.frozen? ⟨q, 1, none⟩ = false
theorem Rdr.lt {w : World} {q : Nat} {d : List UInt8} {k : Nat} (h : Rdr w q d k) : q < w.heap.size := World.block_lt_of_cell? w _ h.nx
theorem Rdr.below {w w' : World} {q : Nat} {d : List UInt8} {k : Nat} (h : Rdr w q d k) (hb : Below w.heap.size w w') : Rdr w' q d k := by
  obtain ⟨A, c, h1, h2, h3, h4⟩ := h.ex
  exact ⟨⟨A, c, cell_later hb h1, h2, h3.below hb, fun b o s e => ⟨(h4 b o s e).1, Nat.lt_of_lt_of_le (h4 b o s e).2 hb.size⟩⟩, cell_later hb h.nx, (hb.frozen (p := ⟨q, 1, none⟩) h.lt).trans h.fr⟩

theorem new_any (l : List UInt8) (A : Option Addr) (c : Nat) (w : World) (hw : Env w) (hr : Rd w A l) (hcap : l.length ≤ c) (hA : A = none → c = 0) (hl : l.length ≤ 100000000) :
    Calls Tryz.prog 7 #[.slice A l.length c] w fun e w' => ∃ q, e = .returned (.pointer (some ⟨q, 0, none⟩)) ∧ Rdr w' q (ustF false (l.take (dat l))) 0 ∧ w.heap.size ≤ q ∧ Below w.heap.size w w' := by
  have h := dataLen_any l A c w hr hcap hl
  have hd := dat_le l
  have hs := fun W => run_win_h A l.length c (dat l) (dat l : Int) rfl (by omega) W
  have rW := Lib.hid (by have := hr.win c 0 (dat l) hcap; rwa [List.drop_zero] at this : Rd w (winA A c 0) (l.take (dat l)))
  have hn : Hid (dat l = (l.take (dat l)).length) := by show _ = _; rw [List.length_take]; omega
  have hA2 := Lib.hid (winA_none (x := 0) hA)
  go_enter Tryz.func7, Tryz.ntmps7
  go_wp2_with fail
  (with_reducible refine h.mono ?_); rintro e w1 ⟨rfl, h1⟩
  go_wp2_with fail
  (with_reducible refine (unst_n (l.take (dat l)) (winA A c 0) (dat l) c _ hn.out (hw.below h1) (rW.out.below h1) (by omega) hA2.out (by omega)).mono ?_); rintro e w2 ⟨v, rfl, hv, h2⟩
  obtain ⟨A3, c3, rfl, hc3, _, r3, hb3, _⟩ := hv.open'
  clear hv
  go_wp2
  go_ret
  have hb2 : Below w.heap.size w w2 := h1.trans (h2.mono h1.size)
  refine ⟨w2.heap.size, rfl, ⟨⟨A3, c3, by go_cell, hc3, r3.alloc _, fun b o s e => by have := hb3 b o s e; simp; omega⟩, by go_cell, by go_cell⟩, hb2.size, hb2.alloc hb2.size _⟩
end Go.Proofs.YtkkkonmbbdhdhaaGreatDoor
/- Contracts of the document's Stuff, Data, Bare, Same. -/
namespace Go.Proofs.YtkkkonmbbdhdhaaGreatDoor
open Go.RowKit Go.Lib
set_option linter.unusedVariables false
set_option maxRecDepth 100000

theorem Ob.alloc {w : World} {base : Nat} {v : Value} {l : List UInt8} (h : Ob w base v l) (o : Obj) : Ob (w.alloc o) base v l := h.below ((Below.refl _ _).alloc (Nat.le_refl _) o)
theorem Oi.alloc {w : World} {base : Nat} {v : Value} {l : List Int} (h : Oi w base v l) (o : Obj) : Oi (w.alloc o) base v l := h.below ((Below.refl _ _).alloc (Nat.le_refl _) o)
theorem Ob.grown {w0 w w1 : World} {base : Nat} {v : Value} {l : List UInt8} (ho : Ob w base v l) (hb : Below base w0 w) (hg : w.grownBy w1 v.ownBlock) (hs : base ≤ w.heap.size) : Below base w0 w1 := hb.grown hg hs (fun k hk => (ho.at k hk).1)
theorem Oi.grown {w0 w w1 : World} {base : Nat} {v : Value} {l : List Int} (ho : Oi w base v l) (hb : Below base w0 w) (hg : w.grownBy w1 v.ownBlock) (hs : base ≤ w.heap.size) : Below base w0 w1 := hb.grown hg hs (fun k hk => (ho.at k hk).1)
theorem Rd.at' {w : World} {b o : Nat} {l : List UInt8} (h : Rd w (some ⟨b, o, none⟩) l) (i : Nat) (hi : i < l.length) : w.cell? ⟨b, o + i, none⟩ = some (.int .u8 (bt l i)) := by
  obtain ⟨b', o', e, hc⟩ := h.at (by omega)
  cases e
  exact hc i hi
theorem take_snoc {α : Type} [Inhabited α] (l : List α) (k : Nat) (h : k < l.length) (z : α) : l.take (k + 1) = l.take k ++ [l.getD k z] := by
  rw [List.take_add_one, List.getD_eq_getElem?_getD, List.getElem?_eq_getElem h]
  rfl
theorem stf_take (l : List UInt8) (k : Nat) (h : k < l.length) : stf (l.take (k + 1)) = stf (l.take k) ++ if bt l k = 255 then [l.getD k 0] ++ [0] else [l.getD k 0] := by
  rw [take_snoc l k h 0, stf_append]
  congr 1
  have e : l.getD k 0 = l[k] := by rw [List.getD_eq_getElem?_getD, List.getElem?_eq_getElem h]; rfl
  rw [e]
  by_cases h5 : bt l k = 255
  · rw [if_pos h5, (bt_255 h).1 h5]; rfl
  · rw [if_neg h5, stf, if_neg ((not_congr (bt_255 h)).1 h5)]; rfl

end Go.Proofs.YtkkkonmbbdhdhaaGreatDoor
/- Contracts of the document's Bare, Data, Same, Lowest, Number. -/
namespace Go.Proofs.YtkkkonmbbdhdhaaGreatDoor
open Go.RowKit Go.Lib
set_option linter.unusedVariables false
set_option maxRecDepth 100000

theorem bareT (l : List UInt8) : bareF true l = bareF false (l.drop 1) := by
  cases l with
  | nil => rfl
  | cons c l => rw [bareF, if_pos rfl]; rfl
theorem getD_at {l : List UInt8} {k : Nat} (h : k < l.length) : l.getD k 0 = l[k] := by rw [List.getD_eq_getElem?_getD, List.getElem?_eq_getElem h]; rfl
theorem bare_yes {l : List UInt8} {k : Nat} (h : k < l.length) (h5 : bt l k = 255) : bareF false (l.drop k) = [l.getD k 0] ++ bareF false (l.drop (k + 2)) := by
  rw [drop_cons l k h, bareF, if_neg (by simp), decide_eq_true ((bt_255 h).1 h5), bareT, List.drop_drop, getD_at h]
  rfl
theorem bare_no {l : List UInt8} {k : Nat} (h : k < l.length) (h5 : ¬ bt l k = 255) : bareF false (l.drop k) = [l.getD k 0] ++ bareF false (l.drop (k + 1)) := by
  rw [drop_cons l k h, bareF, if_neg (by simp), decide_eq_false ((not_congr (bt_255 h)).1 h5), getD_at h]
  rfl
set_option maxHeartbeats 800000 in
theorem rBare_any (l : List UInt8) (A : Option Addr) (c : Nat) (w : World) (hr : Rd w A l) (hl : l.length ≤ 100000000) :
    Calls Tryz.prog 27 #[.slice A l.length c] w fun e w' => ∃ v, e = .returned v ∧ Ob w' w.heap.size v (bareF false l) ∧ Below w.heap.size w w' := by
  go_enter Tryz.func27, Tryz.ntmps27
  go_wp2
  go_loopw [3, 4] (fun o i wr => ∃ (k : Nat) (v : Value) (acc : List UInt8), k ≤ l.length + 1 ∧ i = .int .i64 k ∧ v = o ∧ acc.length ≤ k ∧ Hid (acc ++ bareF false (l.drop k) = bareF false l) ∧ Hid (Ob wr w.heap.size v acc) ∧ Hid (Below w.heap.size w wr)) (fun _ i _ => l.length + 1 - (RowKit.intOf i).toNat)
  case atStart => exact ⟨0, _, [], Nat.zero_le _, rfl, rfl, Nat.le_refl _, (show Hid _ from by show _ = _; simp), Ob.nil _ _, Below.refl _ _⟩
  case round =>
    obtain ⟨k, v, acc, hk, rfl, rfl, hal, HE, HO, HB⟩ := hrel
    by_cases hlt : k < l.length
    · obtain ⟨b, o, rfl, hc⟩ := hr.at (by omega)
      have e1 := cell_later HB.out (hc k hlt)
      have z := HB.out.size
      have r1 := Lib.hid (Rd.one wr 5 (bt l k) (l.getD k 0) rfl)
      have HO1 := Lib.hid (HO.out.alloc (.cells #[.int .u8 (bt l k)] 5))
      have HB1 := Lib.hid (HB.out.alloc z (.cells #[.int .u8 (bt l k)] 5))
      clear HO HB hc
      by_cases h5 : bt l k = 255
      · have hq : (bt l k == 255) = true := by rw [h5]; rfl
        have hst := Lib.hid (bare_yes hlt h5)
        clear h5
        go_wp2_with (
          ((with_reducible refine wpList_appB _ rfl (.tmp 11) (.tmp 16) rfl w.heap.size v acc rfl HO1.out (some ⟨wr.heap.size, 0, none⟩) 1 1 [l.getD k 0] rfl rfl r1.out (by simp; omega) (by simp; omega) ?_)
           intro v1 w1 ho1 hg1 _
           have HB2 := Lib.hid (HO1.out.grown HB1.out hg1 (by simp; omega))
           have e2 := cell_later HB2.out (hr.at' k hlt)
           have HO2 := Lib.hid ho1
           clear ho1 hg1 HO1 HB1 r1))
        go_roundw
        case rel => exact ⟨k + 2, v1, acc ++ [l.getD k 0], by omega, by go_num, rfl, by rw [List.length_append]; simp; omega, (show Hid _ from by show _ = _; rw [List.append_assoc, ← hst.out]; exact HE.out), HO2, HB2⟩
        case measure => simp [RowKit.intOf]; omega
      · have hq : (bt l k == 255) = false := by rw [beq_eq_false_iff_ne]; exact h5
        have hst := Lib.hid (bare_no hlt h5)
        clear h5
        go_wp2_with (
          ((with_reducible refine wpList_appB _ rfl (.tmp 11) (.tmp 16) rfl w.heap.size v acc rfl HO1.out (some ⟨wr.heap.size, 0, none⟩) 1 1 [l.getD k 0] rfl rfl r1.out (by simp; omega) (by simp; omega) ?_)
           intro v1 w1 ho1 hg1 _
           have HB2 := Lib.hid (HO1.out.grown HB1.out hg1 (by simp; omega))
           have e2 := cell_later HB2.out (hr.at' k hlt)
           have HO2 := Lib.hid ho1
           clear ho1 hg1 HO1 HB1 r1))
        go_roundw
        case rel => exact ⟨k + 1, v1, acc ++ [l.getD k 0], by omega, by go_num, rfl, by rw [List.length_append]; simp; omega, (show Hid _ from by show _ = _; rw [List.append_assoc, ← hst.out]; exact HE.out), HO2, HB2⟩
        case measure => simp [RowKit.intOf]; omega
    · have e : acc = bareF false l := by
        have := HE.out
        rwa [List.drop_eq_nil_of_le (by omega), bareF, List.append_nil] at this
      rw [e] at HO
      clear e HE
      go_wp2
      go_ret
      exact ⟨v, rfl, HO.out, HB.out⟩

theorem dat_end {l : List UInt8} {k : Nat} (h : k < l.length) (h5 : bt l k = 255) (hn : ¬ (k + 1 < l.length ∧ bt l (k + 1) = 0)) : dat (l.drop k) = 0 := by
  rw [drop_cons l k h]
  refine dat_no ⟨(bt_255 h).1 h5, fun e => hn ?_⟩
  rcases Nat.lt_or_ge (k + 1) l.length with h1 | h1
  · rw [drop_cons l (k + 1) h1] at e
    exact ⟨h1, (bt_0 h1).2 (by simpa only [List.head?_cons, Option.some.injEq] using e)⟩
  · rw [List.drop_eq_nil_of_le h1] at e
    cases e
theorem dat_two {l : List UInt8} {k : Nat} (h : k + 1 < l.length) (h5 : bt l k = 255) (h0 : bt l (k + 1) = 0) : dat (l.drop k) = 2 + dat (l.drop (k + 2)) := by
  have e0 : l[k + 1] = 0 := (bt_0 h).1 h0
  rw [drop_cons l k (by omega), drop_cons l (k + 1) h, e0, dat_yes (by simp), dat_zero_cons, Nat.add_assoc k 1 1]
  omega
theorem dat_one {l : List UInt8} {k : Nat} (h : k < l.length) (h5 : ¬ bt l k = 255) : dat (l.drop k) = 1 + dat (l.drop (k + 1)) := by
  rw [drop_cons l k h, dat_yes (by intro e; exact (not_congr (bt_255 h)).1 h5 e.1)]
theorem rData_any (l : List UInt8) (A : Option Addr) (c : Nat) (w : World) (hr : Rd w A l) (hl : l.length ≤ 100000000) :
    Calls Tryz.prog 28 #[.slice A l.length c] w fun e w' => e = .returned (.int .i64 (dat l)) ∧ w = w' := by
  go_enter Tryz.func28, Tryz.ntmps28
  go_wp2
  go_loop [3] (fun i => ∃ k : Nat, k ≤ l.length ∧ i = .int .i64 k ∧ Hid (dat l = k + dat (l.drop k))) (fun i => l.length - (RowKit.intOf i).toNat)
  case atStart => exact ⟨0, Nat.zero_le _, rfl, (show Hid _ from by show _ = _; simp)⟩
  case round =>
    obtain ⟨k, hk, rfl, HD⟩ := hrel
    by_cases hlt : k < l.length
    · obtain ⟨b, o, rfl, hc⟩ := hr.at (by omega)
      have e1 := hc k hlt
      by_cases h5 : bt l k = 255
      · have hq : (bt l k == 255) = true := by rw [h5]; rfl
        by_cases h1 : k + 1 < l.length
        · have e2 := hc (k + 1) h1
          have hg : decide ((l.length : Int) ≤ (k : Int) + 1) = false := by rw [decide_eq_false_iff_not]; omega
          by_cases h0 : bt l (k + 1) = 0
          · have hq2 : (bt l (k + 1) != 0) = false := by rw [h0]; rfl
            have HS := Lib.hid (dat_two h1 h5 h0)
            clear h5 h0 hc
            go_wp2
            go_round
            case rel => exact ⟨k + 2, by omega, by go_num, (show Hid _ from by show _ = _; rw [HD.out, HS.out]; omega)⟩
            case measure => simp [RowKit.intOf]; omega
          · have hq2 : (bt l (k + 1) != 0) = true := by rw [bne_iff_ne]; exact h0
            have HS := Lib.hid (dat_end hlt h5 (fun h => h0 h.2))
            clear h5 h0 hc
            go_wp2
            go_ret
            exact ⟨ret_int (by rw [HD.out, HS.out]; simp), rfl⟩
        · have hg : decide ((l.length : Int) ≤ (k : Int) + 1) = true := by rw [decide_eq_true_iff]; omega
          have HS := Lib.hid (dat_end hlt h5 (fun h => h1 h.1))
          clear h5 hc
          go_wp2
          go_ret
          exact ⟨ret_int (by rw [HD.out, HS.out]; simp), rfl⟩
      · have hq : (bt l k == 255) = false := by rw [beq_eq_false_iff_ne]; exact h5
        have HS := Lib.hid (dat_one hlt h5)
        clear h5 hc
        go_wp2
        go_round
        case rel => exact ⟨k + 1, by omega, by go_num, (show Hid _ from by show _ = _; rw [HD.out, HS.out]; omega)⟩
        case measure => simp [RowKit.intOf]; omega
    · have hk2 : Hid (dat l = l.length) := by
        show _ = _
        rw [HD.out, List.drop_eq_nil_of_le (by omega)]
        simp [dat]
        omega
      go_wp2
      go_ret
      exact ⟨ret_int (by rw [hk2.out]), rfl⟩
end Go.Proofs.YtkkkonmbbdhdhaaGreatDoor
/- Contracts of the document's Lowest, Number, Bits, Bytes: bits as ints. -/
namespace Go.Proofs.YtkkkonmbbdhdhaaGreatDoor
open Go.RowKit Go.Lib
set_option linter.unusedVariables false
set_option maxRecDepth 100000

theorem and_mask (n m : Int) (j : Nat) (h : (BitVec.ofInt 64 m).toNat = 2 ^ j - 1) (h64 : (2 : Int) ^ j ∣ 18446744073709551616) (hj : (2 : Int) ^ j ≤ 9223372036854775808) : bits .and .i64 n m = n % 2 ^ j := by
  have key : (BitVec.ofInt 64 n &&& BitVec.ofInt 64 m).toNat = (n % ((2 ^ 64 : Nat) : Int)).toNat % 2 ^ j := by
    rw [BitVec.toNat_and, BitVec.toNat_ofInt, h, Nat.and_two_pow_sub_one_eq_mod]
  show IntKind.i64.wrap ((BitVec.ofInt 64 n &&& BitVec.ofInt 64 m).toNat : Nat) = n % 2 ^ j
  rw [key, IntKind.wrap_i64]
  have hp : (0 : Int) < 2 ^ j := Int.pow_pos (by decide)
  have h1 : ((((n % ((2 ^ 64 : Nat) : Int)).toNat % 2 ^ j : Nat)) : Int) = n % 2 ^ j := by
    rw [Int.natCast_emod, Int.toNat_of_nonneg (Int.emod_nonneg _ (by decide))]
    rw [show (((2 ^ j : Nat)) : Int) = (2 : Int) ^ j from by simp]
    exact Int.emod_emod_of_dvd n h64
  rw [h1]
  have := Int.emod_nonneg n (show (2 : Int) ^ j ≠ 0 by omega)
  have := Int.emod_lt_of_pos n hp
  omega
theorem and1 (n : Int) : bits .and .i64 n 1 = n % 2 := and_mask n 1 1 (by decide) (by decide) (by decide)

theorem lo_take {v : Int} {n k : Nat} (h : k < n) : (lo v n).take (k + 1) = (lo v n).take k ++ [v / 2 ^ (n - 1 - k) % 2] := by
  rw [List.take_add_one, lo_get h]
  rfl
set_option maxHeartbeats 800000 in
theorem lowest_any (v : Int) (n : Nat) (w : World) (hn : n ≤ 16) :
    Calls Tryz.prog 29 #[.int .i64 v, .int .i64 n] w fun e w' => ∃ u, e = .returned u ∧ Oi w' w.heap.size u (lo v n) ∧ Below w.heap.size w w' := by
  go_enter Tryz.func29, Tryz.ntmps29
  go_wp2
  go_loopw [5, 6] (fun o i wr => ∃ (k : Nat) (u : Value), k ≤ n ∧ i = .int .i64 ((n : Int) - 1 - k) ∧ u = o ∧ Hid (Oi wr w.heap.size u ((lo v n).take k)) ∧ Hid (Below w.heap.size w wr)) (fun _ i _ => (RowKit.intOf i + 1).toNat)
  case atStart => exact ⟨0, _, Nat.zero_le _, by go_num, rfl, Oi.nil _ _, Below.refl _ _⟩
  case round =>
    obtain ⟨k, u, hk, rfl, rfl, HO, HB⟩ := hrel
    by_cases hlt : k < n
    · have z := HB.out.size
      have htk : ((lo v n).take k).length ≤ k := List.length_take_le ..
      have HS := Lib.hid (lo_take (v := v) hlt)
      have r1 := Lib.hid (Ri.one wr 3 (bits BinOp.and IntKind.i64 (v / 2 ^ (n - 1 - k)) 1))
      have HO1 := Lib.hid (HO.out.alloc (.cells #[.int .i64 (bits BinOp.and IntKind.i64 (v / 2 ^ (n - 1 - k)) 1)] 3))
      have HB1 := Lib.hid (HB.out.alloc z (.cells #[.int .i64 (bits BinOp.and IntKind.i64 (v / 2 ^ (n - 1 - k)) 1)] 3))
      clear HO HB
      go_wp2_with (
        ((with_reducible refine wpList_appI _ rfl (.tmp 13) (.tmp 18) rfl w.heap.size u ((lo v n).take k) rfl HO1.out (some ⟨wr.heap.size, 0, none⟩) 1 1 [bits BinOp.and IntKind.i64 (v / 2 ^ (n - 1 - k)) 1] rfl rfl r1.out (by simp; omega) (by simp; omega) ?_)
         intro v1 w1 ho1 hg1 _
         have HB2 := Lib.hid (HO1.out.grown HB1.out hg1 (by simp; omega))
         rw [and1] at ho1
         have HO2 := Lib.hid ho1
         clear ho1 hg1 HO1 HB1 r1))
      go_roundw
      case rel => exact ⟨k + 1, v1, by omega, by go_num, rfl, (show Hid _ from by show Oi _ _ _ _; rw [HS.out]; exact HO2.out), HB2⟩
      case measure => simp [RowKit.intOf]; omega
    · have e : (lo v n).take k = lo v n := List.take_of_length_le (by rw [lo_len]; omega)
      rw [e] at HO
      clear e
      go_wp2
      go_ret
      exact ⟨u, rfl, HO.out, HB.out⟩

theorem Ri.at {w : World} {A : Option Addr} {l : List Int} (h : Ri w A l) (hn : 0 < l.length) : ∃ b o, A = some ⟨b, o, none⟩ ∧ ∀ i, i < l.length → w.cell? ⟨b, o + i, none⟩ = some (.int .i64 (l.getD i 0)) :=
  h.resolve_left fun e => by rw [e] at hn; simp at hn
theorem getB {l : List Int} (h : Bit l) (k : Nat) : 0 ≤ l.getD k 0 ∧ l.getD k 0 ≤ 1 := by
  rw [List.getD_eq_getElem?_getD]
  rcases Nat.lt_or_ge k l.length with h1 | h1
  · rw [List.getElem?_eq_getElem h1]
    have := h l[k] (List.getElem_mem h1)
    show 0 ≤ l[k] ∧ l[k] ≤ 1
    omega
  · rw [List.getElem?_eq_none h1]; decide
theorem val_take_succ {l : List Int} {k : Nat} (h : k < l.length) : val (l.take (k + 1)) = 2 * val (l.take k) + l.getD k 0 := by rw [take_snoc l k h 0, val_snoc]
theorem val_small {l : List Int} (h : Bit l) {k : Nat} (hk : l.length ≤ k) : 0 ≤ val l ∧ val l < 2 ^ k := by
  have h1 := val_rng h
  have h3 : (2 : Int) ^ l.length ≤ 2 ^ k := by exact_mod_cast Nat.pow_le_pow_right (by decide : 0 < 2) hk
  omega
end Go.Proofs.YtkkkonmbbdhdhaaGreatDoor
/- Contracts of the document's Bits, Bytes. -/
namespace Go.Proofs.YtkkkonmbbdhdhaaGreatDoor
open Go.RowKit Go.Lib
set_option linter.unusedVariables false
set_option maxRecDepth 100000

theorem Oi.mono {w : World} {base base' : Nat} {v : Value} {l : List Int} (h : Oi w base v l) (hb : base' ≤ base) : Oi w base' v l := by
  obtain ⟨h1, h2⟩ := h
  refine ⟨h1, ?_⟩
  rcases h2 with h2 | ⟨g, cap, cur, hv, hg, r⟩
  · exact .inl h2
  · exact .inr ⟨g, cap, cur, hv, by omega, r⟩
theorem rBare_n (l : List UInt8) (A : Option Addr) (n c : Nat) (w : World) (hn : n = l.length) (hr : Rd w A l) (hl : n ≤ 100000000) :
    Calls Tryz.prog 27 #[.slice A n c] w fun e w' => ∃ v, e = .returned v ∧ Ob w' w.heap.size v (bareF false l) ∧ Below w.heap.size w w' := by
  subst hn; exact rBare_any l A c w hr hl
theorem bare_len (f : Bool) (l : List UInt8) : (bareF f l).length ≤ l.length := by
  induction l generalizing f with
  | nil => exact Nat.le_refl _
  | cons c l ih =>
    rw [bareF]
    split
    · have := ih false; simp; omega
    · have := ih (decide (c = 255)); simp; omega
theorem bitsOf_take {d : List UInt8} {k : Nat} (h : k < d.length) : bitsOf (d.take (k + 1)) = bitsOf (d.take k) ++ lo (bt d k) 8 := by
  rw [take_snoc d k h 0, bitsOf_append]
  simp [bitsOf, bt]
theorem lowest8 (v : Int) (w : World) : Calls Tryz.prog 29 #[.int .i64 v, .int .i64 8] w fun e w' => ∃ u, e = .returned u ∧ Oi w' w.heap.size u (lo v 8) ∧ Below w.heap.size w w' := lowest_any v 8 w (by decide)
set_option maxHeartbeats 1600000 in
theorem rBits_any (l : List UInt8) (A : Option Addr) (c : Nat) (w : World) (hr : Rd w A l) (hcap : l.length ≤ c) (hl : l.length ≤ 1000000) :
    Calls Tryz.prog 9 #[.slice A l.length c] w fun e w' => ∃ u, e = .returned u ∧ Oi w' w.heap.size u (bitsOf (bareF false (l.take (dat l)))) ∧ Below w.heap.size w w' := by
  have hd := dat_le l
  have hs := fun W => run_win_h A l.length c (dat l) (dat l : Int) rfl (by omega) W
  have rW := Lib.hid (by have := hr.win c 0 (dat l) hcap; rwa [List.drop_zero] at this : Rd w (winA A c 0) (l.take (dat l)))
  have hn : Hid (dat l = (l.take (dat l)).length) := by show _ = _; rw [List.length_take]; omega
  go_enter Tryz.func9, Tryz.ntmps9
  go_wp2_with fail
  (with_reducible refine (rData_any l A c _ hr (by omega)).mono ?_); rintro e w1 ⟨rfl, rfl⟩
  go_wp2_with fail
  (with_reducible refine (rBare_n (l.take (dat l)) (winA A c 0) (dat l) c _ hn.out rW.out (by omega)).mono ?_); rintro e w2 ⟨v, rfl, hv, h2⟩
  obtain ⟨d, hdd⟩ : ∃ d, d = bareF false (l.take (dat l)) := ⟨_, rfl⟩
  rw [← hdd] at hv
  have hdl : d.length ≤ l.length := by rw [hdd]; have := bare_len false (l.take (dat l)); have := hn.out; omega
  have HDD := Lib.hid hdd
  clear hdd hs
  obtain ⟨A3, c3, rfl, hc3, _, r3, hb3, _⟩ := hv.open'
  have R3 := Lib.hid r3
  have H2 := Lib.hid h2
  clear hv r3 h2 hb3
  go_wp2
  go_loopw [4, 5] (fun o i wr => ∃ (k : Nat) (u : Value), k ≤ d.length ∧ i = .int .i64 k ∧ u = o ∧ Hid (Oi wr w2.heap.size u (bitsOf (d.take k))) ∧ Hid (Below w2.heap.size w2 wr)) (fun _ i _ => d.length - (RowKit.intOf i).toNat)
  case atStart => exact ⟨0, _, Nat.zero_le _, rfl, rfl, Oi.nil _ _, Below.refl _ _⟩
  case round =>
    obtain ⟨k, u, hk, rfl, rfl, HO, HB⟩ := hrel
    by_cases hlt : k < d.length
    · have r4 := R3.out.below HB.out
      obtain ⟨b, o, rfl, hc⟩ := r4.at (by omega)
      have e1 := hc k hlt
      have HS := Lib.hid (bitsOf_take hlt)
      have z := HB.out.size
      have hbl : (bitsOf (d.take k)).length ≤ 8 * k := by rw [bitsOf_len]; have := List.length_take_le k d; omega
      obtain ⟨hb0, hb1⟩ := bt_rng d k
      clear hc r4
      go_wp2_with (first
        | ((with_reducible refine (lowest8 (bt d k) _).mono ?_); rintro e w3 ⟨u3, rfl, ho3, h3⟩
           obtain ⟨A4, c4, rfl, _, _, r4, _, _⟩ := ho3.open
           rw [lo_len]
           have r4 := Lib.hid r4
           have HO3 := Lib.hid (HO.out.below h3)
           have HB3 := Lib.hid (HB.out.trans (h3.mono z))
           have z3 := HB3.out.size
           clear ho3 h3 HO HB)
        | ((with_reducible refine wpList_appI _ rfl (.tmp 17) (.tmp 23) rfl w2.heap.size u (bitsOf (d.take k)) rfl HO3.out A4 8 c4 (lo (bt d k) 8) (by rw [lo_len]) rfl r4.out (by rw [lo_len]; omega) z3 ?_)
           intro v1 w4 ho1 hg1 _
           have HB5 := Lib.hid (HO3.out.grown HB3.out hg1 z3)
           have HO5 := Lib.hid ho1
           clear ho1 hg1 HO3 HB3 r4))
      go_roundw
      case rel => exact ⟨k + 1, v1, by omega, by go_num, rfl, (show Hid _ from by show Oi _ _ _ _; rw [HS.out]; exact HO5.out), HB5⟩
      case measure => simp [RowKit.intOf]; omega
    · have e : d.take k = d := List.take_of_length_le (by omega)
      rw [e, HDD.out] at HO
      clear e
      go_wp2
      go_ret
      exact ⟨u, rfl, HO.out.mono H2.out.size, H2.out.trans (HB.out.mono H2.out.size)⟩

theorem Oi.made (w : World) (base : Nat) (T : TypeId) (hb : base ≤ w.heap.size) : Oi (w.alloc (.cells #[] 3)) base (.slice (some ⟨w.heap.size, 0, none⟩) 0 0) [] := World.ownsRow_made w #[] 0 hb (Nat.zero_le _) rfl
theorem rep_succ (l : List Int) (k : Nat) : l ++ List.replicate (k + 1) 1 = l ++ List.replicate k 1 ++ [1] := by rw [List.replicate_succ', List.append_assoc]
end Go.Proofs.YtkkkonmbbdhdhaaGreatDoor
/- Contracts of a Reader's calls. -/
namespace Go.Proofs.YtkkkonmbbdhdhaaGreatDoor
open Go.RowKit Go.Lib
set_option linter.unusedVariables false
set_option maxRecDepth 100000

theorem isCount_yes (n : Nat) (w : World) (h : n ≤ 16) : Calls Tryz.prog 42 #[.int .i64 n] w fun e w' => e = .returned (.bool true) ∧ w = w' := by
  have hq : decide ((n : Int) ≤ 16) = true := by rw [decide_eq_true_iff]; omega
  go_enter Tryz.func42, Tryz.ntmps42
  go_wp2
  go_ret
  exact ⟨rfl, rfl⟩
theorem isCount_no (n : Int) (w : World) (h : n < 0 ∨ 16 < n) : Calls Tryz.prog 42 #[.int .i64 n] w fun e w' => e = .returned (.bool false) ∧ w = w' := by
  by_cases h0 : 0 ≤ n
  · have h1 : decide (n ≤ 16) = false := by rw [decide_eq_false_iff_not]; omega
    clear h
    go_enter Tryz.func42, Tryz.ntmps42
    go_wp2
    go_ret
    exact ⟨rfl, rfl⟩
  · have h1 : n < 0 := by omega
    clear h h0
    go_enter Tryz.func42, Tryz.ntmps42
    go_wp2
    go_ret
    exact ⟨rfl, rfl⟩
theorem pow_le16 {n : Nat} (h : n ≤ 16) : (1 : Int) ≤ 2 ^ n ∧ (2 : Int) ^ n ≤ 65536 := by
  have h3 : (2 : Int) ^ n ≤ 2 ^ 16 := by exact_mod_cast Nat.pow_le_pow_right (by decide : 0 < 2) h
  have h0 := pow2_pos n
  have h4 : (2 : Int) ^ 16 = 65536 := rfl
  omega
theorem ones_any (n : Nat) (w : World) (h : n ≤ 16) : Calls Tryz.prog 35 #[.int .i64 n] w fun e w' => e = .returned (.int .i64 (2 ^ n - 1)) ∧ w = w' := by
  have hp := pow_le16 h
  obtain ⟨p, hpp⟩ : ∃ p : Int, (2 : Int) ^ n = p := ⟨_, rfl⟩
  rw [hpp] at hp
  obtain ⟨hp0, hp1⟩ := hp
  go_enter Tryz.func35, Tryz.ntmps35
  go_wp2
  go_ret
  exact ⟨ret_int (by rw [hpp]), rfl⟩

theorem left_any (q : Nat) (d : List UInt8) (k : Nat) (w : World) (h : Rdr w q d k) (hd : d.length ≤ 100000000) (hk : k ≤ 8 * d.length) :
    Calls Tryz.prog 11 #[.pointer (some ⟨q, 0, none⟩)] w fun e w' => e = .returned (.int .i64 ((d.length : Int) * 8 - k)) ∧ ∃ n, w' = w.drewN n := by
  obtain ⟨A, c, h1, _⟩ := h.ex
  have h2 := h.nx
  go_enter Tryz.func11, Tryz.ntmps11
  go_wp2
  go_quiet (fail)
  go_wp2
  go_ret
  exact ⟨rfl, _, rfl⟩
theorem left_nil (w : World) : Calls Tryz.prog 11 #[.pointer none] w fun e w' => e = .returned (.int .i64 0) ∧ w = w' := by
  go_enter Tryz.func11, Tryz.ntmps11
  go_wp2
  go_ret
  exact ⟨rfl, rfl⟩

theorem Rdr.step {w w' : World} {q : Nat} {d : List UInt8} {k j : Nat} (h : Rdr w q d k) (hc : Chg (fun i => i = q) w w') (h1 : w'.cell? ⟨q, 0, none⟩ = w.cell? ⟨q, 0, none⟩) (h2 : w'.cell? ⟨q, 1, none⟩ = some (.int .i64 j)) (h3 : w'.frozen? ⟨q, 1, none⟩ = false) : Rdr w' q d j := by
  obtain ⟨A, c, e1, e2, e3, e4⟩ := h.ex
  exact ⟨⟨A, c, h1.trans e1, e2, e3.chg hc fun b o s e => (e4 b o s e).1, fun b o s e => ⟨(e4 b o s e).1, Nat.lt_of_lt_of_le (e4 b o s e).2 hc.size⟩⟩, h2, h3⟩

set_option maxHeartbeats 800000 in
theorem takeBit_any (q : Nat) (d : List UInt8) (k : Nat) (w : World) (h : Rdr w q d k) (hd : d.length ≤ 100000000) (hk : k < 8 * d.length) :
    Calls Tryz.prog 43 #[.pointer (some ⟨q, 0, none⟩)] w fun e w' => e = .returned (.int .i64 ((bitsOf d).getD k 0)) ∧ Rdr w' q d (k + 1) ∧ Chg (fun i => i = q) w w' := by
  obtain ⟨A, c, h1, hc, h3, h4⟩ := h.ex
  have h2 := h.nx
  have hf := h.fr
  obtain ⟨b, o, rfl, hcell⟩ := h3.at (by omega)
  have e1 := hcell (k / 8) (by omega)
  have hbq : b ≠ q := (h4 b o none rfl).1
  have hgt : Hid ((bitsOf d).getD k 0 = bt d (k / 8) / 2 ^ (7 - k % 8) % 2) := by
    show _ = _
    rw [List.getD_eq_getElem?_getD, bitsOf_get hk]
    rfl
  obtain ⟨hb0, hb1⟩ := bt_rng d (k / 8)
  clear hcell
  go_enter Tryz.func43, Tryz.ntmps43
  go_wp2
  go_quiet (fail)
  go_wp2
  go_ret
  have hx0 : 0 ≤ bt d (k / 8) / 2 ^ (7 - k % 8) := Int.ediv_nonneg hb0 (by have := pow2_pos (7 - k % 8); omega)
  have hx1 : bt d (k / 8) / 2 ^ (7 - k % 8) ≤ bt d (k / 8) := Int.ediv_le_self _ hb0
  have hch : Chg (fun i => i = q) w ((w.drewN nq).setCell ⟨q, 1, none⟩ (.int .i64 ((k : Int) + 1))) := Chg.setCell (S := fun i => i = q) ((Chg.refl _ w).drewN nq) (p := ⟨q, 1, none⟩) (.inl rfl) _
  refine ⟨ret_int ?_, h.step hch ?_ ?_ ?_, hch⟩
  · rw [hgt.out, IntWalk.wrap64_in _ ⟨by omega, by omega⟩, and1]
  · rw [h1]; go_cell
  · have : ((k + 1 : Nat) : Int) = (k : Int) + 1 := by omega
    rw [this]; go_cell
  · go_cell

theorem wraps62 (n : Int) (h₀ : 0 ≤ n) (h₁ : n < 2 ^ 62) : IntKind.i64.wrap n = n := by rw [IntKind.wrap_i64]; omega
theorem or_bit (y x : Int) (h0 : 0 ≤ y) (h1 : y ≤ 65535) (hx0 : 0 ≤ x) (hx1 : x ≤ 1) : bits .or .i64 (y * 2) x = 2 * y + x := by
  have := bits_join .i64 62 (by decide) wraps62 1 (y * 2) x (by omega) (by omega) (by omega) hx0 (by omega) (by omega)
  rw [this]
  omega
theorem Rdr.drewN {w : World} {q : Nat} {d : List UInt8} {k : Nat} (h : Rdr w q d k) (n : Nat) : Rdr (w.drewN n) q d k := h.below (below_drewN w n)
set_option maxHeartbeats 800000 in
theorem take_yes (q : Nat) (d : List UInt8) (k n : Nat) (w : World) (h : Rdr w q d k) (hd : d.length ≤ 100000000) (hn : n ≤ 16) (hk : k + n ≤ 8 * d.length) :
    Calls Tryz.prog 26 #[.pointer (some ⟨q, 0, none⟩), .int .i64 n] w fun e w' => e = .returned (.tuple #[.int .i64 (val (((bitsOf d).drop k).take n)), .bool true]) ∧ Rdr w' q d (k + n) ∧ Chg (fun i => i = q) w w' := by
  have hg : decide ((d.length : Int) * 8 - (k : Int) < (n : Int)) = false := by rw [decide_eq_false_iff_not]; omega
  have H := Lib.hid h
  clear h
  go_enter Tryz.func26, Tryz.ntmps26
  go_wp2_with (first
    | ((with_reducible refine (isCount_yes n _ hn).mono ?_); rintro e w1 ⟨rfl, rfl⟩)
    | ((with_reducible refine (left_any q d k _ H.out hd (by omega)).mono ?_); rintro e w1 ⟨rfl, m, hm⟩; subst hm))
  have H1 := Lib.hid (H.out.drewN m)
  have HC := Lib.hid ((Chg.refl (fun i => i = q) w).drewN m)
  clear H
  go_loopw [6, 21] (fun v i wr => ∃ (j : Nat) (y : Int), j ≤ n ∧ i = .int .i64 j ∧ v = .int .i64 y ∧ 0 ≤ y ∧ y ≤ 65535 ∧ Hid (y = val (((bitsOf d).drop k).take j)) ∧ Hid (Rdr wr q d (k + j)) ∧ Hid (Chg (fun i => i = q) w wr)) (fun _ i _ => n - (RowKit.intOf i).toNat)
  case atStart => exact ⟨0, 0, Nat.zero_le _, rfl, rfl, by decide, by decide, (show Hid _ from by show _ = _; simp [val_nil]), H1, HC⟩
  case round =>
    obtain ⟨j, y, hj, rfl, rfl, hy0, hy1, HY, HR, HC⟩ := hrel
    by_cases hlt : j < n
    · obtain ⟨x, hx⟩ : ∃ x, (bitsOf d).getD (k + j) 0 = x := ⟨_, rfl⟩
      have hxb := getB (bitsOf_bit d) (k + j)
      have hs := val_take_succ (l := (bitsOf d).drop k) (k := j) (by rw [List.length_drop, bitsOf_len]; omega)
      have hv := val_small (((bitsOf_bit d).drop k).take j) (k := 15) (by rw [List.length_take]; omega)
      have hv2 := val_small (((bitsOf_bit d).drop k).take (j + 1)) (k := 16) (by rw [List.length_take]; omega)
      have hgd : ((bitsOf d).drop k).getD j 0 = (bitsOf d).getD (k + j) 0 := by rw [List.getD_eq_getElem?_getD, List.getElem?_drop, List.getD_eq_getElem?_getD]
      rw [hs, ← HY.out, hgd, hx] at hv2
      rw [← HY.out] at hv
      rw [hgd, hx] at hs
      rw [hx] at hxb
      have HS := Lib.hid hs
      have HX := Lib.hid hx
      obtain ⟨hx0, hx1⟩ := hxb
      obtain ⟨hv0, hv1⟩ := hv
      obtain ⟨hv3, hv4⟩ := hv2
      simp only [show (2 : Int) ^ 15 = 32768 from rfl, show (2 : Int) ^ 16 = 65536 from rfl] at hv1 hv4
      have HO := Lib.hid (or_bit y x hy0 hy1 hx0 hx1)
      clear hs hx hgd
      go_wp2_with ((with_reducible refine (takeBit_any q d (k + j) _ HR.out hd (by omega)).mono ?_); rintro e w2 ⟨rfl, hr2, hc2⟩; rw [HX.out]; have HR2 := Lib.hid hr2; have HC2 := Lib.hid (HC.out.trans hc2 fun _ _ e => e); clear hr2 hc2 HR HC)
      go_roundw
      case rel => exact ⟨j + 1, 2 * y + x, by omega, by go_num, by rw [HO.out], by omega, by omega, (show Hid _ from by show _ = _; rw [HS.out, HY.out]), (show Hid _ from HR2.out), HC2⟩
      case measure => simp [RowKit.intOf]; omega
    · obtain rfl : n = j := by omega
      go_wp2
      go_ret2
      exact ⟨by rw [HY.out]; rfl, HR.out, HC.out⟩
theorem take_bad (q : Nat) (n : Int) (w : World) (h : n < 0 ∨ 16 < n) :
    Calls Tryz.prog 26 #[.pointer (some ⟨q, 0, none⟩), .int .i64 n] w fun e w' => e = .returned (.tuple #[.int .i64 0, .bool false]) ∧ w = w' := by
  have h0 := fun W => isCount_no n W h
  clear h
  go_enter Tryz.func26, Tryz.ntmps26
  go_wp2_with ((with_reducible refine (h0 _).mono ?_); rintro e w1 ⟨rfl, rfl⟩)
  go_ret2
  exact ⟨rfl, rfl⟩
theorem take_few (q : Nat) (d : List UInt8) (k n : Nat) (w : World) (h : Rdr w q d k) (hd : d.length ≤ 100000000) (hn : n ≤ 16) (hkd : k ≤ 8 * d.length) (hk : 8 * d.length < k + n) :
    Calls Tryz.prog 26 #[.pointer (some ⟨q, 0, none⟩), .int .i64 n] w fun e w' => e = .returned (.tuple #[.int .i64 0, .bool false]) ∧ ∃ m, w' = w.drewN m := by
  have hg : decide ((d.length : Int) * 8 - (k : Int) < (n : Int)) = true := by rw [decide_eq_true_iff]; omega
  have H := Lib.hid h
  clear h
  go_enter Tryz.func26, Tryz.ntmps26
  go_wp2_with (first
    | ((with_reducible refine (isCount_yes n _ hn).mono ?_); rintro e w1 ⟨rfl, rfl⟩)
    | ((with_reducible refine (left_any q d k _ H.out hd hkd).mono ?_); rintro e w1 ⟨rfl, m, hm⟩; subst hm))
  go_ret2
  exact ⟨rfl, m, rfl⟩
theorem take_nil (n : Int) (w : World) : Calls Tryz.prog 26 #[.pointer none, .int .i64 n] w fun e w' => e = .returned (.tuple #[.int .i64 0, .bool false]) ∧ w = w' := by
  go_enter Tryz.func26, Tryz.ntmps26
  go_wp2
  go_ret2
  exact ⟨rfl, rfl⟩

/-- At most seven bits, all of them 1. -/
def fillB (l : List Int) : Bool := decide (l.length < 8) && l.all (fun x => decide (x = 1))
theorem val_full {l : List Int} (h : Bit l) : val l = 2 ^ l.length - 1 ↔ ∀ x ∈ l, x = 1 := by
  induction l with
  | nil => simp [val_nil]
  | cons x l ih =>
    have hb : Bit l := fun y hy => h y (List.mem_cons_of_mem _ hy)
    have e : val (x :: l) = x * 2 ^ l.length + val l := by rw [show x :: l = [x] ++ l from rfl, val_append, val_one]
    have hr := val_rng hb
    have ih := ih hb
    rw [e, List.length_cons, Int.pow_succ]
    have hp := pow2_pos l.length
    simp only [List.mem_cons, forall_eq_or_imp]
    rw [← ih]
    generalize (2 : Int) ^ l.length = p at *
    rcases h x (List.mem_cons_self ..) with rfl | rfl <;> omega
theorem fill_val {l : List Int} (h : Bit l) : fillB l = (decide (l.length < 8) && decide (val l = 2 ^ l.length - 1)) := by
  unfold fillB
  congr 1
  rw [Bool.eq_iff_iff, List.all_eq_true, decide_eq_true_iff, val_full h]
  simp
theorem left_opaque {q : Nat} {d : List UInt8} {k : Nat} {w : World} {x : Int} (h : Rdr w q d k) (hl : Calls Tryz.prog 11 #[.pointer (some ⟨q, 0, none⟩)] w fun e w' => e = .returned (.int .i64 x) ∧ ∃ n, w' = w.drewN n) :
    Calls Tryz.prog 11 #[.pointer (some ⟨q, 0, none⟩)] w fun e w' => e = .returned (.int .i64 x) ∧ Rdr w' q d k ∧ Below w.heap.size w w' := by
  refine hl.mono ?_
  rintro e w' ⟨rfl, m, rfl⟩
  exact ⟨rfl, h.drewN m, below_drewN w m⟩
theorem copy_rdr {w : World} {q : Nat} {d : List UInt8} {k : Nat} {A : Option Addr} {c : Nat} (h : Rdr w q d k) (e1 : w.cell? ⟨q, 0, none⟩ = some (.slice A d.length c)) (T : TypeId) : Rdr (w.alloc (.cells #[.slice A d.length c, .int .i64 k] T)) w.heap.size d k := by
  obtain ⟨A', c', h1, h2, h3, h4⟩ := h.ex
  have ea : A' = A ∧ c' = c := by
    have := h1.symm.trans e1
    injection this with this
    injection this with x1 x2 x3
    exact ⟨x1, x3⟩
  obtain ⟨rfl, rfl⟩ := ea
  exact ⟨⟨A', c', by go_cell, h2, h3.alloc _, fun b o s e => by have := (h4 b o s e).2; simp; omega⟩, by go_cell, by go_cell⟩
set_option maxHeartbeats 800000 in
theorem filled_any (q : Nat) (d : List UInt8) (k : Nat) (w : World) (h : Rdr w q d k) (hd : d.length ≤ 100000000) (hk : k ≤ 8 * d.length) :
    Calls Tryz.prog 17 #[.pointer (some ⟨q, 0, none⟩)] w fun e w' => e = .returned (.bool (fillB ((bitsOf d).drop k))) ∧ Below w.heap.size w w' := by
  have hbr : Bit ((bitsOf d).drop k) := (bitsOf_bit d).drop k
  have hlen : ((bitsOf d).drop k).length = 8 * d.length - k := by rw [List.length_drop, bitsOf_len]
  have hfv := fill_val hbr
  rw [hlen] at hfv
  by_cases h8 : 8 * d.length - k < 8
  · obtain ⟨n, hn⟩ : ∃ n, n = 8 * d.length - k := ⟨_, rfl⟩
    rw [← hn] at hfv h8
    rw [decide_eq_true h8, Bool.true_and] at hfv
    rw [hfv]
    have hl := left_any q d k w h hd hk
    rw [show (d.length : Int) * 8 - k = (n : Int) by omega] at hl
    replace hl := left_opaque h hl
    have hkn : k + n = 8 * d.length := by omega
    have hn8 : decide ((8 : Int) ≤ (n : Int)) = false := by rw [decide_eq_false_iff_not]; omega
    have HD := Lib.hid (show ((bitsOf d).drop k).take n = (bitsOf d).drop k from List.take_of_length_le (by omega))
    have HKN := Lib.hid hkn
    have HL := Lib.hid hl
    have H := Lib.hid h
    have hk1 : k + n ≤ 8 * d.length := by omega
    clear hn hfv hlen hbr hl hkn h
    generalize hvv : val ((bitsOf d).drop k) = V at *
    have HV := Lib.hid hvv
    clear hvv
    go_enter Tryz.func17, Tryz.ntmps17
    go_wp2_with fail
    (with_reducible refine HL.out.mono ?_); rintro e w1 ⟨rfl, hr1, hb1⟩
    obtain ⟨A, c, e1, e2, e3, e4⟩ := hr1.ex
    have e5 := hr1.nx
    have E4 := Lib.hid e4
    have R1 := Lib.hid hr1
    have B1 := Lib.hid hb1
    have HC := Lib.hid (copy_rdr (w := w1) hr1 e1 68)
    clear e4 hr1 hb1 HL H
    go_wp2_with fail
    (with_reducible refine (take_yes w1.heap.size d k n _ HC.out hd (by omega) hk1).mono ?_); rintro e w2 ⟨rfl, hr2, hc2⟩
    rw [HD.out, HV.out]
    have B2 := Lib.hid ((B1.out.alloc B1.out.size (.cells #[.slice A d.length c, .int .i64 k] 68)).trans (hc2.below (B := w.heap.size) (by simp; have := B1.out.size; omega) (by intro i hi; have := B1.out.size; omega)))
    clear hr2 hc2 R1 B1 HC e1 e5
    go_wp2_with ((with_reducible refine (ones_any n _ (by omega)).mono ?_); rintro e w3 ⟨rfl, rfl⟩)
    go_ret
    exact ⟨ret_bool (by rw [Bool.eq_iff_iff]; simp), B2.out⟩
  · have hl := left_any q d k w h hd hk
    have hn8 : decide ((8 : Int) ≤ (d.length : Int) * 8 - (k : Int)) = true := by rw [decide_eq_true_iff]; omega
    rw [decide_eq_false h8, Bool.false_and] at hfv
    rw [hfv]
    go_enter Tryz.func17, Tryz.ntmps17
    go_wp2_with ((with_reducible refine hl.mono ?_); rintro e w1 ⟨rfl, m, hm⟩; subst hm)
    go_ret
    exact ⟨rfl, below_drewN w m⟩
theorem filled_nil (w : World) : Calls Tryz.prog 17 #[.pointer none] w fun e w' => e = .returned (.bool false) ∧ w = w' := by
  go_enter Tryz.func17, Tryz.ntmps17
  go_wp2_with ((with_reducible refine (left_nil _).mono ?_); rintro e w1 ⟨rfl, rfl⟩)
  go_ret
  exact ⟨rfl, rfl⟩
end Go.Proofs.YtkkkonmbbdhdhaaGreatDoor
/- A Reader whose slice is known: what taking bits leaves of it. -/
namespace Go.Proofs.YtkkkonmbbdhdhaaGreatDoor
open Go.RowKit Go.Lib
set_option linter.unusedVariables false
set_option maxRecDepth 100000

/-- A Reader in block q: its slice, its bytes, the bit that is next. -/
structure RdrA (w : World) (q : Nat) (A : Option Addr) (c : Nat) (d : List UInt8) (k : Nat) : Prop where
  sl : w.cell? ⟨q, 0, none⟩ = some (.slice A d.length c)
  fz : w.frozen? ⟨q, 0, none⟩ = false
  cap : d.length ≤ c
  rd : Rd w A d
  no : ∀ b o s, A = some ⟨b, o, s⟩ → b ≠ q ∧ b < w.heap.size
  nx : w.cell? ⟨q, 1, none⟩ = some (.int .i64 k)
  fr : w.frozen? ⟨q, 1, none⟩ = false
section
variable {w w' : World} {q : Nat} {A : Option Addr} {c : Nat} {d : List UInt8} {k : Nat}
theorem RdrA.rdr (h : RdrA w q A c d k) : Rdr w q d k := ⟨⟨A, c, h.sl, h.cap, h.rd, h.no⟩, h.nx, h.fr⟩
theorem RdrA.lt (h : RdrA w q A c d k) : q < w.heap.size := World.block_lt_of_cell? w _ h.nx
theorem RdrA.below (h : RdrA w q A c d k) (hb : Below w.heap.size w w') : RdrA w' q A c d k :=
  ⟨cell_later hb h.sl, (hb.frozen (p := ⟨q, 0, none⟩) h.lt).trans h.fz, h.cap, h.rd.below hb, fun b o s e => ⟨(h.no b o s e).1, Nat.lt_of_lt_of_le (h.no b o s e).2 hb.size⟩, cell_later hb h.nx, (hb.frozen (p := ⟨q, 1, none⟩) h.lt).trans h.fr⟩
theorem RdrA.drewN (h : RdrA w q A c d k) (n : Nat) : RdrA (w.drewN n) q A c d k := h.below (below_drewN w n)
theorem RdrA.step {j : Nat} (h : RdrA w q A c d k) (hc : Chg (fun i => i = q) w w') (h0 : w'.cell? ⟨q, 0, none⟩ = some (.slice A d.length c)) (h1 : w'.frozen? ⟨q, 0, none⟩ = false) (h2 : w'.cell? ⟨q, 1, none⟩ = some (.int .i64 j)) (h3 : w'.frozen? ⟨q, 1, none⟩ = false) : RdrA w' q A c d j :=
  ⟨h0, h1, h.cap, h.rd.chg hc fun b o s e => (h.no b o s e).1, fun b o s e => ⟨(h.no b o s e).1, Nat.lt_of_lt_of_le (h.no b o s e).2 hc.size⟩, h2, h3⟩
/-- Another block is written. -/
theorem RdrA.other {p : Nat} (h : RdrA w q A c d k) (hc : Chg (fun i => i = p) w w') (hp : q ≠ p) (hA : ∀ b o s, A = some ⟨b, o, s⟩ → b ≠ p) : RdrA w' q A c d k :=
  ⟨hc.cellv h.sl hp, (hc.frozen (p := ⟨q, 0, none⟩) h.lt hp).trans h.fz, h.cap, h.rd.chg hc fun b o s e => hA b o s e, fun b o s e => ⟨(h.no b o s e).1, Nat.lt_of_lt_of_le (h.no b o s e).2 hc.size⟩, hc.cellv h.nx hp, (hc.frozen (p := ⟨q, 1, none⟩) h.lt hp).trans h.fr⟩
end
set_option maxHeartbeats 800000 in
theorem takeBit_A (q : Nat) (A : Option Addr) (c : Nat) (d : List UInt8) (k : Nat) (w : World) (h : RdrA w q A c d k) (hd : d.length ≤ 100000000) (hk : k < 8 * d.length) :
    Calls Tryz.prog 43 #[.pointer (some ⟨q, 0, none⟩)] w fun e w' => e = .returned (.int .i64 ((bitsOf d).getD k 0)) ∧ RdrA w' q A c d (k + 1) ∧ Chg (fun i => i = q) w w' := by
  have h1 := h.sl
  have h2 := h.nx
  have hf := h.fr
  have hz := h.fz
  have hc := h.cap
  obtain ⟨b, o, rfl, hcell⟩ := h.rd.at (by omega)
  have e1 := hcell (k / 8) (by omega)
  have hbq : b ≠ q := (h.no b o none rfl).1
  have hgt : Hid ((bitsOf d).getD k 0 = bt d (k / 8) / 2 ^ (7 - k % 8) % 2) := by
    show _ = _
    rw [List.getD_eq_getElem?_getD, bitsOf_get hk]
    rfl
  obtain ⟨hb0, hb1⟩ := bt_rng d (k / 8)
  clear hcell
  go_enter Tryz.func43, Tryz.ntmps43
  go_wp2
  go_quiet (fail)
  go_wp2
  go_ret
  have hx0 : 0 ≤ bt d (k / 8) / 2 ^ (7 - k % 8) := Int.ediv_nonneg hb0 (by have := pow2_pos (7 - k % 8); omega)
  have hx1 : bt d (k / 8) / 2 ^ (7 - k % 8) ≤ bt d (k / 8) := Int.ediv_le_self _ hb0
  have hch : Chg (fun i => i = q) w ((w.drewN nq).setCell ⟨q, 1, none⟩ (.int .i64 ((k : Int) + 1))) := Chg.setCell (S := fun i => i = q) ((Chg.refl _ w).drewN nq) (p := ⟨q, 1, none⟩) (.inl rfl) _
  refine ⟨ret_int ?_, h.step hch ?_ ?_ ?_ ?_, hch⟩
  · rw [hgt.out, IntWalk.wrap64_in _ ⟨by omega, by omega⟩, and1]
  · go_cell
  · go_cell
  · have : ((k + 1 : Nat) : Int) = (k : Int) + 1 := by omega
    rw [this]; go_cell
  · go_cell
set_option maxHeartbeats 800000 in
theorem take_A (q : Nat) (A : Option Addr) (c : Nat) (d : List UInt8) (k n : Nat) (w : World) (h : RdrA w q A c d k) (hd : d.length ≤ 100000000) (hn : n ≤ 16) (hk : k + n ≤ 8 * d.length) :
    Calls Tryz.prog 26 #[.pointer (some ⟨q, 0, none⟩), .int .i64 n] w fun e w' => e = .returned (.tuple #[.int .i64 (val (((bitsOf d).drop k).take n)), .bool true]) ∧ RdrA w' q A c d (k + n) ∧ Chg (fun i => i = q) w w' := by
  have hg : decide ((d.length : Int) * 8 - (k : Int) < (n : Int)) = false := by rw [decide_eq_false_iff_not]; omega
  have H := Lib.hid h
  clear h
  go_enter Tryz.func26, Tryz.ntmps26
  go_wp2_with (first
    | ((with_reducible refine (isCount_yes n _ hn).mono ?_); rintro e w1 ⟨rfl, rfl⟩)
    | ((with_reducible refine (left_any q d k _ H.out.rdr hd (by omega)).mono ?_); rintro e w1 ⟨rfl, m, hm⟩; subst hm))
  have H1 := Lib.hid (H.out.drewN m)
  have HC := Lib.hid ((Chg.refl (fun i => i = q) w).drewN m)
  clear H
  go_loopw [6, 21] (fun v i wr => ∃ (j : Nat) (y : Int), j ≤ n ∧ i = .int .i64 j ∧ v = .int .i64 y ∧ 0 ≤ y ∧ y ≤ 65535 ∧ Hid (y = val (((bitsOf d).drop k).take j)) ∧ Hid (RdrA wr q A c d (k + j)) ∧ Hid (Chg (fun i => i = q) w wr)) (fun _ i _ => n - (RowKit.intOf i).toNat)
  case atStart => exact ⟨0, 0, Nat.zero_le _, rfl, rfl, by decide, by decide, (show Hid _ from by show _ = _; simp [val_nil]), H1, HC⟩
  case round =>
    obtain ⟨j, y, hj, rfl, rfl, hy0, hy1, HY, HR, HC⟩ := hrel
    by_cases hlt : j < n
    · obtain ⟨x, hx⟩ : ∃ x, (bitsOf d).getD (k + j) 0 = x := ⟨_, rfl⟩
      have hxb := getB (bitsOf_bit d) (k + j)
      have hs := val_take_succ (l := (bitsOf d).drop k) (k := j) (by rw [List.length_drop, bitsOf_len]; omega)
      have hv := val_small (((bitsOf_bit d).drop k).take j) (k := 15) (by rw [List.length_take]; omega)
      have hv2 := val_small (((bitsOf_bit d).drop k).take (j + 1)) (k := 16) (by rw [List.length_take]; omega)
      have hgd : ((bitsOf d).drop k).getD j 0 = (bitsOf d).getD (k + j) 0 := by rw [List.getD_eq_getElem?_getD, List.getElem?_drop, List.getD_eq_getElem?_getD]
      rw [hs, ← HY.out, hgd, hx] at hv2
      rw [← HY.out] at hv
      rw [hgd, hx] at hs
      rw [hx] at hxb
      have HS := Lib.hid hs
      have HX := Lib.hid hx
      obtain ⟨hx0, hx1⟩ := hxb
      obtain ⟨hv0, hv1⟩ := hv
      obtain ⟨hv3, hv4⟩ := hv2
      simp only [show (2 : Int) ^ 15 = 32768 from rfl, show (2 : Int) ^ 16 = 65536 from rfl] at hv1 hv4
      have HO := Lib.hid (or_bit y x hy0 hy1 hx0 hx1)
      clear hs hx hgd
      go_wp2_with ((with_reducible refine (takeBit_A q A c d (k + j) _ HR.out hd (by omega)).mono ?_); rintro e w2 ⟨rfl, hr2, hc2⟩; rw [HX.out]; have HR2 := Lib.hid hr2; have HC2 := Lib.hid (HC.out.trans hc2 fun _ _ e => e); clear hr2 hc2 HR HC)
      go_roundw
      case rel => exact ⟨j + 1, 2 * y + x, by omega, by go_num, by rw [HO.out], by omega, by omega, (show Hid _ from by show _ = _; rw [HS.out, HY.out]), (show Hid _ from HR2.out), HC2⟩
      case measure => simp [RowKit.intOf]; omega
    · obtain rfl : n = j := by omega
      go_wp2
      go_ret2
      exact ⟨by rw [HY.out]; rfl, HR.out, HC.out⟩
theorem newA_any (l : List UInt8) (A : Option Addr) (c : Nat) (w : World) (hw : Env w) (hr : Rd w A l) (hcap : l.length ≤ c) (hA : A = none → c = 0) (hl : l.length ≤ 100000000) :
    Calls Tryz.prog 7 #[.slice A l.length c] w fun e w' => ∃ q A3 c3, e = .returned (.pointer (some ⟨q, 0, none⟩)) ∧ RdrA w' q A3 c3 (ustF false (l.take (dat l))) 0 ∧ w.heap.size ≤ q ∧ (∀ b o s, A3 = some ⟨b, o, s⟩ → w.heap.size ≤ b) ∧ Below w.heap.size w w' := by
  have h := dataLen_any l A c w hr hcap hl
  have hd := dat_le l
  have hs := fun W => run_win_h A l.length c (dat l) (dat l : Int) rfl (by omega) W
  have rW := Lib.hid (by have := hr.win c 0 (dat l) hcap; rwa [List.drop_zero] at this : Rd w (winA A c 0) (l.take (dat l)))
  have hn : Hid (dat l = (l.take (dat l)).length) := by show _ = _; rw [List.length_take]; omega
  have hA2 := Lib.hid (winA_none (x := 0) hA)
  go_enter Tryz.func7, Tryz.ntmps7
  go_wp2_with fail
  (with_reducible refine h.mono ?_); rintro e w1 ⟨rfl, h1⟩
  go_wp2_with fail
  (with_reducible refine (unst_n (l.take (dat l)) (winA A c 0) (dat l) c _ hn.out (hw.below h1) (rW.out.below h1) (by omega) hA2.out (by omega)).mono ?_); rintro e w2 ⟨v, rfl, hv, h2⟩
  obtain ⟨A3, c3, rfl, hc3, _, r3, hb3, _⟩ := hv.open'
  clear hv
  go_wp2
  go_ret
  have hb2 : Below w.heap.size w w2 := h1.trans (h2.mono h1.size)
  exact ⟨w2.heap.size, A3, c3, rfl, ⟨by go_cell, by go_cell, hc3, r3.alloc _, fun b o s e => by have := hb3 b o s e; simp; omega, by go_cell, by go_cell⟩, hb2.size, fun b o s e => by have := hb3 b o s e; have := h1.size; omega, hb2.alloc hb2.size _⟩
end Go.Proofs.YtkkkonmbbdhdhaaGreatDoor
/- Contracts of a Writer's calls. -/
namespace Go.Proofs.YtkkkonmbbdhdhaaGreatDoor
open Go.RowKit Go.Lib
set_option linter.unusedVariables false
set_option maxRecDepth 100000

theorem and_pow (x : Int) (n : Nat) (hn : n ≤ 16) : bits .and .i64 x (2 ^ n - 1) = x % 2 ^ n := by
  have h1 : ∀ n, n < 17 → (BitVec.ofInt 64 ((2 : Int) ^ n - 1)).toNat = 2 ^ n - 1 := by decide
  have h2 : ∀ n, n < 17 → (2 : Int) ^ n ∣ 18446744073709551616 := by decide
  exact and_mask x (2 ^ n - 1) n (h1 n (by omega)) (h2 n (by omega)) (by have := pow_le16 hn; omega)
theorem wraps32 (n : Int) (h₀ : 0 ≤ n) (h₁ : n < 2 ^ 32) : IntKind.u32.wrap n = n := by rw [IntKind.wrap_u32]; omega
theorem last_step (V x : Int) (n : Nat) (hn : n ≤ 16) : bits .or .u32 (V % 4294967296 * 2 ^ n % 4294967296) (x % 2 ^ n) = (V * 2 ^ n + x % 2 ^ n) % 4294967296 := by
  have hp := pow_le16 hn
  have hd : (2 : Int) ^ n ∣ 4294967296 := by
    have : ∀ n, n < 17 → (2 : Int) ^ n ∣ 4294967296 := by decide
    exact this n (by omega)
  have hy0 := Int.emod_nonneg x (show (2 : Int) ^ n ≠ 0 by omega)
  have hy1 := Int.emod_lt_of_pos x (show (0 : Int) < 2 ^ n by omega)
  generalize x % 2 ^ n = y at *
  have e1 : V % 4294967296 * 2 ^ n % 4294967296 = V * 2 ^ n % 4294967296 := by rw [Int.mul_emod, Int.emod_emod_of_dvd V (Int.dvd_refl _), ← Int.mul_emod]
  rw [e1]
  have e2 : V * 2 ^ n % 4294967296 % 2 ^ n = 0 := by
    rw [Int.emod_emod_of_dvd _ hd]
    exact Int.mul_emod_left ..
  have h0 := Int.emod_nonneg (V * 2 ^ n) (show (4294967296 : Int) ≠ 0 by decide)
  have h1 := Int.emod_lt_of_pos (V * 2 ^ n) (show (0 : Int) < 4294967296 by decide)
  rw [bits_join .u32 32 (by decide) wraps32 n _ y h0 e2 (by omega) hy0 hy1 (by omega)]
  have h2 : V * 2 ^ n % 4294967296 + y < 4294967296 := by
    obtain ⟨t, ht⟩ := hd
    generalize V * 2 ^ n % 4294967296 = a at *
    obtain ⟨s, hs⟩ : ∃ s, a = 2 ^ n * s := ⟨a / 2 ^ n, by have := Int.mul_ediv_add_emod a (2 ^ n); omega⟩
    generalize (2 : Int) ^ n = p at *
    subst hs
    rw [ht] at h1 ⊢
    have hst : s < t := Int.lt_of_mul_lt_mul_left h1 (by omega)
    have : p * (s + 1) ≤ p * t := Int.mul_le_mul_of_nonneg_left (by omega) (by omega)
    rw [Int.mul_add, Int.mul_one] at this
    omega
  rw [Int.add_emod, Int.emod_eq_of_lt hy0 (by omega), Int.emod_eq_of_lt (by omega) h2]

/-- A Writer in block p: its bits; its bytes lie in block g. -/
structure Wtr (w : World) (base p : Nat) (l : List Int) (g : Option Nat) : Prop where
  ex : ∃ v, w.cell? ⟨p, 0, none⟩ = some v ∧ Ob w base v (pack l) ∧ v.ownBlock = g
  la : w.cell? ⟨p, 1, none⟩ = some (.int .u32 (val l % 4294967296))
  ct : w.cell? ⟨p, 2, none⟩ = some (.int .i64 l.length)
  f0 : w.frozen? ⟨p, 0, none⟩ = false
  f1 : w.frozen? ⟨p, 1, none⟩ = false
  f2 : w.frozen? ⟨p, 2, none⟩ = false
  gp : g ≠ some p
  bp : base ≤ p
  bit : Bit l
theorem Wtr.lt {w : World} {base p : Nat} {l : List Int} {g : Option Nat} (h : Wtr w base p l g) : p < w.heap.size := World.block_lt_of_cell? w _ h.ct
theorem Wtr.gt {w : World} {base p : Nat} {l : List Int} {g : Option Nat} (h : Wtr w base p l g) : ∀ k, g = some k → base ≤ k ∧ k < w.heap.size := by
  obtain ⟨v, _, h2, h3⟩ := h.ex
  intro k hk
  exact h2.at k (h3.trans hk)
theorem Wtr.chg {S : Nat → Prop} {w w' : World} {base p : Nat} {l : List Int} {g : Option Nat} (h : Wtr w base p l g) (hc : Chg S w w') (hp : ¬ S p) (hg : ∀ k, g = some k → ¬ S k) : Wtr w' base p l g := by
  obtain ⟨v, e1, e2, e3⟩ := h.ex
  have hl := h.lt
  exact ⟨⟨v, hc.cellv e1 hp, e2.chg hc (fun k hk => hg k (e3.symm.trans hk)), e3⟩, hc.cellv h.la hp, hc.cellv h.ct hp, (hc.frozen (p := ⟨p, 0, none⟩) hl hp).trans h.f0, (hc.frozen (p := ⟨p, 1, none⟩) hl hp).trans h.f1, (hc.frozen (p := ⟨p, 2, none⟩) hl hp).trans h.f2, h.gp, h.bp, h.bit⟩
theorem Wtr.below {w w' : World} {base p : Nat} {l : List Int} {g : Option Nat} (h : Wtr w base p l g) (hb : Below w.heap.size w w') : Wtr w' base p l g := h.chg (Chg.of_below (S := fun _ => False) hb) (fun e => e) fun _ _ e => e
theorem Wtr.drewN {w : World} {base p : Nat} {l : List Int} {g : Option Nat} (h : Wtr w base p l g) (n : Nat) : Wtr (w.drewN n) base p l g := h.below (below_drewN w n)

theorem len_any (base p : Nat) (l : List Int) (g : Option Nat) (w : World) (h : Wtr w base p l g) :
    Calls Tryz.prog 13 #[.pointer (some ⟨p, 0, none⟩)] w fun e w' => e = .returned (.int .i64 l.length) ∧ w = w' := by
  have h1 := h.ct
  go_enter Tryz.func13, Tryz.ntmps13
  go_wp2
  go_ret
  exact ⟨rfl, rfl⟩
theorem len_nil (w : World) : Calls Tryz.prog 13 #[.pointer none] w fun e w' => e = .returned (.int .i64 0) ∧ w = w' := by
  go_enter Tryz.func13, Tryz.ntmps13
  go_wp2
  go_ret
  exact ⟨rfl, rfl⟩
theorem put_nil (x n : Int) (w : World) : Calls Tryz.prog 31 #[.pointer none, .int .i64 x, .int .i64 n] w fun e w' => e = .returned (.bool false) ∧ w = w' := by
  go_enter Tryz.func31, Tryz.ntmps31
  go_wp2
  go_ret
  exact ⟨rfl, rfl⟩
theorem put_bad (p : Nat) (x n : Int) (w : World) (h : n < 0 ∨ 16 < n) : Calls Tryz.prog 31 #[.pointer (some ⟨p, 0, none⟩), .int .i64 x, .int .i64 n] w fun e w' => e = .returned (.bool false) ∧ w = w' := by
  have h0 := fun W => isCount_no n W h
  clear h
  go_enter Tryz.func31, Tryz.ntmps31
  go_wp2_with ((with_reducible refine (h0 _).mono ?_); rintro e w1 ⟨rfl, rfl⟩)
  go_ret
  exact ⟨rfl, rfl⟩
theorem done_nil (w : World) : Calls Tryz.prog 15 #[.pointer none] w fun e w' => e = .returned (.slice none 0 0) ∧ w = w' := by
  go_enter Tryz.func15, Tryz.ntmps15
  go_wp2
  go_ret
  exact ⟨rfl, rfl⟩

/-- append at a step of a region that draws its order. -/
theorem step_appB {w : World} {ops : Array Oper} {o : Oper} {a : Act} {K : Act → World → Prop} {Q : Exit → Act → World → Prop} {E : Prop} (hgd : o.guard = none) (s x : Operand)
    (ho : o.op = .call { callee := .builtin .append, args := #[s, x], argTypes := #[26, 26] })
    (base : Nat) (v u : Value) (l : List UInt8) (hs : a.eval s = v) (A : Option Addr) (n c : Nat) (m : List UInt8) (hx : a.eval x = u) (hu : u = .slice A n c) (hn : n = m.length) (hown : Ob w base v l) (hr : Rd w A m)
    (hlen : l.length + m.length ≤ 1000000000) (hbase : base ≤ w.heap.size)
    (h : ∀ v' w', Ob w' base v' (l ++ m) → w.grownBy w' v.ownBlock → (v'.ownBlock = v.ownBlock ∨ v'.ownBlock = some w.heap.size) → K (a.put o.dst v') w') :
    if Region.wanted o (yielded ops a.tmps) = true then Oper.wp Tryz.prog o a w K Q else E := by
  have hw : Region.wanted o (yielded ops a.tmps) = true := by simp [Region.wanted, hgd]
  rw [if_pos hw]
  subst hu hn
  obtain ⟨v', w', hrun, h2, h3, h4⟩ := run_appV Tryz.underlying26 Tryz.info5 rfl w base v l.length (l.map bv) hown A c (m.map bv) (bv_one m) hr.v o.type (by simpa using hlen) (by decide) hbase
  rw [List.length_map] at hrun
  unfold Oper.wp
  simp [execOp, ho, resolve, invoke, builtin, hs, hx, hrun, Result.andThen]
  exact h v' w' (Ob.app h2) h3 h4

theorem Ob.slice {w : World} {base : Nat} {v : Value} {l : List UInt8} (h : Ob w base v l) : ∃ A n c, v = .slice A n c := by
  obtain ⟨A, c, e, _⟩ := h.open'
  exact ⟨A, _, c, e⟩
/-- In the midst of Put: the bits are counted, j bytes of them are whole. -/
structure PutS (w0 w : World) (base p : Nat) (m : List Int) (g : Option Nat) (v : Value) (j : Nat) : Prop where
  c0 : w.cell? ⟨p, 0, none⟩ = some v
  c1 : w.cell? ⟨p, 1, none⟩ = some (.int .u32 (val m % 4294967296))
  c2 : w.cell? ⟨p, 2, none⟩ = some (.int .i64 m.length)
  f0 : w.frozen? ⟨p, 0, none⟩ = false
  f1 : w.frozen? ⟨p, 1, none⟩ = false
  f2 : w.frozen? ⟨p, 2, none⟩ = false
  ob : Ob w base v ((pack m).take j)
  gp : v.ownBlock ≠ some p
  gg : v.ownBlock = g ∨ ∃ k, v.ownBlock = some k ∧ w0.heap.size ≤ k
  ch : Chg (fun i => i = p ∨ g = some i) w0 w
theorem PutS.lt {w0 w : World} {base p : Nat} {m : List Int} {g : Option Nat} {v : Value} {j : Nat} (h : PutS w0 w base p m g v j) : p < w.heap.size := World.block_lt_of_cell? w _ h.c2
theorem PutS.below {w0 w w' : World} {base p : Nat} {m : List Int} {g : Option Nat} {v : Value} {j : Nat} (h : PutS w0 w base p m g v j) (hb : Below w.heap.size w w') : PutS w0 w' base p m g v j := by
  have hl := h.lt
  exact ⟨cell_later hb h.c0, cell_later hb h.c1, cell_later hb h.c2, (hb.frozen (p := ⟨p, 0, none⟩) hl).trans h.f0, (hb.frozen (p := ⟨p, 1, none⟩) hl).trans h.f1, (hb.frozen (p := ⟨p, 2, none⟩) hl).trans h.f2, h.ob.below hb, h.gp, h.gg, h.ch.trans (Chg.of_below (S := fun _ => False) hb) fun _ _ e => e.elim⟩
theorem PutS.start {w : World} {base p : Nat} {l m : List Int} {g : Option Nat} {v : Value} {X Y : Int} (h : Wtr w base p l g) (hv : w.cell? ⟨p, 0, none⟩ = some v) (hX : X = val m % 4294967296) (hY : Y = m.length) (hm : (pack m).take (l.length / 8) = pack l) :
    PutS w (((w.setCell ⟨p, 1, none⟩ (.int .u32 X)).setCell ⟨p, 2, none⟩ (.int .i64 Y)).drew) base p m g v (l.length / 8) := by
  subst hX hY
  obtain ⟨v', e1, e2, e3⟩ := h.ex
  rw [hv] at e1
  injection e1 with e1
  subst e1
  have hc1 : Chg (fun i => i = p) w (((w.setCell ⟨p, 1, none⟩ (.int .u32 (val m % 4294967296))).setCell ⟨p, 2, none⟩ (.int .i64 m.length)).drew) :=
    (Chg.setCell (S := fun i => i = p) (Chg.setCell (S := fun i => i = p) (Chg.refl _ w) (p := ⟨p, 1, none⟩) (.inl rfl) _) (p := ⟨p, 2, none⟩) (.inl rfl) _).drew
  have a0 := h.la
  have a1 := h.ct
  have f0 := h.f0
  have f1 := h.f1
  have f2 := h.f2
  refine ⟨by go_cell, by go_cell, by go_cell, by go_cell, by go_cell, by go_cell, ?_, ?_, .inl e3, hc1.mono fun i _ e => .inl e⟩
  · rw [hm]
    exact e2.chg hc1 fun k hk e => h.gp (by rw [← e3, hk]; exact congrArg some e)
  · rw [e3]; exact h.gp
theorem PutS.step {w0 w w3 : World} {base p : Nat} {m : List Int} {g : Option Nat} {v v3 : Value} {j : Nat} {x : UInt8} (h : PutS w0 w base p m g v j) (hx : (pack m).take (j + 1) = (pack m).take j ++ [x]) (hw0 : w0.heap.size ≤ w.heap.size)
    (ho : Ob w3 base v3 ((pack m).take j ++ [x])) (hg : w.grownBy w3 v.ownBlock) (hb : v3.ownBlock = v.ownBlock ∨ v3.ownBlock = some w.heap.size) : PutS w0 (w3.setCell ⟨p, 0, none⟩ v3) base p m g v3 (j + 1) := by
  have hl := h.lt
  have hgp : v3.ownBlock ≠ some p := by
    rcases hb with e | e
    · rw [e]; exact h.gp
    · rw [e]; intro e2; injection e2 with e2; omega
  have hcg : Chg (fun i => v.ownBlock = some i) w w3 := (Chg.refl _ w).grown hg fun k hk => .inl hk
  have k0 := hcg.cellv h.c0 h.gp
  have k1 := hcg.cellv h.c1 h.gp
  have k2 := hcg.cellv h.c2 h.gp
  have q0 := (hcg.frozen (p := ⟨p, 0, none⟩) hl h.gp).trans h.f0
  have q1 := (hcg.frozen (p := ⟨p, 1, none⟩) hl h.gp).trans h.f1
  have q2 := (hcg.frozen (p := ⟨p, 2, none⟩) hl h.gp).trans h.f2
  have hc3 : Chg (fun i => i = p) w3 (w3.setCell ⟨p, 0, none⟩ v3) := Chg.setCell (S := fun i => i = p) (Chg.refl _ w3) (p := ⟨p, 0, none⟩) (.inl rfl) _
  refine ⟨by go_cell, by go_cell, by go_cell, by go_cell, by go_cell, by go_cell, ?_, hgp, ?_, ?_⟩
  · rw [hx]
    exact ho.chg hc3 fun k hk e => hgp (by rw [hk]; exact congrArg some e)
  · rcases hb with e | e
    · rw [e]; exact h.gg
    · exact .inr ⟨_, e, hw0⟩
  · refine (h.ch.trans hcg fun i hi e => ?_).trans hc3 fun i _ e => .inl e
    rcases h.gg with e2 | ⟨k, e2, e3⟩
    · exact .inr (e2.symm.trans e)
    · rw [e2] at e; injection e with e; omega
theorem PutS.kept {w0 w w3 : World} {base p : Nat} {m : List Int} {g : Option Nat} {v : Value} {j : Nat} (h : PutS w0 w base p m g v j) (hg : w.grownBy w3 v.ownBlock) : w3.cell? ⟨p, 0, none⟩ = some v ∧ w3.frozen? ⟨p, 0, none⟩ = false := by
  have hcg : Chg (fun i => v.ownBlock = some i) w w3 := (Chg.refl _ w).grown hg fun k hk => .inl hk
  exact ⟨hcg.cellv h.c0 h.gp, (hcg.frozen (p := ⟨p, 0, none⟩) h.lt h.gp).trans h.f0⟩
theorem PutS.done {w0 w : World} {base p : Nat} {m : List Int} {g : Option Nat} {v : Value} {j : Nat} (h : PutS w0 w base p m g v j) (hj : j = m.length / 8) (hm : Bit m) (hb : base ≤ p) : Wtr w base p m v.ownBlock := by
  have ho := h.ob
  rw [hj, List.take_of_length_le (by rw [pack_len]; exact Nat.le_refl _)] at ho
  exact ⟨⟨v, h.c0, ho, rfl⟩, h.c1, h.c2, h.f0, h.f1, h.f2, h.gp, hb, hm⟩
theorem shr_oct {m : List Int} (hm : Bit m) {j s : Nat} (hj : 8 * j + 8 + s = m.length) (hs : s ≤ 15) : val m % 4294967296 / 2 ^ s % 256 = oct m j := by
  have h := oct_val hm (k := j) (by omega)
  rw [show m.length - (8 * j + 8) = s by omega] at h
  rw [← h]
  generalize val m = V
  have : s = 0 ∨ s = 1 ∨ s = 2 ∨ s = 3 ∨ s = 4 ∨ s = 5 ∨ s = 6 ∨ s = 7 ∨ s = 8 ∨ s = 9 ∨ s = 10 ∨ s = 11 ∨ s = 12 ∨ s = 13 ∨ s = 14 ∨ s = 15 := by omega
  rcases this with rfl | rfl | rfl | rfl | rfl | rfl | rfl | rfl | rfl | rfl | rfl | rfl | rfl | rfl | rfl | rfl <;> simp <;> omega
set_option maxHeartbeats 1600000 in
theorem put_yes (base p : Nat) (l : List Int) (g : Option Nat) (x : Int) (n : Nat) (w : World) (h : Wtr w base p l g) (hn : n ≤ 16) (hl : l.length ≤ 10000000) (hbw : base ≤ w.heap.size) :
    Calls Tryz.prog 31 #[.pointer (some ⟨p, 0, none⟩), .int .i64 x, .int .i64 n] w fun e w' => ∃ g', e = .returned (.bool true) ∧ Wtr w' base p (l ++ lo x n) g' ∧ (g' = g ∨ ∃ k, g' = some k ∧ w.heap.size ≤ k) ∧ Chg (fun i => i = p ∨ g = some i) w w' := by
  obtain ⟨v, e0, e0o, e0g⟩ := h.ex
  have e1 := h.la
  have e2 := h.ct
  have f0 := h.f0
  have f1 := h.f1
  have f2 := h.f2
  obtain ⟨A, c, rfl, hc0, hc1, r0, hb0, _⟩ := e0o.open'
  have hn16 : decide ((n : Int) ≤ 16) = true := by rw [decide_eq_true_iff]; omega
  go_enter Tryz.func31, Tryz.ntmps31
  go_wp2_with ((with_reducible refine (isCount_yes n _ hn).mono ?_); rintro e w1 ⟨rfl, rfl⟩)
  go_still_tail 15, (by kernel_rfl)
  still_call ((ones_any n _ hn).mono fun _ _ h => ⟨h.1, h.2.symm⟩)
  repeat still_step
  refine wpStill_nil ?_
  change wpList _ _ _ _ _ (World.drew _)
  go_wp2
  obtain ⟨m, hm⟩ : ∃ m, m = l ++ lo x n := ⟨_, rfl⟩
  have hml : m.length = l.length + n := by rw [hm]; simp
  have hmb : Bit m := by rw [hm]; exact h.bit.append (lo_bit x n)
  have hp := pow_le16 hn
  have hxm := Int.emod_lt_of_pos x (show (0 : Int) < 2 ^ n by omega)
  have hxm0 := Int.emod_nonneg x (show (2 : Int) ^ n ≠ 0 by omega)
  have hX : bits BinOp.or IntKind.u32 (val l % 4294967296 * 2 ^ n % 4294967296) (bits BinOp.and IntKind.i64 x (2 ^ n - 1) % 4294967296) = val m % 4294967296 := by
    rw [and_pow x n hn, Int.emod_eq_of_lt hxm0 (by omega), last_step _ _ _ hn, hm, val_append, val_lo, lo_len]
  have PS := Lib.hid (PutS.start (m := m) (Y := (l.length : Int) + (n : Int)) h e0 hX (by omega) (by rw [hm]; exact pack_append l _))
  have HMB := Lib.hid hmb
  have HM := Lib.hid hm
  have hml1 : m.length ≤ l.length + n := by omega
  have hml2 : l.length + n ≤ m.length := by omega
  clear hX hm hml hmb hp hxm hxm0 e0 e0o e0g e1 e2 f0 f1 f2 r0 hb0
  go_loopw [7] (fun s7 wr => ∃ (j : Nat) (v : Value), l.length / 8 ≤ j ∧ j ≤ m.length / 8 ∧ s7 = .int .i64 (((j : Int) + 1) * 8) ∧ Hid (PutS w wr base p m g v j)) (fun s7 _ => 8 * m.length + 16 - (RowKit.intOf s7).toNat)
  case atStart => exact ⟨l.length / 8, _, Nat.le_refl _, by omega, by go_num, PS⟩
  case round =>
    clear PS
    obtain ⟨j, v, hj0, hj1, rfl, PS⟩ := hrel
    have c0 := PS.out.c0
    have c1 := PS.out.c1
    have c2 := PS.out.c2
    have f0 := PS.out.f0
    by_cases hlt : j < m.length / 8
    · obtain ⟨s, hs⟩ : ∃ s, 8 * j + 8 + s = m.length := ⟨m.length - (8 * j + 8), by omega⟩
      have hs15 : s ≤ 15 := by omega
      have HO := Lib.hid (shr_oct HMB.out hs hs15)
      have hsub : (m.length : Int) - ((j : Int) + 1) * 8 = (s : Int) := by omega
      have hsub2 : IntKind.i64.wrap ((m.length : Int) - ((j : Int) + 1) * 8) = (s : Int) := by rw [hsub]; exact IntWalk.i64_in _ (by omega)
      clear hs
      have HT := Lib.hid (pack_take_succ (l := m) (k := j) hlt)
      have hlp : ((pack m).take j).length ≤ j := List.length_take_le ..
      have hw0 := PS.out.ch.size
      have PSA := Lib.hid (PS.out.below ((Below.refl wr.heap.size wr).alloc (Nat.le_refl _) (.cells #[.int .u8 (IntKind.u8.wrap (val m % 4294967296 / 2 ^ s))] 5)).drew)
      have ca0 := (PS.out.below ((Below.refl wr.heap.size wr).alloc (Nat.le_refl _) (.cells #[.int .u8 (IntKind.u8.wrap (val m % 4294967296 / 2 ^ s))] 5))).c0
      have r1 := Lib.hid (Rd.one wr 5 (IntKind.u8.wrap (val m % 4294967296 / 2 ^ s)) (UInt8.ofNat (oct m j).toNat) (by
        have := oct_rng HMB.out j
        rw [IntKind.wrap_u8, HO.out]
        exact (ofNat_num this.1 this.2).symm)).drew
      have hbw2 : base ≤ wr.heap.size := by omega
      clear PS
      go_wp2_with fail
      clear hsub
      go_region_law (refine step_appB (by rfl) (.tmp 57) (.tmp 70) (by rfl) base v (.slice (some ⟨wr.heap.size, 0, none⟩) 1 1) ((pack m).take j) (by go_simp) (some ⟨wr.heap.size, 0, none⟩) 1 1 [UInt8.ofNat (oct m j).toNat] (by go_simp) rfl rfl PSA.out.ob r1.out (by simp; omega) (by simp; omega) ?_; intro v3 w3 ho3 hg3 hb3; obtain ⟨k0, q0⟩ := PSA.out.kept hg3; have PS3 := Lib.hid (PSA.out.step HT.out (by simp; omega) ho3 hg3 hb3); obtain ⟨A3, n3, c3, hv3⟩ := ho3.slice; clear ho3 hg3 hb3; subst hv3)
      all_goals
        go_wp2
        go_roundw
        case rel => exact ⟨j + 1, _, by omega, by omega, by go_num, PS3⟩
        case measure => simp [RowKit.intOf]; omega
    · go_wp2
      go_ret
      have hw := PS.out.done (by omega) HMB.out h.bp
      rw [HM.out] at hw
      exact ⟨v.ownBlock, rfl, hw, PS.out.gg, PS.out.ch⟩
end Go.Proofs.YtkkkonmbbdhdhaaGreatDoor
/- Contracts of a Writer's rest and Done. -/
namespace Go.Proofs.YtkkkonmbbdhdhaaGreatDoor
open Go.RowKit Go.Lib
set_option linter.unusedVariables false
set_option maxRecDepth 100000

theorem ones_at (r : Int) (n : Nat) (w : World) (hr : r = n) (h : n ≤ 16) : Calls Tryz.prog 35 #[.int .i64 r] w fun e w' => e = .returned (.int .i64 (2 ^ n - 1)) ∧ w' = w := by
  subst hr
  exact (ones_any n w h).mono fun _ _ h => ⟨h.1, h.2.symm⟩
theorem wraps8 (n : Int) (h₀ : 0 ≤ n) (h₁ : n < 2 ^ 8) : IntKind.u8.wrap n = n := by rw [IntKind.wrap_u8]; omega
theorem rest_byte (V : Int) (r : Nat) (h1 : 1 ≤ r) (h7 : r ≤ 7) : bits .or .u8 (V % 4294967296 * 2 ^ r % 4294967296 % 256) ((2 ^ r - 1) % 256) = V * 2 ^ r % 256 + (2 ^ r - 1) := by
  have : r = 1 ∨ r = 2 ∨ r = 3 ∨ r = 4 ∨ r = 5 ∨ r = 6 ∨ r = 7 := by omega
  have key : ∀ X Y : Int, ∀ i : Nat, 0 ≤ X → X % 2 ^ i = 0 → X < 256 → 0 ≤ Y → Y < 2 ^ i → Y < 256 → bits .or .u8 X Y = X + Y := fun X Y i a b c d e f => bits_join .u8 8 (by decide) wraps8 i X Y a b c d e f
  rcases this with rfl | rfl | rfl | rfl | rfl | rfl | rfl
  · rw [key _ _ 1 (by omega) (by omega) (by omega) (by omega) (by omega) (by omega)]; omega
  · rw [key _ _ 2 (by omega) (by omega) (by omega) (by omega) (by omega) (by omega)]; omega
  · rw [key _ _ 3 (by omega) (by omega) (by omega) (by omega) (by omega) (by omega)]; omega
  · rw [key _ _ 4 (by omega) (by omega) (by omega) (by omega) (by omega) (by omega)]; omega
  · rw [key _ _ 5 (by omega) (by omega) (by omega) (by omega) (by omega) (by omega)]; omega
  · rw [key _ _ 6 (by omega) (by omega) (by omega) (by omega) (by omega) (by omega)]; omega
  · rw [key _ _ 7 (by omega) (by omega) (by omega) (by omega) (by omega) (by omega)]; omega

/-- The padded byte behind the whole ones, if there is one. -/
def restL (l : List Int) : List UInt8 := if l.length % 8 = 0 then [] else [UInt8.ofNat (oct (pad l) (l.length / 8)).toNat]
theorem pad_rest (l : List Int) : pack (pad l) = pack l ++ restL l := pack_pad l
set_option maxHeartbeats 800000 in
theorem rest_any (base p : Nat) (l : List Int) (g : Option Nat) (w : World) (h : Wtr w base p l g) (hl : l.length ≤ 10000000) :
    Calls Tryz.prog 33 #[.pointer (some ⟨p, 0, none⟩)] w fun e w' => ∃ A n c, e = .returned (.slice A n c) ∧ n = (restL l).length ∧ Rd w' A (restL l) ∧ n ≤ c ∧ (A = none → c = 0) ∧ Below w.heap.size w w' := by
  have e1 := h.la
  have e2 := h.ct
  by_cases h8 : l.length % 8 = 0
  · have hq : ((l.length : Int) % 8 == 0) = true := by rw [beq_iff_eq]; omega
    have hr : restL l = [] := by unfold restL; rw [if_pos h8]
    rw [hr]
    clear h8
    go_enter Tryz.func33, Tryz.ntmps33
    go_wp2
    go_ret
    exact ⟨none, 0, 0, rfl, rfl, Rd.nil _ _, Nat.le_refl _, fun _ => rfl, Below.refl _ _⟩
  · have hq : ((l.length : Int) % 8 == 0) = false := by rw [beq_eq_false_iff_ne]; omega
    obtain ⟨r, hr⟩ : ∃ r, r = 8 - l.length % 8 := ⟨_, rfl⟩
    have hr1 : 1 ≤ r := by omega
    have hr7 : r ≤ 7 := by omega
    have hsub : 8 - (l.length : Int) % 8 = (r : Int) := by omega
    have ho := oct_pad h.bit h8
    rw [← hr, ← rest_byte _ _ hr1 hr7] at ho
    have hrl : restL l = [UInt8.ofNat (oct (pad l) (l.length / 8)).toNat] := by unfold restL; rw [if_neg h8]
    have hrng := oct_rng (pad_bit h.bit) (l.length / 8)
    rw [hrl]
    have HO := Lib.hid ho
    clear h8 ho hrl hr
    go_enter Tryz.func33, Tryz.ntmps33
    go_wp2
    go_still_tail 11, (by kernel_rfl)
    still_call (ones_at _ r _ (by omega) (by omega))
    repeat still_step
    refine wpStill_nil ?_
    change wpList _ _ _ _ _ (World.drew _)
    go_wp2
    go_ret
    exact ⟨some ⟨w.heap.size, 0, none⟩, 1, 1, rfl, rfl, (Rd.one w _ _ _ (by rw [← HO.out]; exact (ofNat_num hrng.1 hrng.2).symm)).drew, Nat.le_refl _, (fun h => by cases h), ((Below.refl _ _).alloc (Nat.le_refl _) _).drew⟩

theorem stuff_n (l : List UInt8) (A : Option Addr) (n c : Nat) (w : World) (hn : n = l.length) (hw : Env w) (hr : Rd w A l) (hcap : n ≤ c) (hA : A = none → c = 0) (hl : n ≤ 100000000) :
    Calls Tryz.prog 32 #[.slice A n c] w fun e w' => ∃ v, e = .returned v ∧ Ob w' w.heap.size v (stf l) ∧ Below w.heap.size w w' := by
  subst hn; exact stuff_any l A c w hw hr hcap hA hl
set_option maxHeartbeats 800000 in
theorem done_any (base p : Nat) (l : List Int) (g : Option Nat) (w : World) (hw : Env w) (h : Wtr w base p l g) (hl : l.length ≤ 10000000) :
    Calls Tryz.prog 15 #[.pointer (some ⟨p, 0, none⟩)] w fun e w' => ∃ v, e = .returned v ∧ Ob w' w.heap.size v (stf (pack (pad l))) ∧ Below w.heap.size w w' := by
  obtain ⟨v, e0, e0o, e0g⟩ := h.ex
  obtain ⟨pl, hpl⟩ : ∃ pl, pl = pack l := ⟨_, rfl⟩
  have hpl2 : pl.length = l.length / 8 := by rw [hpl, pack_len]
  rw [← hpl] at e0o
  obtain ⟨A, c, rfl, hc0, hc1, r0, hb0, hA0⟩ := e0o.open'
  have hlen : pl.length ≤ 1250000 := by omega
  have hrl : (restL l).length ≤ 1 := by unfold restL; split <;> simp
  have HE : Hid (stf pl ++ stf (restL l) = stf (pack (pad l))) := by show _ = _; rw [← stf_append, pad_rest, hpl]
  have hs1 := stf_len pl
  have hs2 := stf_len (restL l)
  have H := Lib.hid h
  clear hpl hpl2 e0o e0g hb0 h
  go_enter Tryz.func15, Tryz.ntmps15
  go_wp2_with fail
  (with_reducible refine (stuff_any pl A c _ hw r0 hc0 hA0 (by omega)).mono ?_); rintro e w1 ⟨v1, rfl, ho1, h1⟩
  go_wp2_with fail
  (with_reducible refine (rest_any base p l g _ (H.out.below h1) hl).mono ?_); rintro e w2 ⟨A2, n2, c2, rfl, hn2, r2, hc2, hA2, h2⟩
  have b2 := h1.trans (h2.mono h1.size)
  have n2b : n2 ≤ 1 := by omega
  have N2 := Lib.hid hn2
  clear hn2
  go_wp2_with fail
  (with_reducible refine (stuff_n (restL l) A2 n2 c2 _ N2.out (hw.below b2) r2 hc2 hA2 (by omega)).mono ?_); rintro e w3 ⟨v3, rfl, ho3, h3⟩
  have b3 := b2.trans (h3.mono b2.size)
  have HO1 := Lib.hid ((ho1.below (h2.mono (Nat.le_refl _))).below h3)
  obtain ⟨s3, hs3⟩ : ∃ s3, s3 = stf (restL l) := ⟨_, rfl⟩
  rw [← hs3] at ho3 HE hs2
  have HS3 := Lib.hid hs3
  obtain ⟨A3, c3, rfl, hc3, _, r3, _, hA3⟩ := ho3.open'
  have B3 := Lib.hid b3
  have z3 := b3.size
  clear hs3 ho3 h1 h2 h3 b2 b3 ho1 H r2 r0
  go_wp2_with (
    ((with_reducible refine wpList_appB _ rfl (.tmp 9) (.tmp 12) rfl w.heap.size v1 (stf pl) rfl HO1.out A3 s3.length c3 s3 rfl rfl r3 (by omega) z3 ?_)
     intro v4 w4 ho4 hg4 _
     have HB4 := Lib.hid (HO1.out.grown B3.out hg4 z3)
     rw [HE.out] at ho4
     have HO4 := Lib.hid ho4
     clear ho4 hg4))
  go_ret
  exact ⟨v4, rfl, HO4.out, HB4.out⟩
end Go.Proofs.YtkkkonmbbdhdhaaGreatDoor
