/- Contracts of a Reader's calls. -/
import Derived.Test.YthidhgobocihpaaDoorRef6
namespace Go.Proofs.YthidhgobocihpaaDoor
open Go.RowKit Go.Lib
set_option linter.unusedVariables false

theorem isCount_yes (n : Nat) (w : World) (h : n ≤ 16) : Calls Tryd.prog 25 #[.int .i64 n] w fun e w' => e = .returned (.bool true) ∧ w = w' := by
  have hq : decide ((n : Int) ≤ 16) = true := by rw [decide_eq_true_iff]; omega
  go_enter Tryd.func25, Tryd.ntmps25
  go_wp2
  go_ret
  exact ⟨rfl, rfl⟩
theorem isCount_no (n : Int) (w : World) (h : n < 0 ∨ 16 < n) : Calls Tryd.prog 25 #[.int .i64 n] w fun e w' => e = .returned (.bool false) ∧ w = w' := by
  by_cases h0 : 0 ≤ n
  · have h1 : decide (n ≤ 16) = false := by rw [decide_eq_false_iff_not]; omega
    clear h
    go_enter Tryd.func25, Tryd.ntmps25
    go_wp2
    go_ret
    exact ⟨rfl, rfl⟩
  · have h1 : n < 0 := by omega
    clear h h0
    go_enter Tryd.func25, Tryd.ntmps25
    go_wp2
    go_ret
    exact ⟨rfl, rfl⟩
theorem pow_le16 {n : Nat} (h : n ≤ 16) : (1 : Int) ≤ 2 ^ n ∧ (2 : Int) ^ n ≤ 65536 := by
  have h3 : (2 : Int) ^ n ≤ 2 ^ 16 := by exact_mod_cast Nat.pow_le_pow_right (by decide : 0 < 2) h
  have h0 := pow2_pos n
  have h4 : (2 : Int) ^ 16 = 65536 := rfl
  omega
theorem ones_any (n : Nat) (w : World) (h : n ≤ 16) : Calls Tryd.prog 26 #[.int .i64 n] w fun e w' => e = .returned (.int .i64 (2 ^ n - 1)) ∧ w = w' := by
  have hp := pow_le16 h
  obtain ⟨p, hpp⟩ : ∃ p : Int, (2 : Int) ^ n = p := ⟨_, rfl⟩
  rw [hpp] at hp
  obtain ⟨hp0, hp1⟩ := hp
  go_enter Tryd.func26, Tryd.ntmps26
  go_wp2
  go_ret
  exact ⟨ret_int (by rw [hpp]), rfl⟩

theorem left_any (q : Nat) (d : List UInt8) (k : Nat) (w : World) (h : Rdr w q d k) (hd : d.length ≤ 100000000) (hk : k ≤ 8 * d.length) :
    Calls Tryd.prog 23 #[.pointer (some ⟨q, 0, none⟩)] w fun e w' => e = .returned (.int .i64 ((d.length : Int) * 8 - k)) ∧ ∃ n, w' = w.drewN n := by
  obtain ⟨A, c, h1, _⟩ := h.ex
  have h2 := h.nx
  go_enter Tryd.func23, Tryd.ntmps23
  go_wp2
  go_quiet (fail)
  go_wp2
  go_ret
  exact ⟨rfl, _, rfl⟩
theorem left_nil (w : World) : Calls Tryd.prog 23 #[.pointer none] w fun e w' => e = .returned (.int .i64 0) ∧ w = w' := by
  go_enter Tryd.func23, Tryd.ntmps23
  go_wp2
  go_ret
  exact ⟨rfl, rfl⟩

theorem Rdr.step {w w' : World} {q : Nat} {d : List UInt8} {k j : Nat} (h : Rdr w q d k) (hc : Chg (fun i => i = q) w w') (h1 : w'.cell? ⟨q, 0, none⟩ = w.cell? ⟨q, 0, none⟩) (h2 : w'.cell? ⟨q, 1, none⟩ = some (.int .i64 j)) (h3 : w'.frozen? ⟨q, 1, none⟩ = false) : Rdr w' q d j := by
  obtain ⟨A, c, e1, e2, e3, e4⟩ := h.ex
  exact ⟨⟨A, c, h1.trans e1, e2, e3.chg hc fun b o s e => (e4 b o s e).1, fun b o s e => ⟨(e4 b o s e).1, Nat.lt_of_lt_of_le (e4 b o s e).2 hc.size⟩⟩, h2, h3⟩

set_option maxHeartbeats 800000 in
theorem takeBit_any (q : Nat) (d : List UInt8) (k : Nat) (w : World) (h : Rdr w q d k) (hd : d.length ≤ 100000000) (hk : k < 8 * d.length) :
    Calls Tryd.prog 31 #[.pointer (some ⟨q, 0, none⟩)] w fun e w' => e = .returned (.int .i64 ((bitsOf d).getD k 0)) ∧ Rdr w' q d (k + 1) ∧ Chg (fun i => i = q) w w' := by
  obtain ⟨A, c, h1, hc, h3, h4⟩ := h.ex
  have h2 := h.nx
  have hf := h.fr
  obtain ⟨b, o, rfl, hcell⟩ := h3.at (by omega)
  have e1 := hcell (k / 8) (by omega)
  have hbq : b ≠ q := (h4 b o none rfl).1
  have hgt : Hid ((bitsOf d).getD k 0 = bt d (k / 8) / 2 ^ (7 - k % 8) % 2) := by
    show _ = _
    rw [List.getD_eq_getElem?_getD, bitsOf_get hk]
    rfl
  obtain ⟨hb0, hb1⟩ := bt_rng d (k / 8)
  clear hcell
  go_enter Tryd.func31, Tryd.ntmps31
  go_wp2
  go_quiet (fail)
  go_wp2
  go_ret
  have hx0 : 0 ≤ bt d (k / 8) / 2 ^ (7 - k % 8) := Int.ediv_nonneg hb0 (by have := pow2_pos (7 - k % 8); omega)
  have hx1 : bt d (k / 8) / 2 ^ (7 - k % 8) ≤ bt d (k / 8) := Int.ediv_le_self _ hb0
  have hch : Chg (fun i => i = q) w ((w.drewN nq).setCell ⟨q, 1, none⟩ (.int .i64 ((k : Int) + 1))) := Chg.setCell (S := fun i => i = q) ((Chg.refl _ w).drewN nq) (p := ⟨q, 1, none⟩) (.inl rfl) _
  refine ⟨ret_int ?_, h.step hch ?_ ?_ ?_, hch⟩
  · rw [hgt.out, IntWalk.wrap64_in _ ⟨by omega, by omega⟩, and1]
  · rw [h1]; go_cell
  · have : ((k + 1 : Nat) : Int) = (k : Int) + 1 := by omega
    rw [this]; go_cell
  · go_cell

theorem wraps62 (n : Int) (h₀ : 0 ≤ n) (h₁ : n < 2 ^ 62) : IntKind.i64.wrap n = n := by rw [IntKind.wrap_i64]; omega
theorem or_bit (y x : Int) (h0 : 0 ≤ y) (h1 : y ≤ 65535) (hx0 : 0 ≤ x) (hx1 : x ≤ 1) : bits .or .i64 (y * 2) x = 2 * y + x := by
  have := bits_join .i64 62 (by decide) wraps62 1 (y * 2) x (by omega) (by omega) (by omega) hx0 (by omega) (by omega)
  rw [this]
  omega
theorem Rdr.drewN {w : World} {q : Nat} {d : List UInt8} {k : Nat} (h : Rdr w q d k) (n : Nat) : Rdr (w.drewN n) q d k := h.below (below_drewN w n)
set_option maxHeartbeats 800000 in
theorem take_yes (q : Nat) (d : List UInt8) (k n : Nat) (w : World) (h : Rdr w q d k) (hd : d.length ≤ 100000000) (hn : n ≤ 16) (hk : k + n ≤ 8 * d.length) :
    Calls Tryd.prog 21 #[.pointer (some ⟨q, 0, none⟩), .int .i64 n] w fun e w' => e = .returned (.tuple #[.int .i64 (val (((bitsOf d).drop k).take n)), .bool true]) ∧ Rdr w' q d (k + n) ∧ Chg (fun i => i = q) w w' := by
  have hg : decide ((d.length : Int) * 8 - (k : Int) < (n : Int)) = false := by rw [decide_eq_false_iff_not]; omega
  have H := Lib.hid h
  clear h
  go_enter Tryd.func21, Tryd.ntmps21
  go_wp2_with (first
    | ((with_reducible refine (isCount_yes n _ hn).mono ?_); rintro e w1 ⟨rfl, rfl⟩)
    | ((with_reducible refine (left_any q d k _ H.out hd (by omega)).mono ?_); rintro e w1 ⟨rfl, m, hm⟩; subst hm))
  have H1 := Lib.hid (H.out.drewN m)
  have HC := Lib.hid ((Chg.refl (fun i => i = q) w).drewN m)
  clear H
  go_loopw [6, 21] (fun v i wr => ∃ (j : Nat) (y : Int), j ≤ n ∧ i = .int .i64 j ∧ v = .int .i64 y ∧ 0 ≤ y ∧ y ≤ 65535 ∧ Hid (y = val (((bitsOf d).drop k).take j)) ∧ Hid (Rdr wr q d (k + j)) ∧ Hid (Chg (fun i => i = q) w wr)) (fun _ i _ => n - (RowKit.intOf i).toNat)
  case atStart => exact ⟨0, 0, Nat.zero_le _, rfl, rfl, by decide, by decide, (show Hid _ from by show _ = _; simp [val_nil]), H1, HC⟩
  case round =>
    obtain ⟨j, y, hj, rfl, rfl, hy0, hy1, HY, HR, HC⟩ := hrel
    by_cases hlt : j < n
    · obtain ⟨x, hx⟩ : ∃ x, (bitsOf d).getD (k + j) 0 = x := ⟨_, rfl⟩
      have hxb := getB (bitsOf_bit d) (k + j)
      have hs := val_take_succ (l := (bitsOf d).drop k) (k := j) (by rw [List.length_drop, bitsOf_len]; omega)
      have hv := val_small (((bitsOf_bit d).drop k).take j) (k := 15) (by rw [List.length_take]; omega)
      have hv2 := val_small (((bitsOf_bit d).drop k).take (j + 1)) (k := 16) (by rw [List.length_take]; omega)
      have hgd : ((bitsOf d).drop k).getD j 0 = (bitsOf d).getD (k + j) 0 := by rw [List.getD_eq_getElem?_getD, List.getElem?_drop, List.getD_eq_getElem?_getD]
      rw [hs, ← HY.out, hgd, hx] at hv2
      rw [← HY.out] at hv
      rw [hgd, hx] at hs
      rw [hx] at hxb
      have HS := Lib.hid hs
      have HX := Lib.hid hx
      obtain ⟨hx0, hx1⟩ := hxb
      obtain ⟨hv0, hv1⟩ := hv
      obtain ⟨hv3, hv4⟩ := hv2
      simp only [show (2 : Int) ^ 15 = 32768 from rfl, show (2 : Int) ^ 16 = 65536 from rfl] at hv1 hv4
      have HO := Lib.hid (or_bit y x hy0 hy1 hx0 hx1)
      clear hs hx hgd
      go_wp2_with ((with_reducible refine (takeBit_any q d (k + j) _ HR.out hd (by omega)).mono ?_); rintro e w2 ⟨rfl, hr2, hc2⟩; rw [HX.out]; have HR2 := Lib.hid hr2; have HC2 := Lib.hid (HC.out.trans hc2 fun _ _ e => e); clear hr2 hc2 HR HC)
      go_roundw
      case rel => exact ⟨j + 1, 2 * y + x, by omega, by go_num, by rw [HO.out], by omega, by omega, (show Hid _ from by show _ = _; rw [HS.out, HY.out]), (show Hid _ from HR2.out), HC2⟩
      case measure => simp [RowKit.intOf]; omega
    · obtain rfl : n = j := by omega
      go_wp2
      go_ret2
      exact ⟨by rw [HY.out]; rfl, HR.out, HC.out⟩
theorem take_bad (q : Nat) (n : Int) (w : World) (h : n < 0 ∨ 16 < n) :
    Calls Tryd.prog 21 #[.pointer (some ⟨q, 0, none⟩), .int .i64 n] w fun e w' => e = .returned (.tuple #[.int .i64 0, .bool false]) ∧ w = w' := by
  have h0 := fun W => isCount_no n W h
  clear h
  go_enter Tryd.func21, Tryd.ntmps21
  go_wp2_with ((with_reducible refine (h0 _).mono ?_); rintro e w1 ⟨rfl, rfl⟩)
  go_ret2
  exact ⟨rfl, rfl⟩
theorem take_few (q : Nat) (d : List UInt8) (k n : Nat) (w : World) (h : Rdr w q d k) (hd : d.length ≤ 100000000) (hn : n ≤ 16) (hkd : k ≤ 8 * d.length) (hk : 8 * d.length < k + n) :
    Calls Tryd.prog 21 #[.pointer (some ⟨q, 0, none⟩), .int .i64 n] w fun e w' => e = .returned (.tuple #[.int .i64 0, .bool false]) ∧ ∃ m, w' = w.drewN m := by
  have hg : decide ((d.length : Int) * 8 - (k : Int) < (n : Int)) = true := by rw [decide_eq_true_iff]; omega
  have H := Lib.hid h
  clear h
  go_enter Tryd.func21, Tryd.ntmps21
  go_wp2_with (first
    | ((with_reducible refine (isCount_yes n _ hn).mono ?_); rintro e w1 ⟨rfl, rfl⟩)
    | ((with_reducible refine (left_any q d k _ H.out hd hkd).mono ?_); rintro e w1 ⟨rfl, m, hm⟩; subst hm))
  go_ret2
  exact ⟨rfl, m, rfl⟩
theorem take_nil (n : Int) (w : World) : Calls Tryd.prog 21 #[.pointer none, .int .i64 n] w fun e w' => e = .returned (.tuple #[.int .i64 0, .bool false]) ∧ w = w' := by
  go_enter Tryd.func21, Tryd.ntmps21
  go_wp2
  go_ret2
  exact ⟨rfl, rfl⟩

/-- At most seven bits, all of them 1. -/
def fillB (l : List Int) : Bool := decide (l.length < 8) && l.all (fun x => decide (x = 1))
theorem val_full {l : List Int} (h : Bit l) : val l = 2 ^ l.length - 1 ↔ ∀ x ∈ l, x = 1 := by
  induction l with
  | nil => simp [val_nil]
  | cons x l ih =>
    have hb : Bit l := fun y hy => h y (List.mem_cons_of_mem _ hy)
    have e : val (x :: l) = x * 2 ^ l.length + val l := by rw [show x :: l = [x] ++ l from rfl, val_append, val_one]
    have hr := val_rng hb
    have ih := ih hb
    rw [e, List.length_cons, Int.pow_succ]
    have hp := pow2_pos l.length
    simp only [List.mem_cons, forall_eq_or_imp]
    rw [← ih]
    generalize (2 : Int) ^ l.length = p at *
    rcases h x (List.mem_cons_self ..) with rfl | rfl <;> omega
theorem fill_val {l : List Int} (h : Bit l) : fillB l = (decide (l.length < 8) && decide (val l = 2 ^ l.length - 1)) := by
  unfold fillB
  congr 1
  rw [Bool.eq_iff_iff, List.all_eq_true, decide_eq_true_iff, val_full h]
  simp
theorem left_opaque {q : Nat} {d : List UInt8} {k : Nat} {w : World} {x : Int} (h : Rdr w q d k) (hl : Calls Tryd.prog 23 #[.pointer (some ⟨q, 0, none⟩)] w fun e w' => e = .returned (.int .i64 x) ∧ ∃ n, w' = w.drewN n) :
    Calls Tryd.prog 23 #[.pointer (some ⟨q, 0, none⟩)] w fun e w' => e = .returned (.int .i64 x) ∧ Rdr w' q d k ∧ Below w.heap.size w w' := by
  refine hl.mono ?_
  rintro e w' ⟨rfl, m, rfl⟩
  exact ⟨rfl, h.drewN m, below_drewN w m⟩
theorem copy_rdr {w : World} {q : Nat} {d : List UInt8} {k : Nat} {A : Option Addr} {c : Nat} (h : Rdr w q d k) (e1 : w.cell? ⟨q, 0, none⟩ = some (.slice A d.length c)) (T : TypeId) : Rdr (w.alloc (.cells #[.slice A d.length c, .int .i64 k] T)) w.heap.size d k := by
  obtain ⟨A', c', h1, h2, h3, h4⟩ := h.ex
  have ea : A' = A ∧ c' = c := by
    have := h1.symm.trans e1
    injection this with this
    injection this with x1 x2 x3
    exact ⟨x1, x3⟩
  obtain ⟨rfl, rfl⟩ := ea
  exact ⟨⟨A', c', by go_cell, h2, h3.alloc _, fun b o s e => by have := (h4 b o s e).2; simp; omega⟩, by go_cell, by go_cell⟩
set_option maxHeartbeats 800000 in
theorem filled_any (q : Nat) (d : List UInt8) (k : Nat) (w : World) (h : Rdr w q d k) (hd : d.length ≤ 100000000) (hk : k ≤ 8 * d.length) :
    Calls Tryd.prog 24 #[.pointer (some ⟨q, 0, none⟩)] w fun e w' => e = .returned (.bool (fillB ((bitsOf d).drop k))) ∧ Below w.heap.size w w' := by
  have hbr : Bit ((bitsOf d).drop k) := (bitsOf_bit d).drop k
  have hlen : ((bitsOf d).drop k).length = 8 * d.length - k := by rw [List.length_drop, bitsOf_len]
  have hfv := fill_val hbr
  rw [hlen] at hfv
  by_cases h8 : 8 * d.length - k < 8
  · obtain ⟨n, hn⟩ : ∃ n, n = 8 * d.length - k := ⟨_, rfl⟩
    rw [← hn] at hfv h8
    rw [decide_eq_true h8, Bool.true_and] at hfv
    rw [hfv]
    have hl := left_any q d k w h hd hk
    rw [show (d.length : Int) * 8 - k = (n : Int) by omega] at hl
    replace hl := left_opaque h hl
    have hkn : k + n = 8 * d.length := by omega
    have hn8 : decide ((8 : Int) ≤ (n : Int)) = false := by rw [decide_eq_false_iff_not]; omega
    have HD := Lib.hid (show ((bitsOf d).drop k).take n = (bitsOf d).drop k from List.take_of_length_le (by omega))
    have HKN := Lib.hid hkn
    have HL := Lib.hid hl
    have H := Lib.hid h
    have hk1 : k + n ≤ 8 * d.length := by omega
    clear hn hfv hlen hbr hl hkn h
    generalize hvv : val ((bitsOf d).drop k) = V at *
    have HV := Lib.hid hvv
    clear hvv
    go_enter Tryd.func24, Tryd.ntmps24
    go_wp2_with fail
    (with_reducible refine HL.out.mono ?_); rintro e w1 ⟨rfl, hr1, hb1⟩
    obtain ⟨A, c, e1, e2, e3, e4⟩ := hr1.ex
    have e5 := hr1.nx
    have E4 := Lib.hid e4
    have R1 := Lib.hid hr1
    have B1 := Lib.hid hb1
    have HC := Lib.hid (copy_rdr (w := w1) hr1 e1 55)
    clear e4 hr1 hb1 HL H
    go_wp2_with fail
    (with_reducible refine (take_yes w1.heap.size d k n _ HC.out hd (by omega) hk1).mono ?_); rintro e w2 ⟨rfl, hr2, hc2⟩
    rw [HD.out, HV.out]
    have B2 := Lib.hid ((B1.out.alloc B1.out.size (.cells #[.slice A d.length c, .int .i64 k] 55)).trans (hc2.below (B := w.heap.size) (by simp; have := B1.out.size; omega) (by intro i hi; have := B1.out.size; omega)))
    clear hr2 hc2 R1 B1 HC e1 e5
    go_wp2_with ((with_reducible refine (ones_any n _ (by omega)).mono ?_); rintro e w3 ⟨rfl, rfl⟩)
    go_ret
    exact ⟨ret_bool (by rw [Bool.eq_iff_iff]; simp), B2.out⟩
  · have hl := left_any q d k w h hd hk
    have hn8 : decide ((8 : Int) ≤ (d.length : Int) * 8 - (k : Int)) = true := by rw [decide_eq_true_iff]; omega
    rw [decide_eq_false h8, Bool.false_and] at hfv
    rw [hfv]
    go_enter Tryd.func24, Tryd.ntmps24
    go_wp2_with ((with_reducible refine hl.mono ?_); rintro e w1 ⟨rfl, m, hm⟩; subst hm)
    go_ret
    exact ⟨rfl, below_drewN w m⟩
theorem filled_nil (w : World) : Calls Tryd.prog 24 #[.pointer none] w fun e w' => e = .returned (.bool false) ∧ w = w' := by
  go_enter Tryd.func24, Tryd.ntmps24
  go_wp2_with ((with_reducible refine (left_nil _).mono ?_); rintro e w1 ⟨rfl, rfl⟩)
  go_ret
  exact ⟨rfl, rfl⟩
end Go.Proofs.YthidhgobocihpaaDoor
