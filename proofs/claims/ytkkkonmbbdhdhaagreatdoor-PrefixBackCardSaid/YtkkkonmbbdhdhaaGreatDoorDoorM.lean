/- DoorM: the texts TakP, FTak, FNxt, Win in one. -/
import Derived.Test.YtkkkonmbbdhdhaaGreatDoorFNew
import Derived.Test.YtkkkonmbbdhdhaaGreatDoorBitM
import Derived.Test.YtkkkonmbbdhdhaaGreatDoorDrw
import Derived.Deep.DeepCutAuto
import Derived.Test.YtkkkonmbbdhdhaaGreatDoorAwkM
import Derived.Test.YtkkkonmbbdhdhaaGreatDoorFBld
/- Which symbol comes next: in plain numbers; a look-up of a code's symbol. -/
namespace Go.Proofs.YtkkkonmbbdhdhaaGreatDoor
open Go.RowKit Go.Lib Go.Maps
set_option linter.unusedVariables false
set_option maxRecDepth 100000
/-- The codes of a specification that may be, each by itself, and two of them. -/
theorem cd_each {cs l : List Int} (h : MayP cs l) {j : Nat} (hj : j < l.length) : 1 ≤ ((cds (lensOf cs 16)).getD j (0, 0)).2 ∧ ((cds (lensOf cs 16)).getD j (0, 0)).2 ≤ 16 ∧ 0 ≤ ((cds (lensOf cs 16)).getD j (0, 0)).1 ∧ ((cds (lensOf cs 16)).getD j (0, 0)).1 + 1 < 2 ^ ((cds (lensOf cs 16)).getD j (0, 0)).2 := by
  have hk : kraft 16 (lensOf cs 16) < 2 ^ 16 := by
    have h1 := lens_kraft 16 (Nat.le_refl _) (fun j hj => (h.cnt j hj).1)
    have h2 := h.sum
    have e : (2 : Nat) ^ 16 = 65536 := by decide
    omega
  have hjl : j < (cds (lensOf cs 16)).length := by rw [cds_many h]; exact hj
  have hp := cds_fit (L := 16) (lens_rise cs 16) (fun x hx => (lens_le cs 16 x hx).2) hk _ (List.getElem_mem hjl)
  rw [List.getD_eq_getElem?_getD, List.getElem?_eq_getElem hjl]
  simp only [Option.getD_some]
  have h3 := lens_le cs 16 _ hp.2.2
  exact ⟨h3.1, h3.2, hp.1, hp.2.1⟩
theorem cd_two {cs l : List Int} (h : MayP cs l) {j k : Nat} (hjk : j < k) (hk : k < l.length) : ((cds (lensOf cs 16)).getD j (0, 0)).2 ≤ ((cds (lensOf cs 16)).getD k (0, 0)).2 ∧ (((cds (lensOf cs 16)).getD j (0, 0)).1 + 1) * 2 ^ (((cds (lensOf cs 16)).getD k (0, 0)).2 - ((cds (lensOf cs 16)).getD j (0, 0)).2) ≤ ((cds (lensOf cs 16)).getD k (0, 0)).1 := by
  have hkl : k < (cds (lensOf cs 16)).length := by rw [cds_many h]; exact hk
  have hjl : j < (cds (lensOf cs 16)).length := by omega
  have hp := List.pairwise_iff_getElem.1 (cds_apart (lens_rise cs 16)) j k hjl hkl hjk
  have ej : (cds (lensOf cs 16)).getD j (0, 0) = (cds (lensOf cs 16))[j] := by rw [List.getD_eq_getElem?_getD, List.getElem?_eq_getElem hjl, Option.getD_some]
  have ek : (cds (lensOf cs 16)).getD k (0, 0) = (cds (lensOf cs 16))[k] := by rw [List.getD_eq_getElem?_getD, List.getElem?_eq_getElem hkl, Option.getD_some]
  rw [ej, ek]
  generalize (cds (lensOf cs 16))[j] = a at *
  generalize (cds (lensOf cs 16))[k] = b at *
  exact hp
/-- One code at most stands at the beginning. -/
theorem hit_one {cs l : List Int} (h : MayP cs l) {s : List Int} (hs : Bit s) {j k : Nat} (hj : j < l.length) (hk : k < l.length) (h1 : Hits ((cds (lensOf cs 16)).getD j (0, 0)) s) (h2 : Hits ((cds (lensOf cs 16)).getD k (0, 0)) s) : j = k := by
  rcases Nat.lt_trichotomy j k with e | e | e
  · have := cd_two h e hk
    exact (not_both this.1 this.2 hs h1 h2).elim
  · exact e
  · have := cd_two h e hj
    exact (not_both this.1 this.2 hs h2 h1).elim
open Classical in
/-- The symbol that comes next in bits s, and how many bits its code has; 0: none. -/
noncomputable def nxtS (cs l s : List Int) : Int × Nat :=
  if h : ∃ j, j < l.length ∧ Hits ((cds (lensOf cs 16)).getD j (0, 0)) s then (l.getD (Classical.choose h) 0, ((cds (lensOf cs 16)).getD (Classical.choose h) (0, 0)).2) else (0, 0)
theorem next_hit {cs l s : List Int} (h : MayP cs l) (hs : Bit s) {j : Nat} (hj : j < l.length) (h1 : Hits ((cds (lensOf cs 16)).getD j (0, 0)) s) : nxtS cs l s = (l.getD j 0, ((cds (lensOf cs 16)).getD j (0, 0)).2) := by
  have hex : ∃ j, j < l.length ∧ Hits ((cds (lensOf cs 16)).getD j (0, 0)) s := ⟨j, hj, h1⟩
  unfold nxtS
  rw [dif_pos hex]
  have := Classical.choose_spec hex
  rw [hit_one h hs this.1 hj this.2 h1]
theorem next_none {cs l s : List Int} (h : ∀ j, j < l.length → ¬ Hits ((cds (lensOf cs 16)).getD j (0, 0)) s) : nxtS cs l s = (0, 0) := by
  unfold nxtS
  rw [dif_neg]
  rintro ⟨j, hj, h1⟩
  exact h j hj h1
theorem next_some {cs l s : List Int} (h : MayP cs l) (hs : Bit s) (hn : 0 < (nxtS cs l s).2) : ∃ j, j < l.length ∧ Hits ((cds (lensOf cs 16)).getD j (0, 0)) s ∧ nxtS cs l s = (l.getD j 0, ((cds (lensOf cs 16)).getD j (0, 0)).2) := by
  by_cases hex : ∃ j, j < l.length ∧ Hits ((cds (lensOf cs 16)).getD j (0, 0)) s
  · obtain ⟨j, hj, h1⟩ := hex
    exact ⟨j, hj, h1, next_hit h hs hj h1⟩
  · rw [next_none fun j hj h1 => hex ⟨j, hj, h1⟩] at hn
    exact absurd hn (Nat.lt_irrefl 0)
open Classical in
/-- A code's symbol. -/
noncomputable def symAt (cs l : List Int) (p : Int × Nat) : Int × Bool :=
  if h : ∃ j, j < l.length ∧ (cds (lensOf cs 16)).getD j (0, 0) = p then (l.getD (Classical.choose h) 0, true) else (0, false)
theorem cd_inj {cs l : List Int} (h : MayP cs l) {j k : Nat} (hj : j < l.length) (hk : k < l.length) (e : (cds (lensOf cs 16)).getD j (0, 0) = (cds (lensOf cs 16)).getD k (0, 0)) : j = k := by
  rcases Nat.lt_trichotomy j k with e1 | e1 | e1
  · exact absurd e (cds_dif h j k e1 (by rw [cds_many h]; exact hk))
  · exact e1
  · exact absurd e.symm (cds_dif h k j e1 (by rw [cds_many h]; exact hj))
theorem sym_yes {cs l : List Int} (h : MayP cs l) {j : Nat} (hj : j < l.length) : symAt cs l ((cds (lensOf cs 16)).getD j (0, 0)) = (l.getD j 0, true) := by
  have hex : ∃ i, i < l.length ∧ (cds (lensOf cs 16)).getD i (0, 0) = (cds (lensOf cs 16)).getD j (0, 0) := ⟨j, hj, rfl⟩
  unfold symAt
  rw [dif_pos hex]
  have := Classical.choose_spec hex
  rw [cd_inj h this.1 hj this.2]
theorem sym_no {cs l : List Int} {p : Int × Nat} (h : ∀ j, j < l.length → (cds (lensOf cs 16)).getD j (0, 0) ≠ p) : symAt cs l p = (0, false) := by
  unfold symAt
  rw [dif_neg]
  rintro ⟨j, hj, h1⟩
  exact h j hj h1
/-- A look-up of a code's symbol. -/
theorem Tbl.find {w : World} {b : Nat} {cs l : List Int} (h : Tbl w b cs l) (p : Int × Nat) (h0 : 0 ≤ p.1) (h1 : p.1 ≤ 100000) (h2 : p.2 ≤ 1000) : ∃ m2, w.cell? ⟨b, 1, none⟩ = some (.map (some m2)) ∧
    (Instr.lookup 62 (.map (some m2)) (.agg #[.int .i64 p.1, .int .i64 (p.2 : Int)]) true).run Tryz.prog w = .ok (.tuple #[.int .i64 (symAt cs l p).1, .bool (symAt cs l p).2]) w := by
  obtain ⟨m1, m2, n1, n2, D1, D2, e1, e2, h3, h4, h5, h6⟩ := h.ex
  refine ⟨m2, e2, ?_⟩
  have hz : (zeroValue 3).run Tryz.prog w = .ok (.int .i64 0) w := by kernel_rfl
  have hRI : RI (.int .i64 0) = some (.lit (.int .i64 0), []) := plainElem_int Tryz.underlying3 (wf64 (by omega) (by omega))
  obtain ⟨v, ps, hrun, hv⟩ := h4.look_ok bits_law Tryz.underlying62 hz hRI (keyOf_bits h0 h1 h2)
  rw [hrun]
  have inv : ∀ {v : Value} {x : Int} {qs : List MemPlace}, RI v = some (.lit (.int .i64 x), qs) → v = .int .i64 x := by
    intro v x qs hx
    obtain ⟨a, rfl, hz, _⟩ := plainElem_int_inv Tryz.underlying3 hx
    injection hz with hz _
    injection hz with hz
    injection hz with _ hz
    rw [hz]
  by_cases hin : ∃ j, j < l.length ∧ (cds (lensOf cs 16)).getD j (0, 0) = p
  · obtain ⟨j, hj, rfl⟩ := hin
    have hy := h6.yes j hj
    rw [hy.1]
    rw [hy.2] at hv
    rw [inv hv, sym_yes h.may hj]
  · have hno : ∀ j, j < l.length → (cds (lensOf cs 16)).getD j (0, 0) ≠ p := fun j hj he => hin ⟨j, hj, he⟩
    have hn := h6.no p h0 h1 h2 hno
    rw [hn]
    rw [atKey_of_not_has hn] at hv
    rw [inv hv, sym_no hno]
end Go.Proofs.YtkkkonmbbdhdhaaGreatDoor
/- Contract of a table's Take. -/
namespace Go.Proofs.YtkkkonmbbdhdhaaGreatDoor
open Go.RowKit Go.Lib
set_option linter.unusedVariables false
set_option maxRecDepth 100000
theorem exec_lookup {P : Program} {o : Oper} {a : Act} {w : World} (T : TypeId) (x y : Operand) (m k v : Value) (ho : o.op = .lookup T x y true) (hx : a.eval x = m) (hy : a.eval y = k) (hl : (Instr.lookup T m k true).run P w = .ok v w) : (execOp a.eval o).run P w = .ok (.value v) w := by
  unfold execOp
  simp only [ho, hx, hy, Sem.run_bind, hl, Result.andThen_ok, Sem.run_pure]
theorem fTake_nil (R : Value) (hR : ∃ p, R = .pointer p) (w : World) : Calls Tryz.prog 8 #[.pointer none, R] w fun e w' => e = .returned (.tuple #[.int .i64 0, .bool false]) ∧ w = w' := by
  obtain ⟨p, rfl⟩ := hR
  go_enter Tryz.func8, Tryz.ntmps8
  go_wp2
  go_ret2
  exact ⟨rfl, rfl⟩
theorem fTake_nor (b : Nat) (w : World) : Calls Tryz.prog 8 #[.pointer (some ⟨b, 0, none⟩), .pointer none] w fun e w' => e = .returned (.tuple #[.int .i64 0, .bool false]) ∧ w = w' := by
  go_enter Tryz.func8, Tryz.ntmps8
  go_wp2
  go_ret2
  exact ⟨rfl, rfl⟩
theorem ld_b2 {W : World} {g : Nat} {x y : Value} (h : Blk W g #[x, y]) : (Instr.loadAt 47 (.pointer (some ⟨g, 0, none⟩))).run Tryz.prog W = .ok (.agg #[x, y]) W :=
  run_loadAt_mid W g 0 47 [x, y] _ (fun j u hu => by rw [Nat.zero_add]; exact h.cell (by simpa using hu)) Tryz.underlying47 rfl (by show _ = some 2; kernel_rfl)
theorem val_at {s : List Int} {N : Nat} (h : N < s.length) : val ((s.drop N).take 1) = s.getD N 0 := by
  rw [List.drop_eq_getElem_cons h, List.take_succ_cons, List.take_zero]
  have : val ([] ++ [s[N]]) = 2 * val [] + s[N] := val_snoc [] s[N]
  rw [List.nil_append, val_nil] at this
  rw [this, List.getD_eq_getElem?_getD, List.getElem?_eq_getElem h, Option.getD_some]
  omega
theorem take1_A (q : Nat) (A : Option Addr) (c : Nat) (d : List UInt8) (k : Nat) (w : World) (h : RdrA w q A c d k) (hd : d.length ≤ 100000000) (hk : k + 1 ≤ 8 * d.length) (x : Int) (hx : (bitsOf d).getD k 0 = x) :
    Calls Tryz.prog 26 #[.pointer (some ⟨q, 0, none⟩), .int .i64 1] w fun e w' => e = .returned (.tuple #[.int .i64 x, .bool true]) ∧ RdrA w' q A c d (k + 1) ∧ Chg (fun i => i = q) w w' := by
  have := take_A q A c d k 1 w h hd (by decide) hk
  rw [val_at (by rw [bitsOf_len]; omega), hx] at this
  exact this
theorem few1_A (q : Nat) (A : Option Addr) (c : Nat) (d : List UInt8) (k : Nat) (w : World) (h : RdrA w q A c d k) (hd : d.length ≤ 100000000) (hk : k = 8 * d.length) :
    Calls Tryz.prog 26 #[.pointer (some ⟨q, 0, none⟩), .int .i64 1] w fun e w' => e = .returned (.tuple #[.int .i64 0, .bool false]) ∧ Below w.heap.size w w' :=
  (take_few q d k 1 w h.rdr hd (by decide) (by omega) (by omega)).mono fun e w' ⟨h1, m, h2⟩ => ⟨h1, by rw [h2]; exact below_drewN w m⟩
set_option maxHeartbeats 4000000 in
theorem fTake_any (b q : Nat) (A : Option Addr) (c : Nat) (cs l : List Int) (d : List UInt8) (k : Nat) (w : World) (hT : Tbl w b cs l) (h : RdrA w q A c d k) (hd : d.length ≤ 100000000) (hk : k ≤ 8 * d.length) :
    Calls Tryz.prog 8 #[.pointer (some ⟨b, 0, none⟩), .pointer (some ⟨q, 0, none⟩)] w fun e w' => e = .returned (.tuple #[.int .i64 (nxtS cs l ((bitsOf d).drop k)).1, .bool (decide (0 < (nxtS cs l ((bitsOf d).drop k)).2))]) ∧ RdrA w' q A c d (k + (nxtS cs l ((bitsOf d).drop k)).2) ∧ Chg (fun i => i = q) w w' := by
  have hMay := Lib.hid hT.may
  have HT := Lib.hid hT
  have H := Lib.hid h
  have e1 := h.sl
  have e2 := h.nx
  have hz := h.fz
  have hf := h.fr
  clear h hT
  go_enter Tryz.func8, Tryz.ntmps8
  go_wp2
  obtain ⟨a, ha⟩ : ∃ a, a = w.heap.size := ⟨_, rfl⟩
  have hqa : q < a := by rw [ha]; exact H.out.lt
  have HR0 : Hid (RdrA ((w.alloc (.cells #[.slice A d.length c, .int .i64 k] 68)).alloc (.cells #[.int .i64 0, .int .i64 0] 47)) a A c d k) := by
    rw [ha]
    refine RdrA.below (w := w.alloc (.cells #[.slice A d.length c, .int .i64 k] 68)) ⟨by go_cell, by go_cell, H.out.cap, H.out.rd.alloc _, fun b' o s e => by have := (H.out.no b' o s e).2; simp; omega, by go_cell, by go_cell⟩ ((Below.refl _ _).alloc (Nat.le_refl _) _)
  have HB0 : Hid (Blk ((w.alloc (.cells #[.slice A d.length c, .int .i64 k] 68)).alloc (.cells #[.int .i64 0, .int .i64 0] 47)) (a + 1) #[.int .i64 0, .int .i64 ((0 : Nat) : Int)]) := by
    have := Blk.new (w.alloc (.cells #[.slice A d.length c, .int .i64 k] 68)) #[.int .i64 0, .int .i64 0] 47
    rw [World.size_alloc, ← ha] at this
    exact this
  have HW0 : Hid (Below w.heap.size w ((w.alloc (.cells #[.slice A d.length c, .int .i64 k] 68)).alloc (.cells #[.int .i64 0, .int .i64 0] 47))) := ((Below.refl _ w).alloc (Nat.le_refl _) _).alloc (by simp) _
  have hAa : ∀ b' o s, A = some ⟨b', o, s⟩ → b' ≠ a + 1 := fun b' o s e => by have := (H.out.no b' o s e).2; omega
  have HAa := Lib.hid hAa
  clear hAa
  rw [← ha]
  have HA := Lib.hid ha
  clear ha
  generalize (w.alloc (.cells #[.slice A d.length c, .int .i64 k] 68)).alloc (.cells #[.int .i64 0, .int .i64 0] 47) = w0 at *
  obtain ⟨s, hs⟩ : ∃ s, s = (bitsOf d).drop k := ⟨_, rfl⟩
  have hsl : s.length = 8 * d.length - k := by rw [hs, List.length_drop, bitsOf_len]
  have hsb : Bit s := by rw [hs]; exact (bitsOf_bit d).drop k
  have hsg : Hid (∀ N, (bitsOf d).getD (k + N) 0 = s.getD N 0) := fun N => by rw [hs, List.getD_eq_getElem?_getD, List.getD_eq_getElem?_getD, List.getElem?_drop]
  have HSS := Lib.hid hs
  have HSB := Lib.hid hsb
  clear hs hsb e1 e2 hz hf
  obtain ⟨ps, hps⟩ : ∃ ps, ps = cds (lensOf cs 16) := ⟨_, rfl⟩
  have HPS := Lib.hid hps
  clear hps
  go_loopg [8] 16 (fun gm v wr => ∃ (N : Nat) (y : Int), N ≤ 16 ∧ 16 ≤ N + gm ∧ N ≤ s.length ∧ Hid (y = val (s.take N)) ∧ Hid (∀ j, j < l.length → (ps.getD j (0, 0)).2 ≤ N → ¬ Hits (ps.getD j (0, 0)) s) ∧ Hid (RdrA wr a A c d (k + N)) ∧ Hid (Blk wr (a + 1) #[.int .i64 y, .int .i64 (N : Int)]) ∧ Hid (Below w.heap.size w wr))
  case atStart => exact ⟨0, 0, by omega, by omega, by omega, (show Hid _ from by show _ = _; simp [val_nil]), (show Hid _ from fun j hj h0 => by have := (cd_each hMay.out hj).1; rw [← HPS.out] at this; omega), HR0, HB0, HW0⟩
  case round =>
    obtain ⟨N, y, hN, hg, hNs, HY, HNo, HR, HB, HW⟩ := hrel
    clear HR0 HB0 HW0
    have f0 := HB.out.cell (j := 0) (v := .int .i64 y) rfl
    have f1 := HB.out.cell (j := 1) (v := .int .i64 (N : Int)) rfl
    have hno : ∀ M, (∀ j, j < l.length → (ps.getD j (0, 0)).2 ≤ M ∨ s.length < (ps.getD j (0, 0)).2) → (∀ j, j < l.length → (ps.getD j (0, 0)).2 ≤ M → ¬ Hits (ps.getD j (0, 0)) s) → nxtS cs l ((bitsOf d).drop k) = (0, 0) := fun M h1 h2 => by
      rw [← HSS.out]
      refine next_none fun j hj hh => ?_
      rw [← HPS.out] at hh
      rcases h1 j hj with h3 | h3
      · exact h2 j hj h3 hh
      · have := hh.1
        omega
    have HNON := Lib.hid hno
    clear hno
    by_cases h16 : N < 16
    · by_cases hlt : N < s.length
      · obtain ⟨x, hx⟩ : ∃ x, s.getD N 0 = x := ⟨_, rfl⟩
        have hxb := getB HSB.out N
        have hs1 := val_take_succ (l := s) (k := N) hlt
        have hv := val_small (HSB.out.take N) (k := 15) (by rw [List.length_take]; omega)
        have hv2 := val_small (HSB.out.take (N + 1)) (k := 16) (by rw [List.length_take]; omega)
        rw [hs1, ← HY.out, hx] at hv2
        rw [← HY.out] at hv
        rw [hx, ← HY.out] at hs1
        rw [hx] at hxb
        obtain ⟨hx0, hx1⟩ := hxb
        obtain ⟨hv0, hv1⟩ := hv
        obtain ⟨hv3, hv4⟩ := hv2
        simp only [show (2 : Int) ^ 15 = 32768 from rfl, show (2 : Int) ^ 16 = 65536 from rfl] at hv1 hv4
        have HO := Lib.hid (or_bit y x hv0 (by omega) hx0 hx1)
        have HS1 := Lib.hid hs1
        have htk := take1_A a A c d (k + N) wr HR.out hd (by omega) x (by rw [hsg.out, hx])
        have HXX := Lib.hid hx
        clear hs1 hx f0 f1
        have f1 := HB.out.cell (j := 1) (v := .int .i64 (N : Int)) rfl
        go_upto_region 7 with (first
          | ((with_reducible refine htk.mono ?_); rintro e w2 ⟨rfl, hr2, hc2⟩
             have HR2 := Lib.hid hr2
             have HB2 := Lib.hid (HB.out.chg hc2 (Nat.succ_ne_self a))
             have HW2 := Lib.hid (HW.out.trans (hc2.below (B := w.heap.size) HW.out.size (fun i e => by have := HA.out; omega)))
             clear hr2 hc2))
        clear f1
        have f0 := HB2.out.cell (j := 0) (v := .int .i64 y) rfl
        have f1 := HB2.out.cell (j := 1) (v := .int .i64 (N : Int)) rfl
        have HSB2 : Hid ((Tryz.prog.info? 47).map (·.size) = some (#[.int .i64 (bits .or .i64 (y * 2) x), .int .i64 ((N : Int) + 1)] : Array Value).size) := by show _ = some 2; kernel_rfl
        have HON : Hid (∀ v ∈ (#[.int .i64 (bits .or .i64 (y * 2) x), .int .i64 ((N : Int) + 1)] : Array Value).toList, v.oneCell' = true) := fun v hv => by simp at hv; rcases hv with rfl | rfl <;> rfl
        go_upto_region 8 with (first
          | ((with_reducible refine wpList_storeB _ rfl 47 (.tmp 7) (.tmp 39) rfl (a + 1) rfl _ HB2.out #[.int .i64 (bits .or .i64 (y * 2) x), .int .i64 ((N : Int) + 1)] rfl HSB2.out rfl HON.out ?_)
             intro w3 hb3 hc3 hs3))
        rw [HO.out] at hb3
        have HB3 : Hid (Blk w3 (a + 1) #[.int .i64 (2 * y + x), .int .i64 ((N + 1 : Nat) : Int)]) := hb3
        have HR3 := Lib.hid (HR2.out.other hc3 (by omega) HAa.out)
        have HW3 := Lib.hid (HW2.out.trans (hc3.below (B := w.heap.size) HW2.out.size (fun i e => by have := HA.out; omega)))
        clear HB2 HR2 HW2 HSB2 HON f0 f1 hb3 hc3 hs3 HB HR HW
        obtain ⟨m2, em, hrun⟩ := (HT.out.below HW3.out.drew).find (2 * y + x, N + 1) hv3 (by simp only; omega) (by simp only; omega)
        have HEM := Lib.hid em
        have HRUN : Hid ((Instr.lookup 62 (.map (some m2)) (.agg #[.int .i64 (2 * y + x), .int .i64 ((N + 1 : Nat) : Int)]) true).run Tryz.prog w3.drew = .ok (.tuple #[.int .i64 (symAt cs l (2 * y + x, N + 1)).1, .bool (symAt cs l (2 * y + x, N + 1)).2]) w3.drew) := hrun
        clear em hrun
        obtain ⟨⟨sy, ok⟩, hsy⟩ : ∃ p, symAt cs l (2 * y + x, N + 1) = p := ⟨_, rfl⟩
        rw [hsy] at HRUN
        have HSY := Lib.hid hsy
        clear hsy
        simp only at HRUN
        go_frame
        refine wp_region_seq (fun W => W = w3.drew) (by kernel_rfl) (by kernel_rfl) (by kernel_rfl) rfl ?_
        repeat (
          first
            | (refine seq_load 47 (.tmp 7) _ (.agg #[.int .i64 (2 * y + x), .int .i64 ((N + 1 : Nat) : Int)]) (by rfl) rfl rfl (fun W hS => by subst hS; exact ld_b2 HB3.out.drew) ?_)
            | (refine seq_val (v := .tuple #[.int .i64 sy, .bool ok]) (by rfl) (fun W hS => by subst hS; exact exec_lookup _ _ _ _ _ _ rfl rfl rfl HRUN.out) ?_)
            | (apply seq_val (by rfl)
               focus (intro W hS; subst hS; have e1 := HEM.out; go_simp; try with_reducible rfl))
          simp only [Act.put, List.setIfInBounds_toArray, List.set_cons_zero, List.set_cons_succ])
        refine seq_nil fun W hS => ?_
        subst hS
        clear HEM HRUN htk
        by_cases hex : ∃ j, j < l.length ∧ ps.getD j (0, 0) = (2 * y + x, N + 1)
        · obtain ⟨j, hj, hpj⟩ := hex
          have hyes := sym_yes hMay.out hj
          rw [← HPS.out, hpj, HSY.out] at hyes
          injection hyes with hy1 hy2
          subst hy1 hy2
          have hnx : nxtS cs l ((bitsOf d).drop k) = (l.getD j 0, N + 1) := by
            rw [← HSS.out]
            have := next_hit hMay.out HSB.out hj (by rw [← HPS.out, hpj]; exact ⟨by simp only; omega, by simp only; exact HS1.out⟩)
            rw [← HPS.out, hpj] at this
            exact this
          have HNX := Lib.hid hnx
          clear hnx
          have HQ := Lib.hid (H.out.below HW3.out)
          have g1 := HR3.out.sl
          have g2 := HR3.out.nx
          have g3 := HQ.out.sl
          have g4 := HQ.out.nx
          have g5 := HQ.out.fz
          have g6 := HQ.out.fr
          generalize l.getD j 0 = sy at *
          go_wp2
          go_ret2
          rw [HNX.out]
          have hc : Chg (fun i => i = q) w ((w3.drew.setCell ⟨q, 0, none⟩ (.slice A d.length c)).setCell ⟨q, 1, none⟩ (.int .i64 ((k + N + 1 : Nat) : Int))) := Chg.setCell (S := fun i => i = q) (Chg.setCell (S := fun i => i = q) (Chg.of_below HW3.out.drew) (p := ⟨q, 0, none⟩) (.inl rfl) _) (p := ⟨q, 1, none⟩) (.inl rfl) _
          refine ⟨by simp, ?_, hc⟩
          refine H.out.step hc ?_ ?_ ?_ ?_
          · go_cell
          · go_cell
          · rw [show ((k + (N + 1) : Nat) : Int) = (k : Int) + N + 1 from by omega]
            go_cell
          · go_cell
        · have hno : ∀ j, j < l.length → ps.getD j (0, 0) ≠ (2 * y + x, N + 1) := fun j hj he => hex ⟨j, hj, he⟩
          have hsn := sym_no (cs := cs) (l := l) (p := (2 * y + x, N + 1)) (by rw [← HPS.out]; exact hno)
          rw [HSY.out] at hsn
          injection hsn with hy1 hy2
          subst hy1 hy2
          have HN2 : Hid (∀ j, j < l.length → (ps.getD j (0, 0)).2 ≤ N + 1 → ¬ Hits (ps.getD j (0, 0)) s) := fun j hj h1 hh => by
            by_cases h2 : (ps.getD j (0, 0)).2 ≤ N
            · exact HNo.out j hj h2 hh
            · have h3 : (ps.getD j (0, 0)).2 = N + 1 := by omega
              have h4 := hh.2
              rw [h3, HS1.out] at h4
              exact hno j hj (Prod.ext h4.symm h3)
          clear hex hno
          go_wp2
          go_roundg (gk - 1)
          case measure => omega
          case rel => exact ⟨N + 1, 2 * y + x, by omega, by omega, by omega, (show Hid _ from HS1.out.symm), HN2, (show Hid _ from HR3.out.drewN 1), (show Hid _ from HB3.out.drew), HW3.out.drew⟩
      · have hfew := few1_A a A c d (k + N) wr HR.out hd (by omega)
        have hz := Lib.hid (HNON.out N (fun j hj => by omega) HNo.out)
        go_wp2_with (first
          | ((with_reducible refine hfew.mono ?_); rintro e w2 ⟨rfl, hb2⟩))
        go_ret2
        have hbb : Below w.heap.size w w2 := HW.out.trans (hb2.mono HW.out.size)
        rw [hz.out]
        exact ⟨rfl, H.out.below hbb, Chg.of_below hbb⟩
    · have hz := Lib.hid (HNON.out 16 (fun j hj => by have := (cd_each hMay.out hj).2.1; rw [← HPS.out] at this; omega) (by rw [show N = 16 by omega] at HNo; exact HNo.out))
      go_wp2
      go_ret2
      rw [hz.out]
      exact ⟨rfl, H.out.below HW.out, Chg.of_below HW.out⟩
end Go.Proofs.YtkkkonmbbdhdhaaGreatDoor
/- Contract of the document's Next: which symbol's code stands at the beginning of some bits. -/
namespace Go.Proofs.YtkkkonmbbdhdhaaGreatDoor
open Go.RowKit Go.Lib Go.Maps
set_option linter.unusedVariables false
set_option maxRecDepth 100000
theorem agree_step {V : Int} {N k : Nat} {s : List Int} (hs : Bit s) (hk : k < N) (hN : N ≤ s.length) : val (s.take (k + 1)) = V / 2 ^ (N - (k + 1)) ↔ val (s.take k) = V / 2 ^ (N - k) ∧ s.getD k 0 = V / 2 ^ (N - 1 - k) % 2 := by
  have h1 := val_take_succ (l := s) (k := k) (by omega)
  obtain ⟨h2, h3⟩ := getB hs k
  have e1 : N - (k + 1) = N - 1 - k := by omega
  have e2 : N - k = (N - 1 - k) + 1 := by omega
  rw [e1, e2, Int.pow_succ, ← Int.ediv_ediv_of_nonneg (Int.le_of_lt (pow2_pos _)), h1]
  generalize V / 2 ^ (N - 1 - k) = Q
  generalize s.getD k 0 = x at *
  generalize val (s.take k) = y
  omega
theorem Ri.get {w : World} {A : Option Addr} {l : List Int} (h : Ri w A l) {j : Nat} (hj : j < l.length) : ∃ b o, A = some ⟨b, o, none⟩ ∧ w.cell? ⟨b, o + j, none⟩ = some (.int .i64 (l.getD j 0)) := by
  rcases h with h | ⟨b, o, hA, hc⟩
  · rw [h] at hj; exact absurd hj (Nat.not_lt_zero _)
  · exact ⟨b, o, hA, hc j hj⟩
set_option maxHeartbeats 2000000 in
theorem rNext_any (X : Array Value) (cs l : List Int) (A : Option Addr) (c : Nat) (B : Option Addr) (cb : Nat) (s : List Int) (w : World) (hX : Hv X cs (.slice A l.length c)) (hm : MayP cs l) (hr : Ri w A l) (hl : l.length ≤ 300) (hx17 : X.size = 17) (hs : Ri w B s) (hsb : Bit s) (hsl : s.length ≤ 100000) :
    Calls Tryz.prog 10 #[.agg X, .slice B s.length cb] w fun e w' => e = .returned (.tuple #[.int .i64 (nxtS cs l s).1, .int .i64 ((nxtS cs l s).2 : Int)]) ∧ Below w.heap.size w w' := by
  have HX := Lib.hid hX
  have HM := Lib.hid hm
  have HSB := Lib.hid hsb
  have HW := Lib.hid ((Below.refl w.heap.size w).alloc (Nat.le_refl _) (.cells X 25))
  have HBL := Lib.hid (Blk.new w X 25)
  have HSZ : Hid ((Tryz.prog.info? 25).map (·.size) = some X.size) := by show _ = _; rw [hx17]; kernel_rfl
  have HR := Lib.hid (hr.below HW.out)
  have HS := Lib.hid (hs.below HW.out)
  have HC := Lib.hid (rCod_any X cs l A c (w.alloc (.cells X 25)) hX hm hl)
  clear hX hm hr hs hsb hx17
  go_enter Tryz.func10, Tryz.ntmps10
  go_wp2_with (first
    | (with_reducible refine wpList_loadB _ rfl 25 (.tmp 2) rfl _ Tryz.underlying25 rfl w.heap.size rfl X HBL.out HSZ.out ?_)
    | ((go_at_call 30; refine HC.out.mono ?_)
       rintro e w3 ⟨vc, rfl, ho3, hb3⟩
       have HB3 := Lib.hid hb3
       obtain ⟨Ac, cc, rfl, hrd⟩ := ho3.open
       have HRD := Lib.hid hrd
       clear hrd ho3 hb3))
  have HS3 := Lib.hid (HS.out.below HB3.out)
  have HR3 := Lib.hid (HR.out.below HB3.out)
  have HBL3 := Lib.hid (HBL.out.below HB3.out)
  have HW3 := Lib.hid (below_le HW.out HB3.out HW.out.size)
  have hlen : (cds (lensOf cs 16)).length = l.length := cds_many HM.out
  rw [hlen]
  obtain ⟨L, hL⟩ : ∃ L, L = cds (lensOf cs 16) := ⟨_, rfl⟩
  rw [← hL] at HRD hlen
  have HL := Lib.hid hL
  clear hL HC HS HR HBL HSZ HW HB3
  go_loopw [7] (fun i wr => ∃ (k : Nat), k ≤ l.length ∧ i = .int .i64 k ∧ Hid (∀ j, j < k → ¬ Hits (L.getD j (0, 0)) s) ∧ Hid (Below w3.heap.size w3 wr)) (fun i _ => l.length - (RowKit.intOf i).toNat)
  case atStart => exact ⟨0, Nat.zero_le _, rfl, (show Hid _ from fun j hj => absurd hj (Nat.not_lt_zero _)), (show Hid _ from Below.refl _ _)⟩
  case round =>
    obtain ⟨k, hk, rfl, HE, HBw⟩ := hrel
    by_cases hlt : k < l.length
    · obtain ⟨⟨V, N⟩, hpr⟩ : ∃ p, L[k]? = some p := ⟨_, List.getElem?_eq_getElem (by omega)⟩
      obtain ⟨g, hAc, _, _, e1, e2⟩ := HRD.out k _ hpr
      subst hAc
      simp only at e1 e2
      have hpg : L.getD k (0, 0) = (V, N) := by rw [List.getD_eq_getElem?_getD, hpr]; rfl
      have he := cd_each HM.out hlt
      rw [← HL.out, hpg] at he
      simp only at he
      obtain ⟨hN1, hN16, hV0, hV1⟩ := he
      have HV1 := Lib.hid hV1
      have HPG := Lib.hid hpg
      have HE1 := Lib.hid e1
      have HE2 := Lib.hid e2
      have f1 := cell_later HBw.out e1
      have f2 := cell_later HBw.out e2
      clear hpr hpg e1 e2 hV1
      by_cases hN : N ≤ s.length
      · rename World => wo
        go_wp2
        go_loopw [8, 9] (fun sm i wr => ∃ (j : Nat) (y : Int), j ≤ N ∧ i = .int .i64 j ∧ sm = .int .i64 y ∧ Hid (y = if val (s.take j) = V / 2 ^ (N - j) then 1 else 0) ∧ Hid (Below w3.heap.size w3 wr)) (fun _ i _ => N - (RowKit.intOf i).toNat)
        case atStart => exact ⟨0, 1, Nat.zero_le _, rfl, rfl, (show Hid _ from by
          show _ = _
          rw [if_pos]
          rw [Nat.sub_zero, Int.ediv_eq_zero_of_lt hV0 (by have := HV1.out; omega)]
          simp [val_nil]), (show Hid _ from HBw.out)⟩
        case round =>
          obtain ⟨j, y, hj, rfl, rfl, HY, HBr⟩ := hrel
          clear f1 f2
          have f1 := cell_later HBr.out HE1.out
          have f2 := cell_later HBr.out HE2.out
          by_cases hjN : j < N
          · have hst := agree_step (V := V) HSB.out hjN hN
            obtain ⟨b, o, hBo, hc⟩ := (HS3.out.below HBr.out).get (show j < s.length by omega)
            subst hBo
            have hxb := getB HSB.out j
            generalize s.getD j 0 = x at *
            have HST := Lib.hid hst
            clear hst
            by_cases hxe : x = V / 2 ^ (N - 1 - j) % 2
            · have hq : (x == bits BinOp.and IntKind.i64 (V / 2 ^ (N - 1 - j)) 1) = true := by rw [and1, beq_iff_eq]; exact hxe
              have HY2 : Hid (y = if val (s.take (j + 1)) = V / 2 ^ (N - (j + 1)) then 1 else 0) := by
                show _ = _
                rw [HY.out]
                simp only [HST.out, hxe, and_true]
              have HXE := Lib.hid hxe
              clear hxe
              go_wp2
              go_quiet (fail)
              go_wp2
              go_roundw
              case rel => exact ⟨j + 1, y, by omega, by go_num, rfl, HY2, (show Hid _ from dN HBr.out _)⟩
              case measure => simp [RowKit.intOf]; omega
            · have hq : (x == bits BinOp.and IntKind.i64 (V / 2 ^ (N - 1 - j)) 1) = false := by rw [and1, beq_eq_false_iff_ne]; exact hxe
              have HY2 : Hid ((0 : Int) = if val (s.take (j + 1)) = V / 2 ^ (N - (j + 1)) then 1 else 0) := by
                show _ = _
                rw [if_neg]
                rw [HST.out]
                exact fun h => hxe h.2
              clear hxe
              go_wp2
              go_quiet (fail)
              go_wp2
              go_roundw
              case rel => exact ⟨j + 1, 0, by omega, by go_num, rfl, HY2, (show Hid _ from dN HBr.out _)⟩
              case measure => simp [RowKit.intOf]; omega
          · obtain rfl : j = N := by omega
            have hpw : V / 2 ^ (j - j) = V := by rw [Nat.sub_self]; simp
            by_cases hv : val (s.take j) = V
            · have hy : y = 1 := by rw [HY.out, if_pos (by rw [hpw]; exact hv)]
              have hnx : nxtS cs l s = (l.getD k 0, j) := by
                have := next_hit HM.out HSB.out hlt (by rw [← HL.out, HPG.out]; exact ⟨hN, hv⟩)
                rw [← HL.out, HPG.out] at this
                exact this
              have HNX := Lib.hid hnx
              clear hnx hv hpw HY
              subst hy
              obtain ⟨b, o, hBo, hc⟩ := (HR3.out.below HBr.out).get hlt
              have e16 := (HBL3.out.below HBr.out).cell HX.out.syms
              subst hBo
              generalize l.getD k 0 = x at *
              go_wp2
              go_quiet (fail)
              go_wp2
              go_ret2
              rw [HNX.out]
              exact ⟨rfl, below_le HW3.out (dN HBr.out _) HW3.out.size⟩
            · have hy : y = 0 := by rw [HY.out, if_neg (by rw [hpw]; exact hv)]
              have HE3 : Hid (∀ i, i < k + 1 → ¬ Hits (L.getD i (0, 0)) s) := fun i hi => by
                by_cases hik : i = k
                · subst hik
                  rw [HPG.out]
                  exact fun h => hv h.2
                · exact HE.out i (by omega)
              clear hv hpw HY
              subst hy
              go_wp2
              go_roundw
              case rel => exact ⟨k + 1, by omega, by go_num, HE3, HBr⟩
              case measure => simp [RowKit.intOf]; omega
      · have HE3 : Hid (∀ i, i < k + 1 → ¬ Hits (L.getD i (0, 0)) s) := fun i hi => by
          by_cases hik : i = k
          · subst hik
            rw [HPG.out]
            exact fun h => hN h.1
          · exact HE.out i (by omega)
        go_wp2
        go_roundw
        case rel => exact ⟨k + 1, by omega, by go_num, HE3, HBw⟩
        case measure => simp [RowKit.intOf]; omega
    · obtain rfl : k = l.length := by omega
      have hnx := Lib.hid (next_none (cs := cs) (l := l) (s := s) fun j hj => by rw [← HL.out]; exact HE.out j hj)
      go_wp2
      go_ret2
      rw [hnx.out]
      exact ⟨rfl, below_le HW3.out HBw.out HW3.out.size⟩
end Go.Proofs.YtkkkonmbbdhdhaaGreatDoor
/- Windows of slices of ints; what is apart from a block; asking whether a Reader is filled. (As in Reads, for a seat without the laws of bits.) -/
namespace Go.Proofs.YtkkkonmbbdhdhaaGreatDoor
open Go.RowKit Go.Lib
set_option linter.unusedVariables false
set_option maxRecDepth 100000
theorem run_winI_l (A : Option Addr) (n c x : Nat) (z : Int) (hz : z = (x : Int)) (hx : x ≤ n) (W : World) : (Instr.slice 23 (.slice A n c) (some (.int .i64 z)) none none).run Tryz.prog W = .ok (.slice (winA A c x) (n - x) (c - x)) W := by
  subst hz
  have ht' : Tryz.prog.underlying 23 = some (.slice (Tryz.prog.elem 23)) := by kernel_rfl
  have he : Tryz.prog.elem 23 = 3 := by kernel_rfl
  rw [run_slice_l W 23 _ _ _ ht' .i64 _ (by omega) (by omega), he, Go.sizeOf]
  obtain ⟨i0, hi, hz0, hz1, hz2⟩ := info_parts Tryz.info3
  simp [typeInfo, hi, hz1, Result.andThen, sliced, winA]
theorem run_winI_h (A : Option Addr) (n c y : Nat) (u : Int) (hu : u = (y : Int)) (hy : y ≤ c) (W : World) : (Instr.slice 23 (.slice A n c) none (some (.int .i64 u)) none).run Tryz.prog W = .ok (.slice (winA A c 0) y c) W := by
  subst hu
  have ht' : Tryz.prog.underlying 23 = some (.slice (Tryz.prog.elem 23)) := by kernel_rfl
  have he : Tryz.prog.elem 23 = 3 := by kernel_rfl
  rw [run_slice_h W 23 _ _ _ ht' .i64 _ (by omega) (by omega), he, Go.sizeOf]
  obtain ⟨i0, hi, hz0, hz1, hz2⟩ := info_parts Tryz.info3
  simp [typeInfo, hi, hz1, Result.andThen, sliced, winA]
theorem Ri.win {w : World} {A : Option Addr} {l : List Int} (h : Ri w A l) (c x n : Nat) (hc : l.length ≤ c) : Ri w (winA A c x) ((l.drop x).take n) := by
  by_cases h0 : (l.drop x).take n = []
  · exact .inl h0
  · have hx : x < l.length := by
      rcases Nat.lt_or_ge x l.length with k | k
      · exact k
      · exact absurd (by rw [List.drop_eq_nil_of_le k]; simp) h0
    obtain ⟨b, o, rfl, hcell⟩ := h.at (by omega)
    refine .inr ⟨b, o + x, ?_, fun i hi => ?_⟩
    · unfold winA
      rw [if_neg (by omega)]
      show some (Addr.add _ _) = _
      rw [Addr.add_lit]
    · have hi2 : i < n ∧ x + i < l.length := by rw [List.length_take, List.length_drop] at hi; omega
      rw [Nat.add_assoc, hcell (x + i) hi2.2]
      congr 2
      rw [List.getD_eq_getElem?_getD, List.getD_eq_getElem?_getD, List.getElem?_take_of_lt hi2.1, List.getElem?_drop]
theorem Ri.rest {w : World} {A : Option Addr} {l : List Int} (h : Ri w A l) (c x : Nat) (hc : l.length ≤ c) : Ri w (winA A c x) (l.drop x) := by
  have := h.win c x (l.drop x).length hc
  rwa [List.take_length] at this
theorem Ri.head {w : World} {A : Option Addr} {l : List Int} (h : Ri w A l) (c x : Nat) (hc : l.length ≤ c) : Ri w (winA A c 0) (l.take x) := by
  have := h.win c 0 x hc
  rwa [List.drop_zero] at this
/-- An address away from block q. -/
def Off (A : Option Addr) (q : Nat) : Prop := ∀ b o s, A = some ⟨b, o, s⟩ → b ≠ q
theorem Off.win {A : Option Addr} {q : Nat} (h : Off A q) (c x : Nat) : Off (winA A c x) q := by
  intro b o s e
  unfold winA at e
  split at e
  · exact h b o s e
  · cases A with
    | none => cases e
    | some a =>
      obtain ⟨b', o', s'⟩ := a
      have hb := h b' o' s' rfl
      simp only [Option.map_some, Option.some.injEq, Addr.add] at e
      split at e
      · cases e; exact hb
      · cases e; exact hb
theorem take_any (q : Nat) (d : List UInt8) (j : Nat) (n : Int) (w : World) (h : Rdr w q d j) (hd : d.length ≤ 100000000) (hj : j ≤ 8 * d.length) (hbad : n < 0 ∨ 16 < n ∨ (8 * d.length : Int) - j < n) :
    Calls Tryz.prog 26 #[.pointer (some ⟨q, 0, none⟩), .int .i64 n] w fun e w' => e = .returned (.tuple #[.int .i64 0, .bool false]) ∧ Hid (Rdr w' q d j) ∧ Below w.heap.size w w' := by
  by_cases hn : 0 ≤ n ∧ n ≤ 16
  · obtain ⟨m, rfl⟩ := Int.eq_ofNat_of_zero_le hn.1
    refine (take_few q d j m w h hd (by omega) hj (by omega)).mono ?_
    rintro e w' ⟨rfl, i, rfl⟩
    exact ⟨rfl, h.drewN i, below_drewN w i⟩
  · refine (take_bad q n w (by omega)).mono ?_
    rintro e w' ⟨rfl, rfl⟩
    exact ⟨rfl, h, Below.refl _ _⟩
theorem filled_at (q : Nat) (d : List UInt8) (k : Nat) (B : Bool) (w : World) (h : Rdr w q d k) (hd : d.length ≤ 100000000) (hk : k ≤ 8 * d.length) (hB : Hid (fillB ((bitsOf d).drop k) = B)) :
    Calls Tryz.prog 17 #[.pointer (some ⟨q, 0, none⟩)] w fun e w' => e = .returned (.bool B) ∧ Hid (Rdr w' q d k) ∧ Below w.heap.size w w' := by
  rw [← hB.out]
  refine (filled_any q d k w h hd hk).mono ?_
  rintro e w' ⟨rfl, hb⟩
  exact ⟨rfl, h.below hb, hb⟩
end Go.Proofs.YtkkkonmbbdhdhaaGreatDoor
