/- Contracts: the closure of combined; computed. -/
import Derived.Test.YtipmbffpokplgaaDoorQC
namespace Go.Proofs.YtipmbffpokplgaaDoor
open Go.RowKit Go.Lib
set_option linter.unusedVariables false
set_option maxRecDepth 100000
/-- What combined's closure captures. -/
structure Cq (f fk g h : Nat) (b q : List Int) (W : World) : Prop where
  fc : Blk W fk #[.func (Fn.func f) #[] #[]]
  bb : Blk W g (ia b)
  qb : Blk W h (ia q)
theorem Cq.below {f fk g h : Nat} {b q : List Int} {W W' : World} (c : Cq f fk g h b q W) (hb : Below W.heap.size W W') : Cq f fk g h b q W' := ⟨c.fc.below hb, c.bb.below hb, c.qb.below hb⟩
theorem Cq.drew {f fk g h : Nat} {b q : List Int} {W : World} (c : Cq f fk g h b q W) : Cq f fk g h b q W.drew := ⟨c.fc, c.bb, c.qb⟩
structure Cw (w : World) (f fk g h : Nat) (b q : List Int) (W : World) : Prop where
  c : Cq f fk g h b q W
  be : Below w.heap.size w W
set_option maxHeartbeats 2000000 in
theorem cloQ_any (b q : List Int) (hb : b.length = 64) (hq : q.length = 64) (h1 : wiB q 1 255 = true) (h2 : wiB b (-1048576) 1048576 = true) (fk g h : Nat) (k : Nat) (hk : k < 64) (w : World) (hc : Cq 27 fk g h b q w) :
    Calls Tryd.prog 34 #[.int .i64 k, .pointer (some ⟨fk, 0, none⟩), .pointer (some ⟨g, 0, none⟩), .pointer (some ⟨h, 0, none⟩)] w fun e w' => e = .returned (.int .i64 (qoE (b.getD k 0) (q.getD k 0))) ∧ Below w.heap.size w w' := by
  have c1 := wiB_at h1 (k := k) (by omega)
  have c2 := wiB_at h2 (k := k) (by omega)
  have HQ := Lib.hid (quo_any (b.getD k 0) (q.getD k 0) c2.1 c2.2 c1.1 c1.2)
  have HS : Hid (Cw w 27 fk g h b q w) := ⟨hc, Below.refl _ w⟩
  have HL : Hid (b.length = 64 ∧ q.length = 64) := ⟨hb, hq⟩
  have HE := Lib.hid (enters_of Tryd.func27 (by kernel_rfl) rfl)
  clear h1 h2 hc c1 c2
  generalize hx : b.getD k 0 = x at *
  generalize hy : q.getD k 0 = y at *
  have HXY : Hid (b.getD k 0 = x ∧ q.getD k 0 = y) := ⟨hx, hy⟩
  clear hx hy hb hq
  have hk1 : (k : Int) < 64 := by omega
  have hk0 : 0 ≤ (k : Int) := by omega
  go_enter Tryd.func34, Tryd.ntmps34
  go_wp2
  refine wp_region_seq (Cw w 27 fk g h b q) (by kernel_rfl) (by kernel_rfl) (by kernel_rfl) ⟨HS.out.c.drew, HS.out.be.drew⟩ ?_
  repeat (
    first
      | (apply seq_call (f := 27) (args := #[.int .i64 x, .int .i64 y]) (by rfl)
         focus (intro W; have eg : ∀ args w, (callFunc 27 args).run Tryd.prog w = .ok (.enter 27 args) w := HE.out; unfold execOp; simp [resolve, invoke, go_sem, eg])
         focus (intro W hS; exact (HQ.out W).mono fun e w' h => ⟨h.1, by rw [← h.2]; exact hS⟩))
      | (apply seq_val (by rfl)
         focus (intro W hS; have e0 := hS.c.fc.cell (j := 0) rfl; have e1 := hS.c.bb.cell (j := k) (ia_at (by rw [HL.out.1]; exact hk)); have e2 := hS.c.qb.cell (j := k) (ia_at (by rw [HL.out.2]; exact hk)); rw [HXY.out.1] at e1; rw [HXY.out.2] at e2; go_simp; try with_reducible rfl; done))
    simp only [Act.put, List.setIfInBounds_toArray, List.set_cons_zero, List.set_cons_succ])
  refine seq_nil fun W hS => ?_
  go_wp2
  go_ret
  exact ⟨rfl, hS.be⟩
set_option maxHeartbeats 2000000 in
theorem cloP_any (b q : List Int) (hb : b.length = 64) (hq : q.length = 64) (h1 : wiB q 1 255 = true) (h2 : wiB b (-1048576) 1048576 = true) (fk g h : Nat) (k : Nat) (hk : k < 64) (w : World) (hc : Cq 28 fk g h b q w) :
    Calls Tryd.prog 34 #[.int .i64 k, .pointer (some ⟨fk, 0, none⟩), .pointer (some ⟨g, 0, none⟩), .pointer (some ⟨h, 0, none⟩)] w fun e w' => e = .returned (.int .i64 (b.getD k 0 * q.getD k 0)) ∧ Below w.heap.size w w' := by
  have c1 := wiB_at h1 (k := k) (by omega)
  have c2 := wiB_at h2 (k := k) (by omega)
  have HQ := Lib.hid (prod_any (b.getD k 0) (q.getD k 0) c2.1 c2.2 c1.1 c1.2)
  have HS : Hid (Cw w 28 fk g h b q w) := ⟨hc, Below.refl _ w⟩
  have HL : Hid (b.length = 64 ∧ q.length = 64) := ⟨hb, hq⟩
  have HE := Lib.hid (enters_of Tryd.func28 (by kernel_rfl) rfl)
  clear h1 h2 hc c1 c2
  generalize hx : b.getD k 0 = x at *
  generalize hy : q.getD k 0 = y at *
  have HXY : Hid (b.getD k 0 = x ∧ q.getD k 0 = y) := ⟨hx, hy⟩
  clear hx hy hb hq
  have hk1 : (k : Int) < 64 := by omega
  have hk0 : 0 ≤ (k : Int) := by omega
  go_enter Tryd.func34, Tryd.ntmps34
  go_wp2
  refine wp_region_seq (Cw w 28 fk g h b q) (by kernel_rfl) (by kernel_rfl) (by kernel_rfl) ⟨HS.out.c.drew, HS.out.be.drew⟩ ?_
  repeat (
    first
      | (apply seq_call (f := 28) (args := #[.int .i64 x, .int .i64 y]) (by rfl)
         focus (intro W; have eg : ∀ args w, (callFunc 28 args).run Tryd.prog w = .ok (.enter 28 args) w := HE.out; unfold execOp; simp [resolve, invoke, go_sem, eg])
         focus (intro W hS; exact (HQ.out W).mono fun e w' h => ⟨h.1, by rw [← h.2]; exact hS⟩))
      | (apply seq_val (by rfl)
         focus (intro W hS; have e0 := hS.c.fc.cell (j := 0) rfl; have e1 := hS.c.bb.cell (j := k) (ia_at (by rw [HL.out.1]; exact hk)); have e2 := hS.c.qb.cell (j := k) (ia_at (by rw [HL.out.2]; exact hk)); rw [HXY.out.1] at e1; rw [HXY.out.2] at e2; go_simp; try with_reducible rfl; done))
    simp only [Act.put, List.setIfInBounds_toArray, List.set_cons_zero, List.set_cons_succ])
  refine seq_nil fun W hS => ?_
  go_wp2
  go_ret
  exact ⟨rfl, hS.be⟩
theorem Cq.old {f fk g h : Nat} {b q : List Int} {w W : World} (c0 : Cq f fk g h b q w) (c : Cq f fk g h b q W) (k : Nat) (v : Value) : Cq f fk g h b q (W.setCell ⟨w.heap.size + 1, k, none⟩ v) :=
  ⟨c.fc.other (by have := c0.fc.lt; simp; omega) _, c.bb.other (by have := c0.bb.lt; simp; omega) _, c.qb.other (by have := c0.qb.lt; simp; omega) _⟩
/-- What Scaled's closure captures. -/
structure Cs (g c : Nat) (q : List Int) (p : Int) (W : World) : Prop where
  qb : Blk W g (ia q)
  pc : Blk W c #[.int .i64 p]
theorem Cs.below {g c : Nat} {q : List Int} {p : Int} {W W' : World} (s : Cs g c q p W) (hb : Below W.heap.size W W') : Cs g c q p W' := ⟨s.qb.below hb, s.pc.below hb⟩
theorem Cs.old {g c : Nat} {q : List Int} {p : Int} {w W : World} (c0 : Cs g c q p w) (s : Cs g c q p W) (k : Nat) (v : Value) : Cs g c q p (W.setCell ⟨w.heap.size + 1, k, none⟩ v) :=
  ⟨s.qb.other (by have := c0.qb.lt; simp; omega) _, s.pc.other (by have := c0.pc.lt; simp; omega) _⟩
theorem two_blk (w : World) (X Y : Array Value) (T U : TypeId) : ∃ w1, w1 = (w.alloc (.cells X T)).alloc (.cells Y U) ∧ Blk w1 w.heap.size X ∧ Blk w1 (w.heap.size + 1) Y ∧ Below w.heap.size w w1 := by
  refine ⟨_, rfl, (Blk.new w X T).alloc _, ?_, ((Below.refl _ w).alloc (Nat.le_refl _) _).alloc (by simp) _⟩
  have := Blk.new (w.alloc (.cells X T)) Y U
  rwa [World.size_alloc] at this
set_option maxHeartbeats 2000000 in
theorem compQ_any (b q : List Int) (hb : b.length = 64) (hq : q.length = 64) (h1 : wiB q 1 255 = true) (h2 : wiB b (-1048576) 1048576 = true) (fk g h : Nat) (w : World) (hc : Cq 27 fk g h b q w) :
    Calls Tryd.prog 20 #[.func (Fn.func 34) #[] #[.pointer (some ⟨fk, 0, none⟩), .pointer (some ⟨g, 0, none⟩), .pointer (some ⟨h, 0, none⟩)]] w fun e w' => e = .returned (.agg (ia (mapB (fun i => qoE (b.getD i 0) (q.getD i 0))))) ∧ Below w.heap.size w w' := by
  have HF : Hid (∀ k : Nat, k < 64 → ∀ W, Cq 27 fk g h b q W → Calls Tryd.prog 34 #[.int .i64 k, .pointer (some ⟨fk, 0, none⟩), .pointer (some ⟨g, 0, none⟩), .pointer (some ⟨h, 0, none⟩)] W fun e w' => e = .returned (.int .i64 ((fun i => qoE (b.getD i 0) (q.getD i 0)) k)) ∧ Below W.heap.size W w') := fun k hk W hW => cloQ_any b q hb hq h1 h2 fk g h k hk W hW
  have HCB : Hid (∀ W W', Cq 27 fk g h b q W → Below W.heap.size W W' → Cq 27 fk g h b q W') := fun W W' hW hb => hW.below hb
  have HCS : Hid (∀ W (k : Nat) v, w.heap.size + 1 < W.heap.size → Cq 27 fk g h b q W → Cq 27 fk g h b q (W.setCell ⟨w.heap.size + 1, k, none⟩ v)) := fun W k v hlt hW => (hc.old hW k v)
  clear hb hq h1 h2
  generalize hFF : (fun i => qoE (b.getD i 0) (q.getD i 0)) = F at *
  obtain ⟨w1, hw1, hb0, hb1, hB⟩ := two_blk w (ia zeros) (ia zeros) 23 23
  have HZ := Lib.hid zeroB
  have K0 := Lib.hid hb0
  have K1 := Lib.hid hb1
  have KB := Lib.hid hB
  have KC := Lib.hid (HCB.out _ _ hc hB)
  clear hb0 hb1 hB hc hFF
  go_enter Tryd.func20, Tryd.ntmps20
  go_wp2_with (first
    | (with_reducible refine wpList_allocZ _ rfl 23 rfl (ia zeros) HZ.out ?_))
  rw [← hw1]
  clear hw1
  go_loopw [5] (fun i wr => ∃ (k : Nat), k ≤ 64 ∧ i = .int .i64 k ∧ Hid (Blk wr w.heap.size (ia zeros)) ∧ Hid (Blk wr (w.heap.size + 1) (ia (partK F k))) ∧ Hid (Cq 27 fk g h b q wr) ∧ Hid (Below w.heap.size w wr)) (fun i _ => 64 - (RowKit.intOf i).toNat)
  case atStart => exact ⟨0, by omega, rfl, K0, (show Hid _ from by show Blk _ _ _; rw [partK_zero]; exact K1.out), KC, KB⟩
  case round =>
    clear K0 K1 KB KC
    obtain ⟨k, hk, rfl, K0, K1, KC, KB⟩ := hrel
    by_cases hlt : k < 64
    · have HN := Lib.hid (partK_next F hlt)
      have HC := Lib.hid (HF.out k hlt wr KC.out)
      have HP := Lib.hid (partK_len F k)
      generalize F k = x at *
      go_wp2_with (first
        | (go_at_call 34; (with_reducible refine HC.out.mono ?_); rintro e w2 ⟨rfl, hb2⟩; have J0 := Lib.hid (K0.out.below hb2); have J1 := Lib.hid (K1.out.below hb2); have JC := Lib.hid (HCB.out _ _ KC.out hb2); have JB := Lib.hid (KB.out.trans (hb2.mono KB.out.size)); have hc2 := J1.out.cell (ia_at (j := k) (by rw [HP.out]; exact hlt)); have hf2 := J1.out.frozen k; clear hb2))
      go_roundw
      case rel => exact ⟨k + 1, by omega, by go_num, J0.out.other (by simp) _, (show Hid _ from by show Blk _ _ _; rw [← HN.out]; exact J1.out.set_int k x), HCS.out _ _ _ J1.out.lt JC.out, JB.out.setCell (p := ⟨w.heap.size + 1, k, none⟩) (by simp) _⟩
      case measure => simp [RowKit.intOf]; omega
    · obtain rfl : k = 64 := by omega
      have HA := Lib.hid (partK_all F)
      rw [HA.out] at K1
      have HS := Lib.hid (sizeB (mapB_len F))
      have HE : Hid ((ia zeros).size = (ia (mapB F)).size) := by show _ = _; rw [ia_size, ia_size, mapB_len]; rfl
      have HO := Lib.hid (one_ia (mapB F))
      go_wp2_with (first
        | (with_reducible refine wpList_loadB _ rfl 23 (.tmp 3) rfl _ Tryd.underlying23 rfl (w.heap.size + 1) rfl (ia (mapB F)) K1.out HS.out ?_)
        | ((with_reducible refine wpList_storeB _ rfl 23 (.tmp 2) (.tmp 14) rfl w.heap.size rfl (ia zeros) K0.out (ia (mapB F)) rfl HS.out HE.out HO.out ?_)
           intro w3 hb3 hc3 hs3))
      refine bodyPost_ret (results_cell rfl _ _ _ Tryd.underlying23 rfl w.heap.size (ia (mapB F)) rfl (fun j v hv => hb3.cell hv) HS.out) rfl ?_
      exact ⟨rfl, KB.out.trans (hc3.below KB.out.size (fun i e => by omega))⟩
set_option maxHeartbeats 2000000 in
theorem compP_any (b q : List Int) (hb : b.length = 64) (hq : q.length = 64) (h1 : wiB q 1 255 = true) (h2 : wiB b (-1048576) 1048576 = true) (fk g h : Nat) (w : World) (hc : Cq 28 fk g h b q w) :
    Calls Tryd.prog 20 #[.func (Fn.func 34) #[] #[.pointer (some ⟨fk, 0, none⟩), .pointer (some ⟨g, 0, none⟩), .pointer (some ⟨h, 0, none⟩)]] w fun e w' => e = .returned (.agg (ia (mapB (fun i => b.getD i 0 * q.getD i 0)))) ∧ Below w.heap.size w w' := by
  have HF : Hid (∀ k : Nat, k < 64 → ∀ W, Cq 28 fk g h b q W → Calls Tryd.prog 34 #[.int .i64 k, .pointer (some ⟨fk, 0, none⟩), .pointer (some ⟨g, 0, none⟩), .pointer (some ⟨h, 0, none⟩)] W fun e w' => e = .returned (.int .i64 ((fun i => b.getD i 0 * q.getD i 0) k)) ∧ Below W.heap.size W w') := fun k hk W hW => cloP_any b q hb hq h1 h2 fk g h k hk W hW
  have HCB : Hid (∀ W W', Cq 28 fk g h b q W → Below W.heap.size W W' → Cq 28 fk g h b q W') := fun W W' hW hb => hW.below hb
  have HCS : Hid (∀ W (k : Nat) v, w.heap.size + 1 < W.heap.size → Cq 28 fk g h b q W → Cq 28 fk g h b q (W.setCell ⟨w.heap.size + 1, k, none⟩ v)) := fun W k v hlt hW => (hc.old hW k v)
  clear hb hq h1 h2
  generalize hFF : (fun i => b.getD i 0 * q.getD i 0) = F at *
  obtain ⟨w1, hw1, hb0, hb1, hB⟩ := two_blk w (ia zeros) (ia zeros) 23 23
  have HZ := Lib.hid zeroB
  have K0 := Lib.hid hb0
  have K1 := Lib.hid hb1
  have KB := Lib.hid hB
  have KC := Lib.hid (HCB.out _ _ hc hB)
  clear hb0 hb1 hB hc hFF
  go_enter Tryd.func20, Tryd.ntmps20
  go_wp2_with (first
    | (with_reducible refine wpList_allocZ _ rfl 23 rfl (ia zeros) HZ.out ?_))
  rw [← hw1]
  clear hw1
  go_loopw [5] (fun i wr => ∃ (k : Nat), k ≤ 64 ∧ i = .int .i64 k ∧ Hid (Blk wr w.heap.size (ia zeros)) ∧ Hid (Blk wr (w.heap.size + 1) (ia (partK F k))) ∧ Hid (Cq 28 fk g h b q wr) ∧ Hid (Below w.heap.size w wr)) (fun i _ => 64 - (RowKit.intOf i).toNat)
  case atStart => exact ⟨0, by omega, rfl, K0, (show Hid _ from by show Blk _ _ _; rw [partK_zero]; exact K1.out), KC, KB⟩
  case round =>
    clear K0 K1 KB KC
    obtain ⟨k, hk, rfl, K0, K1, KC, KB⟩ := hrel
    by_cases hlt : k < 64
    · have HN := Lib.hid (partK_next F hlt)
      have HC := Lib.hid (HF.out k hlt wr KC.out)
      have HP := Lib.hid (partK_len F k)
      generalize F k = x at *
      go_wp2_with (first
        | (go_at_call 34; (with_reducible refine HC.out.mono ?_); rintro e w2 ⟨rfl, hb2⟩; have J0 := Lib.hid (K0.out.below hb2); have J1 := Lib.hid (K1.out.below hb2); have JC := Lib.hid (HCB.out _ _ KC.out hb2); have JB := Lib.hid (KB.out.trans (hb2.mono KB.out.size)); have hc2 := J1.out.cell (ia_at (j := k) (by rw [HP.out]; exact hlt)); have hf2 := J1.out.frozen k; clear hb2))
      go_roundw
      case rel => exact ⟨k + 1, by omega, by go_num, J0.out.other (by simp) _, (show Hid _ from by show Blk _ _ _; rw [← HN.out]; exact J1.out.set_int k x), HCS.out _ _ _ J1.out.lt JC.out, JB.out.setCell (p := ⟨w.heap.size + 1, k, none⟩) (by simp) _⟩
      case measure => simp [RowKit.intOf]; omega
    · obtain rfl : k = 64 := by omega
      have HA := Lib.hid (partK_all F)
      rw [HA.out] at K1
      have HS := Lib.hid (sizeB (mapB_len F))
      have HE : Hid ((ia zeros).size = (ia (mapB F)).size) := by show _ = _; rw [ia_size, ia_size, mapB_len]; rfl
      have HO := Lib.hid (one_ia (mapB F))
      go_wp2_with (first
        | (with_reducible refine wpList_loadB _ rfl 23 (.tmp 3) rfl _ Tryd.underlying23 rfl (w.heap.size + 1) rfl (ia (mapB F)) K1.out HS.out ?_)
        | ((with_reducible refine wpList_storeB _ rfl 23 (.tmp 2) (.tmp 14) rfl w.heap.size rfl (ia zeros) K0.out (ia (mapB F)) rfl HS.out HE.out HO.out ?_)
           intro w3 hb3 hc3 hs3))
      refine bodyPost_ret (results_cell rfl _ _ _ Tryd.underlying23 rfl w.heap.size (ia (mapB F)) rfl (fun j v hv => hb3.cell hv) HS.out) rfl ?_
      exact ⟨rfl, KB.out.trans (hc3.below KB.out.size (fun i e => by omega))⟩
set_option maxHeartbeats 2000000 in
theorem compS_any (q : List Int) (hq : q.length = 64) (h1 : wiB q 1 255 = true) (p : Int) (hp0 : 0 ≤ p) (hp1 : p ≤ 5000) (g c : Nat) (w : World) (hc : Cs g c q p w) :
    Calls Tryd.prog 20 #[.func (Fn.func 21) #[] #[.pointer (some ⟨g, 0, none⟩), .pointer (some ⟨c, 0, none⟩)]] w fun e w' => e = .returned (.agg (ia (mapB (fun i => scE (q.getD i 0) p)))) ∧ Below w.heap.size w w' := by
  have HF : Hid (∀ k : Nat, k < 64 → ∀ W, Cs g c q p W → Calls Tryd.prog 21 #[.int .i64 k, .pointer (some ⟨g, 0, none⟩), .pointer (some ⟨c, 0, none⟩)] W fun e w' => e = .returned (.int .i64 ((fun i => scE (q.getD i 0) p) k)) ∧ Below W.heap.size W w') := fun k hk W hW => cloS_any q hq h1 p hp0 hp1 g c k hk W hW.qb (hW.pc.cell rfl)
  have HCB : Hid (∀ W W', Cs g c q p W → Below W.heap.size W W' → Cs g c q p W') := fun W W' hW hb => hW.below hb
  have HCS : Hid (∀ W (k : Nat) v, w.heap.size + 1 < W.heap.size → Cs g c q p W → Cs g c q p (W.setCell ⟨w.heap.size + 1, k, none⟩ v)) := fun W k v hlt hW => (hc.old hW k v)
  clear hq h1 hp0 hp1
  generalize hFF : (fun i => scE (q.getD i 0) p) = F at *
  obtain ⟨w1, hw1, hb0, hb1, hB⟩ := two_blk w (ia zeros) (ia zeros) 23 23
  have HZ := Lib.hid zeroB
  have K0 := Lib.hid hb0
  have K1 := Lib.hid hb1
  have KB := Lib.hid hB
  have KC := Lib.hid (HCB.out _ _ hc hB)
  clear hb0 hb1 hB hc hFF
  go_enter Tryd.func20, Tryd.ntmps20
  go_wp2_with (first
    | (with_reducible refine wpList_allocZ _ rfl 23 rfl (ia zeros) HZ.out ?_))
  rw [← hw1]
  clear hw1
  go_loopw [5] (fun i wr => ∃ (k : Nat), k ≤ 64 ∧ i = .int .i64 k ∧ Hid (Blk wr w.heap.size (ia zeros)) ∧ Hid (Blk wr (w.heap.size + 1) (ia (partK F k))) ∧ Hid (Cs g c q p wr) ∧ Hid (Below w.heap.size w wr)) (fun i _ => 64 - (RowKit.intOf i).toNat)
  case atStart => exact ⟨0, by omega, rfl, K0, (show Hid _ from by show Blk _ _ _; rw [partK_zero]; exact K1.out), KC, KB⟩
  case round =>
    clear K0 K1 KB KC
    obtain ⟨k, hk, rfl, K0, K1, KC, KB⟩ := hrel
    by_cases hlt : k < 64
    · have HN := Lib.hid (partK_next F hlt)
      have HC := Lib.hid (HF.out k hlt wr KC.out)
      have HP := Lib.hid (partK_len F k)
      generalize F k = x at *
      go_wp2_with (first
        | (go_at_call 21; (with_reducible refine HC.out.mono ?_); rintro e w2 ⟨rfl, hb2⟩; have J0 := Lib.hid (K0.out.below hb2); have J1 := Lib.hid (K1.out.below hb2); have JC := Lib.hid (HCB.out _ _ KC.out hb2); have JB := Lib.hid (KB.out.trans (hb2.mono KB.out.size)); have hc2 := J1.out.cell (ia_at (j := k) (by rw [HP.out]; exact hlt)); have hf2 := J1.out.frozen k; clear hb2))
      go_roundw
      case rel => exact ⟨k + 1, by omega, by go_num, J0.out.other (by simp) _, (show Hid _ from by show Blk _ _ _; rw [← HN.out]; exact J1.out.set_int k x), HCS.out _ _ _ J1.out.lt JC.out, JB.out.setCell (p := ⟨w.heap.size + 1, k, none⟩) (by simp) _⟩
      case measure => simp [RowKit.intOf]; omega
    · obtain rfl : k = 64 := by omega
      have HA := Lib.hid (partK_all F)
      rw [HA.out] at K1
      have HS := Lib.hid (sizeB (mapB_len F))
      have HE : Hid ((ia zeros).size = (ia (mapB F)).size) := by show _ = _; rw [ia_size, ia_size, mapB_len]; rfl
      have HO := Lib.hid (one_ia (mapB F))
      go_wp2_with (first
        | (with_reducible refine wpList_loadB _ rfl 23 (.tmp 3) rfl _ Tryd.underlying23 rfl (w.heap.size + 1) rfl (ia (mapB F)) K1.out HS.out ?_)
        | ((with_reducible refine wpList_storeB _ rfl 23 (.tmp 2) (.tmp 14) rfl w.heap.size rfl (ia zeros) K0.out (ia (mapB F)) rfl HS.out HE.out HO.out ?_)
           intro w3 hb3 hc3 hs3))
      refine bodyPost_ret (results_cell rfl _ _ _ Tryd.underlying23 rfl w.heap.size (ia (mapB F)) rfl (fun j v hv => hb3.cell hv) HS.out) rfl ?_
      exact ⟨rfl, KB.out.trans (hc3.below KB.out.size (fun i e => by omega))⟩
end Go.Proofs.YtipmbffpokplgaaDoor
