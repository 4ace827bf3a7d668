/- The walk of ZigzagTurns. -/
import Derived.Test.YtljcibljlpclfaaZEq
import Derived.Test.YtljcibljlpclfaaZLAt
import Derived.Test.YtljcibljlpclfaaDrw
import Derived.Deep.DeepCutAuto
namespace Go.Proofs.Ytljcibljlpclfaa
open Go.RowKit Go.Lib
set_option linter.unusedVariables false
set_option maxRecDepth 100000
/-- What stands in memory: the two blocks of the law's own. -/
structure Kz (w : World) (T : Nat) (l p : List Int) (W : World) : Prop where
  b : Blk W w.heap.size (ia l)
  t : Blk W T (ia p)
  be : Below w.heap.size w W
theorem Kz.call {w : World} {T : Nat} {l p : List Int} {W W' : World} (h : Kz w T l p W) (hb : Below W.heap.size W W') : Kz w T l p W' :=
  ⟨h.b.below hb, h.t.below hb, h.be.trans (hb.mono h.be.size)⟩
theorem Kz.drew {w : World} {T : Nat} {l p : List Int} {W : World} (h : Kz w T l p W) : Kz w T l p W.drew := ⟨h.b, h.t, h.be.drew⟩
theorem Blk.range {W : World} {g : Nat} {l : List Int} (h : Blk W g (ia l)) : W.rangeAt g 0 (l.map iv) := fun j v hv => by
  rw [Nat.zero_add]
  exact h.cell (by simpa [ia] using hv)
theorem Kz.all {w : World} {T : Nat} {l p : List Int} {W : World} (h : Kz w T l p W) : W.rangeAt w.heap.size 0 (l.map iv) ∧ W.rangeAt T 0 (p.map iv) ∧ Kz w T l p W := ⟨h.b.range, h.t.range, h⟩
theorem Kz.ld1 {w : World} {T : Nat} {l p : List Int} {W : World} (h : Kz w T l p W) (hl : l.length = 64) : (Instr.loadAt 26 (.pointer (some ⟨w.heap.size, 0, none⟩))).run Try.prog W = .ok (.agg (ia l)) W :=
  run_loadAt_mid W w.heap.size 0 26 (l.map iv) _ h.b.range Try.underlying26 rfl (by rw [List.length_map, hl]; kernel_rfl)
theorem Kz.ld2 {w : World} {T : Nat} {l p : List Int} {W : World} (h : Kz w T l p W) (hl : p.length = 64) : (Instr.loadAt 26 (.pointer (some ⟨T, 0, none⟩))).run Try.prog W = .ok (.agg (ia p)) W :=
  run_loadAt_mid W T 0 26 (p.map iv) _ h.t.range Try.underlying26 rfl (by rw [List.length_map, hl]; kernel_rfl)
theorem eq64 {w : World} {l : List Int} (hl : l.length = 64) : (Op.equalIn 10000 26 (.agg (ia l)) (.agg (ia l))).run Try.prog w = .ok true w := by
  rw [run_equalIn_ints w 9998 26 3 64 Try.underlying26 Try.underlying3 sizeInt l l hl hl]; simp

set_option maxHeartbeats 8000000 in
theorem zturns_any (l : List Int) (hl : l.length = 64) (w : World) : Calls Try.prog 4 #[.agg (ia l)] w fun e w' => e = .returned (.bool true) ∧ Below w.heap.size w w' := by
  have HL := Lib.hid hl
  have HS := Lib.hid (sizeB hl)
  have HZ := Lib.hid zeroB
  have HP := Lib.hid (perm_len za l)
  have HSP := Lib.hid (sizeB (perm_len za l))
  have HEP : Hid ((ia zeros).size = (ia (perm za l)).size) := by show _ = _; rw [ia_size, ia_size, perm_len]; rfl
  have HOP := Lib.hid (one_ia (perm za l))
  obtain ⟨w1, hw1⟩ : ∃ w1, w1 = w.alloc (.cells (ia l) 26) := ⟨_, rfl⟩
  have H0 : Hid (Blk w1 w.heap.size (ia l)) := by rw [hw1]; exact Blk.new w _ _
  have B0 : Hid (Below w.heap.size w w1) := by rw [hw1]; exact (Below.refl _ w).alloc (Nat.le_refl _) _
  go_enter Try.func4, Try.ntmps4
  go_wp2_with (first
    | (rw [← hw1]; (with_reducible refine wpList_loadB _ rfl 26 (.tmp 1) rfl _ Try.underlying26 rfl w.heap.size rfl (ia l) H0.out HS.out ?_))
    | (go_at_call 12; (with_reducible refine (rto_any l hl _).mono ?_); rintro e w2 ⟨rfl, hb2⟩
       replace hb2 : Below w1.heap.size w1 w2 := by rw [hw1]; simpa using hb2
       have HN := Lib.hid (Blk.new w2 (ia zeros) 26)
       have HB := Lib.hid ((Below.refl w2.heap.size w2).alloc (Nat.le_refl _) (.cells (ia zeros) 26)))
    | (with_reducible refine wpList_allocZ _ rfl 26 rfl (ia zeros) HZ.out ?_)
    | ((with_reducible refine wpList_storeB _ rfl 26 (.tmp 3) (.tmp 7) rfl w2.heap.size rfl (ia zeros) HN.out (ia (perm za l)) rfl HSP.out HEP.out HOP.out ?_)
       intro w3 hb3 hc3 hs3))
  have hlt2 := hb2.size
  have KB : Hid (Below w2.heap.size w2 w3) := HB.out.trans (hc3.below HB.out.size (fun i e => by omega))
  have K : Hid (Kz w w2.heap.size l (perm za l) w3) := ⟨(H0.out.below hb2).below KB.out, hb3, B0.out.trans ((hb2.mono B0.out.size).trans (KB.out.mono (Nat.le_trans B0.out.size hb2.size)))⟩
  clear hb2 HN HB hb3 hc3 hs3 KB B0 H0 hw1 hlt2 w1
  generalize hT : w2.heap.size = T at *
  have HQ := Lib.hid (perm_len zq l)
  have HTo := Lib.hid (to_any l hl)
  have HFr := Lib.hid (from_any l hl)
  have HRF := Lib.hid (rfrom_any l hl)
  have HLa := Lib.hid (last_any l hl)
  generalize hp : perm za l = p at *
  have HPQ := Lib.hid hp
  clear hp
  go_loopw [4, 5] (fun v i wr => ∃ (k : Nat), k ≤ 64 ∧ i = .int .i64 k ∧ v = .int .i64 (lastN p k) ∧ wr = w3) (fun _ i _ => 64 - (RowKit.intOf i).toNat)
  case atStart => exact ⟨0, by omega, rfl, rfl, rfl⟩
  case round =>
    obtain ⟨k, hk, rfl, rfl, hw⟩ := hrel
    subst hw
    by_cases hlt : k < 64
    · have hc := K.out.t.cell (ia_at (l := p) (j := k) (by rw [HP.out]; exact hlt))
      have HN : Hid (lastN p (k + 1) = if p.getD k 0 = 0 then lastN p k else (k : Int)) := rfl
      generalize p.getD k 0 = x at *
      by_cases hx : x = 0
      · have hb : (x != 0) = false := by simp [hx]
        have HN2 : Hid (lastN p (k + 1) = lastN p k) := by show _ = _; rw [HN.out, if_pos hx]
        clear hx
        go_wp2
        go_roundw
        case rel => exact ⟨k + 1, by omega, by go_num, by rw [HN2.out], trivial⟩
        case measure => simp [RowKit.intOf]; omega
      · have hb : (x != 0) = true := by simp [hx]
        have HN2 : Hid (lastN p (k + 1) = (k : Int)) := by show _ = _; rw [HN.out, if_neg hx]
        clear hx
        go_wp2
        go_roundw
        case rel => exact ⟨k + 1, by omega, by go_num, by rw [HN2.out], trivial⟩
        case measure => simp [RowKit.intOf]; omega
    · obtain rfl : k = 64 := by omega
      go_upto_region 8 with fail
      generalize hla : lastN p 64 = la at *
      have HLA := Lib.hid hla
      clear hla
      generalize hqq : perm zq l = q at *
      clear hqq
      have hE1 : ∀ W, (Op.equalIn 10000 26 (.agg (ia p)) (.agg (ia p))).run Try.prog W = .ok true W := fun W => eq64 HP.out
      have hE2 : ∀ W, (Op.equalIn 10000 26 (.agg (ia q)) (.agg (ia q))).run Try.prog W = .ok true W := fun W => eq64 HQ.out
      have hG1 : ∀ W, (eqGuard .eql 26 (.tmp 18) (.tmp 19) (.agg (ia p)) (.agg (ia p))).run Try.prog W = .ok () W := fun W => guard64 W _ _ _ _
      have hG2 : ∀ W, (eqGuard .eql 26 (.tmp 23) (.tmp 25) (.agg (ia q)) (.agg (ia q))).run Try.prog W = .ok () W := fun W => guard64 W _ _ _ _
      refine wp_region_seq (Kz w T l p) (by kernel_rfl) (by kernel_rfl) (by kernel_rfl) K.out.drew ?_
      have HAw := Lib.hid awake_any
      repeat (
        first
          | (refine seq_off (by rfl) ?_)
          | (refine seq_load 26 (.tmp 1) _ (.agg (ia l)) (by rfl) rfl rfl (fun W hS => hS.ld1 HL.out) ?_)
          | (refine seq_load 26 (.tmp 3) _ (.agg (ia p)) (by rfl) rfl rfl (fun W hS => hS.ld2 HP.out) ?_)
          | (refine seq_callF 13 _ _ [.agg (ia l)] (by rfl) rfl (enters_of Try.func13 (by kernel_rfl) rfl) rfl (fun W hS => (HTo.out W).mono fun e w' h => ⟨h.1, hS.call h.2⟩) ?_)
          | (refine seq_callF 14 _ _ [.agg (ia l)] (by rfl) rfl (enters_of Try.func14 (by kernel_rfl) rfl) rfl (fun W hS => (HFr.out W).mono fun e w' h => ⟨h.1, hS.call h.2⟩) ?_)
          | (refine seq_callF 15 _ _ [.agg (ia l)] (by rfl) rfl (enters_of Try.func15 (by kernel_rfl) rfl) rfl (fun W hS => (HRF.out W).mono fun e w' h => ⟨h.1, hS.call h.2⟩) ?_)
          | (refine seq_callF 16 _ _ [.agg (ia l)] (by rfl) rfl (enters_of Try.func16 (by kernel_rfl) rfl) rfl (fun W hS => (HLa.out W).mono fun e w' h => ⟨h.1, hS.call h.2⟩) ?_)
          | (refine seq_callF 9 _ _ [] (by rfl) rfl (enters_of Try.func9 (by kernel_rfl) rfl) rfl (fun W hS => (HAw.out W).mono fun e w' h => ⟨h.1, hS.call h.2⟩) ?_)
          | (apply seq_val (by rfl)
             focus (intro W hS; go_simp; try with_reducible rfl))
        simp only [Act.put, List.setIfInBounds_toArray, List.set_cons_zero, List.set_cons_succ])
      refine seq_nil fun W hS => ?_
      go_wp2
      go_ret
      exact ⟨rfl, hS.be⟩
end Go.Proofs.Ytljcibljlpclfaa
