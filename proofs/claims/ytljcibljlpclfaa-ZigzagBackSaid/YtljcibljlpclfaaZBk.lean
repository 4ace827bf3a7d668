/- The walk of ZigzagBack. -/
import Derived.Test.YtljcibljlpclfaaZTu
namespace Go.Proofs.Ytljcibljlpclfaa
open Go.RowKit Go.Lib
set_option linter.unusedVariables false
set_option maxRecDepth 100000
set_option maxHeartbeats 8000000 in
theorem zback_any (l : List Int) (hl : l.length = 64) (w : World) : Calls Try.prog 5 #[.agg (ia l)] w fun e w' => e = .returned (.bool true) ∧ Below w.heap.size w w' := by
  have HL := Lib.hid hl
  have HS := Lib.hid (sizeB hl)
  have HZ := Lib.hid zeroB
  have HP := Lib.hid (perm_len za l)
  have HSP := Lib.hid (sizeB (perm_len za l))
  have HEP : Hid ((ia zeros).size = (ia (perm za l)).size) := by show _ = _; rw [ia_size, ia_size, perm_len]; rfl
  have HOP := Lib.hid (one_ia (perm za l))
  obtain ⟨w1, hw1⟩ : ∃ w1, w1 = w.alloc (.cells (ia l) 26) := ⟨_, rfl⟩
  have H0 : Hid (Blk w1 w.heap.size (ia l)) := by rw [hw1]; exact Blk.new w _ _
  have B0 : Hid (Below w.heap.size w w1) := by rw [hw1]; exact (Below.refl _ w).alloc (Nat.le_refl _) _
  go_enter Try.func5, Try.ntmps5
  go_wp2_with (first
    | (rw [← hw1]; (with_reducible refine wpList_loadB _ rfl 26 (.tmp 1) rfl _ Try.underlying26 rfl w.heap.size rfl (ia l) H0.out HS.out ?_))
    | (go_at_call 13; (with_reducible refine (to_any l hl _).mono ?_); rintro e w2 ⟨rfl, hb2⟩
       replace hb2 : Below w1.heap.size w1 w2 := by rw [hw1]; simpa using hb2
       have HN := Lib.hid (Blk.new w2 (ia zeros) 26)
       have HB := Lib.hid ((Below.refl w2.heap.size w2).alloc (Nat.le_refl _) (.cells (ia zeros) 26)))
    | (with_reducible refine wpList_allocZ _ rfl 26 rfl (ia zeros) HZ.out ?_)
    | ((with_reducible refine wpList_storeB _ rfl 26 (.tmp 3) (.tmp 7) rfl w2.heap.size rfl (ia zeros) HN.out (ia (perm za l)) rfl HSP.out HEP.out HOP.out ?_)
       intro w3 hb3 hc3 hs3))
  have hlt2 := hb2.size
  have KB : Hid (Below w2.heap.size w2 w3) := HB.out.trans (hc3.below HB.out.size (fun i e => by omega))
  have K : Hid (Kz w w2.heap.size l (perm za l) w3) := ⟨(H0.out.below hb2).below KB.out, hb3, B0.out.trans ((hb2.mono B0.out.size).trans (KB.out.mono (Nat.le_trans B0.out.size hb2.size)))⟩
  clear hb2 HN HB hb3 hc3 hs3 KB B0 H0 hw1 hlt2 w1
  generalize hT : w2.heap.size = T at *
  have HAt := Lib.hid (fun (k : Nat) (hk : k < 64) => perm_at za l hk)
  have HFP := Lib.hid (fun W => perm_perm (f := zq) (g := za) zq_lt za_zq hl ▸ from_any (perm za l) (perm_len za l) W)
  have HFL := Lib.hid (from_any l hl)
  have HTQ := Lib.hid (fun W => perm_perm (f := za) (g := zq) za_lt zq_za hl ▸ to_any (perm zq l) (perm_len zq l) W)
  generalize perm zq l = q at *
  generalize hp : perm za l = p at *
  clear hp
  go_loopw [4, 5] (fun i v wr => ∃ (k : Nat), k ≤ 64 ∧ i = .int .i64 k ∧ Hid (Kz w T l p wr)) (fun i _ _ => 64 - (RowKit.intOf i).toNat)
  case atStart => exact ⟨0, by omega, rfl, K⟩
  case round =>
    clear K
    obtain ⟨k, hk, rfl, K⟩ := hrel
    by_cases hlt : k < 64
    · have hz := zq_lt k hlt
      have hz0 : decide (((zq k : Nat) : Int) < 0) = false := decide_eq_false (by omega)
      have hz1 : decide ((63 : Int) < ((zq k : Nat) : Int)) = false := decide_eq_false (by omega)
      have hz2 : 0 ≤ ((zq k : Nat) : Int) := by omega
      have hz3 : ((zq k : Nat) : Int) < 64 := by omega
      have hk0 : 0 ≤ ((k : Nat) : Int) := by omega
      have hk1 : ((k : Nat) : Int) < 64 := by omega
      have HC1 : Hid (∀ W, Kz w T l p W → W.cell? ⟨w.heap.size, k, none⟩ = some (.int .i64 (l.getD k 0))) := fun W h => h.b.cell (ia_at (by rw [HL.out]; exact hlt))
      have HC2 : Hid (∀ W, Kz w T l p W → W.cell? ⟨T, zq k, none⟩ = some (.int .i64 (l.getD k 0))) := fun W h => by
        have := h.t.cell (ia_at (l := p) (j := zq k) (by rw [HP.out]; exact hz))
        rwa [HAt.out _ hz, za_zq k hlt] at this
      have VP := Lib.hid (placeS_yes hlt)
      have VA := Lib.hid (show atS ((zq k : Nat) : Int) = (k : Int) by rw [atS_yes hz, za_zq k hlt])
      generalize zq k = z at *
      generalize l.getD k 0 = x at *
      have HVA := Lib.hid (fun W => at_val VA.out W)
      go_upto_region 6 with (first
        | (go_at_call 8; (with_reducible refine (place_val VP.out _).mono ?_); rintro e w4 ⟨rfl, hb4⟩; replace K := Lib.hid (K.out.call hb4); clear hb4))
      refine wp_region_seq (Kz w T l p) (by kernel_rfl) (by kernel_rfl) (by kernel_rfl) K.out.drew ?_
      repeat (
        first
          | (refine seq_off (by rfl) ?_)
          | (refine seq_callF 7 _ _ [.int .i64 z] (by rfl) rfl (enters_of Try.func7 (by kernel_rfl) rfl) rfl (fun W hS => (HVA.out W).mono fun e w' h => ⟨h.1, hS.call h.2⟩) ?_)
          | (apply seq_val (by rfl)
             focus (intro W hS; have e1 := HC1.out W hS; have e2 := HC2.out W hS; go_simp; try with_reducible rfl))
        simp only [Act.put, List.setIfInBounds_toArray, List.set_cons_zero, List.set_cons_succ])
      refine seq_nil fun W hS => ?_
      replace K := Lib.hid hS
      clear hS
      go_wp2
      go_roundw
      case rel => exact ⟨k + 1, by omega, by go_num, K⟩
      case measure => simp [RowKit.intOf]; omega
    · obtain rfl : k = 64 := by omega
      go_upto_region 8 with fail
      have hE1 : ∀ W, (Op.equalIn 10000 26 (.agg (ia l)) (.agg (ia l))).run Try.prog W = .ok true W := fun W => eq64 HL.out
      have hG1 : ∀ W, (eqGuard .eql 26 (.tmp 36) (.tmp 37) (.agg (ia l)) (.agg (ia l))).run Try.prog W = .ok () W := fun W => guard64 W _ _ _ _
      have hG2 : ∀ W, (eqGuard .eql 26 (.tmp 42) (.tmp 43) (.agg (ia l)) (.agg (ia l))).run Try.prog W = .ok () W := fun W => guard64 W _ _ _ _
      have HAw := Lib.hid awake_any
      refine wp_region_seq (Kz w T l p) (by kernel_rfl) (by kernel_rfl) (by kernel_rfl) K.out.drew ?_
      repeat (
        first
          | (refine seq_off (by rfl) ?_)
          | (refine seq_load 26 (.tmp 1) _ (.agg (ia l)) (by rfl) rfl rfl (fun W hS => hS.ld1 HL.out) ?_)
          | (refine seq_load 26 (.tmp 3) _ (.agg (ia p)) (by rfl) rfl rfl (fun W hS => hS.ld2 HP.out) ?_)
          | (refine seq_callF 14 _ _ [.agg (ia p)] (by rfl) rfl (enters_of Try.func14 (by kernel_rfl) rfl) rfl (fun W hS => (HFP.out W).mono fun e w' h => ⟨h.1, hS.call h.2⟩) ?_)
          | (refine seq_callF 14 _ _ [.agg (ia l)] (by rfl) rfl (enters_of Try.func14 (by kernel_rfl) rfl) rfl (fun W hS => (HFL.out W).mono fun e w' h => ⟨h.1, hS.call h.2⟩) ?_)
          | (refine seq_callF 13 _ _ [.agg (ia q)] (by rfl) rfl (enters_of Try.func13 (by kernel_rfl) rfl) rfl (fun W hS => (HTQ.out W).mono fun e w' h => ⟨h.1, hS.call h.2⟩) ?_)
          | (refine seq_callF 9 _ _ [] (by rfl) rfl (enters_of Try.func9 (by kernel_rfl) rfl) rfl (fun W hS => (HAw.out W).mono fun e w' h => ⟨h.1, hS.call h.2⟩) ?_)
          | (apply seq_val (by rfl)
             focus (intro W hS; go_simp; try with_reducible rfl))
        simp only [Act.put, List.setIfInBounds_toArray, List.set_cons_zero, List.set_cons_succ])
      refine seq_nil fun W hS => ?_
      go_wp2
      go_ret
      exact ⟨rfl, hS.be⟩
end Go.Proofs.Ytljcibljlpclfaa
