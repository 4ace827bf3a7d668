/- Contract of prefix.Codes. -/
import Derived.Test.YtanihbflgolciaaFMay
import Derived.Test.YtanihbflgolciaaPCde
namespace Go.Proofs.Ytanihbflgolciaa
open Go.RowKit Go.Lib
set_option linter.unusedVariables false
set_option maxRecDepth 100000

/-- The next code, of length e, behind those of lengths ds. -/
def nextS (ds : List Nat) (e : Nat) : Int := if h : cds ds = [] then 0 else (((cds ds).getLast h).1 + 1) * 2 ^ (e - ((cds ds).getLast h).2)
theorem next_snoc (ds : List Nat) (e : Nat) : cds (ds ++ [e]) = cds ds ++ [(nextS ds e, e)] := by
  unfold nextS
  by_cases h : cds ds = []
  · rw [dif_pos h, cds_none h]
  · rw [dif_neg h, cds_snoc ds h]
theorem next_same (ds : List Nat) (e : Nat) : nextS (ds ++ [e]) e = nextS ds e + 1 := by
  have h : cds (ds ++ [e]) ≠ [] := by rw [next_snoc]; simp
  have h2 : (cds (ds ++ [e])).getLast h = (nextS ds e, e) := by
    have := next_snoc ds e
    simp [this]
  rw [nextS, dif_neg h, h2]
  simp
theorem next_shift {ds : List Nat} {e : Nat} (hb : ∀ x ∈ ds, x ≤ e) : nextS ds (e + 1) = nextS ds e * 2 := by
  unfold nextS
  by_cases h : cds ds = []
  · rw [dif_pos h, dif_pos h]; rfl
  · rw [dif_neg h, dif_neg h]
    have h1 : ((cds ds).getLast h).2 ∈ ds := by
      have := List.mem_map_of_mem (f := Prod.snd) (List.getLast_mem h)
      rwa [cds_snd] at this
    have h2 := hb _ h1
    rw [show e + 1 - ((cds ds).getLast h).2 = (e - ((cds ds).getLast h).2) + 1 by omega, Int.pow_succ, Int.mul_assoc]
/-- It stays in bounds. -/
theorem next_rng {ds : List Nat} {e : Nat} (hs : ds.Pairwise (fun a b => a ≤ b)) (hb : ∀ x ∈ ds, x ≤ e) (he : e ≤ 16) (hk : kraft 16 ds < 2 ^ 16) : 0 ≤ nextS ds e ∧ nextS ds e ≤ 65536 := by
  unfold nextS
  by_cases h : cds ds = []
  · rw [dif_pos h]; omega
  · rw [dif_neg h]
    have hp := cds_fit (L := 16) hs (fun x hx => by have := hb x hx; omega) hk _ (List.getLast_mem h)
    generalize (cds ds).getLast h = p at *
    obtain ⟨v, n⟩ := p
    simp only at hp ⊢
    have hn := hb n hp.2.2
    have h1 : (0 : Int) < 2 ^ (e - n) := Int.pow_pos (by decide)
    refine ⟨Int.mul_nonneg (by omega) (by omega), ?_⟩
    have h2 : (v + 1) * 2 ^ (e - n) ≤ 2 ^ n * 2 ^ (e - n) := Int.mul_le_mul_of_nonneg_right (by omega) (by omega)
    rw [← Int.pow_add, show n + (e - n) = e by omega] at h2
    exact Int.le_trans h2 (p65 he)
theorem so_far_rise (cs : List Int) (k m : Nat) : (lensOf cs k ++ List.replicate m (k + 1)).Pairwise (fun a b => a ≤ b) := rise_more (lens_rise cs k) (fun x hx => by have := lens_le cs k x hx; omega)
theorem so_far_le (cs : List Int) (k m : Nat) : ∀ x ∈ lensOf cs k ++ List.replicate m (k + 1), x ≤ k + 1 := by
  intro x hx
  rw [List.mem_append] at hx
  rcases hx with hx | hx
  · have := lens_le cs k x hx; omega
  · rw [List.mem_replicate] at hx; omega
theorem may_len {cs l : List Int} (h : MayP cs l) : l.length ≤ 4096 := by
  have h1 := many_rng 16 (fun j hj => h.cnt j hj)
  have h2 := h.many
  omega

set_option maxHeartbeats 2000000 in
theorem fCod_any (X : Array Value) (cs : List Int) (l : List Int) (A : Option Addr) (c : Nat) (w : World) (hX : Hv X cs (.slice A l.length c)) (hr : Ri w A l) (hl : l.length ≤ 100000) (hm : mayB cs l = true) (hx17 : X.size = 17) :
    Calls Try.prog 15 #[.agg X] w fun e w' => ∃ v, e = .returned v ∧ Oq w' w.heap.size v (cds (lensOf cs 16)) ∧ Below w.heap.size w w' := by
  obtain ⟨i0, hi, hz0, hz1, hz2⟩ := info_parts Try.info33
  obtain ⟨Y, hY1, hY2, hY3⟩ := hX.counts
  have HY1 := Lib.hid hY1
  have HY2 := Lib.hid hY2
  have HY3 := Lib.hid hY3
  have HX := Lib.hid hX
  have HR0 := Lib.hid hr
  have HM := Lib.hid (mayB_iff.1 hm)
  have HMB := Lib.hid hm
  have HX17 := Lib.hid hx17
  have hl' := may_len HM.out
  have HI := Lib.hid hi
  have HZ := Lib.hid hz0
  have HZ1 := Lib.hid hz1
  have HZ2 := Lib.hid hz2
  clear hX hY1 hY2 hY3 hr hm hx17 hi hz0 hz1 hz2
  go_enter Try.func15, Try.ntmps15
  have HW := Lib.hid ((Below.refl w.heap.size w).alloc (Nat.le_refl _) (.cells X 25))
  have HB := Lib.hid (HX.out.box w 25)
  have HBL := Lib.hid (Blk.new w X 25)
  have HSZ : Hid ((Try.prog.info? 25).map (·.size) = some X.size) := by show _ = _; rw [HX17.out]; kernel_rfl
  have HSY : Hid ((Try.prog.info? 22).map (·.size) = some Y.size) := by show _ = _; rw [HY1.out]; kernel_rfl
  have HMY := Lib.hid (fMay_any X cs l A c (w.alloc (.cells X 25)) HX.out (HR0.out.below HW.out) hl)
  rw [HMB.out] at HMY
  have HLD : Hid (∀ w2 w3, Below (w.alloc (.cells X 25)).heap.size (w.alloc (.cells X 25)) w2 → w2.grownBy w3 none → ∀ (j : Nat) (v : Value), Y[j]? = some v → w3.cell? ⟨w.heap.size, 0 + j, none⟩ = some v) := by
    show ∀ w2 w3, _
    intro w2 w3 hb hg j v hv
    have e1 := HBL.out.cell (HY3.out j v hv)
    rw [Nat.zero_add]
    have e2 := cell_later hb e1
    exact hg.cell e2 (by simp)
  go_wp2_with (first
    | (with_reducible refine wpList_loadB _ rfl 25 (.tmp 1) rfl _ Try.underlying25 rfl w.heap.size rfl X HBL.out HSZ.out ?_)
    | ((go_at_call 11; refine HMY.out.mono ?_)
       rintro e w2 ⟨rfl, hb2⟩
       have HB2 := Lib.hid hb2
       have h16 := (HB.out.below HB2.out).syms
       clear hb2)
    | ((with_reducible refine wpList_make_own _ rfl (.const (.int .i64 0)) (.tmp 12) 39 rfl w.heap.size 33 i0 _ 2 Try.underlying39 HI.out HZ.out HZ1.out .i64 .i64 (l.length : Int) l.length rfl rfl rfl (by rw [HZ2.out]; omega) (by unfold maxLen; omega) (by have := HB2.out.size; have := HW.out.size; omega) ?_)
       intro w3 ho3 hg3
       have HO3 := Lib.hid ho3
       have HG3 := Lib.hid hg3
       clear ho3 hg3)
    | (with_reducible refine wpList_loadP _ rfl 22 (.tmp 14) rfl _ Try.underlying22 rfl w.heap.size 0 rfl Y (HLD.out w2 w3 HB2.out HG3.out) HSY.out ?_))
  have HW3 := Lib.hid ((HW.out.trans ⟨HB2.out.os, HB2.out.tape, HB2.out.output, HB2.out.size, fun k hk => HB2.out.block k (Nat.lt_of_lt_of_le hk HW.out.size)⟩).grown HG3.out (by have := HB2.out.size; have := HW.out.size; omega) (fun k hk => by cases hk))
  have HO : Hid (Oq w3 w.heap.size (.slice (some ⟨w2.heap.size, 0, none⟩) 0 l.length) (cds (lensOf cs 0))) := HO3
  clear HO3 HG3 HB2 HBL HB HMY HSZ HSY h16 HI HZ HZ1 HZ2 HY3 HW HLD
  go_loopw [3, 4, 16] (fun o nx i wr => ∃ (k : Nat) (v : Value), k ≤ 16 ∧ i = .int .i64 k ∧ v = o ∧ nx = .int .i64 (nextS (lensOf cs k) k) ∧ Hid (Oq wr w.heap.size v (cds (lensOf cs k))) ∧ Hid (Below w.heap.size w wr)) (fun _ _ i _ => 16 - (RowKit.intOf i).toNat)
  case atStart => exact ⟨0, _, Nat.zero_le _, rfl, rfl, rfl, HO, HW3⟩
  case round =>
    clear HO HW3
    obtain ⟨k, v, hk, rfl, rfl, rfl, HO, HB1⟩ := hrel
    by_cases hlt : k < 16
    · have hc := HM.out.cnt k hlt
      have e1 := HY2.out k hlt
      have hf0 := (lens_so_far HM.out hlt (k := 0) (by omega)).1
      rw [List.replicate_zero, List.append_nil] at hf0
      have hn1 := next_rng (e := k) (lens_rise cs k) (fun x hx => (lens_le cs k x hx).2) (by omega) hf0
      have hn2 := next_rng (e := k + 1) (lens_rise cs k) (fun x hx => by have := (lens_le cs k x hx).2; omega) (by omega) hf0
      have hsh := Lib.hid (next_shift (e := k) (fun x hx => (lens_le cs k x hx).2))
      rw [hsh.out] at hn2
      generalize hN : nextS (lensOf cs k) k = N at *
      clear hf0 hN
      generalize hx : cs.getD k 0 = x at *
      have HXk := Lib.hid hx
      clear hx
      go_wp2_with (first
        | (with_reducible refine wpList_indexA _ rfl 22 (.tmp 15) (.tmp 16) rfl 16 3 .i64 Try.underlying22 Try.underlying3 (by kernel_rfl) Y rfl k rfl hlt _ e1 ?_))
      generalize decide ((k : Int) < 16) = b9
      go_loopw [3, 4, 23] (fun o nx i wr => ∃ (m : Nat) (v : Value), (m : Int) ≤ x ∧ i = .int .i64 m ∧ v = o ∧ nx = .int .i64 (nextS (lensOf cs k ++ List.replicate m (k + 1)) (k + 1)) ∧ Hid (Oq wr w.heap.size v (cds (lensOf cs k ++ List.replicate m (k + 1)))) ∧ Hid (Below w.heap.size w wr)) (fun _ _ i _ => x.toNat - (RowKit.intOf i).toNat)
      case atStart => exact ⟨0, _, hc.1, rfl, rfl, by rw [List.replicate_zero, List.append_nil, hsh.out], (show Hid _ from by show Oq _ _ _ _; rw [List.replicate_zero, List.append_nil]; exact HO.out), HB1⟩
      case round =>
        clear HO HB1
        obtain ⟨m, v2, hm, rfl, rfl, rfl, HO2, HB2⟩ := hrel
        by_cases hmx : (m : Int) < x
        · have hfar := lens_so_far HM.out hlt (k := m) (by rw [HXk.out]; omega)
          have hnx := next_rng (so_far_rise cs k m) (so_far_le cs k m) (by omega) hfar.1
          have hlen := hfar.2
          have hs1 := Lib.hid (next_snoc (lensOf cs k ++ List.replicate m (k + 1)) (k + 1))
          have hs2 := Lib.hid (next_same (lensOf cs k ++ List.replicate m (k + 1)) (k + 1))
          clear hfar
          have HMO := Lib.hid (more_one cs k m)
          generalize lensOf cs k ++ List.replicate m (k + 1) = ds at *
          generalize hNN : nextS ds (k + 1) = NN at *
          clear hNN
          have z1 := HB2.out.size
          have HO3 := Lib.hid (HO2.out.alloc (.cells #[.int .i64 NN, .int .i64 ((k : Int) + 1)] 33))
          have HB3 := Lib.hid (HB2.out.alloc z1 (.cells #[.int .i64 NN, .int .i64 ((k : Int) + 1)] 33))
          have HR3 := Lib.hid (RdV.pair wr 33 NN (k + 1) (g := wr.heap.size) rfl (z := (k : Int) + 1) (by omega))
          go_wp2_with (first
            | ((go_at_call 23; refine (fLen_any _ _ (by omega) (by omega)).mono ?_)
               rintro e w2 ⟨rfl, rfl⟩)
            | ((with_reducible refine wpList_appQ _ rfl (.tmp 25) (.tmp 30) rfl w.heap.size v2 (cds ds) rfl HO3.out (some ⟨wr.heap.size, 0, none⟩) 1 1 [(NN, k + 1)] rfl rfl HR3.out (by rw [cds_len]; simp; omega) (by simp; omega) ?_)
               intro v3 w3 ho3 hg3 _
               have HB4 := Lib.hid (HO3.out.grown HB3.out hg3 (by simp; omega))
               have HO4 := Lib.hid ho3
               clear ho3 hg3))
          go_roundw
          case rel => exact ⟨m + 1, v3, by omega, by go_num, rfl, (by rw [HMO.out, hs2.out]), (show Hid _ from by show Oq _ _ _ _; rw [HMO.out, hs1.out]; exact HO4.out), HB4⟩
          case measure => simp [RowKit.intOf]; omega
        · obtain rfl : x = (m : Int) := by omega
          go_wp2
          go_roundw
          case rel => exact ⟨k + 1, v2, by omega, by go_num, rfl, (by rw [lensOf, HXk.out]; rfl), (show Hid _ from by show Oq _ _ _ _; rw [lensOf, HXk.out]; exact HO2.out), HB2⟩
          case measure => simp [RowKit.intOf]; omega
    · obtain rfl : k = 16 := by omega
      go_wp2
      go_ret
      exact ⟨_, rfl, HO.out, HB1.out⟩
end Go.Proofs.Ytanihbflgolciaa
