/- half: half a cosine, in parts of 10^7, and its sign. -/
import Derived.Test.YtlchdelhhnlgbaaDoorCN
namespace Go.Proofs.YtlchdelhhnlgbaaDoor
open Go.RowKit Go.Lib
set_option linter.unusedVariables false
set_option maxRecDepth 100000
def nine : List Int := List.replicate 9 0
theorem zero9 : (Tryd.prog.info? 37).map (fun i => i.zero) = some (some (.agg (ia nine))) := by kernel_rfl
theorem size9 : (Tryd.prog.info? 37).map (·.size) = some (ia hd).size := by kernel_rfl
theorem hp_zero (x : Nat) : hp 0 x = (3535533, 1) := if_pos rfl
theorem hp_le8 {u x : Nat} (h0 : 0 < u) (h : kN u x ≤ 8) : hp u x = (hd.getD (kN u x) 0, 1) := by
  unfold hp
  rw [if_neg (by omega)]
  show hk (kN u x) = _
  unfold hk
  rw [if_pos h]
theorem hp_le16 {u x : Nat} (h0 : 0 < u) (h : 8 < kN u x) (h2 : kN u x ≤ 16) : hp u x = (hd.getD (16 - kN u x) 0, -1) := by
  unfold hp
  rw [if_neg (by omega)]
  show hk (kN u x) = _
  unfold hk
  rw [if_neg (by omega), if_pos h2]
theorem hp_le24 {u x : Nat} (h0 : 0 < u) (h : 16 < kN u x) (h2 : kN u x ≤ 24) : hp u x = (hd.getD (kN u x - 16) 0, -1) := by
  unfold hp
  rw [if_neg (by omega)]
  show hk (kN u x) = _
  unfold hk
  rw [if_neg (by omega), if_neg (by omega), if_pos h2]
theorem hp_gt24 {u x : Nat} (h0 : 0 < u) (h : 24 < kN u x) : hp u x = (hd.getD (32 - kN u x) 0, 1) := by
  unfold hp
  rw [if_neg (by omega)]
  show hk (kN u x) = _
  unfold hk
  rw [if_neg (by omega), if_neg (by omega), if_neg (by omega)]
theorem hd_at {j : Nat} (h : j ≤ 8) : (ia hd)[j]? = some (.int .i64 (hd.getD j 0)) := ia_at (by show j < 9; omega)
theorem hp_bnd : ∀ u, u < 8 → ∀ x, x < 8 → 0 ≤ (hp u x).1 ∧ (hp u x).1 ≤ 4903926 ∧ ((hp u x).2 = 1 ∨ (hp u x).2 = -1) := by decide +kernel
set_option maxHeartbeats 4000000 in
theorem half_any (u x : Nat) (hu : u < 8) (hx : x < 8) (w : World) : Calls Tryd.prog 16 #[.int .i64 u, .int .i64 x] w fun e w' => e = .returned (.tuple #[.int .i64 (hp u x).1, .int .i64 (hp u x).2]) ∧ Below w.heap.size w w' := by
  have HZ9 := Lib.hid zero9
  have HS9 := Lib.hid size9
  have HE9 : Hid ((ia nine).size = (ia hd).size) := by show _ = _; rfl
  have HO9 := Lib.hid (one_ia hd)
  have HB1 : Hid (Below w.heap.size w (w.alloc (.cells (ia nine) 37))) := (Below.refl _ w).alloc (Nat.le_refl _) _
  have hm := kN_bnd hu hx
  have hK := kN_int (u := u) (x := x)
  have hk : kN u x < 32 := Nat.mod_lt _ (by omega)
  have hu2 : (u : Int) ≤ 7 := by omega
  have hx2 : (x : Int) ≤ 7 := by omega
  have hu3 : (0 : Int) ≤ u := by omega
  have hx3 : (0 : Int) ≤ x := by omega
  rcases Nat.eq_zero_or_pos u with h0 | h0
  · have HP : Hid (hp u x = (3535533, 1)) := by rw [h0]; exact hp_zero x
    have hub : ((u : Int) == 0) = true := by simp [h0]
    clear hK hm hk
    go_enter Tryd.func16, Tryd.ntmps16
    go_upto_region 2 with (first
      | (with_reducible refine wpList_allocZ _ rfl 37 rfl (ia nine) HZ9.out ?_)
      | ((refine wpList_storeB _ rfl 37 (.tmp 6) (.tmp 8) rfl w.heap.size rfl (ia nine) (Blk.new w (ia nine) 37) (ia hd) (by rfl) HS9.out HE9.out HO9.out ?_)
         intro w2 hb2 hc2 hs2; have B2 := Lib.hid (HB1.out.trans (hc2.below HB1.out.size (fun i e => by omega)))))
    skip
    clear hb2 hc2 hs2
    go_wp2
    go_ret2
    exact ⟨by rw [HP.out]; rfl, B2.out⟩
  have hub : ((u : Int) == 0) = false := by simp; omega
  have l8 := hp_le8 (x := x) h0
  have l16 := hp_le16 (x := x) h0
  have l24 := hp_le24 (x := x) h0
  have g24 := hp_gt24 (x := x) h0
  generalize hp u x = P at *
  generalize kN u x = K at *
  generalize hM : (2 * (x : Int) + 1) * (u : Int) = m at *
  obtain ⟨m1, m2⟩ := hm
  clear h0
  rcases Nat.lt_or_ge 8 K with h8 | h8
  · rcases Nat.lt_or_ge 16 K with h16 | h16
    · rcases Nat.lt_or_ge 24 K with h24 | h24
      · obtain ⟨J, hJ⟩ : ∃ J : Nat, J = 32 - K := ⟨_, rfl⟩
        have HP := Lib.hid (g24 h24)
        rw [← hJ] at HP
        have hcell := hd_at (j := J) (by omega)
        generalize hd.getD J 0 = y at *
        have e1 : 32 - (K : Int) = J := by omega
        have q1 : ¬ (K : Int) ≤ 8 := by omega
        have q2 : ¬ (K : Int) ≤ 16 := by omega
        have q3 : ¬ (K : Int) ≤ 24 := by omega
        have q4 : (0 : Int) ≤ J := by omega
        have q5 : (J : Int) < 9 := by omega
        clear l8 l16 l24 g24 hJ
        go_enter Tryd.func16, Tryd.ntmps16
        go_upto_region 2 with (first
          | (with_reducible refine wpList_allocZ _ rfl 37 rfl (ia nine) HZ9.out ?_)
          | ((refine wpList_storeB _ rfl 37 (.tmp 6) (.tmp 8) rfl w.heap.size rfl (ia nine) (Blk.new w (ia nine) 37) (ia hd) (by rfl) HS9.out HE9.out HO9.out ?_)
             intro w2 hb2 hc2 hs2; have B2 := Lib.hid (HB1.out.trans (hc2.below HB1.out.size (fun i e => by omega)))))
        have e9 := hb2.cell hcell
        clear hb2 hc2 hs2
        go_wp2
        go_ret2
        exact ⟨by rw [HP.out]; rfl, B2.out⟩
      · obtain ⟨J, hJ⟩ : ∃ J : Nat, J = K - 16 := ⟨_, rfl⟩
        have HP := Lib.hid (l24 h16 h24)
        rw [← hJ] at HP
        have hcell := hd_at (j := J) (by omega)
        generalize hd.getD J 0 = y at *
        have e1 : (K : Int) - 16 = J := by omega
        have q1 : ¬ (K : Int) ≤ 8 := by omega
        have q2 : ¬ (K : Int) ≤ 16 := by omega
        have q3 : (K : Int) ≤ 24 := by omega
        have q4 : (0 : Int) ≤ J := by omega
        have q5 : (J : Int) < 9 := by omega
        clear l8 l16 l24 g24 hJ
        go_enter Tryd.func16, Tryd.ntmps16
        go_upto_region 2 with (first
          | (with_reducible refine wpList_allocZ _ rfl 37 rfl (ia nine) HZ9.out ?_)
          | ((refine wpList_storeB _ rfl 37 (.tmp 6) (.tmp 8) rfl w.heap.size rfl (ia nine) (Blk.new w (ia nine) 37) (ia hd) (by rfl) HS9.out HE9.out HO9.out ?_)
             intro w2 hb2 hc2 hs2; have B2 := Lib.hid (HB1.out.trans (hc2.below HB1.out.size (fun i e => by omega)))))
        have e9 := hb2.cell hcell
        clear hb2 hc2 hs2
        go_wp2
        go_ret2
        exact ⟨by rw [HP.out]; rfl, B2.out⟩
    · obtain ⟨J, hJ⟩ : ∃ J : Nat, J = 16 - K := ⟨_, rfl⟩
      have HP := Lib.hid (l16 h8 h16)
      rw [← hJ] at HP
      have hcell := hd_at (j := J) (by omega)
      generalize hd.getD J 0 = y at *
      have e1 : 16 - (K : Int) = J := by omega
      have q1 : ¬ (K : Int) ≤ 8 := by omega
      have q2 : (K : Int) ≤ 16 := by omega
      have q4 : (0 : Int) ≤ J := by omega
      have q5 : (J : Int) < 9 := by omega
      clear l8 l16 l24 g24 hJ
      go_enter Tryd.func16, Tryd.ntmps16
      go_upto_region 2 with (first
        | (with_reducible refine wpList_allocZ _ rfl 37 rfl (ia nine) HZ9.out ?_)
        | ((refine wpList_storeB _ rfl 37 (.tmp 6) (.tmp 8) rfl w.heap.size rfl (ia nine) (Blk.new w (ia nine) 37) (ia hd) (by rfl) HS9.out HE9.out HO9.out ?_)
           intro w2 hb2 hc2 hs2; have B2 := Lib.hid (HB1.out.trans (hc2.below HB1.out.size (fun i e => by omega)))))
      have e9 := hb2.cell hcell
      clear hb2 hc2 hs2
      go_wp2
      go_ret2
      exact ⟨by rw [HP.out]; rfl, B2.out⟩
  · have HP := Lib.hid (l8 h8)
    have hcell := hd_at (j := K) (by omega)
    generalize hd.getD K 0 = y at *
    have q1 : (K : Int) ≤ 8 := by omega
    have q4 : (0 : Int) ≤ K := by omega
    have q5 : (K : Int) < 9 := by omega
    clear l8 l16 l24 g24
    go_enter Tryd.func16, Tryd.ntmps16
    go_upto_region 2 with (first
      | (with_reducible refine wpList_allocZ _ rfl 37 rfl (ia nine) HZ9.out ?_)
      | ((refine wpList_storeB _ rfl 37 (.tmp 6) (.tmp 8) rfl w.heap.size rfl (ia nine) (Blk.new w (ia nine) 37) (ia hd) (by rfl) HS9.out HE9.out HO9.out ?_)
         intro w2 hb2 hc2 hs2; have B2 := Lib.hid (HB1.out.trans (hc2.below HB1.out.size (fun i e => by omega)))))
    have e9 := hb2.cell hcell
    clear hb2 hc2 hs2
    go_wp2
    go_ret2
    exact ⟨by rw [HP.out]; rfl, B2.out⟩
end Go.Proofs.YtlchdelhhnlgbaaDoor
