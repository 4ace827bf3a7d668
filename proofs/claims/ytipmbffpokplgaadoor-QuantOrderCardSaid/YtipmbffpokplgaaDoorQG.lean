/- Contracts: the base tables (Base), the law's own blocks (flat, scaled). -/
import Derived.Test.YtipmbffpokplgaaDoorQF
namespace Go.Proofs.YtipmbffpokplgaaDoor
open Go.RowKit Go.Lib
set_option linter.unusedVariables false
set_option maxRecDepth 100000
/-- The base tables, as the variable lists them; in the order of places. -/
def bz (k : Nat) : List Int := if k = 0 then [16, 11, 12, 14, 12, 10, 16, 14, 13, 14, 18, 17, 16, 19, 24, 40, 26, 24, 22, 22, 24, 49, 35, 37, 29, 40, 58, 51, 61, 60, 57, 51, 56, 55, 64, 72, 92, 78, 64, 68, 87, 69, 55, 56, 80, 109, 81, 87, 95, 98, 103, 104, 103, 62, 77, 113, 121, 112, 100, 120, 92, 101, 103, 99] else [17, 18, 18, 24, 21, 24, 47, 26, 26, 47, 99, 66, 56, 66] ++ List.replicate 50 99
theorem bz_len (k : Nat) : (bz k).length = 64 := by
  unfold bz
  split <;> rfl
def bsL (k : Nat) : List Int := perm zq (bz k)
theorem bsL_len (k : Nat) : (bsL k).length = 64 := perm_len _ _
/-- What the variable holds. -/
def Env (w : World) : Prop := Blk w 0 (ia (bz 0 ++ bz 1))
theorem Env.below {w w' : World} (h : Env w) (hb : Below w.heap.size w w') : Env w' := Blk.below h hb
theorem env_cell {w : World} (h : Env w) {k : Nat} (hk : k < 2) (j : Nat) (v : Value) (hv : (ia (bz k))[j]? = some v) : w.cell? ⟨0, k * 64 + j, none⟩ = some v := by
  have hj : j < 64 := by
    rcases Nat.lt_or_ge j 64 with h | h
    · exact h
    · rw [Array.getElem?_eq_none (by rw [ia_size, bz_len]; exact h)] at hv; cases hv
  rw [ia_at (by rw [bz_len]; exact hj)] at hv
  rw [Blk.cell h (ia_at (l := bz 0 ++ bz 1) (j := k * 64 + j) (by rw [List.length_append, bz_len, bz_len]; omega)), ← hv]
  congr 2
  rw [List.getD_eq_getElem?_getD, List.getD_eq_getElem?_getD]
  match k, hk with
  | 0, _ => rw [List.getElem?_append_left (by rw [bz_len]; omega)]; simp
  | 1, _ => rw [List.getElem?_append_right (by rw [bz_len]; omega), bz_len]; simp
set_option maxHeartbeats 2000000 in
theorem base_yes (k : Nat) (hk : k < 2) (w : World) (he : Env w) : Calls Tryd.prog 8 #[.int .i64 k] w fun e w' => e = .returned (.tuple #[.agg (ia (bsL k)), .bool true]) ∧ Below w.heap.size w w' := by
  have HZ := Lib.hid zeroB
  have K0 := Lib.hid (Blk.new w (ia zeros) 23)
  have KB := Lib.hid ((Below.refl w.heap.size w).alloc (Nat.le_refl _) (.cells (ia zeros) 23))
  have HC := Lib.hid (env_cell (he.below ((Below.refl w.heap.size w).alloc (Nat.le_refl _) (.cells (ia zeros) 23))) hk)
  have HF := Lib.hid (from_any (bz k) (bz_len k))
  have HSB := Lib.hid (sizeB (bz_len k))
  have HSR := Lib.hid (sizeB (bsL_len k))
  have HE : Hid ((ia zeros).size = (ia (bsL k)).size) := same_size zeros_len (bsL_len k)
  have HO := Lib.hid (one_ia (bsL k))
  have HP : Hid (perm zq (bz k) = bsL k) := rfl
  rw [HP.out] at HF
  clear HP he
  generalize bsL k = r at *
  generalize bz k = b at *
  obtain ⟨w1, hw1⟩ : ∃ w1, w1 = w.alloc (.cells (ia zeros) 23) := ⟨_, rfl⟩
  rw [← hw1] at K0 KB HC
  have hk1 : (k : Int) < 2 := by omega
  have hk2 : ¬ (2 : Int) ≤ k := by omega
  have hk3 : ¬ (k : Int) < 0 := by omega
  go_enter Tryd.func8, Tryd.ntmps8
  go_wp2_with (first
    | ((with_reducible refine wpList_allocZ _ rfl 23 rfl (ia zeros) HZ.out ?_))
    | (rw [← hw1]; (refine wpList_loadP _ rfl 23 (.tmp 12) rfl _ Tryd.underlying23 rfl 0 (k * 64) (by rfl) (ia b) HC.out HSB.out ?_))
    | (go_at_call 18; (with_reducible refine (HF.out _).mono ?_); rintro e w2 ⟨rfl, hb2⟩; replace hb2 : Below w1.heap.size w1 w2 := (by rw [hw1]; simpa using hb2); have J0 := Lib.hid (K0.out.below hb2); have JB := Lib.hid (KB.out.trans (hb2.mono KB.out.size)); clear hb2)
    | ((with_reducible refine wpList_storeB _ rfl 23 (.tmp 2) (.tmp 14) rfl w.heap.size rfl (ia zeros) J0.out (ia r) rfl HSR.out HE.out HO.out ?_)
       intro w5 hb5 hc5 hs5))
  refine bodyPost_ret (results_cs rfl _ _ _ Tryd.underlying23 rfl w.heap.size (ia r) (.bool true) rfl rfl (fun j v hv => hb5.cell hv) HSR.out) rfl ?_
  exact ⟨rfl, JB.out.trans (hc5.below JB.out.size (fun i e => by omega))⟩
end Go.Proofs.YtipmbffpokplgaaDoor
