/- Contracts: Forward, Inverse; what they leave, in the plain sums (fwL, ivL). -/
import Derived.Test.YtlchdelhhnlgbaaDoorCJ
namespace Go.Proofs.YtlchdelhhnlgbaaDoor
open Go.RowKit Go.Lib
set_option linter.unusedVariables false
set_option maxRecDepth 100000
theorem coref (b : List Int) (hb : b.length = 64) (R : List Int) (hR : R.length = 64) (ev : Int) (w : World) (HC : ∀ W, Below w.heap.size w W → Calls Tryd.prog 19 #[.agg (ia b), .func (Fn.func 7) #[] #[]] W fun e w' => e = .returned (.tuple #[.agg (ia R), .int .i64 ev]) ∧ Below W.heap.size W w') :
    Calls Tryd.prog 10 #[.agg (ia b)] w fun e w' => e = .returned (.tuple #[.agg (ia R), .int .i64 ev]) ∧ Below w.heap.size w w' := by
  obtain ⟨w1, hw1, hb0, hb1, hB⟩ := two_blk w (ia b) (ia zeros) 26 26
  have HZ := Lib.hid zeroB
  have K0 := Lib.hid hb0
  have K1 := Lib.hid hb1
  have KB := Lib.hid hB
  have HK := Lib.hid (HC w1 hB)
  have HSB := Lib.hid (sizeB hb)
  have HSR := Lib.hid (sizeB hR)
  have HER : Hid ((ia zeros).size = (ia R).size) := same_size zeros_len hR
  have HOR := Lib.hid (one_ia R)
  clear hb0 hb1 hB hb hR HC
  go_enter Tryd.func10, Tryd.ntmps10
  go_wp2_with (first
    | (with_reducible refine wpList_allocZ _ rfl 26 rfl (ia zeros) HZ.out ?_)
    | (rw [← hw1]; (with_reducible refine wpList_loadB _ rfl 26 (.tmp 1) rfl _ Tryd.underlying26 rfl w.heap.size rfl (ia b) K0.out HSB.out ?_))
    | (go_at_call 19; rw [← hw1]; (with_reducible refine HK.out.mono ?_); rintro e w2 ⟨rfl, hb2⟩; have J1 := Lib.hid (K1.out.below hb2); have JB := Lib.hid (KB.out.trans (hb2.mono KB.out.size)); clear hb2)
    | ((refine wpList_storeB _ rfl 26 (.tmp 2) (.tmp 6) rfl (w.heap.size + 1) rfl (ia zeros) J1.out (ia R) (by rfl) HSR.out HER.out HOR.out ?_)
       intro w6 hb6 hc6 hs6))
  refine bodyPost_ret (results_cs rfl _ _ _ Tryd.underlying26 rfl (w.heap.size + 1) (ia R) (.int .i64 ev) rfl rfl (fun j v hv => hb6.cell hv) HSR.out) rfl ?_
  exact ⟨rfl, JB.out.trans (hc6.below JB.out.size (fun i e => by omega))⟩
theorem Forward_yes (b : List Int) (hb : b.length = 64) (h1 : wiB b (-32768) 32768 = true) (w : World) (he : Env w) :
    Calls Tryd.prog 10 #[.agg (ia b)] w fun e w' => e = .returned (.tuple #[.agg (ia (trL b Kf)), .int .i64 0]) ∧ Below w.heap.size w w' :=
  coref b hb _ (trL_len _ _) 0 w fun W hW => trff_yes b hb h1 W (he.below hW)
theorem Forward_no (b : List Int) (hb : b.length = 64) (h1 : wiB b (-32768) 32768 = false) (w : World) :
    Calls Tryd.prog 10 #[.agg (ia b)] w fun e w' => e = .returned (.tuple #[.agg (ia zeros), .int .i64 1]) ∧ Below w.heap.size w w' :=
  coref b hb _ zeros_len 1 w fun W hW => trff_no b hb h1 W
theorem corei (b : List Int) (hb : b.length = 64) (R : List Int) (hR : R.length = 64) (ev : Int) (w : World) (HC : ∀ W, Below w.heap.size w W → Calls Tryd.prog 19 #[.agg (ia b), .func (Fn.func 20) #[] #[]] W fun e w' => e = .returned (.tuple #[.agg (ia R), .int .i64 ev]) ∧ Below W.heap.size W w') :
    Calls Tryd.prog 11 #[.agg (ia b)] w fun e w' => e = .returned (.tuple #[.agg (ia R), .int .i64 ev]) ∧ Below w.heap.size w w' := by
  obtain ⟨w1, hw1, hb0, hb1, hB⟩ := two_blk w (ia b) (ia zeros) 26 26
  have HZ := Lib.hid zeroB
  have K0 := Lib.hid hb0
  have K1 := Lib.hid hb1
  have KB := Lib.hid hB
  have HK := Lib.hid (HC w1 hB)
  have HSB := Lib.hid (sizeB hb)
  have HSR := Lib.hid (sizeB hR)
  have HER : Hid ((ia zeros).size = (ia R).size) := same_size zeros_len hR
  have HOR := Lib.hid (one_ia R)
  clear hb0 hb1 hB hb hR HC
  go_enter Tryd.func11, Tryd.ntmps11
  go_wp2_with (first
    | (with_reducible refine wpList_allocZ _ rfl 26 rfl (ia zeros) HZ.out ?_)
    | (rw [← hw1]; (with_reducible refine wpList_loadB _ rfl 26 (.tmp 1) rfl _ Tryd.underlying26 rfl w.heap.size rfl (ia b) K0.out HSB.out ?_))
    | (go_at_call 19; rw [← hw1]; (with_reducible refine HK.out.mono ?_); rintro e w2 ⟨rfl, hb2⟩; have J1 := Lib.hid (K1.out.below hb2); have JB := Lib.hid (KB.out.trans (hb2.mono KB.out.size)); clear hb2)
    | ((refine wpList_storeB _ rfl 26 (.tmp 2) (.tmp 6) rfl (w.heap.size + 1) rfl (ia zeros) J1.out (ia R) (by rfl) HSR.out HER.out HOR.out ?_)
       intro w6 hb6 hc6 hs6))
  refine bodyPost_ret (results_cs rfl _ _ _ Tryd.underlying26 rfl (w.heap.size + 1) (ia R) (.int .i64 ev) rfl rfl (fun j v hv => hb6.cell hv) HSR.out) rfl ?_
  exact ⟨rfl, JB.out.trans (hc6.below JB.out.size (fun i e => by omega))⟩
theorem Inverse_yes (b : List Int) (hb : b.length = 64) (h1 : wiB b (-32768) 32768 = true) (w : World) (he : Env w) :
    Calls Tryd.prog 11 #[.agg (ia b)] w fun e w' => e = .returned (.tuple #[.agg (ia (trL b Ki)), .int .i64 0]) ∧ Below w.heap.size w w' :=
  corei b hb _ (trL_len _ _) 0 w fun W hW => trfi_yes b hb h1 W (he.below hW)
theorem Inverse_no (b : List Int) (hb : b.length = 64) (h1 : wiB b (-32768) 32768 = false) (w : World) :
    Calls Tryd.prog 11 #[.agg (ia b)] w fun e w' => e = .returned (.tuple #[.agg (ia zeros), .int .i64 1]) ∧ Below w.heap.size w w' :=
  corei b hb _ zeros_len 1 w fun W hW => trfi_no b hb h1 W
/-- The transforms in plain sums. -/
def bf (b : List Int) (p : Nat) : Int := b.getD p 0
def fwL (b : List Int) : List Int := mapB fun q => rd (fS (bf b) q)
def ivL (b : List Int) : List Int := mapB fun p => rd (iS (bf b) p)
theorem fwL_len (b : List Int) : (fwL b).length = 64 := mapB_len _
theorem ivL_len (b : List Int) : (ivL b).length = 64 := mapB_len _
theorem kff_at {v y : Nat} (hv : v < 8) (hy : y < 8) : Kf.getD (8 * v + y) 0 = fc v y := by
  unfold Kf
  rw [mapB_at _ (by omega)]
  unfold kff
  rw [show (8 * v + y) / 8 = v by omega, show (8 * v + y) % 8 = y by omega, fcI_nat hv hy]
theorem kfi_at {v y : Nat} (hv : v < 8) (hy : y < 8) : Ki.getD (8 * v + y) 0 = fc y v := by
  unfold Ki
  rw [mapB_at _ (by omega)]
  unfold kfi
  rw [show (8 * v + y) / 8 = v by omega, show (8 * v + y) % 8 = y by omega, fcI_nat hy hv]
theorem tn_at (b M : List Int) {r t : Nat} (hr : r < 8) (ht : t < 8) : (tnL b M).getD (8 * t + r) 0 = sm (fun x => b.getD (8 * r + x) 0 * M.getD (8 * t + x) 0) 8 := by
  unfold tnL
  rw [mapB_at _ (by omega)]
  unfold tnF
  rw [show (8 * t + r) / 8 = t by omega, show (8 * t + r) % 8 = r by omega]
theorem trL_at (b M : List Int) {v u : Nat} (hv : v < 8) (hu : u < 8) : (tnL (tnL b M) M).getD (8 * v + u) 0 = sm (fun y => sm (fun x => b.getD (8 * y + x) 0 * M.getD (8 * u + x) 0 * M.getD (8 * v + y) 0) 8) 8 := by
  rw [tn_at _ _ hu hv]
  refine sm_congr 8 fun y hy => ?_
  rw [tn_at _ _ hy hu, ← sm_mulr]
theorem fw_is (b : List Int) : trL b Kf = fwL b := by
  unfold trL fwL mapB
  refine map64_ext fun q hq => ?_
  obtain ⟨v, u, hv, hu, rfl⟩ : ∃ v u, v < 8 ∧ u < 8 ∧ q = 8 * v + u := ⟨q / 8, q % 8, by omega, by omega, by omega⟩
  rw [trL_at _ _ hv hu, fS_rows _ _ _ hu]
  congr 1
  refine sm_congr 8 fun y hy => sm_congr 8 fun x hx => ?_
  rw [kff_at hu hx, kff_at hv hy]; rfl
theorem iv_is (b : List Int) : trL b Ki = ivL b := by
  unfold trL ivL mapB
  refine map64_ext fun q hq => ?_
  obtain ⟨v, u, hv, hu, rfl⟩ : ∃ v u, v < 8 ∧ u < 8 ∧ q = 8 * v + u := ⟨q / 8, q % 8, by omega, by omega, by omega⟩
  rw [trL_at _ _ hv hu, iS_rows _ _ _ hu]
  congr 1
  refine sm_congr 8 fun y hy => sm_congr 8 fun x hx => ?_
  rw [kfi_at hu hx, kfi_at hv hy]; rfl
end Go.Proofs.YtlchdelhhnlgbaaDoor
