/- The examples. -/
import Derived.Test.YtipmbffpokplgaaDoorQL
namespace Go.Proofs.YtipmbffpokplgaaDoor
open Go.RowKit Go.Lib
set_option linter.unusedVariables false
set_option maxRecDepth 100000
def b4 : List Int := [8, -8, 7, 24] ++ List.replicate 60 0
theorem b4_len : b4.length = 64 := by decide +kernel
theorem b4_ok : wiB b4 (-1048576) 1048576 = true := by decide +kernel
theorem cellv {l : List Int} {j : Nat} {v : Int} (hl : l.length = 64) (hj : j < 64) (hv : l.getD j 0 = v) : (ia l)[j]? = some (.int .i64 v) := by rw [ia_at (by omega), hv]
set_option maxHeartbeats 8000000 in
theorem awake_any (w : World) (he : Env w) : Calls Tryd.prog 12 #[] w fun e w' => e = .returned (.bool true) ∧ Below w.heap.size w w' := by
  have HZ := Lib.hid zeroB
  have HSZ := Lib.hid (sizeB zeros_len)
  have HOZ := Lib.hid (one_ia zeros)
  have HBY : Hid (Calls Tryd.prog 8 #[.int .i64 0] w fun e w' => e = .returned (.tuple #[.agg (ia (bsL 0)), .bool true]) ∧ Below w.heap.size w w') := base_yes 0 (by omega) w he
  have HBN := Lib.hid (base_no 2 (.inr (by omega)))
  have HFL := Lib.hid (flat_any 16)
  have HDV := Lib.hid (div_yes b4 (flatL 16) b4_len (flatL_len 16) flat_ok b4_ok)
  have HLB := Lib.hid (bsL_len 0)
  have HLD : Hid ((dvL b4 (flatL 16)).length = 64) := mapB_len _
  have C0 := Lib.hid (cellv (l := bsL 0) (j := 0) (v := 16) (bsL_len 0) (by omega) (by decide +kernel))
  have C8 := Lib.hid (cellv (l := bsL 0) (j := 8) (v := 12) (bsL_len 0) (by omega) (by decide +kernel))
  have C63 := Lib.hid (cellv (l := bsL 0) (j := 63) (v := 99) (bsL_len 0) (by omega) (by decide +kernel))
  have D0 := Lib.hid (cellv (l := dvL b4 (flatL 16)) (j := 0) (v := 1) (mapB_len _) (by omega) (by decide +kernel))
  have D1 := Lib.hid (cellv (l := dvL b4 (flatL 16)) (j := 1) (v := -1) (mapB_len _) (by omega) (by decide +kernel))
  have D2 := Lib.hid (cellv (l := dvL b4 (flatL 16)) (j := 2) (v := 0) (mapB_len _) (by omega) (by decide +kernel))
  have D3 := Lib.hid (cellv (l := dvL b4 (flatL 16)) (j := 3) (v := 2) (mapB_len _) (by omega) (by decide +kernel))
  have S50 := Lib.hid (lscl_any 50 16 (by omega) (by omega) (by decide +kernel))
  have S25 := Lib.hid (lscl_any 25 32 (by omega) (by omega) (by decide +kernel))
  have S100 := Lib.hid (lscl_any 100 1 (by omega) (by omega) (by decide +kernel))
  have S1 := Lib.hid (lscl_any 1 255 (by omega) (by omega) (by decide +kernel))
  clear he
  generalize bsL 0 = r at *
  generalize dvL b4 (flatL 16) = d at *
  generalize flatL 16 = f at *
  have HSR := Lib.hid (sizeB HLB.out)
  have HER : Hid ((ia zeros).size = (ia r).size) := same_size zeros_len HLB.out
  have HOR := Lib.hid (one_ia r)
  have HSD := Lib.hid (sizeB HLD.out)
  have HED : Hid ((ia zeros).size = (ia d).size) := same_size zeros_len HLD.out
  have HOD := Lib.hid (one_ia d)
  go_enter Tryd.func12, Tryd.ntmps12
  go_upto_region 4 with (first
    | (go_at_call 8; (with_reducible refine HBY.out.mono ?_); rintro e w2 ⟨rfl, hb2⟩; have K0 := Lib.hid (Blk.new w2 (ia zeros) 23); have KB := Lib.hid (hb2.alloc hb2.size (.cells (ia zeros) 23)); have hz2 := Lib.hid hb2.size; clear hb2)
    | (with_reducible refine wpList_allocZ _ rfl 23 rfl (ia zeros) HZ.out ?_)
    | ((with_reducible refine wpList_storeB _ rfl 23 (.tmp 1) (.tmp 9) rfl w2.heap.size rfl (ia zeros) K0.out (ia r) rfl HSR.out HER.out HOR.out ?_)
       intro w3 hb3 hc3 hs3; have J0 := Lib.hid hb3; have JB := Lib.hid (KB.out.trans (hc3.below KB.out.size (fun i e => by have := hz2.out; omega))); clear hb3 hc3 hs3)
    | (go_at_call 8; (with_reducible refine (HBN.out _).mono ?_); rintro e w4 ⟨rfl, hb4⟩; have L0 := Lib.hid ((J0.out.below hb4).alloc (.cells (ia zeros) 23)); have L1 := Lib.hid (Blk.new w4 (ia zeros) 23); have hz4 := Lib.hid (Nat.le_trans JB.out.size hb4.size); have hz5 := Lib.hid (Nat.lt_of_lt_of_le J0.out.lt hb4.size); have LB := Lib.hid ((JB.out.trans (hb4.mono JB.out.size)).alloc hz4.out (.cells (ia zeros) 23)); clear hb4)
    | ((with_reducible refine wpList_storeB _ rfl 23 (.tmp 3) (.tmp 13) rfl w4.heap.size rfl (ia zeros) L1.out (ia zeros) rfl HSZ.out rfl HOZ.out ?_)
       intro w5 hb5 hc5 hs5; have M0 := Lib.hid (L0.out.chg hc5 (fun e => by have := hz5.out; omega)); have MB := Lib.hid (LB.out.trans (hc5.below LB.out.size (fun i e => by have := hz4.out; omega))); clear hb5 hc5 hs5)
    | (go_at_call 24; (with_reducible refine (HFL.out _).mono ?_); rintro e w6 ⟨rfl, hb6⟩; have N0 := Lib.hid (M0.out.below hb6); have NB := Lib.hid (MB.out.trans (hb6.mono MB.out.size)); clear hb6)
    | (go_at_call 14; (refine (HDV.out _).mono ?_); rintro e w7 ⟨rfl, hb7⟩; have O0 := Lib.hid ((N0.out.below hb7).alloc (.cells (ia zeros) 23)); have O1 := Lib.hid (Blk.new w7 (ia zeros) 23); have hz7 := Lib.hid (Nat.le_trans NB.out.size hb7.size); have hz8 := Lib.hid (Nat.lt_of_lt_of_le N0.out.lt hb7.size); have OB := Lib.hid ((NB.out.trans (hb7.mono NB.out.size)).alloc hz7.out (.cells (ia zeros) 23)); clear hb7)
    | ((with_reducible refine wpList_storeB _ rfl 23 (.tmp 5) (.tmp 19) rfl w7.heap.size rfl (ia zeros) O1.out (ia d) rfl HSD.out HED.out HOD.out ?_)
       intro w8 hb8 hc8 hs8; have P0 := Lib.hid (O0.out.chg hc8 (fun e => by have := hz8.out; omega)); have P1 := Lib.hid hb8; have PB := Lib.hid (OB.out.trans (hc8.below OB.out.size (fun i e => by have := hz7.out; omega))); clear hb8 hc8 hs8))
  have e0 := P0.out.cell C0.out
  have e8 := P0.out.cell C8.out
  have e63 := P0.out.cell C63.out
  clear HZ HSZ HOZ HBN HFL HDV HLB HLD HSR HER HOR HSD HED HOD HBY K0 KB hz2 J0 JB L0 L1 hz4 hz5 LB M0 MB N0 NB O0 O1 hz7 hz8 OB
  go_wp2_with (first
    | (go_at_call 25; (with_reducible refine (S50.out _).mono ?_); rintro e wA ⟨rfl, hbA⟩; have PA := Lib.hid (P1.out.below hbA); have BA := Lib.hid (PB.out.trans (hbA.mono PB.out.size)); clear hbA e0 e8 e63)
    | (go_at_call 25; (with_reducible refine (S25.out _).mono ?_); rintro e wB ⟨rfl, hbB⟩; have PB1 := Lib.hid (PA.out.below hbB); have BB := Lib.hid (BA.out.trans (hbB.mono BA.out.size)); clear hbB)
    | (go_at_call 25; (with_reducible refine (S100.out _).mono ?_); rintro e wC ⟨rfl, hbC⟩; have PC := Lib.hid (PB1.out.below hbC); have BC := Lib.hid (BB.out.trans (hbC.mono BB.out.size)); clear hbC)
    | (go_at_call 25; (with_reducible refine (S1.out _).mono ?_); rintro e wD ⟨rfl, hbD⟩; have PD := Lib.hid (PC.out.below hbD); have BD := Lib.hid (BC.out.trans (hbD.mono BC.out.size)); have d0 := PD.out.cell D0.out; have d1 := PD.out.cell D1.out; have d2 := PD.out.cell D2.out; have d3 := PD.out.cell D3.out; clear hbD))
  go_ret
  exact ⟨rfl, BD.out⟩
end Go.Proofs.YtipmbffpokplgaaDoor
