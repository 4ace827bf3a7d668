/- The examples. -/
import Derived.Test.YtljcibljlpclfaaZRef
namespace Go.Proofs.Ytljcibljlpclfaa
open Go.RowKit Go.Lib
set_option linter.unusedVariables false
set_option maxRecDepth 100000
theorem at_val {x v : Int} (h : atS x = v) (w : World) : Calls Try.prog 7 #[.int .i64 x] w fun e w' => e = .returned (.int .i64 v) ∧ Below w.heap.size w w' := by subst h; exact at_any x w
theorem place_val {x v : Int} (h : placeS x = v) (w : World) : Calls Try.prog 8 #[.int .i64 x] w fun e w' => e = .returned (.int .i64 v) ∧ Below w.heap.size w w' := by subst h; exact place_any x w
theorem last_val {l : List Int} {v : Int} (hl : l.length = 64) (h : lastN (perm za l) 64 = v) (w : World) : Calls Try.prog 16 #[.agg (ia l)] w fun e w' => e = .returned (.int .i64 v) ∧ Below w.heap.size w w' := by subst h; exact last_any l hl w
theorem wpList_open {w : World} {ops : Array Oper} {rest : List Oper} {o : Oper} {a : Act} {Q : Exit → Act → World → Prop} (hw : Region.wanted o (yielded ops a.tmps) = true)
    (h : wpList Try.prog ops Q ({ o with guard := none } :: rest) a w) : wpList Try.prog ops Q (o :: rest) a w := by
  unfold wpList at h ⊢
  rw [if_pos hw]
  rw [if_pos (by simp [Region.wanted])] at h
  exact h
def b16 : List Int := zeros.set 16 1
set_option maxHeartbeats 2000000 in
theorem awake_any (w : World) : Calls Try.prog 9 #[] w fun e w' => e = .returned (.bool true) ∧ Below w.heap.size w w' := by
  have HZ := Lib.hid zeroB
  have HK := Lib.hid (Blk.new w (ia zeros) 26)
  have HB := Lib.hid ((Below.refl w.heap.size w).alloc (Nat.le_refl _) (.cells (ia zeros) 26))
  have HI : Hid ((Try.prog.info? 26).map (·.size) = some (ia b16).size) := sizeB (l := b16) (by decide +kernel)
  have HE : Hid ((ia zeros).size = (ia b16).size) := by show _ = _; decide +kernel
  have HO := Lib.hid (one_ia b16)
  have V0 : Hid (atS 0 = 0) := by show _ = _; decide +kernel
  have V1 : Hid (atS 1 = 1) := by show _ = _; decide +kernel
  have V2 : Hid (atS 2 = 8) := by show _ = _; decide +kernel
  have V3 : Hid (atS 3 = 16) := by show _ = _; decide +kernel
  have V63 : Hid (atS 63 = 63) := by show _ = _; decide +kernel
  have V64 : Hid (atS 64 = -1) := by show _ = _; decide +kernel
  have P8 : Hid (placeS 8 = 2) := by show _ = _; decide +kernel
  have P9 : Hid (placeS 9 = 4) := by show _ = _; decide +kernel
  have P2 : Hid (placeS 2 = 5) := by show _ = _; decide +kernel
  have L1 := Lib.hid (show lastN (perm za b16) 64 = 3 by decide +kernel)
  have L2 := Lib.hid (show lastN (perm za zeros) 64 = -1 by decide +kernel)
  have N1 := Lib.hid (show b16.length = 64 by decide +kernel)
  have N2 := Lib.hid (show zeros.length = 64 by decide +kernel)
  go_enter Try.func9, Try.ntmps9
  go_upto_region 2 with (first
    | (with_reducible refine wpList_allocZ _ rfl 26 rfl (ia zeros) HZ.out ?_)
    | (refine wpList_storeB _ rfl 26 (.tmp 1) (.tmp 2) rfl w.heap.size rfl (ia zeros) HK.out (ia b16) rfl HI.out HE.out HO.out ?_; intro w0 hb0 hc0 hs0))
  have K0 := Lib.hid hb0
  have B0 := Lib.hid (HB.out.trans (hc0.below HB.out.size (fun i e => by omega)))
  clear hb0 hc0 HK HB hs0
  go_wp2_with (first
    | (go_at_call 7; (with_reducible refine (at_val (x := 0) (v := 0) V0.out _).mono ?_); rintro e w1 ⟨rfl, hb1⟩; replace K0 := Lib.hid (K0.out.below hb1); replace B0 := Lib.hid (B0.out.trans (hb1.mono B0.out.size)); clear hb1)
    | (go_at_call 7; (with_reducible refine (at_val (x := 1) (v := 1) V1.out _).mono ?_); rintro e w1 ⟨rfl, hb1⟩; replace K0 := Lib.hid (K0.out.below hb1); replace B0 := Lib.hid (B0.out.trans (hb1.mono B0.out.size)); clear hb1)
    | (go_at_call 7; (with_reducible refine (at_val (x := 2) (v := 8) V2.out _).mono ?_); rintro e w1 ⟨rfl, hb1⟩; replace K0 := Lib.hid (K0.out.below hb1); replace B0 := Lib.hid (B0.out.trans (hb1.mono B0.out.size)); clear hb1)
    | (go_at_call 7; (with_reducible refine (at_val (x := 3) (v := 16) V3.out _).mono ?_); rintro e w1 ⟨rfl, hb1⟩; replace K0 := Lib.hid (K0.out.below hb1); replace B0 := Lib.hid (B0.out.trans (hb1.mono B0.out.size)); clear hb1)
    | (go_at_call 7; (with_reducible refine (at_val (x := 63) (v := 63) V63.out _).mono ?_); rintro e w1 ⟨rfl, hb1⟩; replace K0 := Lib.hid (K0.out.below hb1); replace B0 := Lib.hid (B0.out.trans (hb1.mono B0.out.size)); clear hb1)
    | (go_at_call 7; (with_reducible refine (at_val (x := 64) (v := -1) V64.out _).mono ?_); rintro e w1 ⟨rfl, hb1⟩; replace K0 := Lib.hid (K0.out.below hb1); replace B0 := Lib.hid (B0.out.trans (hb1.mono B0.out.size)); clear hb1)
    | (go_at_call 8; (with_reducible refine (place_val (x := 8) (v := 2) P8.out _).mono ?_); rintro e w1 ⟨rfl, hb1⟩; replace K0 := Lib.hid (K0.out.below hb1); replace B0 := Lib.hid (B0.out.trans (hb1.mono B0.out.size)); clear hb1)
    | (go_at_call 8; (with_reducible refine (place_val (x := 9) (v := 4) P9.out _).mono ?_); rintro e w1 ⟨rfl, hb1⟩; replace K0 := Lib.hid (K0.out.below hb1); replace B0 := Lib.hid (B0.out.trans (hb1.mono B0.out.size)); clear hb1)
    | (go_at_call 8; (with_reducible refine (place_val (x := 2) (v := 5) P2.out _).mono ?_); rintro e w1 ⟨rfl, hb1⟩; replace K0 := Lib.hid (K0.out.below hb1); replace B0 := Lib.hid (B0.out.trans (hb1.mono B0.out.size)); clear hb1)
    | (with_reducible refine wpList_loadB _ rfl 26 (.tmp 1) rfl _ Try.underlying26 rfl w.heap.size rfl (ia b16) K0.out HI.out ?_)
    | (refine wpList_open (by rfl) (wpList_loadB _ rfl 26 (.tmp 1) rfl _ Try.underlying26 rfl w.heap.size rfl (ia b16) K0.out HI.out ?_))
    | (go_at_call 16; (with_reducible refine (last_val N1.out L1.out _).mono ?_); rintro e w1 ⟨rfl, hb1⟩; replace B0 := Lib.hid (B0.out.trans (hb1.mono B0.out.size)); clear hb1)
    | (go_at_call 16; (refine (last_val (l := zeros) N2.out L2.out _).mono ?_); rintro e w1 ⟨rfl, hb1⟩; replace B0 := Lib.hid (B0.out.trans (hb1.mono B0.out.size)); clear hb1))
  go_ret
  exact ⟨rfl, B0.out⟩
end Go.Proofs.Ytljcibljlpclfaa
