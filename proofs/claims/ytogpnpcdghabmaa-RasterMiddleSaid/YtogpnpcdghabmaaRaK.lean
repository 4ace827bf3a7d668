/- Box, Pad, Cut: the errors (written by tools/gen_raJ.py). -/
import Derived.Test.YtogpnpcdghabmaaRaJ
import Derived.StillTailTactics
import Derived.Deep.DeepCutAuto
namespace Go.Proofs.Ytogpnpcdghabmaa
open Go.RowKit Go.Lib
set_option linter.unusedVariables false
set_option maxRecDepth 100000
set_option maxHeartbeats 2000000 in
theorem box_no (W H : Int) (A : Option Addr) (n c : Nat) (x y : Int) (w : World) (hno : (may9 W H n && ((sd x && sd y) && wi9 x y W H)) = false) :
    Calls Try.prog 16 #[ra W H (.slice A n c), .int .i64 x, .int .i64 y] w fun e w' => e = .returned (.tuple #[.agg zR, .int .i64 1]) ∧ Below w.heap.size w w' := by
  have HZ := Lib.hid zeroR
  have HSZ := Lib.hid sizeZ
  have HOZ := Lib.hid one_zR
  have HM := Lib.hid (fun W' => may_any W H A n c W')
  have HA := Lib.hid (fun W' => sides2 x y W')
  have HI : Hid (∀ W', Calls Try.prog 27 #[.int .i64 x, .int .i64 y, .int .i64 W, .int .i64 H] W' fun e w' => e = .returned (.bool (wi9 x y W H)) ∧ W' = w') := fun W' => isWithin_any x y W H W'
  have K0 := Lib.hid (((Kc.refl w).new #[.int .i64 W, .int .i64 H, .slice A n c] 24 w.heap.size rfl).new zR 24 (w.heap.size + 1) (by simp))
  unfold ra at *
  cases hm : may9 W H n with
  | false =>
    rw [hm] at HM
    clear hno HA HI
    go_enter Try.func16, Try.ntmps16
    go_wp2_with (first
      | (with_reducible refine wpList_allocZ _ rfl 24 rfl zR HZ.out ?_))
    try simp only [World.size_alloc]
    (with_reducible refine (HM.out _).mono ?_); rintro e w1 ⟨rfl, h1⟩
    have KX := Lib.hid (K0.out.call h1)
    clear K0 h1
    go_upto_region 2 with fail
    go_wp2_with (first
      | ((refine wpList_storeB _ rfl 24 (.tmp 6) (.tmp 28) rfl (w.heap.size + 1) rfl zR (KX.out.get 1 rfl) zR rfl HSZ.out rfl HOZ.out ?_)
         intro w4 hb4 hc4 hs4; have B4 := Lib.hid (KX.out.be.trans (hc4.below KX.out.be.size (fun i e => by omega)))))
    refine bodyPost_ret (results_cell_tmp rfl _ _ _ Try.underlying24 rfl (w.heap.size + 1) zR _ rfl rfl (fun j v hv => hb4.cell hv) HSZ.out) rfl ?_
    exact ⟨rfl, B4.out⟩
  | true =>
    rw [hm] at HM
    rw [hm, Bool.true_and] at hno
    cases hs : (sd x && sd y) with
    | false =>
      rw [hs] at HA
      clear hno HI
      go_enter Try.func16, Try.ntmps16
      go_wp2_with (first
        | (with_reducible refine wpList_allocZ _ rfl 24 rfl zR HZ.out ?_))
      try simp only [World.size_alloc]
      (with_reducible refine (HM.out _).mono ?_); rintro e w1 ⟨rfl, h1⟩
      have K1 := Lib.hid (K0.out.call h1)
      clear K0 h1
      go_wp2_with fail
      (with_reducible refine (HA.out _).mono ?_); rintro e w2 ⟨rfl, rfl⟩
      have KX := Lib.hid (K1.out.any (.cells #[.int .i64 x, .int .i64 y] 3))
      clear K1
      generalize w1.alloc (.cells #[.int .i64 x, .int .i64 y] 3) = w3 at *
      go_upto_region 2 with fail
      go_wp2_with (first
        | ((refine wpList_storeB _ rfl 24 (.tmp 6) (.tmp 28) rfl (w.heap.size + 1) rfl zR (KX.out.get 1 rfl) zR rfl HSZ.out rfl HOZ.out ?_)
           intro w4 hb4 hc4 hs4; have B4 := Lib.hid (KX.out.be.trans (hc4.below KX.out.be.size (fun i e => by omega)))))
      refine bodyPost_ret (results_cell_tmp rfl _ _ _ Try.underlying24 rfl (w.heap.size + 1) zR _ rfl rfl (fun j v hv => hb4.cell hv) HSZ.out) rfl ?_
      exact ⟨rfl, B4.out⟩
    | true =>
      rw [hs] at HA
      rw [hs, Bool.true_and] at hno
      rw [hno] at HI
      clear hno
      go_enter Try.func16, Try.ntmps16
      go_wp2_with (first
        | (with_reducible refine wpList_allocZ _ rfl 24 rfl zR HZ.out ?_))
      try simp only [World.size_alloc]
      (with_reducible refine (HM.out _).mono ?_); rintro e w1 ⟨rfl, h1⟩
      have K1 := Lib.hid (K0.out.call h1)
      clear K0 h1
      go_wp2_with fail
      (with_reducible refine (HA.out _).mono ?_); rintro e w2 ⟨rfl, rfl⟩
      have KX := Lib.hid (K1.out.any (.cells #[.int .i64 x, .int .i64 y] 3))
      have e0 := KX.out.cell 0 0 rfl rfl
      have e1 := KX.out.cell 0 1 rfl rfl
      clear K1
      generalize w1.alloc (.cells #[.int .i64 x, .int .i64 y] 3) = w3 at *
      go_wp2_with fail
      (with_reducible refine (HI.out _).mono ?_); rintro e w2 ⟨rfl, rfl⟩
      go_upto_region 2 with fail
      go_wp2_with (first
        | ((refine wpList_storeB _ rfl 24 (.tmp 6) (.tmp 28) rfl (w.heap.size + 1) rfl zR (KX.out.get 1 rfl) zR rfl HSZ.out rfl HOZ.out ?_)
           intro w4 hb4 hc4 hs4; have B4 := Lib.hid (KX.out.be.trans (hc4.below KX.out.be.size (fun i e => by omega)))))
      refine bodyPost_ret (results_cell_tmp rfl _ _ _ Try.underlying24 rfl (w.heap.size + 1) zR _ rfl rfl (fun j v hv => hb4.cell hv) HSZ.out) rfl ?_
      exact ⟨rfl, B4.out⟩
set_option maxHeartbeats 2000000 in
theorem pad_no (W H : Int) (A : Option Addr) (n c : Nat) (x y : Int) (w : World) (hno : (may9 W H n && ((sd x && sd y) && wi9 W H x y)) = false) :
    Calls Try.prog 17 #[ra W H (.slice A n c), .int .i64 x, .int .i64 y] w fun e w' => e = .returned (.tuple #[.agg zR, .int .i64 1]) ∧ Below w.heap.size w w' := by
  have HZ := Lib.hid zeroR
  have HSZ := Lib.hid sizeZ
  have HOZ := Lib.hid one_zR
  have HM := Lib.hid (fun W' => may_any W H A n c W')
  have HA := Lib.hid (fun W' => sides2 x y W')
  have HI : Hid (∀ W', Calls Try.prog 27 #[.int .i64 W, .int .i64 H, .int .i64 x, .int .i64 y] W' fun e w' => e = .returned (.bool (wi9 W H x y)) ∧ W' = w') := fun W' => isWithin_any W H x y W'
  have K0 := Lib.hid (((Kc.refl w).new #[.int .i64 W, .int .i64 H, .slice A n c] 24 w.heap.size rfl).new zR 24 (w.heap.size + 1) (by simp))
  unfold ra at *
  cases hm : may9 W H n with
  | false =>
    rw [hm] at HM
    clear hno HA HI
    go_enter Try.func17, Try.ntmps17
    go_wp2_with (first
      | (with_reducible refine wpList_allocZ _ rfl 24 rfl zR HZ.out ?_))
    try simp only [World.size_alloc]
    (with_reducible refine (HM.out _).mono ?_); rintro e w1 ⟨rfl, h1⟩
    have KX := Lib.hid (K0.out.call h1)
    clear K0 h1
    go_upto_region 2 with fail
    go_wp2_with (first
      | ((refine wpList_storeB _ rfl 24 (.tmp 6) (.tmp 29) rfl (w.heap.size + 1) rfl zR (KX.out.get 1 rfl) zR rfl HSZ.out rfl HOZ.out ?_)
         intro w4 hb4 hc4 hs4; have B4 := Lib.hid (KX.out.be.trans (hc4.below KX.out.be.size (fun i e => by omega)))))
    refine bodyPost_ret (results_cell_tmp rfl _ _ _ Try.underlying24 rfl (w.heap.size + 1) zR _ rfl rfl (fun j v hv => hb4.cell hv) HSZ.out) rfl ?_
    exact ⟨rfl, B4.out⟩
  | true =>
    rw [hm] at HM
    rw [hm, Bool.true_and] at hno
    cases hs : (sd x && sd y) with
    | false =>
      rw [hs] at HA
      clear hno HI
      go_enter Try.func17, Try.ntmps17
      go_wp2_with (first
        | (with_reducible refine wpList_allocZ _ rfl 24 rfl zR HZ.out ?_))
      try simp only [World.size_alloc]
      (with_reducible refine (HM.out _).mono ?_); rintro e w1 ⟨rfl, h1⟩
      have K1 := Lib.hid (K0.out.call h1)
      clear K0 h1
      go_wp2_with fail
      (with_reducible refine (HA.out _).mono ?_); rintro e w2 ⟨rfl, rfl⟩
      have KX := Lib.hid (K1.out.any (.cells #[.int .i64 x, .int .i64 y] 3))
      clear K1
      generalize w1.alloc (.cells #[.int .i64 x, .int .i64 y] 3) = w3 at *
      go_upto_region 2 with fail
      go_wp2_with (first
        | ((refine wpList_storeB _ rfl 24 (.tmp 6) (.tmp 29) rfl (w.heap.size + 1) rfl zR (KX.out.get 1 rfl) zR rfl HSZ.out rfl HOZ.out ?_)
           intro w4 hb4 hc4 hs4; have B4 := Lib.hid (KX.out.be.trans (hc4.below KX.out.be.size (fun i e => by omega)))))
      refine bodyPost_ret (results_cell_tmp rfl _ _ _ Try.underlying24 rfl (w.heap.size + 1) zR _ rfl rfl (fun j v hv => hb4.cell hv) HSZ.out) rfl ?_
      exact ⟨rfl, B4.out⟩
    | true =>
      rw [hs] at HA
      rw [hs, Bool.true_and] at hno
      rw [hno] at HI
      clear hno
      go_enter Try.func17, Try.ntmps17
      go_wp2_with (first
        | (with_reducible refine wpList_allocZ _ rfl 24 rfl zR HZ.out ?_))
      try simp only [World.size_alloc]
      (with_reducible refine (HM.out _).mono ?_); rintro e w1 ⟨rfl, h1⟩
      have K1 := Lib.hid (K0.out.call h1)
      clear K0 h1
      go_wp2_with fail
      (with_reducible refine (HA.out _).mono ?_); rintro e w2 ⟨rfl, rfl⟩
      have KX := Lib.hid (K1.out.any (.cells #[.int .i64 x, .int .i64 y] 3))
      have e0 := KX.out.cell 0 0 rfl rfl
      have e1 := KX.out.cell 0 1 rfl rfl
      clear K1
      generalize w1.alloc (.cells #[.int .i64 x, .int .i64 y] 3) = w3 at *
      go_wp2_with fail
      (with_reducible refine (HI.out _).mono ?_); rintro e w2 ⟨rfl, rfl⟩
      go_upto_region 2 with fail
      go_wp2_with (first
        | ((refine wpList_storeB _ rfl 24 (.tmp 6) (.tmp 29) rfl (w.heap.size + 1) rfl zR (KX.out.get 1 rfl) zR rfl HSZ.out rfl HOZ.out ?_)
           intro w4 hb4 hc4 hs4; have B4 := Lib.hid (KX.out.be.trans (hc4.below KX.out.be.size (fun i e => by omega)))))
      refine bodyPost_ret (results_cell_tmp rfl _ _ _ Try.underlying24 rfl (w.heap.size + 1) zR _ rfl rfl (fun j v hv => hb4.cell hv) HSZ.out) rfl ?_
      exact ⟨rfl, B4.out⟩
set_option maxHeartbeats 2000000 in
theorem cut_no (W H : Int) (A : Option Addr) (n c : Nat) (x y : Int) (w : World) (hno : (may9 W H n && ((sd x && sd y) && wi9 x y W H)) = false) :
    Calls Try.prog 18 #[ra W H (.slice A n c), .int .i64 x, .int .i64 y] w fun e w' => e = .returned (.tuple #[.agg zR, .int .i64 1]) ∧ Below w.heap.size w w' := by
  have HZ := Lib.hid zeroR
  have HSZ := Lib.hid sizeZ
  have HOZ := Lib.hid one_zR
  have HM := Lib.hid (fun W' => may_any W H A n c W')
  have HA := Lib.hid (fun W' => sides2 x y W')
  have HI : Hid (∀ W', Calls Try.prog 27 #[.int .i64 x, .int .i64 y, .int .i64 W, .int .i64 H] W' fun e w' => e = .returned (.bool (wi9 x y W H)) ∧ W' = w') := fun W' => isWithin_any x y W H W'
  have K0 := Lib.hid (((Kc.refl w).new #[.int .i64 W, .int .i64 H, .slice A n c] 24 w.heap.size rfl).new zR 24 (w.heap.size + 1) (by simp))
  unfold ra at *
  cases hm : may9 W H n with
  | false =>
    rw [hm] at HM
    clear hno HA HI
    go_enter Try.func18, Try.ntmps18
    go_wp2_with (first
      | (with_reducible refine wpList_allocZ _ rfl 24 rfl zR HZ.out ?_))
    try simp only [World.size_alloc]
    (with_reducible refine (HM.out _).mono ?_); rintro e w1 ⟨rfl, h1⟩
    have KX := Lib.hid (K0.out.call h1)
    clear K0 h1
    go_upto_region 2 with fail
    go_wp2_with (first
      | ((refine wpList_storeB _ rfl 24 (.tmp 6) (.tmp 28) rfl (w.heap.size + 1) rfl zR (KX.out.get 1 rfl) zR rfl HSZ.out rfl HOZ.out ?_)
         intro w4 hb4 hc4 hs4; have B4 := Lib.hid (KX.out.be.trans (hc4.below KX.out.be.size (fun i e => by omega)))))
    refine bodyPost_ret (results_cell_tmp rfl _ _ _ Try.underlying24 rfl (w.heap.size + 1) zR _ rfl rfl (fun j v hv => hb4.cell hv) HSZ.out) rfl ?_
    exact ⟨rfl, B4.out⟩
  | true =>
    rw [hm] at HM
    rw [hm, Bool.true_and] at hno
    cases hs : (sd x && sd y) with
    | false =>
      rw [hs] at HA
      clear hno HI
      go_enter Try.func18, Try.ntmps18
      go_wp2_with (first
        | (with_reducible refine wpList_allocZ _ rfl 24 rfl zR HZ.out ?_))
      try simp only [World.size_alloc]
      (with_reducible refine (HM.out _).mono ?_); rintro e w1 ⟨rfl, h1⟩
      have K1 := Lib.hid (K0.out.call h1)
      clear K0 h1
      go_wp2_with fail
      (with_reducible refine (HA.out _).mono ?_); rintro e w2 ⟨rfl, rfl⟩
      have KX := Lib.hid (K1.out.any (.cells #[.int .i64 x, .int .i64 y] 3))
      clear K1
      generalize w1.alloc (.cells #[.int .i64 x, .int .i64 y] 3) = w3 at *
      go_upto_region 2 with fail
      go_wp2_with (first
        | ((refine wpList_storeB _ rfl 24 (.tmp 6) (.tmp 28) rfl (w.heap.size + 1) rfl zR (KX.out.get 1 rfl) zR rfl HSZ.out rfl HOZ.out ?_)
           intro w4 hb4 hc4 hs4; have B4 := Lib.hid (KX.out.be.trans (hc4.below KX.out.be.size (fun i e => by omega)))))
      refine bodyPost_ret (results_cell_tmp rfl _ _ _ Try.underlying24 rfl (w.heap.size + 1) zR _ rfl rfl (fun j v hv => hb4.cell hv) HSZ.out) rfl ?_
      exact ⟨rfl, B4.out⟩
    | true =>
      rw [hs] at HA
      rw [hs, Bool.true_and] at hno
      rw [hno] at HI
      clear hno
      go_enter Try.func18, Try.ntmps18
      go_wp2_with (first
        | (with_reducible refine wpList_allocZ _ rfl 24 rfl zR HZ.out ?_))
      try simp only [World.size_alloc]
      (with_reducible refine (HM.out _).mono ?_); rintro e w1 ⟨rfl, h1⟩
      have K1 := Lib.hid (K0.out.call h1)
      clear K0 h1
      go_wp2_with fail
      (with_reducible refine (HA.out _).mono ?_); rintro e w2 ⟨rfl, rfl⟩
      have KX := Lib.hid (K1.out.any (.cells #[.int .i64 x, .int .i64 y] 3))
      have e0 := KX.out.cell 0 0 rfl rfl
      have e1 := KX.out.cell 0 1 rfl rfl
      clear K1
      generalize w1.alloc (.cells #[.int .i64 x, .int .i64 y] 3) = w3 at *
      go_wp2_with fail
      (with_reducible refine (HI.out _).mono ?_); rintro e w2 ⟨rfl, rfl⟩
      go_upto_region 2 with fail
      go_wp2_with (first
        | ((refine wpList_storeB _ rfl 24 (.tmp 6) (.tmp 28) rfl (w.heap.size + 1) rfl zR (KX.out.get 1 rfl) zR rfl HSZ.out rfl HOZ.out ?_)
           intro w4 hb4 hc4 hs4; have B4 := Lib.hid (KX.out.be.trans (hc4.below KX.out.be.size (fun i e => by omega)))))
      refine bodyPost_ret (results_cell_tmp rfl _ _ _ Try.underlying24 rfl (w.heap.size + 1) zR _ rfl rfl (fun j v hv => hb4.cell hv) HSZ.out) rfl ?_
      exact ⟨rfl, B4.out⟩
end Go.Proofs.Ytogpnpcdghabmaa
