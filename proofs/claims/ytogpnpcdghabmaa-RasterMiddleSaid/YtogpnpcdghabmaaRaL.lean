/- Box, Pad, Cut: the pictures (written by tools/gen_raJ.py). -/
import Derived.Test.YtogpnpcdghabmaaRaJ
import Derived.StillTailTactics
import Derived.Deep.DeepCutAuto
namespace Go.Proofs.Ytogpnpcdghabmaa
open Go.RowKit Go.Lib
set_option linter.unusedVariables false
set_option maxRecDepth 100000
set_option maxHeartbeats 4000000 in
theorem box_yes (l : List UInt8) (W H : Nat) (hp : Pc l W H) (A : Option Addr) (n c : Nat) (hn : n = l.length) (hnc : n ≤ c) (hcm : c ≤ maxLen) (w : World) (hr : Rd w A l) (x y : Nat) (hx1 : 1 ≤ x) (hx4 : x ≤ 4096) (hy1 : 1 ≤ y) (hy4 : y ≤ 4096) (hx : x ≤ W) (hy : y ≤ H) (hxy : 3 * x * y ≤ 65536) :
    Calls Try.prog 16 #[ra W H (.slice A n c), .int .i64 x, .int .i64 y] w fun e w' => ∃ s, e = .returned (.tuple #[ra x y s, .int .i64 0]) ∧ Ob w' w.heap.size s (picL (boxF l W H x y) x y) ∧ Below w.heap.size w w' := by
  have HZ := Lib.hid zeroR
  have hW4 := hp.w2
  have hH4 := hp.h2
  have HM : Hid (∀ W', Calls Try.prog 10 #[ra W H (.slice A n c)] W' fun e w' => e = .returned (.bool true) ∧ Below W'.heap.size W' w') := fun W' => by subst hn; rw [← may_of hp]; exact may_any W H A l.length c W'
  have HA : Hid (∀ W' : World, Calls Try.prog 26 #[.slice (some ⟨W'.heap.size, 0, none⟩) 2 2] (W'.alloc (.cells #[.int .i64 x, .int .i64 y] 3)) fun e w' => e = .returned (.bool true) ∧ W'.alloc (.cells #[.int .i64 x, .int .i64 y] 3) = w') := fun W' => by
    have := sides2 x y W'
    rwa [sd_of (x := (x : Int)) (by omega) (by omega), sd_of (x := (y : Int)) (by omega) (by omega)] at this
  have HI : Hid (∀ W', Calls Try.prog 27 #[.int .i64 x, .int .i64 y, .int .i64 W, .int .i64 H] W' fun e w' => e = .returned (.bool true) ∧ W' = w') := fun W' => by
    have := isWithin_any x y W H W'
    rwa [decide_eq_true (by omega), decide_eq_true (by omega)] at this
  have HBU : Hid (∀ W', Rd W' A l → Calls Try.prog 28 #[.int .i64 x, .int .i64 y, .func (.func 29) #[.agg #[.int .i64 W, .int .i64 H, .slice A n c, .int .i64 x, .int .i64 y]] #[]] W' fun e w' => ∃ s, e = .returned (ra x y s) ∧ Ob w' W'.heap.size s (picL (boxF l W H x y) x y) ∧ Below W'.heap.size W' w') := fun W' hr' => built_any W' 29 #[.agg #[.int .i64 W, .int .i64 H, .slice A n c, .int .i64 x, .int .i64 y]] #[] ent_mean x y hx4 hy4 hxy (boxF l W H x y) (fun u v k hu hv hk => boxF_rng (bxN_pos (by omega) (by omega) hx hy)) (fun W'' u v hb hu hv => by rw [app1]; exact mean_any l W H hp A n c hn hnc hcm W'' (hr'.below hb) x y u v hx1 hx hy1 hy hu hv)
  have K0 := Lib.hid (((Kc.refl w).new #[.int .i64 W, .int .i64 H, .slice A n c] 24 w.heap.size rfl).new zR 24 (w.heap.size + 1) (by simp))
  have HR := Lib.hid hr
  have HSR := Lib.hid (fun s => sizeR (x : Int) (y : Int) s)
  have HSW := Lib.hid (sizeR (W : Int) (H : Int) (.slice A n c))
  have HPL := Lib.hid (pic_len (boxF l W H x y) x y)
  generalize picL (boxF l W H x y) x y = PL at *
  clear hp hr hn hnc hcm hx1 hx4 hy1 hy4 hx hy hxy hW4 hH4
  unfold ra at *
  go_enter Try.func16, Try.ntmps16
  go_wp2_with (first
    | (with_reducible refine wpList_allocZ _ rfl 24 rfl zR HZ.out ?_))
  try simp only [World.size_alloc]
  (with_reducible refine (HM.out _).mono ?_); rintro e w1 ⟨rfl, h1⟩
  have K1 := Lib.hid (K0.out.call h1)
  clear K0 h1
  go_wp2_with fail
  (with_reducible refine (HA.out _).mono ?_); rintro e w2 ⟨rfl, rfl⟩
  have K2 := Lib.hid (K1.out.any (.cells #[.int .i64 x, .int .i64 y] 3))
  have e0 := K2.out.cell 0 0 rfl rfl
  have e1 := K2.out.cell 0 1 rfl rfl
  clear K1
  generalize w1.alloc (.cells #[.int .i64 x, .int .i64 y] 3) = w3 at *
  go_wp2_with fail
  (with_reducible refine (HI.out _).mono ?_); rintro e w2 ⟨rfl, rfl⟩
  go_wp2_with (first
    | (refine wpList_loadB _ rfl 24 (.tmp 3) rfl _ Try.underlying24 rfl w.heap.size rfl _ (K2.out.get 0 rfl) HSW.out ?_))
  (with_reducible refine (HBU.out _ (HR.out.below K2.out.be)).mono ?_); rintro e w4 ⟨s, rfl, ho, hb⟩
  obtain ⟨Av, cv, rfl, hv1, hv2, hv3, hv4⟩ := ho.open
  clear hv1 hv2 hv3 hv4
  have HO := Lib.hid ho
  have HO1 := Lib.hid (ho.one_ra (x : Int) (y : Int))
  have HS2 := Lib.hid (HSR.out (.slice Av PL.length cv))
  have HSE : Hid (zR.size = (#[Value.int .i64 (x : Int), .int .i64 (y : Int), .slice Av PL.length cv]).size) := rfl
  have K4 := Lib.hid (K2.out.call hb)
  have HB4 := Lib.hid (K2.out.fresh _ (List.mem_of_getElem? (i := 1) rfl))
  clear hb ho
  go_wp2_with (first
    | ((refine wpList_storeB _ rfl 24 (.tmp 6) (.tmp 37) rfl (w.heap.size + 1) rfl zR (K4.out.get 1 rfl) #[.int .i64 (x : Int), .int .i64 (y : Int), .slice Av PL.length cv] rfl HS2.out HSE.out HO1.out ?_)
       intro w5 hb5 hc5 hs5))
  refine bodyPost_ret (results_cell_tmp rfl _ _ _ Try.underlying24 rfl (w.heap.size + 1) #[.int .i64 (x : Int), .int .i64 (y : Int), .slice Av PL.length cv] _ rfl rfl (fun j u hu => hb5.cell hu) HS2.out) rfl ?_
  exact ⟨_, rfl, (HO.out.chg hc5 (fun k hk e => by have := (HO.out.at k hk).1; have := HB4.out; omega)).mono (by have := K2.out.be.size; omega), K4.out.be.trans (hc5.below K4.out.be.size fun i e => by omega)⟩
set_option maxHeartbeats 4000000 in
theorem cut_yes (l : List UInt8) (W H : Nat) (hp : Pc l W H) (A : Option Addr) (n c : Nat) (hn : n = l.length) (hnc : n ≤ c) (hcm : c ≤ maxLen) (w : World) (hr : Rd w A l) (x y : Nat) (hx1 : 1 ≤ x) (hx4 : x ≤ 4096) (hy1 : 1 ≤ y) (hy4 : y ≤ 4096) (hx : x ≤ W) (hy : y ≤ H) (hxy : 3 * x * y ≤ 65536) :
    Calls Try.prog 18 #[ra W H (.slice A n c), .int .i64 x, .int .i64 y] w fun e w' => ∃ s, e = .returned (.tuple #[ra x y s, .int .i64 0]) ∧ Ob w' w.heap.size s (picL (padF l W H) x y) ∧ Below w.heap.size w w' := by
  have HZ := Lib.hid zeroR
  have hW4 := hp.w2
  have hH4 := hp.h2
  have HM : Hid (∀ W', Calls Try.prog 10 #[ra W H (.slice A n c)] W' fun e w' => e = .returned (.bool true) ∧ Below W'.heap.size W' w') := fun W' => by subst hn; rw [← may_of hp]; exact may_any W H A l.length c W'
  have HA : Hid (∀ W' : World, Calls Try.prog 26 #[.slice (some ⟨W'.heap.size, 0, none⟩) 2 2] (W'.alloc (.cells #[.int .i64 x, .int .i64 y] 3)) fun e w' => e = .returned (.bool true) ∧ W'.alloc (.cells #[.int .i64 x, .int .i64 y] 3) = w') := fun W' => by
    have := sides2 x y W'
    rwa [sd_of (x := (x : Int)) (by omega) (by omega), sd_of (x := (y : Int)) (by omega) (by omega)] at this
  have HI : Hid (∀ W', Calls Try.prog 27 #[.int .i64 x, .int .i64 y, .int .i64 W, .int .i64 H] W' fun e w' => e = .returned (.bool true) ∧ W' = w') := fun W' => by
    have := isWithin_any x y W H W'
    rwa [decide_eq_true (by omega), decide_eq_true (by omega)] at this
  have HBU : Hid (∀ W', Rd W' A l → Calls Try.prog 28 #[.int .i64 x, .int .i64 y, .func (.func 25) #[.agg #[.int .i64 W, .int .i64 H, .slice A n c]] #[]] W' fun e w' => ∃ s, e = .returned (ra x y s) ∧ Ob w' W'.heap.size s (picL (padF l W H) x y) ∧ Below W'.heap.size W' w') := fun W' hr' => built_any W' 25 #[.agg #[.int .i64 W, .int .i64 H, .slice A n c]] #[] ent_colour x y hx4 hy4 hxy (padF l W H) (fun u v k hu hv hk => padF_rng _ _ _ _ _ _) (fun W'' u v hb hu hv => by rw [app1, show c3 (padF l W H u v) = c3 (colF l W u v) by unfold padF colF; rw [Nat.min_eq_left (by omega), Nat.min_eq_left (by omega)]]; exact colour_any l W H hp A n c hn hnc hcm W'' (hr'.below hb) u v (by omega) (by omega))
  have K0 := Lib.hid (((Kc.refl w).new #[.int .i64 W, .int .i64 H, .slice A n c] 24 w.heap.size rfl).new zR 24 (w.heap.size + 1) (by simp))
  have HR := Lib.hid hr
  have HSR := Lib.hid (fun s => sizeR (x : Int) (y : Int) s)
  have HSW := Lib.hid (sizeR (W : Int) (H : Int) (.slice A n c))
  have HPL := Lib.hid (pic_len (padF l W H) x y)
  generalize picL (padF l W H) x y = PL at *
  clear hp hr hn hnc hcm hx1 hx4 hy1 hy4 hx hy hxy hW4 hH4
  unfold ra at *
  go_enter Try.func18, Try.ntmps18
  go_wp2_with (first
    | (with_reducible refine wpList_allocZ _ rfl 24 rfl zR HZ.out ?_))
  try simp only [World.size_alloc]
  (with_reducible refine (HM.out _).mono ?_); rintro e w1 ⟨rfl, h1⟩
  have K1 := Lib.hid (K0.out.call h1)
  clear K0 h1
  go_wp2_with fail
  (with_reducible refine (HA.out _).mono ?_); rintro e w2 ⟨rfl, rfl⟩
  have K2 := Lib.hid (K1.out.any (.cells #[.int .i64 x, .int .i64 y] 3))
  have e0 := K2.out.cell 0 0 rfl rfl
  have e1 := K2.out.cell 0 1 rfl rfl
  clear K1
  generalize w1.alloc (.cells #[.int .i64 x, .int .i64 y] 3) = w3 at *
  go_wp2_with fail
  (with_reducible refine (HI.out _).mono ?_); rintro e w2 ⟨rfl, rfl⟩
  go_wp2_with (first
    | (refine wpList_loadB _ rfl 24 (.tmp 3) rfl _ Try.underlying24 rfl w.heap.size rfl _ (K2.out.get 0 rfl) HSW.out ?_))
  (with_reducible refine (HBU.out _ (HR.out.below K2.out.be)).mono ?_); rintro e w4 ⟨s, rfl, ho, hb⟩
  obtain ⟨Av, cv, rfl, hv1, hv2, hv3, hv4⟩ := ho.open
  clear hv1 hv2 hv3 hv4
  have HO := Lib.hid ho
  have HO1 := Lib.hid (ho.one_ra (x : Int) (y : Int))
  have HS2 := Lib.hid (HSR.out (.slice Av PL.length cv))
  have HSE : Hid (zR.size = (#[Value.int .i64 (x : Int), .int .i64 (y : Int), .slice Av PL.length cv]).size) := rfl
  have K4 := Lib.hid (K2.out.call hb)
  have HB4 := Lib.hid (K2.out.fresh _ (List.mem_of_getElem? (i := 1) rfl))
  clear hb ho
  go_wp2_with (first
    | ((refine wpList_storeB _ rfl 24 (.tmp 6) (.tmp 34) rfl (w.heap.size + 1) rfl zR (K4.out.get 1 rfl) #[.int .i64 (x : Int), .int .i64 (y : Int), .slice Av PL.length cv] rfl HS2.out HSE.out HO1.out ?_)
       intro w5 hb5 hc5 hs5))
  refine bodyPost_ret (results_cell_tmp rfl _ _ _ Try.underlying24 rfl (w.heap.size + 1) #[.int .i64 (x : Int), .int .i64 (y : Int), .slice Av PL.length cv] _ rfl rfl (fun j u hu => hb5.cell hu) HS2.out) rfl ?_
  exact ⟨_, rfl, (HO.out.chg hc5 (fun k hk e => by have := (HO.out.at k hk).1; have := HB4.out; omega)).mono (by have := K2.out.be.size; omega), K4.out.be.trans (hc5.below K4.out.be.size fun i e => by omega)⟩
set_option maxHeartbeats 4000000 in
theorem pad_yes (l : List UInt8) (W H : Nat) (hp : Pc l W H) (A : Option Addr) (n c : Nat) (hn : n = l.length) (hnc : n ≤ c) (hcm : c ≤ maxLen) (w : World) (hr : Rd w A l) (x y : Nat) (hx1 : 1 ≤ x) (hx4 : x ≤ 4096) (hy1 : 1 ≤ y) (hy4 : y ≤ 4096) (hx : W ≤ x) (hy : H ≤ y) (hxy : 3 * x * y ≤ 65536) :
    Calls Try.prog 17 #[ra W H (.slice A n c), .int .i64 x, .int .i64 y] w fun e w' => ∃ s, e = .returned (.tuple #[ra x y s, .int .i64 0]) ∧ Ob w' w.heap.size s (picL (padF l W H) x y) ∧ Below w.heap.size w w' := by
  have HZ := Lib.hid zeroR
  have hW4 := hp.w2
  have hH4 := hp.h2
  have HM : Hid (∀ W', Calls Try.prog 10 #[ra W H (.slice A n c)] W' fun e w' => e = .returned (.bool true) ∧ Below W'.heap.size W' w') := fun W' => by subst hn; rw [← may_of hp]; exact may_any W H A l.length c W'
  have HA : Hid (∀ W' : World, Calls Try.prog 26 #[.slice (some ⟨W'.heap.size, 0, none⟩) 2 2] (W'.alloc (.cells #[.int .i64 x, .int .i64 y] 3)) fun e w' => e = .returned (.bool true) ∧ W'.alloc (.cells #[.int .i64 x, .int .i64 y] 3) = w') := fun W' => by
    have := sides2 x y W'
    rwa [sd_of (x := (x : Int)) (by omega) (by omega), sd_of (x := (y : Int)) (by omega) (by omega)] at this
  have HI : Hid (∀ W', Calls Try.prog 27 #[.int .i64 W, .int .i64 H, .int .i64 x, .int .i64 y] W' fun e w' => e = .returned (.bool true) ∧ W' = w') := fun W' => by
    have := isWithin_any W H x y W'
    rwa [decide_eq_true (by omega), decide_eq_true (by omega)] at this
  have HBU : Hid (∀ W' gg, Rd W' A l → Blk W' gg #[.int .i64 W, .int .i64 H, .slice A n c] → Calls Try.prog 28 #[.int .i64 x, .int .i64 y, .func (.func 30) #[] #[.pointer (some ⟨gg, 0, none⟩)]] W' fun e w' => ∃ s, e = .returned (ra x y s) ∧ Ob w' W'.heap.size s (picL (padF l W H) x y) ∧ Below W'.heap.size W' w') := fun W' gg hr' hgg => built_any W' 30 #[] #[.pointer (some ⟨gg, 0, none⟩)] ent_padC x y hx4 hy4 hxy (padF l W H) (fun u v k hu hv hk => padF_rng _ _ _ _ _ _) (fun W'' u v hb hu hv => by rw [app2]; exact padC_any l W H hp A n c hn hnc hcm W'' (hr'.below hb) gg (hgg.below hb) u v)
  have K0 := Lib.hid (((Kc.refl w).new #[.int .i64 W, .int .i64 H, .slice A n c] 24 w.heap.size rfl).new zR 24 (w.heap.size + 1) (by simp))
  have HR := Lib.hid hr
  have HSR := Lib.hid (fun s => sizeR (x : Int) (y : Int) s)
  have HSW := Lib.hid (sizeR (W : Int) (H : Int) (.slice A n c))
  have HPL := Lib.hid (pic_len (padF l W H) x y)
  generalize picL (padF l W H) x y = PL at *
  clear hp hr hn hnc hcm hx1 hx4 hy1 hy4 hx hy hxy hW4 hH4
  unfold ra at *
  go_enter Try.func17, Try.ntmps17
  go_wp2_with (first
    | (with_reducible refine wpList_allocZ _ rfl 24 rfl zR HZ.out ?_))
  try simp only [World.size_alloc]
  (with_reducible refine (HM.out _).mono ?_); rintro e w1 ⟨rfl, h1⟩
  have K1 := Lib.hid (K0.out.call h1)
  clear K0 h1
  go_wp2_with fail
  (with_reducible refine (HA.out _).mono ?_); rintro e w2 ⟨rfl, rfl⟩
  have K2 := Lib.hid (K1.out.any (.cells #[.int .i64 x, .int .i64 y] 3))
  have e0 := K2.out.cell 0 0 rfl rfl
  have e1 := K2.out.cell 0 1 rfl rfl
  clear K1
  generalize w1.alloc (.cells #[.int .i64 x, .int .i64 y] 3) = w3 at *
  go_wp2_with fail
  (with_reducible refine (HI.out _).mono ?_); rintro e w2 ⟨rfl, rfl⟩
  have K3 := Lib.hid (K2.out.new #[.int .i64 W, .int .i64 H, .slice A n c] 46 w3.heap.size rfl)
  go_wp2_with (first
    | (refine wpList_loadB _ rfl 24 (.tmp 3) rfl _ Try.underlying24 rfl w.heap.size rfl _ (K2.out.get 0 rfl) HSW.out ?_))
  (with_reducible refine (HBU.out _ _ (HR.out.below K3.out.be) (K3.out.get 2 rfl)).mono ?_); rintro e w4 ⟨s, rfl, ho, hb⟩
  obtain ⟨Av, cv, rfl, hv1, hv2, hv3, hv4⟩ := ho.open
  clear hv1 hv2 hv3 hv4
  have HO := Lib.hid ho
  have HO1 := Lib.hid (ho.one_ra (x : Int) (y : Int))
  have HS2 := Lib.hid (HSR.out (.slice Av PL.length cv))
  have HSE : Hid (zR.size = (#[Value.int .i64 (x : Int), .int .i64 (y : Int), .slice Av PL.length cv]).size) := rfl
  have K4 := Lib.hid (K3.out.call hb)
  have HB4 := Lib.hid (K3.out.fresh _ (List.mem_of_getElem? (i := 1) rfl))
  clear hb ho
  go_wp2_with (first
    | ((refine wpList_storeB _ rfl 24 (.tmp 6) (.tmp 35) rfl (w.heap.size + 1) rfl zR (K4.out.get 1 rfl) #[.int .i64 (x : Int), .int .i64 (y : Int), .slice Av PL.length cv] rfl HS2.out HSE.out HO1.out ?_)
       intro w5 hb5 hc5 hs5))
  refine bodyPost_ret (results_cell_tmp rfl _ _ _ Try.underlying24 rfl (w.heap.size + 1) #[.int .i64 (x : Int), .int .i64 (y : Int), .slice Av PL.length cv] _ rfl rfl (fun j u hu => hb5.cell hu) HS2.out) rfl ?_
  exact ⟨_, rfl, (HO.out.chg hc5 (fun k hk e => by have := (HO.out.at k hk).1; have := HB4.out; omega)).mono (by have := K3.out.be.size; omega), K4.out.be.trans (hc5.below K4.out.be.size fun i e => by omega)⟩
end Go.Proofs.Ytogpnpcdghabmaa
