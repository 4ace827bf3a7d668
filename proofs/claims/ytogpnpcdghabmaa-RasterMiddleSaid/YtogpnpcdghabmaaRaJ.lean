/- Contracts of Box, Pad, Cut (written by tools/gen_raJ.py). -/
import Derived.Test.YtogpnpcdghabmaaRaI
namespace Go.Proofs.Ytogpnpcdghabmaa
open Go.RowKit Go.Lib
set_option linter.unusedVariables false
set_option maxRecDepth 100000
theorem rwh (W H x y : Nat) (hW : 1 ≤ W) (hW2 : W ≤ 4096) (hH : 1 ≤ H) (hH2 : H ≤ 4096) : (IntKind.i64.wrap ((W : Int) - 1) = (W : Int) - 1 ∧ IntKind.i64.wrap ((H : Int) - 1) = (H : Int) - 1) ∧ min (x : Int) ((W : Int) - 1) = ((min x (W - 1) : Nat) : Int) ∧ min (y : Int) ((H : Int) - 1) = ((min y (H - 1) : Nat) : Int) :=
  ⟨⟨IntWalk.i64_in _ (by omega), IntWalk.i64_in _ (by omega)⟩, by omega, by omega⟩
set_option maxHeartbeats 2000000 in
/-- Pad's closure. -/
theorem padC_any (l : List UInt8) (W H : Nat) (hp : Pc l W H) (A : Option Addr) (n c : Nat) (hn : n = l.length) (hnc : n ≤ c) (hcm : c ≤ maxLen) (w : World) (hr : Rd w A l) (g : Nat) (hg : Blk w g #[.int .i64 W, .int .i64 H, .slice A n c]) (x y : Nat) :
    Calls Try.prog 30 #[.int .i64 x, .int .i64 y, .pointer (some ⟨g, 0, none⟩)] w fun e w' => e = .returned (.agg (c3 (padF l W H x y))) ∧ Below w.heap.size w w' := by
  have h1 := hp.w1
  have h2 := hp.w2
  have h3 := hp.h1
  have h4 := hp.h2
  have HC := Lib.hid (fun W' hr' => colour_any l W H hp A n c hn hnc hcm W' hr' (min x (W - 1)) (min y (H - 1)) (by omega) (by omega))
  subst hn
  obtain ⟨⟨hw1, hw2⟩, hm1, hm2⟩ := rwh W H x y h1 h2 h3 h4
  obtain ⟨W1, hW1⟩ : ∃ k, k = (W : Int) - 1 := ⟨_, rfl⟩
  obtain ⟨H1, hH1⟩ : ∃ k, k = (H : Int) - 1 := ⟨_, rfl⟩
  replace hw1 : IntKind.i64.wrap ((W : Int) - 1) = W1 := by rw [hw1, hW1]
  replace hw2 : IntKind.i64.wrap ((H : Int) - 1) = H1 := by rw [hw2, hH1]
  rw [← hW1] at hm1
  rw [← hH1] at hm2
  clear hW1 hH1
  have HM1 := Lib.hid hm1
  have HM2 := Lib.hid hm2
  have HPD : Hid (c3 (padF l W H x y) = c3 (colF l W (min x (W - 1)) (min y (H - 1)))) := rfl
  clear hm1 hm2 h1 h2 h3 h4 hnc hcm hp
  generalize l.length = n at *
  generalize min x (W - 1) = mx at *
  generalize min y (H - 1) = my at *
  have HSC := Lib.hid (sizeC (colF l W mx my))
  have HOC := Lib.hid (one_c3 (colF l W mx my))
  have HSP : Hid ((c3 fun _ => 0).size = (c3 (colF l W mx my)).size) := rfl
  generalize c3 (padF l W H x y) = R at *
  generalize c3 (colF l W mx my) = C at *
  unfold ra at *
  have HZ := Lib.hid zeroC
  have K0 := Lib.hid ((Kc.refl w).new (c3 fun _ => 0) 48 w.heap.size rfl)
  have HG := Lib.hid (hg.alloc (.cells (c3 fun _ => 0) 48))
  have e0 := HG.out.cell (j := 0) rfl
  have e1 := HG.out.cell (j := 1) rfl
  have HSV : Hid ((Try.prog.info? 46).map (·.size) = some 3) := by
    show _ = _
    kernel_rfl
  have HR := Lib.hid (hr.below K0.out.be)
  clear hr hg
  go_enter Try.func30, Try.ntmps30
  go_wp2_with (first
    | (with_reducible refine wpList_allocZ _ rfl 48 rfl (c3 fun _ => 0) HZ.out ?_)
    | (refine wpList_loadB _ rfl 46 (.tmp 2) rfl _ Try.underlying46 rfl g rfl _ HG.out HSV.out ?_)
    | (with_reducible refine wpList_minI _ rfl (.tmp 7) (.tmp 11) rfl x W1 mx rfl rfl HM1.out ?_)
    | (with_reducible refine wpList_minI _ rfl (.tmp 13) (.tmp 17) rfl y H1 my rfl rfl HM2.out ?_)
    | (go_at_call 25; (with_reducible refine (HC.out _ HR.out).mono ?_); rintro e w3 ⟨rfl, h3⟩; have K3 := Lib.hid (K0.out.call h3); clear h3)
    | ((refine wpList_storeB _ rfl 48 (.tmp 5) (.tmp 19) rfl w.heap.size rfl (c3 fun _ => 0) (K3.out.get 0 rfl) C rfl HSC.out HSP.out HOC.out ?_)
       intro w4 hb4 hc4 hs4; have B4 := Lib.hid (K3.out.be.trans (hc4.below K3.out.be.size (fun i e => by omega)))))
  refine bodyPost_ret (results_cell rfl _ _ _ Try.underlying48 rfl w.heap.size C rfl (fun j v hv => hb4.cell hv) HSC.out) rfl ?_
  exact ⟨by rw [HPD.out], B4.out⟩
theorem app1 (a x y : Value) : #[a] ++ #[x, y] ++ #[] = #[a, x, y] := by simp
theorem app2 (a x y : Value) : #[] ++ #[x, y] ++ #[a] = #[x, y, a] := by simp
theorem sides2 (a b : Int) (w : World) : Calls Try.prog 26 #[.slice (some ⟨w.heap.size, 0, none⟩) 2 2] (w.alloc (.cells #[.int .i64 a, .int .i64 b] 3)) fun e w' => e = .returned (.bool (sd a && sd b)) ∧ w.alloc (.cells #[.int .i64 a, .int .i64 b] 3) = w' := by
  have := areSides_any [a, b] (some ⟨w.heap.size, 0, none⟩) 2 2 (w.alloc (.cells #[.int .i64 a, .int .i64 b] 3)) rfl (by simp) (Ri.lits w 3 _ [a, b] rfl)
  rwa [sds2] at this
theorem one_zR : ∀ v ∈ zR.toList, v.oneCell' = true := by
  intro v hv
  simp only [zR, List.mem_cons, List.not_mem_nil, or_false] at hv
  rcases hv with rfl | rfl | rfl <;> rfl
theorem sizeZ : (Try.prog.info? 24).map (·.size) = some zR.size := by
  show _ = some 3; kernel_rfl
theorem ent_mean : ∀ args w, (callFunc 29 args).run Try.prog w = .ok (.enter 29 args) w := enters_of Try.func29 (by kernel_rfl) rfl
theorem ent_colour : ∀ args w, (callFunc 25 args).run Try.prog w = .ok (.enter 25 args) w := enters_of Try.func25 (by kernel_rfl) rfl
theorem ent_padC : ∀ args w, (callFunc 30 args).run Try.prog w = .ok (.enter 30 args) w := enters_of Try.func30 (by kernel_rfl) rfl
/-- Within, or not. -/
def wi9 (a b x y : Int) : Bool := decide (a ≤ x) && decide (b ≤ y)
end Go.Proofs.Ytogpnpcdghabmaa
