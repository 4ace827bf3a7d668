/- Contracts of At and Fit. -/
import Derived.Test.YtogpnpcdghabmaaRaD
import Derived.Test.YtogpnpcdghabmaaKc
import Derived.Test.YtogpnpcdghabmaaMaxI
import Derived.Test.YtogpnpcdghabmaaDrw
import Derived.Shelf.Abstract
namespace Go.Proofs.Ytogpnpcdghabmaa
open Go.RowKit Go.Lib
set_option linter.unusedVariables false
set_option maxRecDepth 100000
theorem zeroA : (Try.prog.info? 27).map (fun i => i.zero) = some (some (.agg (c3 fun _ => 0))) := by kernel_rfl
theorem sizeA (f : Nat → Int) : (Try.prog.info? 27).map (·.size) = some (c3 f).size := by
  show _ = some 3; kernel_rfl
theorem may_of {l : List UInt8} {W H : Nat} (h : Pc l W H) : may9 (W : Int) (H : Int) l.length = true := by
  have h1 := h.len
  have := h.w1
  have := h.w2
  have := h.h1
  have := h.h2
  unfold may9
  rw [sd_of (by omega) (by omega), sd_of (by omega) (by omega), Bool.true_and, Bool.true_and, beq_iff_eq, h1]
  push_cast
  rw [Int.mul_assoc, Int.mul_comm]
theorem pc_of {l : List UInt8} {W H : Int} (h : may9 W H l.length = true) : ∃ a b : Nat, W = (a : Int) ∧ H = (b : Int) ∧ Pc l a b := by
  obtain ⟨h1, h2, h3, h4, h5⟩ := may_yes h
  refine ⟨W.toNat, H.toNat, by omega, by omega, ?_, by omega, by omega, by omega, by omega⟩
  have e1 : W = (W.toNat : Int) := by omega
  have e2 : H = (H.toNat : Int) := by omega
  rw [e1, e2] at h5
  have : (l.length : Int) = ((3 * W.toNat * H.toNat : Nat) : Int) := by rw [h5]; push_cast; rw [Int.mul_comm, Int.mul_assoc]
  omega
theorem has_of {W H x y : Nat} (hx : x < W) (hy : y < H) : has9 (W : Int) (H : Int) (x : Int) (y : Int) = true := by
  unfold has9
  rw [decide_eq_true (by omega), decide_eq_true (by omega), decide_eq_true (by omega), decide_eq_true (by omega)]
  rfl
theorem has_yes {W H x y : Int} (h : has9 W H x y = true) : 0 ≤ x ∧ x < W ∧ 0 ≤ y ∧ y < H := by
  unfold has9 at h
  simp only [Bool.and_eq_true, decide_eq_true_eq] at h
  exact ⟨h.1.1.1, h.1.1.2, h.1.2, h.2⟩
theorem one_ra (W H : Int) (A : Option Addr) (n c : Nat) : ∀ v ∈ (#[Value.int .i64 W, .int .i64 H, .slice A n c]).toList, v.oneCell' = true := by
  intro v hv
  simp only [List.mem_cons, List.not_mem_nil, or_false] at hv
  rcases hv with rfl | rfl | rfl <;> rfl
set_option maxHeartbeats 1000000 in
theorem at_no (W H : Int) (A : Option Addr) (n c : Nat) (x y : Int) (w : World) (h : (may9 W H n && has9 W H x y) = false) :
    Calls Try.prog 9 #[ra W H (.slice A n c), .int .i64 x, .int .i64 y] w fun e w' => e = .returned (.tuple #[.agg (c3 fun _ => 0), .bool false]) ∧ Below w.heap.size w w' := by
  have HZ := Lib.hid zeroA
  have HS := Lib.hid (sizeA fun _ => 0)
  have H1 := Lib.hid (one_c3 fun _ => 0)
  have HM := Lib.hid (fun W' => may_any W H A n c W')
  have HH := Lib.hid (fun W' => has_any W H (.slice A n c) x y W')
  have K0 := Lib.hid ((((Kc.refl w).new #[.int .i64 W, .int .i64 H, .slice A n c] 24 w.heap.size rfl).new (c3 fun _ => 0) 27 (w.heap.size + 1) (by simp)).new #[.int .i64 W, .int .i64 H, .slice A n c] 46 (w.heap.size + 1 + 1) (by simp))
  unfold ra at *
  cases h1 : may9 W H n with
  | false =>
    rw [h1] at HM
    clear h HH
    go_enter Try.func9, Try.ntmps9
    go_wp2_with (first
      | (with_reducible refine wpList_allocZ _ rfl 27 rfl (c3 fun _ => 0) HZ.out ?_))
    (with_reducible refine (HM.out _).mono ?_); rintro e w1 ⟨rfl, h1⟩
    have K1 := Lib.hid (K0.out.call h1)
    clear K0 h1
    go_wp2_with (first
      | ((refine wpList_storeB _ rfl 27 (.tmp 6) (.tmp 21) rfl (w.heap.size + 1) rfl (c3 fun _ => 0) (K1.out.get 1 rfl) (c3 fun _ => 0) (by rfl) HS.out (by rfl) H1.out ?_)
         intro w3 hb3 hc3 hs3; have B3 := Lib.hid (K1.out.be.trans (hc3.below K1.out.be.size (fun i e => by omega)))))
    refine bodyPost_ret (results_cell_tmp rfl _ _ _ Try.underlying27 rfl (w.heap.size + 1) (c3 fun _ => 0) _ rfl rfl (fun j v hv => hb3.cell hv) HS.out) rfl ?_
    exact ⟨rfl, B3.out⟩
  | true =>
    rw [h1, Bool.true_and] at h
    rw [h1] at HM
    rw [h] at HH
    clear h h1
    have HSR : Hid ((Try.prog.info? 46).map (·.size) = some 3) := by
      show _ = _
      kernel_rfl
    go_enter Try.func9, Try.ntmps9
    go_wp2_with (first
      | (with_reducible refine wpList_allocZ _ rfl 27 rfl (c3 fun _ => 0) HZ.out ?_))
    (with_reducible refine (HM.out _).mono ?_); rintro e w1 ⟨rfl, h1⟩
    have K1 := Lib.hid (K0.out.call h1)
    clear K0 h1
    go_wp2_with (first
      | (refine wpList_open (by rfl) (wpList_loadB _ rfl 46 (.tmp 8) rfl _ Try.underlying46 rfl (w.heap.size + 1 + 1) rfl _ (K1.out.get 2 rfl) HSR.out ?_)))
    (with_reducible refine (HH.out _).mono ?_); rintro e w2 ⟨rfl, h2⟩
    have K2 := Lib.hid (K1.out.call h2)
    clear K1 h2
    go_wp2_with (first
      | ((refine wpList_storeB _ rfl 27 (.tmp 6) (.tmp 21) rfl (w.heap.size + 1) rfl (c3 fun _ => 0) (K2.out.get 1 rfl) (c3 fun _ => 0) (by rfl) HS.out (by rfl) H1.out ?_)
         intro w3 hb3 hc3 hs3; have B3 := Lib.hid (K2.out.be.trans (hc3.below K2.out.be.size (fun i e => by omega)))))
    refine bodyPost_ret (results_cell_tmp rfl _ _ _ Try.underlying27 rfl (w.heap.size + 1) (c3 fun _ => 0) _ rfl rfl (fun j v hv => hb3.cell hv) HS.out) rfl ?_
    exact ⟨rfl, B3.out⟩
set_option maxHeartbeats 1000000 in
theorem at_yes (l : List UInt8) (W H : Nat) (hp : Pc l W H) (A : Option Addr) (n c : Nat) (hn : n = l.length) (hnc : n ≤ c) (hcm : c ≤ maxLen) (w : World) (hr : Rd w A l) (x y : Nat) (hx : x < W) (hy : y < H) :
    Calls Try.prog 9 #[ra W H (.slice A n c), .int .i64 x, .int .i64 y] w fun e w' => e = .returned (.tuple #[.agg (c3 (colF l W x y)), .bool true]) ∧ Below w.heap.size w w' := by
  subst hn
  have HZ := Lib.hid zeroA
  have HS := Lib.hid (sizeA (colF l W x y))
  have H1 := Lib.hid (one_c3 (colF l W x y))
  have HM : Hid (∀ W', Calls Try.prog 10 #[ra W H (.slice A l.length c)] W' fun e w' => e = .returned (.bool true) ∧ Below W'.heap.size W' w') := fun W' => by rw [← may_of hp]; exact may_any W H A l.length c W'
  have HH : Hid (∀ W', Calls Try.prog 24 #[ra W H (.slice A l.length c), .int .i64 x, .int .i64 y] W' fun e w' => e = .returned (.bool true) ∧ Below W'.heap.size W' w') := fun W' => by rw [← has_of hx hy]; exact has_any W H _ x y W'
  have HC := Lib.hid (fun W' hr' => colour_any l W H hp A l.length c rfl hnc hcm W' hr' x y hx hy)
  have K0 := Lib.hid ((((Kc.refl w).new #[.int .i64 W, .int .i64 H, .slice A l.length c] 24 w.heap.size rfl).new (c3 fun _ => 0) 27 (w.heap.size + 1) (by simp)).new #[.int .i64 W, .int .i64 H, .slice A l.length c] 46 (w.heap.size + 1 + 1) (by simp))
  have HR := Lib.hid hr
  have HSR : Hid ((Try.prog.info? 46).map (·.size) = some 3) := by
    show _ = _
    kernel_rfl
  have HL := Lib.hid hp
  have HXY := Lib.hid (And.intro hx hy)
  clear hr hp hx hy hnc hcm
  generalize c3 (colF l W x y) = R at *
  unfold ra at *
  generalize l.length = m at *
  go_enter Try.func9, Try.ntmps9
  go_wp2_with (first
    | (with_reducible refine wpList_allocZ _ rfl 27 rfl (c3 fun _ => 0) HZ.out ?_))
  (with_reducible refine (HM.out _).mono ?_); rintro e w1 ⟨rfl, h1⟩
  have K1 := Lib.hid (K0.out.call h1)
  clear K0 h1
  go_wp2_with (first
    | (refine wpList_open (by rfl) (wpList_loadB _ rfl 46 (.tmp 8) rfl _ Try.underlying46 rfl (w.heap.size + 1 + 1) rfl _ (K1.out.get 2 rfl) HSR.out ?_)))
  (with_reducible refine (HH.out _).mono ?_); rintro e w2 ⟨rfl, h2⟩
  have K2 := Lib.hid (K1.out.call h2)
  clear K1 h2
  go_wp2_with (first
    | (refine (wpList_loadB _ rfl 46 (.tmp 8) rfl _ Try.underlying46 rfl (w.heap.size + 1 + 1) rfl _ (K2.out.get 2 rfl) HSR.out ?_)))
  (with_reducible refine (HC.out _ (HR.out.below K2.out.be)).mono ?_); rintro e w3 ⟨rfl, h3⟩
  have K3 := Lib.hid (K2.out.call h3)
  clear K2 h3
  go_wp2_with (first
    | ((refine wpList_storeB _ rfl 27 (.tmp 6) (.tmp 25) rfl (w.heap.size + 1) rfl (c3 fun _ => 0) (K3.out.get 1 rfl) R (by rfl) HS.out (by have := HS.out; rw [sizeA (fun _ => 0)] at this; exact Option.some.inj this) H1.out ?_)
       intro w4 hb4 hc4 hs4; have B4 := Lib.hid (K3.out.be.trans (hc4.below K3.out.be.size (fun i e => by omega)))))
  refine bodyPost_ret (results_cell_tmp rfl _ _ _ Try.underlying27 rfl (w.heap.size + 1) R _ rfl rfl (fun j v hv => hb4.cell hv) HS.out) rfl ?_
  exact ⟨rfl, B4.out⟩
end Go.Proofs.Ytogpnpcdghabmaa
