/- Contract of boxes.mean. -/
import Derived.Test.YtogpnpcdghabmaaRaG
namespace Go.Proofs.Ytogpnpcdghabmaa
open Go.RowKit Go.Lib
set_option linter.unusedVariables false
set_option maxRecDepth 100000
/-- The bytes of i whole rows of nx, and of k more. -/
def sm2 (F : Nat → Nat → Int) (nx i k : Nat) : Int := smF (fun i => smF (F i) nx) i + smF (F i) k
theorem sm2_zero (F : Nat → Nat → Int) (nx : Nat) : sm2 F nx 0 0 = 0 := rfl
theorem sm2_step (F : Nat → Nat → Int) (nx i k : Nat) : sm2 F nx i (k + 1) = sm2 F nx i k + F i k := by unfold sm2; show _ + (smF (F i) k + F i k) = _; omega
theorem sm2_row (F : Nat → Nat → Int) (nx i : Nat) : sm2 F nx i nx = sm2 F nx (i + 1) 0 := by unfold sm2; show _ = (smF (fun i => smF (F i) nx) i + smF (F i) nx) + 0; omega
theorem sm2_rng {F : Nat → Nat → Int} (hF : ∀ i k, 0 ≤ F i k ∧ F i k ≤ 255) {nx i k : Nat} (hn : nx ≤ 4096) (hi : i ≤ 4096) (hk : k ≤ 4096) : 0 ≤ sm2 F nx i k ∧ sm2 F nx i k ≤ 8589934592 := by
  have a1 := smF_lo (f := fun i => smF (F i) nx) (m := 0) i fun j _ => by have := smF_lo (f := F j) (m := 0) nx fun q _ => (hF j q).1; omega
  have a2 := smF_hi (f := fun i => smF (F i) nx) (m := 255 * 4096) i fun j _ => by
    have h1 := smF_hi (f := F j) (m := 255) nx fun q _ => (hF j q).2
    show smF (F j) nx ≤ _
    omega
  have a3 := smF_lo (f := F i) (m := 0) k fun q _ => (hF i q).1
  have a4 := smF_hi (f := F i) (m := 255) k fun q _ => (hF i q).2
  unfold sm2
  constructor <;> omega
/-- The bytes of a box. -/
def bxF (l : List UInt8) (W H w h x y c : Nat) (i k : Nat) : Int := pb l (at3 W (lo9 x W w + k) (lo9 y H h + i) c)
theorem bxF_rng (l : List UInt8) (W H w h x y c i k : Nat) : 0 ≤ bxF l W H w h x y c i k ∧ bxF l W H w h x y c i k ≤ 255 := pb_rng _ _
theorem bxF_all (l : List UInt8) (W H w h x y c : Nat) : sm2 (bxF l W H w h x y c) (lo9 (x + 1) W w - lo9 x W w) (lo9 (y + 1) H h - lo9 y H h) 0 = bxS l W H w h x y c := by
  show smF _ _ + 0 = _
  rw [Int.add_zero]
  rfl
theorem size3i (x y z : Int) : (Try.prog.info? 56).map (·.size) = some (ia [x, y, z]).size := by
  show _ = some 3; kernel_rfl
theorem zero3i : (Try.prog.info? 56).map (fun i => i.zero) = some (some (.agg (ia [0, 0, 0]))) := by kernel_rfl
/-- A quotient of sides, as the machine reckons it. -/
theorem quoN {x W w : Nat} (hx : x ≤ 4096) (hW : W ≤ 4096) (hw : 1 ≤ w) (hw2 : w ≤ W) (hxw : x ≤ w) :
    IntKind.i64.wrap ((x : Int) * (W : Int)) = (x : Int) * (W : Int) ∧ ((x : Int) * (W : Int)).tdiv (w : Int) = ((x * W / w : Nat) : Int) ∧ IntKind.i64.wrap ((x * W / w : Nat) : Int) = ((x * W / w : Nat) : Int) ∧ x * W / w ≤ W := by
  have h1 := nat_mul4 hx hW
  have e : (x : Int) * (W : Int) = ((x * W : Nat) : Int) := by push_cast; rfl
  have h2 : x * W / w ≤ W := Nat.div_le_of_le_mul (Nat.mul_le_mul_right _ hxw)
  refine ⟨by rw [e]; exact IntWalk.i64_in _ (by omega), by rw [e, Int.tdiv_eq_ediv_of_nonneg (by omega)]; push_cast; rfl, ?_, h2⟩
  generalize x * W / w = q at *
  exact IntWalk.i64_in _ (by omega)
/-- What the loops of mean hold. -/
def lM (g0 g1 g2 : Nat) (BX : Array Value) (s : List Int) : List (Nat × Array Value) := [(g0, BX), (g1, c3 fun _ => 0), (g2, ia s)]
def lS (F : Nat → Nat → Nat → Int) (nx i k : Nat) : List Int := [sm2 (F 0) nx i k, sm2 (F 1) nx i k, sm2 (F 2) nx i k]
theorem view_part {W : World} {g : Nat} {a b s d e : Value} (h : Blk W g #[a, b, s, d, e]) : ∀ j v, #[a, b, s][j]? = some v → W.cell? ⟨g, 0 + j, none⟩ = some v := by
  intro j v hv
  rw [Nat.zero_add]
  apply h.cell
  rcases j with _ | _ | _ | j
  · simpa using hv
  · simpa using hv
  · simpa using hv
  · simp at hv
theorem mean_put {w W : World} {g1 g2 : Nat} (HG : Hid (w.heap.size + 1 = g1 ∧ g1 + 1 = g2)) {BX : Array Value} {a b c : Int} (h : Kc w (lM w.heap.size g1 g2 BX [a, b, c]) W) (x y z : Int) :
    Kc w (lM w.heap.size g1 g2 BX [x, y, z]) (((W.setCell ⟨g2, 0, none⟩ (.int .i64 x)).setCell ⟨g2, 1, none⟩ (.int .i64 y)).setCell ⟨g2, 2, none⟩ (.int .i64 z)) := by
  obtain ⟨h1, h2⟩ := HG.out
  have hb := ((((h.get 2 rfl).set_int 0 x).set_int 1 y).set_int 2 z)
  have hc := (((Chg.refl (fun k => k = g2) W).setCell (p := ⟨g2, 0, none⟩) (.inl rfl) (.int .i64 x)).setCell (p := ⟨g2, 1, none⟩) (.inl rfl) (.int .i64 y)).setCell (p := ⟨g2, 2, none⟩) (.inl rfl) (.int .i64 z)
  refine h.upd hc hb (by omega) fun p hp => ?_
  unfold lM at hp ⊢
  simp only [List.mem_cons, List.not_mem_nil, or_false] at hp ⊢
  rcases hp with rfl | rfl | rfl
  · exact .inr ⟨.inl rfl, by show w.heap.size ≠ _; omega⟩
  · exact .inr ⟨.inr (.inl rfl), by show g1 ≠ _; omega⟩
  · exact .inl rfl
theorem mean_put2 {w wr W : World} {g0 g1 g2 : Nat} {BX Z S : Array Value} (h : Kc w ([(g0, BX), (g1, Z), (g2, S)] ++ [(wr.heap.size, c3 fun _ => 0)]) W) (hf : ∀ p ∈ [(g0, BX), (g1, Z), (g2, S)], p.1 < wr.heap.size) (x y z : Int) (hw : w.heap.size ≤ wr.heap.size) :
    Kc w [(g1, Z), (wr.heap.size, #[.int .u8 x, .int .u8 y, .int .u8 z])] (((W.setCell ⟨wr.heap.size, 0, none⟩ (.int .u8 x)).setCell ⟨wr.heap.size, 1, none⟩ (.int .u8 y)).setCell ⟨wr.heap.size, 2, none⟩ (.int .u8 z)) := by
  have hb := ((((h.get 3 rfl).set 0 (.int .u8 x)).set 1 (.int .u8 y)).set 2 (.int .u8 z))
  have hc := (((Chg.refl (fun k => k = wr.heap.size) W).setCell (p := ⟨wr.heap.size, 0, none⟩) (.inl rfl) (.int .u8 x)).setCell (p := ⟨wr.heap.size, 1, none⟩) (.inl rfl) (.int .u8 y)).setCell (p := ⟨wr.heap.size, 2, none⟩) (.inl rfl) (.int .u8 z)
  refine h.upd hc hb hw fun p hp => ?_
  simp only [List.mem_cons, List.not_mem_nil, or_false] at hp
  rcases hp with rfl | rfl
  · exact .inr ⟨by simp, Nat.ne_of_lt (hf _ (by simp))⟩
  · exact .inl rfl
set_option maxHeartbeats 8000000 in
theorem mean_walk (w : World) (WI HI : Int) (A : Option Addr) (n c : Nat) (wI hI XI YI X1 Y1 P1 P2 P3 P4 DX DY N N2 : Int) (x0 x1 y0 y1 : Nat) (F : Nat → Nat → Nat → Int) (m : Nat → Int)
    (hx : x0 < x1) (hx1 : x1 ≤ 4096) (hy : y0 < y1) (hy1 : y1 ≤ 4096)
    (a1 : IntKind.i64.wrap (XI * WI) = P1) (a2 : P1.tdiv wI = (x0 : Int)) (a3 : IntKind.i64.wrap (XI + 1) = X1) (a4 : IntKind.i64.wrap (X1 * WI) = P2) (a5 : P2.tdiv wI = (x1 : Int))
    (b1 : IntKind.i64.wrap (YI * HI) = P3) (b2 : P3.tdiv hI = (y0 : Int)) (b3 : IntKind.i64.wrap (YI + 1) = Y1) (b4 : IntKind.i64.wrap (Y1 * HI) = P4) (b5 : P4.tdiv hI = (y1 : Int))
    (zw : ¬ wI = 0) (zw2 : (wI == 0) = false) (zh : ¬ hI = 0) (zh2 : (hI == 0) = false)
    (HC : Hid (∀ W i k, Below w.heap.size w W → i < y1 - y0 → k < x1 - x0 → Calls Try.prog 25 #[.agg #[.int .i64 WI, .int .i64 HI, .slice A n c], .int .i64 ((x0 + k : Nat) : Int), .int .i64 ((y0 + i : Nat) : Int)] W fun e w' => e = .returned (.agg #[.int .u8 (F 0 i k), .int .u8 (F 1 i k), .int .u8 (F 2 i k)]) ∧ Below W.heap.size W w'))
    (HF : Hid (∀ q i k, 0 ≤ F q i k ∧ F q i k ≤ 255))
    (d1 : IntKind.i64.wrap ((x1 : Int) - (x0 : Int)) = DX) (d2 : IntKind.i64.wrap ((y1 : Int) - (y0 : Int)) = DY) (d3 : IntKind.i64.wrap (DX * DY) = N) (d4 : IntKind.i64.wrap (2 * N) = N2) (zn : ¬ N2 = 0) (zn2 : (N2 == 0) = false)
    (HM : Hid (∀ q, (IntKind.i64.wrap (2 * sm2 (F q) (x1 - x0) (y1 - y0) 0) = 2 * sm2 (F q) (x1 - x0) (y1 - y0) 0 ∧ IntKind.i64.wrap (2 * sm2 (F q) (x1 - x0) (y1 - y0) 0 + N) = 2 * sm2 (F q) (x1 - x0) (y1 - y0) 0 + N ∧ (2 * sm2 (F q) (x1 - x0) (y1 - y0) 0 + N).tdiv N2 = m q ∧ 0 ≤ m q ∧ m q ≤ 255))) :
    Calls Try.prog 29 #[.agg #[.int .i64 WI, .int .i64 HI, .slice A n c, .int .i64 wI, .int .i64 hI], .int .i64 XI, .int .i64 YI] w fun e w' => e = .returned (.agg #[.int .u8 (m 0), .int .u8 (m 1), .int .u8 (m 2)]) ∧ Below w.heap.size w w' := by
  have HZ := Lib.hid zeroC
  have HZ3 := Lib.hid zero3i
  have K0 : Hid (Kc w (lM w.heap.size (w.heap.size + 1) (w.heap.size + 1 + 1) #[.int .i64 WI, .int .i64 HI, .slice A n c, .int .i64 wI, .int .i64 hI] [0, 0, 0]) _) := Lib.hid ((((Kc.refl w).new #[.int .i64 WI, .int .i64 HI, .slice A n c, .int .i64 wI, .int .i64 hI] 54 w.heap.size rfl).new (c3 fun _ => 0) 48 (w.heap.size + 1) (by simp)).new (ia [0, 0, 0]) 56 (w.heap.size + 1 + 1) (by simp))
  have r1 : IntKind.i64.wrap (x0 : Int) = (x0 : Int) := IntWalk.i64_in _ (by omega)
  have r2 : IntKind.i64.wrap (x1 : Int) = (x1 : Int) := IntWalk.i64_in _ (by omega)
  have r3 : IntKind.i64.wrap (y0 : Int) = (y0 : Int) := IntWalk.i64_in _ (by omega)
  have r4 : IntKind.i64.wrap (y1 : Int) = (y1 : Int) := IntWalk.i64_in _ (by omega)
  go_enter Try.func29, Try.ntmps29
  go_wp2_with (first
    | (with_reducible refine wpList_allocZ _ rfl 48 rfl (c3 fun _ => 0) HZ.out ?_)
    | (with_reducible refine wpList_allocZ _ rfl 56 rfl (ia [0, 0, 0]) HZ3.out ?_))
  try simp only [World.size_alloc]
  refine wp_region_seq (fun W => Kc w (lM w.heap.size (w.heap.size + 1) (w.heap.size + 1 + 1) #[.int .i64 WI, .int .i64 HI, .slice A n c, .int .i64 wI, .int .i64 hI] [0, 0, 0]) W) (by kernel_rfl) (by kernel_rfl) (by kernel_rfl) (K0.out.drew) ?_
  clear K0
  repeat (
    first
      | (apply seq_val (by rfl); focus (intro W hS; have e0 := hS.cell 0 0 rfl rfl; have e1 := hS.cell 0 3 rfl rfl; go_simp; (try with_reducible rfl); done))
    simp only [Act.put, List.setIfInBounds_toArray, List.set_cons_zero, List.set_cons_succ])
  intro W1 K1
  go_wp2
  refine wp_region_seq (fun W => Kc w (lM w.heap.size (w.heap.size + 1) (w.heap.size + 1 + 1) #[.int .i64 WI, .int .i64 HI, .slice A n c, .int .i64 wI, .int .i64 hI] [0, 0, 0]) W) (by kernel_rfl) (by kernel_rfl) (by kernel_rfl) (K1.drew) ?_
  clear K1
  repeat (
    first
      | (apply seq_val (by rfl); focus (intro W hS; have e0 := hS.cell 0 1 rfl rfl; have e1 := hS.cell 0 4 rfl rfl; go_simp; (try with_reducible rfl); done))
    simp only [Act.put, List.setIfInBounds_toArray, List.set_cons_zero, List.set_cons_succ])
  intro W2 K2
  have KK := Lib.hid K2
  clear K2 a1 a2 a3 a4 a5 b1 b2 b3 b4 b5 zw zw2 zh zh2 r1 r2 r3 r4
  generalize hg2 : w.heap.size + 1 + 1 = g2 at *
  generalize hg1 : w.heap.size + 1 = g1 at *
  have HG := Lib.hid (And.intro hg1 hg2)
  clear hg1 hg2
  go_wp2
  go_loopw [12] (fun v wr => ∃ i : Nat, i ≤ y1 - y0 ∧ v = .int .i64 ((y0 + i : Nat) : Int) ∧ Hid (Kc w (lM w.heap.size g1 g2 #[.int .i64 WI, .int .i64 HI, .slice A n c, .int .i64 wI, .int .i64 hI] (lS F (x1 - x0) i 0)) wr)) (fun v _ => y1 - (RowKit.intOf v).toNat)
  case atStart => exact ⟨0, Nat.zero_le _, rfl, KK⟩
  case round =>
    clear KK
    obtain ⟨i, hi, rfl, KI⟩ := hrel
    by_cases hlt : i < y1 - y0
    · have lt1 : ((y0 + i : Nat) : Int) < (y1 : Int) := by omega
      generalize hr : y0 + i = r at *
      go_wp2
      go_loopw [13] (fun v wr => ∃ k : Nat, k ≤ x1 - x0 ∧ v = .int .i64 ((x0 + k : Nat) : Int) ∧ Hid (Kc w (lM w.heap.size g1 g2 #[.int .i64 WI, .int .i64 HI, .slice A n c, .int .i64 wI, .int .i64 hI] (lS F (x1 - x0) i k)) wr)) (fun v _ => x1 - (RowKit.intOf v).toNat)
      case atStart => exact ⟨0, Nat.zero_le _, rfl, KI⟩
      case round =>
        clear KI
        obtain ⟨k, hk, rfl, KJ⟩ := hrel
        by_cases hlk : k < x1 - x0
        · have lt2 : ((x0 + k : Nat) : Int) < (x1 : Int) := by omega
          have HCC := Lib.hid (fun W hb => HC.out W i k hb hlt hlk)
          rw [hr] at HCC
          have HB0 := Lib.hid (HF.out 0 i k)
          generalize hcc : x0 + k = cc at *
          have HCQ := Lib.hid hcc
          clear hcc
          have HSV : Hid ((Try.prog.info? 46).map (·.size) = some 3) := by
            show _ = _
            kernel_rfl
          have HQ := Lib.hid (KJ.out.get 0 rfl)
          go_wp2_with (first
            | (refine wpList_loadP _ rfl 46 (.tmp 70) rfl _ Try.underlying46 rfl w.heap.size 0 rfl #[.int .i64 WI, .int .i64 HI, .slice A n c] (view_part HQ.out) HSV.out ?_))
          (with_reducible refine (HCC.out _ KJ.out.be).mono ?_); rintro e w1 ⟨rfl, h1⟩
          have K1 := Lib.hid (KJ.out.call h1)
          clear KJ h1 HQ
          have HS1 : Hid (lS F (x1 - x0) i (k + 1) = [sm2 (F 0) (x1 - x0) i k + F 0 i k, sm2 (F 1) (x1 - x0) i k + F 1 i k, sm2 (F 2) (x1 - x0) i k + F 2 i k]) := by
            show lS F (x1 - x0) i (k + 1) = _
            unfold lS
            rw [sm2_step, sm2_step, sm2_step]
          have t0 := HF.out 0 i k
          have t1 := HF.out 1 i k
          have t2 := HF.out 2 i k
          have u0 := sm2_rng (fun i k => HF.out 0 i k) (nx := x1 - x0) (i := i) (k := k) (by omega) (by omega) (by omega)
          have u1 := sm2_rng (fun i k => HF.out 1 i k) (nx := x1 - x0) (i := i) (k := k) (by omega) (by omega) (by omega)
          have u2 := sm2_rng (fun i k => HF.out 2 i k) (nx := x1 - x0) (i := i) (k := k) (by omega) (by omega) (by omega)
          have K2 : Hid (Kc w (lM w.heap.size g1 g2 #[.int .i64 WI, .int .i64 HI, .slice A n c, .int .i64 wI, .int .i64 hI] [sm2 (F 0) (x1 - x0) i k, sm2 (F 1) (x1 - x0) i k, sm2 (F 2) (x1 - x0) i k]) w1) := K1.out
          clear K1 HCC HB0
          generalize sm2 (F 0) (x1 - x0) i k = s0 at *
          generalize sm2 (F 1) (x1 - x0) i k = s1 at *
          generalize sm2 (F 2) (x1 - x0) i k = s2 at *
          generalize F 0 i k = v0 at *
          generalize F 1 i k = v1 at *
          generalize F 2 i k = v2 at *
          have j0 : IntKind.i64.wrap v0 = v0 := IntWalk.i64_in _ (by omega)
          have j1 : IntKind.i64.wrap v1 = v1 := IntWalk.i64_in _ (by omega)
          have j2 : IntKind.i64.wrap v2 = v2 := IntWalk.i64_in _ (by omega)
          have k0 : IntKind.i64.wrap (s0 + v0) = s0 + v0 := IntWalk.i64_in _ (by omega)
          have k1 : IntKind.i64.wrap (s1 + v1) = s1 + v1 := IntWalk.i64_in _ (by omega)
          have k2 : IntKind.i64.wrap (s2 + v2) = s2 + v2 := IntWalk.i64_in _ (by omega)
          have e0 := K2.out.cell 2 0 rfl (v := .int .i64 s0) rfl
          have e1 := K2.out.cell 2 1 rfl (v := .int .i64 s1) rfl
          have e2 := K2.out.cell 2 2 rfl (v := .int .i64 s2) rfl
          have f0 := (K2.out.get 2 rfl).frozen 0
          have f1 := (K2.out.get 2 rfl).frozen 1
          have f2 := (K2.out.get 2 rfl).frozen 2
          go_wp2
          refine wp_loop_rounds 4 ?_
          rw [rounds_succ]
          go_wp2_with (first
            | (refine wpList_indexA _ rfl 48 (.tmp 74) (.tmp 75) rfl 3 5 .u8 Try.underlying48 Try.underlying5 (by kernel_rfl) _ rfl 0 rfl (by omega) (.int .u8 v0) rfl ?_))
          rw [rounds_succ]
          go_wp2_with (first
            | (refine wpList_indexA _ rfl 48 (.tmp 74) (.tmp 75) rfl 3 5 .u8 Try.underlying48 Try.underlying5 (by kernel_rfl) _ rfl 1 rfl (by omega) (.int .u8 v1) rfl ?_))
          rw [rounds_succ]
          go_wp2_with (first
            | (refine wpList_indexA _ rfl 48 (.tmp 74) (.tmp 75) rfl 3 5 .u8 Try.underlying48 Try.underlying5 (by kernel_rfl) _ rfl 2 rfl (by omega) (.int .u8 v2) rfl ?_))
          rw [rounds_succ]
          go_wp2
          have K3 := Lib.hid (mean_put HG K2.out (s0 + v0) (s1 + v1) (s2 + v2))
          go_roundw
          case rel => exact ⟨k + 1, by omega, by rw [← HCQ.out]; go_num, by rw [HS1.out]; exact K3⟩
          case measure =>
            have := HCQ.out
            simp [RowKit.intOf]
            omega
        · obtain rfl : k = x1 - x0 := by omega
          have K9 : Hid (Kc w (lM w.heap.size g1 g2 #[.int .i64 WI, .int .i64 HI, .slice A n c, .int .i64 wI, .int .i64 hI] (lS F (x1 - x0) (i + 1) 0)) wr) := by
            have := KJ.out
            have e : lS F (x1 - x0) i (x1 - x0) = lS F (x1 - x0) (i + 1) 0 := by unfold lS; rw [sm2_row, sm2_row, sm2_row]
            rwa [e] at this
          have g3 : ¬ ((x0 + (x1 - x0) : Nat) : Int) < (x1 : Int) := by omega
          have HX : Hid (x0 + (x1 - x0) = x1) := by show _ = _; omega
          rw [HX.out]
          clear KJ g3
          have HR := Lib.hid hr
          clear hr
          go_wp2
          go_roundw
          case rel => exact ⟨i + 1, by omega, by have := HR.out; go_num, K9⟩
          case measure =>
            have := HR.out
            simp [RowKit.intOf]
            omega
    · obtain rfl : i = y1 - y0 := by omega
      have HX : Hid (y0 + (y1 - y0) = y1) := by show _ = _; omega
      rw [HX.out]
      have K4 : Hid (Kc w (lM w.heap.size g1 g2 #[.int .i64 WI, .int .i64 HI, .slice A n c, .int .i64 wI, .int .i64 hI] [sm2 (F 0) (x1 - x0) (y1 - y0) 0, sm2 (F 1) (x1 - x0) (y1 - y0) 0, sm2 (F 2) (x1 - x0) (y1 - y0) 0]) wr) := KI
      obtain ⟨h01, h02, h03, h04, h05⟩ := HM.out 0
      obtain ⟨h11, h12, h13, h14, h15⟩ := HM.out 1
      obtain ⟨h21, h22, h23, h24, h25⟩ := HM.out 2
      clear KI HM HC HF hlt hi
      generalize sm2 (F 0) (x1 - x0) (y1 - y0) 0 = S0 at *
      generalize sm2 (F 1) (x1 - x0) (y1 - y0) 0 = S1 at *
      generalize sm2 (F 2) (x1 - x0) (y1 - y0) 0 = S2 at *
      generalize hm0 : m 0 = m0 at *
      have HM0 := Lib.hid hm0
      clear hm0
      generalize hm1 : m 1 = m1 at *
      have HM1 := Lib.hid hm1
      clear hm1
      generalize hm2 : m 2 = m2 at *
      have HM2 := Lib.hid hm2
      clear hm2
      have HFR := Lib.hid K4.out.fresh
      have K5 := Lib.hid (K4.out.new (c3 fun _ => 0) 48 wr.heap.size rfl)
      have f0 := (K5.out.get 3 rfl).frozen 0
      have f1 := (K5.out.get 3 rfl).frozen 1
      have f2 := (K5.out.get 3 rfl).frozen 2
      have c0 := K5.out.cell 3 0 rfl (v := .int .u8 0) rfl
      have c1 := K5.out.cell 3 1 rfl (v := .int .u8 0) rfl
      have c2 := K5.out.cell 3 2 rfl (v := .int .u8 0) rfl
      have HS := Lib.hid (size3i S0 S1 S2)
      have HSC := Lib.hid (sizeC fun q => if q = 0 then m0 else if q = 1 then m1 else m2)
      have HOC := Lib.hid (one_c3 fun q => if q = 0 then m0 else if q = 1 then m1 else m2)
      go_wp2_with (first
        | (with_reducible refine wpList_allocZ _ rfl 48 rfl (c3 fun _ => 0) HZ.out ?_)
        | (refine wpList_loadB _ rfl 56 (.tmp 7) rfl _ Try.underlying56 rfl g2 rfl (ia [S0, S1, S2]) (K5.out.get 2 rfl) HS.out ?_))
      generalize wr.alloc (.cells (c3 fun _ => 0) 48) = w5 at *
      refine wp_loop_rounds 4 ?_
      rw [rounds_succ]
      go_wp2_with (first
        | (refine wpList_indexA _ rfl 56 (.tmp 94) (.tmp 95) rfl 3 3 .i64 Try.underlying56 Try.underlying3 (by kernel_rfl) _ rfl 0 rfl (by omega) (.int .i64 S0) rfl ?_))
      rw [rounds_succ]
      go_wp2_with (first
        | (refine wpList_indexA _ rfl 56 (.tmp 94) (.tmp 95) rfl 3 3 .i64 Try.underlying56 Try.underlying3 (by kernel_rfl) _ rfl 1 rfl (by omega) (.int .i64 S1) rfl ?_))
      rw [rounds_succ]
      go_wp2_with (first
        | (refine wpList_indexA _ rfl 56 (.tmp 94) (.tmp 95) rfl 3 3 .i64 Try.underlying56 Try.underlying3 (by kernel_rfl) _ rfl 2 rfl (by omega) (.int .i64 S2) rfl ?_))
      rw [rounds_succ]
      have K6 := Lib.hid (mean_put2 K5.out HFR.out m0 m1 m2 K4.out.be.size)
      clear f0 f1 f2 c0 c1 c2 K5 K4
      go_wp2_with (first
        | (refine wpList_loadB _ rfl 48 (.tmp 16) rfl _ Try.underlying48 rfl wr.heap.size rfl #[.int .u8 m0, .int .u8 m1, .int .u8 m2] (K6.out.get 1 rfl) HSC.out ?_)
        | ((refine wpList_storeB _ rfl 48 (.tmp 6) (.tmp 110) rfl g1 rfl (c3 fun _ => 0) (K6.out.get 0 rfl) #[.int .u8 m0, .int .u8 m1, .int .u8 m2] rfl HSC.out rfl HOC.out ?_)
           intro w3 hb3 hc3 hs3; have B3 := Lib.hid (K6.out.be.trans (hc3.below K6.out.be.size (fun i e => by have := HG.out.1; omega)))))
      refine bodyPost_ret (results_cell rfl _ _ _ Try.underlying48 rfl g1 #[.int .u8 m0, .int .u8 m1, .int .u8 m2] rfl (fun j v hv => hb3.cell hv) HSC.out) rfl ?_
      exact ⟨by rw [HM0.out, HM1.out, HM2.out], B3.out⟩
set_option maxHeartbeats 1000000 in
theorem mean_any (l : List UInt8) (W H : Nat) (hp : Pc l W H) (A : Option Addr) (n c : Nat) (hn : n = l.length) (hnc : n ≤ c) (hcm : c ≤ maxLen) (w : World) (hr : Rd w A l) (bw bh x y : Nat) (hw1 : 1 ≤ bw) (hw2 : bw ≤ W) (hh1 : 1 ≤ bh) (hh2 : bh ≤ H) (hx : x < bw) (hy : y < bh) :
    Calls Try.prog 29 #[.agg #[.int .i64 W, .int .i64 H, .slice A n c, .int .i64 bw, .int .i64 bh], .int .i64 x, .int .i64 y] w fun e w' => e = .returned (.agg (c3 (boxF l W H bw bh x y))) ∧ Below w.heap.size w w' := by
  have hW4 := hp.w2
  have hH4 := hp.h2
  obtain ⟨p1, p2, p3, p4⟩ := quoN (x := x) (show x ≤ 4096 by omega) hW4 hw1 hw2 (by omega)
  obtain ⟨p5, p6, p7, p8⟩ := quoN (x := x + 1) (show x + 1 ≤ 4096 by omega) hW4 hw1 hw2 (by omega)
  obtain ⟨p9, pa, pb', pc⟩ := quoN (x := y) (show y ≤ 4096 by omega) hH4 hh1 hh2 (by omega)
  obtain ⟨pd, pe, pf, pg⟩ := quoN (x := y + 1) (show y + 1 ≤ 4096 by omega) hH4 hh1 hh2 (by omega)
  have hxl : lo9 x W bw < lo9 (x + 1) W bw := lo9_lt (by omega) hw2
  have hyl : lo9 y H bh < lo9 (y + 1) H bh := lo9_lt (by omega) hh2
  have hn0 := bxN_pos (x := x) (y := y) (by omega : 0 < bw) (by omega : 0 < bh) hw2 hh2
  have e1 : IntKind.i64.wrap ((x : Int) + 1) = ((x + 1 : Nat) : Int) := by push_cast; exact IntWalk.i64_in _ (by omega)
  have e2 : IntKind.i64.wrap ((y : Int) + 1) = ((y + 1 : Nat) : Int) := by push_cast; exact IntWalk.i64_in _ (by omega)
  have zw : ¬ (bw : Int) = 0 := by omega
  have zw2 : ((bw : Int) == 0) = false := by rw [beq_eq_false_iff_ne]; exact zw
  have zh : ¬ (bh : Int) = 0 := by omega
  have zh2 : ((bh : Int) == 0) = false := by rw [beq_eq_false_iff_ne]; exact zh
  have hx1 : lo9 (x + 1) W bw ≤ 4096 := Nat.le_trans p8 hW4
  have hy1 : lo9 (y + 1) H bh ≤ 4096 := Nat.le_trans pg hH4
  have hNN : bxN W H bw bh x y = (lo9 (x + 1) W bw - lo9 x W bw) * (lo9 (y + 1) H bh - lo9 y H bh) := rfl
  have hNb : bxN W H bw bh x y ≤ 16777216 := by rw [hNN]; exact nat_mul4 (by omega) (by omega)
  refine mean_walk w W H A n c bw bh x y ((x + 1 : Nat) : Int) ((y + 1 : Nat) : Int) _ _ _ _ ((lo9 (x + 1) W bw - lo9 x W bw : Nat) : Int) ((lo9 (y + 1) H bh - lo9 y H bh : Nat) : Int) (bxN W H bw bh x y : Int) (2 * (bxN W H bw bh x y : Int)) (lo9 x W bw) (lo9 (x + 1) W bw) (lo9 y H bh) (lo9 (y + 1) H bh)
    (fun q i k => bxF l W H bw bh x y q i k) (boxF l W H bw bh x y) hxl hx1 hyl hy1 p1 p2 e1 p5 p6 p9 pa e2 pd pe zw zw2 zh zh2
    (fun W' i k hb hi hk => ?_) (fun q i k => bxF_rng _ _ _ _ _ _ _ _ _ _) ?_ ?_ ?_ ?_ ?_ ?_ (fun q => ?_)
  · have hl1 := lo9_le (x := x) (W := W) (by omega : 0 < bw) hx
    have hl2 := lo9_le (x := y) (W := H) (by omega : 0 < bh) hy
    exact colour_any l W H hp A n c hn hnc hcm W' (hr.below hb) (lo9 x W bw + k) (lo9 y H bh + i) (by omega) (by omega)
  · rw [show (lo9 (x + 1) W bw : Int) - (lo9 x W bw : Int) = ((lo9 (x + 1) W bw - lo9 x W bw : Nat) : Int) by omega]
    exact IntWalk.i64_in _ (by omega)
  · rw [show (lo9 (y + 1) H bh : Int) - (lo9 y H bh : Int) = ((lo9 (y + 1) H bh - lo9 y H bh : Nat) : Int) by omega]
    exact IntWalk.i64_in _ (by omega)
  · rw [← Int.natCast_mul, ← hNN]
    exact IntWalk.i64_in _ (by omega)
  · exact IntWalk.i64_in _ (by omega)
  · omega
  · rw [beq_eq_false_iff_ne]; omega
  · have h1 := sm2_rng (F := bxF l W H bw bh x y q) (bxF_rng l W H bw bh x y q) (nx := lo9 (x + 1) W bw - lo9 x W bw) (i := lo9 (y + 1) H bh - lo9 y H bh) (k := 0) (by omega) (by omega) (by omega)
    have h2 := bxF_all l W H bw bh x y q
    have h3 := boxF_rng (l := l) (c := q) hn0
    have hs : sm2 (fun i k => bxF l W H bw bh x y q i k) (lo9 (x + 1) W bw - lo9 x W bw) (lo9 (y + 1) H bh - lo9 y H bh) 0 = sm2 (bxF l W H bw bh x y q) (lo9 (x + 1) W bw - lo9 x W bw) (lo9 (y + 1) H bh - lo9 y H bh) 0 := rfl
    rw [hs]
    refine ⟨IntWalk.i64_in _ (by omega), IntWalk.i64_in _ (by omega), ?_, h3.1, h3.2⟩
    rw [Int.tdiv_eq_ediv_of_nonneg (by omega), h2]
    rfl
end Go.Proofs.Ytogpnpcdghabmaa
