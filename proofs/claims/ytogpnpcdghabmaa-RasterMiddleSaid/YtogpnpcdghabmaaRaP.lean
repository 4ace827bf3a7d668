/- Contract of the document's Box (written by tools/gen_raP.py). -/
import Derived.Test.YtogpnpcdghabmaaRaO
namespace Go.Proofs.Ytogpnpcdghabmaa
open Go.RowKit Go.Lib
set_option linter.unusedVariables false
set_option maxRecDepth 100000
/-- Where the boxes of a row, of a column begin, as the machine reckons it. -/
theorem quoB {b H y : Nat} (hH : H ≤ 4096) (hy : 1 ≤ y) (hyH : y ≤ H) (hb : b < y) : ∃ P P' : Int, IntKind.i64.wrap ((b : Int) * (H : Int)) = P ∧ P.tdiv (y : Int) = ((lo9 b H y : Nat) : Int) ∧ IntKind.i64.wrap ((lo9 b H y : Nat) : Int) = ((lo9 b H y : Nat) : Int) ∧
    IntKind.i64.wrap (((b : Int) + 1) * (H : Int)) = P' ∧ P'.tdiv (y : Int) = ((lo9 (b + 1) H y : Nat) : Int) ∧ IntKind.i64.wrap ((lo9 (b + 1) H y : Nat) : Int) = ((lo9 (b + 1) H y : Nat) : Int) ∧ lo9 b H y < lo9 (b + 1) H y ∧ lo9 (b + 1) H y ≤ H := by
  obtain ⟨p1, p2, p3, p4⟩ := quoN (x := b) (show b ≤ 4096 by omega) hH hy hyH (by omega)
  obtain ⟨p5, p6, p7, p8⟩ := quoN (x := b + 1) (show b + 1 ≤ 4096 by omega) hH hy hyH (by omega)
  rw [show (((b + 1 : Nat) : Int)) = (b : Int) + 1 by push_cast; rfl] at p5 p6
  exact ⟨_, _, p1, p2, p3, p5, p6, p7, lo9_lt (by omega) hyH, lo9_le (by omega) hb⟩
theorem sum_box {l : List UInt8} {W H x y a b k : Nat} (hx1 : 1 ≤ x) (hx : x ≤ W) (hW : W ≤ 4096) (hy1 : 1 ≤ y) (hy : y ≤ H) (hH : H ≤ 4096) (ha : a < x) (hb : b < y) : ∃ s2 s3 n2 : Int,
    IntKind.i64.wrap (2 * sm2 (bxF l W H x y a b k) (lo9 (a + 1) W x - lo9 a W x) (lo9 (b + 1) H y - lo9 b H y) 0) = s2 ∧ IntKind.i64.wrap (s2 + (((lo9 (a + 1) W x - lo9 a W x) * (lo9 (b + 1) H y - lo9 b H y) + 0 : Nat) : Int)) = s3 ∧
    IntKind.i64.wrap (2 * (((lo9 (a + 1) W x - lo9 a W x) * (lo9 (b + 1) H y - lo9 b H y) + 0 : Nat) : Int)) = n2 ∧ s3.tdiv n2 = boxF l W H x y a b k ∧ ¬ n2 = 0 ∧ (n2 == 0) = false := by
  have hn0 := bxN_pos (x := a) (y := b) (by omega : 0 < x) (by omega : 0 < y) hx hy
  have l1 := lo9_le (x := a) (W := W) (by omega : 0 < x) ha
  have l2 := lo9_le (x := b) (W := H) (by omega : 0 < y) hb
  have h1 := sm2_rng (F := bxF l W H x y a b k) (bxF_rng l W H x y a b k) (nx := lo9 (a + 1) W x - lo9 a W x) (i := lo9 (b + 1) H y - lo9 b H y) (k := 0) (by omega) (by omega) (by omega)
  have h2 := bxF_all l W H x y a b k
  have hNN : bxN W H x y a b = (lo9 (a + 1) W x - lo9 a W x) * (lo9 (b + 1) H y - lo9 b H y) + 0 := rfl
  have hNb : bxN W H x y a b ≤ 16777216 := by rw [hNN]; exact nat_mul4 (by omega) (by omega)
  have hBF : boxF l W H x y a b k = (2 * bxS l W H x y a b k + (bxN W H x y a b : Int)) / (2 * (bxN W H x y a b : Int)) := rfl
  rw [← hNN, hBF, ← h2]
  generalize bxN W H x y a b = N at *
  generalize sm2 (bxF l W H x y a b k) (lo9 (a + 1) W x - lo9 a W x) (lo9 (b + 1) H y - lo9 b H y) 0 = S at *
  refine ⟨2 * S, 2 * S + N, 2 * N, IntWalk.i64_in _ (by omega), IntWalk.i64_in _ (by omega), IntWalk.i64_in _ (by omega), ?_, by omega, by rw [beq_eq_false_iff_ne]; omega⟩
  rw [Int.tdiv_eq_ediv_of_nonneg (by omega)]
set_option maxHeartbeats 16000000 in
theorem rBox_any (l : List UInt8) (W H : Nat) (hp : Pc l W H) (A : Option Addr) (n c : Nat) (hn : n = l.length) (w : World) (hr : Rd w A l) (x y : Nat) (hx1 : 1 ≤ x) (hx : x ≤ W) (hy1 : 1 ≤ y) (hy : y ≤ H) (hxy : 3 * x * y ≤ 65536) :
    Calls Try.prog 20 #[ra W H (.slice A n c), .int .i64 x, .int .i64 y] w fun e w' => ∃ s, e = .returned (ra x y s) ∧ Ob w' w.heap.size s (picL (boxF l W H x y) x y) ∧ Below w.heap.size w w' := by
  have hx4 : x ≤ 4096 := by have := hp.w2; omega
  have hy4 : y ≤ 4096 := by have := hp.h2; omega
  have h2 := hp.w2
  have h4 := hp.h2
  have HBY : Hid (∀ W', Rd W' A l → ∀ u v k : Nat, u < W → v < H → k < 3 → Calls Try.prog 11 #[ra W H (.slice A n c), .int .i64 u, .int .i64 v, .int .i64 k] W' fun e w' => e = .returned (.int .i64 (pb l (at3 W u v k))) ∧ Below W'.heap.size W' w') := fun W' hr' u v k hu hv hk => byte_any l W H hp A n c hn W' hr' u v k hu hv hk
  have HQX := Lib.hid (fun a ha => quoB (b := a) (H := W) (y := x) h2 hx1 hx ha)
  have HQY := Lib.hid (fun b hb => quoB (b := b) (H := H) (y := y) h4 hy1 hy hb)
  have HSB := Lib.hid (fun a b k ha hb => sum_box (l := l) (a := a) (b := b) (k := k) hx1 hx h2 hy1 hy h4 ha hb)
  have HFE : Hid (∀ a b k i j, pb l (at3 W (lo9 a W x + j) (lo9 b H y + i) k) = bxF l W H x y a b k i j) := fun a b k i j => rfl
  have HFR := Lib.hid (fun a b k i j => bxF_rng l W H x y a b k i j)
  have HRG : Hid (∀ a b k, 0 ≤ boxF l W H x y a b k ∧ boxF l W H x y a b k ≤ 255) := fun a b k => boxF_rng (bxN_pos (by omega) (by omega) hx hy)
  have HAL := Lib.hid (picB_all (boxF l W H x y) x y)
  have HST := Lib.hid (fun u v k hu hk => picB_step (boxF l W H x y) (w := x) (x := u) (y := v) (c := k) hu hk)
  have HLN := Lib.hid (fun k => picB_len (boxF l W H x y) x k)
  have HR := Lib.hid hr
  have HSR := Lib.hid (fun s => sizeR (x : Int) (y : Int) s)
  have HZ := Lib.hid zeroR
  have HE := Lib.hid ent_byte
  have HXY := Lib.hid hxy
  have HPCL := Lib.hid (pic_len (boxF l W H x y) x y)
  have HPZ : Hid (picB (boxF l W H x y) x (at3 x 0 0 0) = []) := rfl
  have HW4 := Lib.hid h2
  have HH4 := Lib.hid h4
  have zx : ¬ (x : Int) = 0 := by omega
  have zx2 : ((x : Int) == 0) = false := by rw [beq_eq_false_iff_ne]; exact zx
  have zy : ¬ (y : Int) = 0 := by omega
  have zy2 : ((y : Int) == 0) = false := by rw [beq_eq_false_iff_ne]; exact zy
  generalize picL (boxF l W H x y) x y = PL at *
  generalize picB (boxF l W H x y) x = PB at *
  generalize boxF l W H x y = PF at *
  generalize bxF l W H x y = BF at *
  clear hp hr hn hxy hx hy hx1 hy1 h2 h4
  obtain ⟨WI, hWI⟩ : ∃ k, k = (W : Int) := ⟨_, rfl⟩
  obtain ⟨HI, hHI⟩ : ∃ k, k = (H : Int) := ⟨_, rfl⟩
  obtain ⟨xI, hxI⟩ : ∃ k, k = (x : Int) := ⟨_, rfl⟩
  obtain ⟨yI, hyI⟩ : ∃ k, k = (y : Int) := ⟨_, rfl⟩
  rw [← hWI] at HBY HQX ⊢
  rw [← hHI] at HBY HQY ⊢
  rw [← hxI] at HQX HSR zx zx2 ⊢
  rw [← hyI] at HQY HSR zy zy2 ⊢
  have HXI := Lib.hid hxI
  have HYI := Lib.hid hyI
  clear hWI hHI hxI hyI
  have K0 := Lib.hid ((((Kc.refl w).new #[.int .i64 WI, .int .i64 HI, .slice A n c] 24 w.heap.size rfl).new zR 24 (w.heap.size + 1) (by simp)).new #[.int .i64 xI, .int .i64 yI, .slice none 0 0] 24 (w.heap.size + 1 + 1) (by simp))
  have R0 : Hid (Rp w #[.int .i64 WI, .int .i64 HI, .slice A n c] xI yI (.slice none 0 0) [] _) := Lib.hid ⟨K0.out, Ob.nil _ _⟩
  clear K0
  unfold ra at *
  go_enter Try.func20, Try.ntmps20
  go_wp2
  try simp only [World.size_alloc]
  go_loopw [8] (fun yv wr => ∃ (b : Nat) (v : Value), b ≤ y ∧ yv = .int .i64 b ∧ Hid (Rp w #[.int .i64 WI, .int .i64 HI, .slice A n c] xI yI v (PB (at3 x 0 b 0)) wr)) (fun yv _ => y - (RowKit.intOf yv).toNat)
  case atStart => exact ⟨0, _, Nat.zero_le _, rfl, by rw [HPZ.out]; exact R0⟩
  case round =>
    clear R0
    obtain ⟨b, v0, hb, rfl, RB⟩ := hrel
    by_cases hlt : b < y
    · have hbi : (b : Int) < yI := by have := HYI.out; omega
      go_wp2
      go_loopw [9] (fun xv wr => ∃ (a : Nat) (v : Value), a ≤ x ∧ xv = .int .i64 a ∧ Hid (Rp w #[.int .i64 WI, .int .i64 HI, .slice A n c] xI yI v (PB (at3 x a b 0)) wr)) (fun xv _ => x - (RowKit.intOf xv).toNat)
      case atStart => exact ⟨0, _, Nat.zero_le _, rfl, RB⟩
      case round =>
        clear RB
        obtain ⟨a, v1, ha, rfl, RC⟩ := hrel
        by_cases hla : a < x
        · have hai : (a : Int) < xI := by have := HXI.out; omega
          go_wp2
          go_loopw [10] (fun kv wr => ∃ (k : Nat) (v : Value), k ≤ 3 ∧ kv = .int .i64 k ∧ Hid (Rp w #[.int .i64 WI, .int .i64 HI, .slice A n c] xI yI v (PB (at3 x a b k)) wr)) (fun kv _ => 3 - (RowKit.intOf kv).toNat)
          case atStart => exact ⟨0, _, Nat.zero_le _, rfl, RC⟩
          case round =>
            clear RC
            obtain ⟨k, v, hk, rfl, RD⟩ := hrel
            by_cases hlk : k < 3
            · have hki : (k : Int) < 3 := by omega
              obtain ⟨P1, P2, q1, q2, q3, q4, q5, q6, q7, q8⟩ := HQY.out b hlt
              obtain ⟨P3, P4, r1, r2, r3, r4, r5, r6, r7, r8⟩ := HQX.out a hla
              have HSS := Lib.hid (HSB.out a b k hla hlt)
              have HFF : Hid (∀ i j, pb l (at3 W (lo9 a W x + j) (lo9 b H y + i) k) = BF a b k i j) := fun i j => HFE.out a b k i j
              have HFG : Hid (∀ i j, 0 ≤ BF a b k i j ∧ BF a b k i j ≤ 255) := fun i j => HFR.out a b k i j
              have HX1 : Hid (lo9 (a + 1) W x ≤ W) := r8
              have HY1 : Hid (lo9 (b + 1) H y ≤ H) := q8
              have t1 : lo9 (a + 1) W x ≤ 4096 := Nat.le_trans r8 HW4.out
              have t2 : lo9 (b + 1) H y ≤ 4096 := Nat.le_trans q8 HH4.out
              clear q8 r8
              generalize BF a b k = F at *
              generalize lo9 (a + 1) W x = x1 at *
              generalize lo9 a W x = x0 at *
              generalize lo9 (b + 1) H y = y1 at *
              generalize lo9 b H y = y0 at *
              have e0 := RD.out.k.cell 0 0 rfl rfl
              have e1 := RD.out.k.cell 0 1 rfl rfl
              go_wp2
              clear e0 e1
              go_loopw [13, 11, 12] (fun iv sv nv wr => ∃ (i : Nat), i ≤ y1 - y0 ∧ iv = .int .i64 ((y0 + i : Nat) : Int) ∧ sv = .int .i64 (sm2 F (x1 - x0) i 0) ∧ nv = .int .i64 (((x1 - x0) * i + 0 : Nat) : Int) ∧ Hid (Rp w #[.int .i64 WI, .int .i64 HI, .slice A n c] xI yI v (PB (at3 x a b k)) wr)) (fun iv _ _ _ => y1 - (RowKit.intOf iv).toNat)
              case atStart => exact ⟨0, Nat.zero_le _, rfl, rfl, by rw [Nat.mul_zero]; rfl, RD⟩
              case round =>
                clear RD
                obtain ⟨i, hi, rfl, rfl, rfl, RE⟩ := hrel
                have e0 := RE.out.k.cell 0 0 rfl rfl
                have e1 := RE.out.k.cell 0 1 rfl rfl
                by_cases hli : i < y1 - y0
                · have gi : ((y0 + i : Nat) : Int) < (y1 : Int) := by omega
                  have HRI : Hid (y0 + i < y1) := by show _ < _; omega
                  have HBG := Lib.hid (fun j => sm2_rng (F := F) HFG.out (nx := x1 - x0) (i := i) (k := j))
                  have hyi4 : y0 + i ≤ 4096 := by omega
                  generalize hyi : y0 + i = yi at *
                  have HYI2 := Lib.hid hyi
                  clear hyi
                  go_wp2
                  clear e0 e1
                  go_loopw [14, 11, 12] (fun jv sv nv wr => ∃ (j : Nat), j ≤ x1 - x0 ∧ jv = .int .i64 ((x0 + j : Nat) : Int) ∧ sv = .int .i64 (sm2 F (x1 - x0) i j) ∧ nv = .int .i64 (((x1 - x0) * i + j : Nat) : Int) ∧ Hid (Rp w #[.int .i64 WI, .int .i64 HI, .slice A n c] xI yI v (PB (at3 x a b k)) wr)) (fun jv _ _ _ => x1 - (RowKit.intOf jv).toNat)
                  case atStart => exact ⟨0, Nat.zero_le _, rfl, rfl, rfl, RE⟩
                  case round =>
                    clear RE
                    obtain ⟨j, hj, rfl, rfl, rfl, RF⟩ := hrel
                    have e0 := RF.out.k.cell 0 0 rfl rfl
                    have e1 := RF.out.k.cell 0 1 rfl rfl
                    have e2 := RF.out.k.cell 0 2 rfl rfl
                    by_cases hlj : j < x1 - x0
                    · have gj : ((x0 + j : Nat) : Int) < (x1 : Int) := by omega
                      have HBC := Lib.hid (HBY.out wr (HR.out.below RF.out.k.be) (x0 + j) yi k (by have := HX1.out; omega) (by have := HRI.out; have := HY1.out; omega) hlk)
                      have hg1 := HBG.out j (by omega) (by omega) (by omega)
                      have hg2 := HFG.out i j
                      have HS2 := Lib.hid (sm2_step F (x1 - x0) i j)
                      have hff := HFF.out i j
                      rw [HYI2.out] at hff
                      rw [hff] at HBC
                      clear hff
                      have hn1 : (x1 - x0) * i ≤ 16777216 := nat_mul4 (by omega) (by omega)
                      have hj4 : j ≤ 4096 := by omega
                      generalize sm2 F (x1 - x0) i j = s at *
                      generalize F i j = z at *
                      generalize hxj : x0 + j = xj at *
                      have HXJ := Lib.hid hxj
                      clear hxj
                      generalize hnn : (x1 - x0) * i + j = nn at *
                      have HNN := Lib.hid hnn
                      have hnn2 : nn ≤ 16781312 := by omega
                      clear hnn hn1
                      go_wp2_with (first
                        | (go_at_call 11; (with_reducible refine HBC.out.mono ?_); rintro e w3 ⟨rfl, h3⟩; have R3 := Lib.hid (RF.out.call h3); clear h3))
                      go_roundw
                      case rel => exact ⟨j + 1, by omega, by have := HXJ.out; go_num, by rw [HS2.out], by have := HNN.out; go_num, R3⟩
                      case measure =>
                        have := HXJ.out
                        simp [RowKit.intOf]
                        omega
                    · obtain rfl : j = x1 - x0 := by omega
                      have HXX : Hid (x0 + (x1 - x0) = x1) := by show _ = _; omega
                      have HSR2 := Lib.hid (sm2_row F (x1 - x0) i)
                      have HN2 : Hid ((x1 - x0) * i + (x1 - x0) = (x1 - x0) * (i + 1) + 0) := by show _ = _; rw [Nat.mul_add, Nat.mul_one, Nat.add_zero]
                      rw [HXX.out, HSR2.out, HN2.out]
                      go_wp2
                      go_roundw
                      case rel => exact ⟨i + 1, by omega, by have := HYI2.out; go_num, rfl, rfl, RF⟩
                      case measure =>
                        have := HYI2.out
                        have := HRI.out
                        simp [RowKit.intOf]
                        omega
                · obtain rfl : i = y1 - y0 := by omega
                  have HYY : Hid (y0 + (y1 - y0) = y1) := by show _ = _; omega
                  rw [HYY.out]
                  have hbd := at3_le hla hlt (show k ≤ 3 by omega)
                  have HLL := Lib.hid (HLN.out (at3 x a b k))
                  have HBD : Hid (at3 x a b k ≤ 65536) := by have := HXY.out; show _ ≤ _; omega
                  have HS1 := Lib.hid (HST.out a b k hla hlk)
                  have hz := HRG.out a b k
                  obtain ⟨hz1, hz2⟩ := u8b hz
                  have HZ1 := Lib.hid hz1
                  obtain ⟨s2, s3, n2, u1, u2, u3, u4, u5, u6⟩ := HSS.out
                  have hz3 : IntKind.i64.wrap (PF a b k) = PF a b k := IntWalk.i64_in _ (by omega)
                  clear HSS hbd
                  generalize PF a b k = z at *
                  generalize UInt8.ofNat z.toNat = zb at *
                  clear hz1
                  generalize PB (at3 x a b k) = L at *
                  generalize at3 x a b k = j at *
                  have HLB : Hid (L.length + 1 ≤ 1000000000) := by have := HLL.out; have := HBD.out; show _ ≤ _; omega
                  generalize sm2 F (x1 - x0) (y1 - y0) 0 = s at *
                  generalize (((x1 - x0) * (y1 - y0) + 0 : Nat) : Int) = nn at *
                  go_wp2
                  refine wp_region_seqH 13 (fun W' => Rp w #[.int .i64 WI, .int .i64 HI, .slice A n c] xI yI v L W') (Tp (w.heap.size + 1 + 1 + 1) v (L ++ [zb]))
                    (kvP [some (.pointer (some ⟨w.heap.size + 1 + 1, 2, none⟩)), some v, some (.int .i64 s), some (.int .i64 s2), some (.int .i64 nn), some (.int .i64 s3), some (.int .i64 nn), some (.int .i64 n2), some (.int .i64 z), some (.int .u8 z), none, none, some (.pointer (some ⟨w.heap.size + 1 + 1, 2, none⟩))] (RpP 10 (w.heap.size + 1 + 1 + 1) v (L ++ [zb]) zb)) (by kernel_rfl) (by kernel_rfl) (kvP_st fun i u W W' hT h => RpP.st i u W W' hT h) (RE.out.call ((Below.refl _ _).drew)) ?_
                  simp only [List.take_succ_cons, List.take_zero, List.drop_succ_cons, List.drop_zero]
                  clear e0 e1
                  repeat (
                    first
                      | (refine seqH_val _ rfl w (fun _ => Tp.refl _ _ _ _) (by rfl) ?_ ?_
                         focus (intro U hS; have e3 := hS.k.cell 2 2 rfl rfl; go_simp; (try with_reducible rfl); done))
                    simp only [Act.put, List.setIfInBounds_toArray, List.set_cons_zero, List.set_cons_succ])
                  refine seqH_any (by rfl) ⟨_, _, rpp_ex0 10 (w.heap.size + 1 + 1 + 1) v (L ++ [zb]) zb z HZ1.out wr (fun k e => (RE.out.at_ e).2)⟩ (fun U hS => ⟨_, _, mk1 rfl rfl U, Tp.below ((Below.refl _ _).alloc (Nat.le_refl _) _), hS.call ((Below.refl _ _).alloc (Nat.le_refl _) _), rpp_ex0 10 _ v _ zb z HZ1.out U (fun k e => (hS.at_ e).2)⟩) (fun x44 hx => ?_)
                  simp only [Act.put, List.setIfInBounds_toArray, List.set_cons_zero, List.set_cons_succ]
                  obtain ⟨_, g44, rfl, -, -⟩ := hx
                  refine seqH_anyA (by rfl) (rpp_ex1 10 11 _ (by decide) v (L ++ [zb]) zb w (by have := HLB.out; simp; omega)) (fun U hS hp => ?_) (fun x45 hx => ?_)
                  · obtain ⟨g, hgg, k1, k2⟩ : RpP 10 (w.heap.size + 1 + 1 + 1) v (L ++ [zb]) zb 10 (.slice (some ⟨g44, 0, none⟩) 1 1) U := hp {on := 10, ground := .data} (by simp) rfl
                    injection hgg with hgg
                    injection hgg with hgg
                    injection hgg with hgg
                    subst hgg
                    obtain ⟨v', w', hrun, h1, h2, h3, h4⟩ := run_appK U (w.heap.size + 1 + 1 + 1) v L hS.ob (some ⟨g44, 0, none⟩) [zb] 1 k1 22 HLB.out (by have := hS.k.fresh _ (List.mem_of_getElem? (i := 2) rfl); exact this)
                    exact ⟨v', w', app_valB (s := .tmp 76) (x := .tmp 85) rfl rfl rfl hrun, Tp.grown h3 h4, hS.app h2 h3, h1⟩
                  simp only [Act.put, List.setIfInBounds_toArray, List.set_cons_zero, List.set_cons_succ]
                  obtain ⟨_, hx⟩ := hx
                  obtain ⟨A3, n3, c3', rfl⟩ := Ob.slice hx
                  clear hx
                  refine seqH_val _ rfl w (fun _ => Tp.refl _ _ _ _) (by rfl) ?_ ?_
                  focus (intro U hS; go_simp; (try with_reducible rfl); done)
                  simp only [Act.put, List.setIfInBounds_toArray, List.set_cons_zero, List.set_cons_succ]
                  refine seqH_nil fun U hS hF => ?_
                  have HO : Hid (Ob U (w.heap.size + 1 + 1 + 1) (.slice A3 n3 c3') (L ++ [zb])) := hF 11 (by omega)
                  have R9 := Lib.hid (hS.put HO.out)
                  have e3 := hS.k.cell 2 2 rfl rfl
                  have f3 := (hS.k.get 2 rfl).frozen 2
                  clear hF hS u1 u2 u3 u4 u5 u6 hz3
                  go_wp2
                  go_roundw
                  case rel => exact ⟨k + 1, _, by omega, by go_num, by rw [HS1.out]; exact R9⟩
                  case measure => simp [RowKit.intOf]; omega
            · obtain rfl : k = 3 := by omega
              have R9 : Hid (Rp w #[.int .i64 WI, .int .i64 HI, .slice A n c] xI yI v (PB (at3 x (a + 1) b 0)) wr) := by rw [← at3_nx]; exact RD
              clear RD
              go_wp2
              go_roundw
              case rel => exact ⟨a + 1, _, by omega, by go_num, R9⟩
              case measure => simp [RowKit.intOf]; omega
        · obtain rfl : a = x := by omega
          have hxx : ¬ (a : Int) < xI := by have := HXI.out; omega
          have R9 : Hid (Rp w #[.int .i64 WI, .int .i64 HI, .slice A n c] xI yI v1 (PB (at3 a 0 (b + 1) 0)) wr) := by rw [← at3_ny]; exact RC
          clear RC
          go_wp2
          go_roundw
          case rel => exact ⟨b + 1, _, by omega, by go_num, R9⟩
          case measure => simp [RowKit.intOf]; omega
    · obtain rfl : b = y := by omega
      have hyy : ¬ (b : Int) < yI := by have := HYI.out; omega
      have R9 : Hid (Rp w #[.int .i64 WI, .int .i64 HI, .slice A n c] xI yI v0 PL wr) := by rw [← HAL.out]; exact RB
      clear RB
      obtain ⟨A3, n3, c3', rfl⟩ := Ob.slice R9.out.ob
      have HO1 := Lib.hid (R9.out.ob.one_ra xI yI)
      have HS2 := Lib.hid (HSR.out (.slice A3 n3 c3'))
      have HSE : Hid (zR.size = (#[Value.int .i64 xI, .int .i64 yI, .slice A3 n3 c3']).size) := rfl
      go_wp2_with (first
        | (refine wpList_loadB _ rfl 24 (.tmp 7) rfl _ Try.underlying24 rfl (w.heap.size + 1 + 1) rfl _ (R9.out.k.get 2 rfl) HS2.out ?_)
        | ((refine wpList_storeB _ rfl 24 (.tmp 6) (.tmp 88) rfl (w.heap.size + 1) rfl zR (R9.out.k.get 1 rfl) #[.int .i64 xI, .int .i64 yI, .slice A3 n3 c3'] rfl HS2.out HSE.out HO1.out ?_)
           intro w5 hb5 hc5 hs5))
      refine bodyPost_ret (results_cell rfl _ _ _ Try.underlying24 rfl (w.heap.size + 1) #[.int .i64 xI, .int .i64 yI, .slice A3 n3 c3'] rfl (fun j u hu => hb5.cell hu) HS2.out) rfl ?_
      exact ⟨_, rfl, (R9.out.ob.chg hc5 (fun k hk e => by have := (R9.out.ob.at k hk).1; omega)).mono (by omega), R9.out.k.be.trans (hc5.below R9.out.k.be.size fun i e => by omega)⟩
end Go.Proofs.Ytogpnpcdghabmaa
