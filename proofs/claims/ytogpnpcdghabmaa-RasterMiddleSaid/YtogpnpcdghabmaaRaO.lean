/- Contract of the document's Pad (written by tools/gen_raO.py). -/
import Derived.Test.YtogpnpcdghabmaaRaN
namespace Go.Proofs.Ytogpnpcdghabmaa
open Go.RowKit Go.Lib
set_option linter.unusedVariables false
set_option maxRecDepth 100000
theorem ent_byte : ∀ args w, (callFunc 11 args).run Try.prog w = .ok (.enter 11 args) w := enters_of Try.func11 (by kernel_rfl) rfl
theorem u8b {b : Int} (h : 0 ≤ b ∧ b ≤ 255) : b = ((UInt8.ofNat b.toNat).toNat : Int) ∧ IntKind.u8.wrap b = b := by
  constructor
  · rw [UInt8.toNat_ofNat']; omega
  · rw [IntKind.wrap_u8]; omega
theorem rpp_ex0 (i0 base : Nat) (v : Value) (m : List UInt8) (x : UInt8) (b : Int) (hb : b = (x.toNat : Int)) (W : World) (hv : ∀ k, v.ownBlock = some k → k < W.heap.size) : RpP i0 base v m x i0 (.slice (some ⟨W.heap.size, 0, none⟩) 1 1) (W.alloc (.cells #[.int .u8 b] 5)) := by
  unfold RpP
  rw [if_pos rfl]
  exact ⟨_, rfl, Rd.one W 5 b x hb, fun e => by have := hv _ e; omega⟩
def pushN : Nat → World → World
  | 0, w => w
  | n + 1, w => (pushN n w).alloc (.cells #[] 5)
theorem pushN_size (n : Nat) (w : World) : (pushN n w).heap.size = w.heap.size + n := by
  induction n with
  | zero => rfl
  | succ n ih => show ((pushN n w).alloc _).heap.size = _; rw [World.size_alloc, ih]; omega
theorem rpp_ex1 (i0 i base : Nat) (hi : i ≠ i0) (v : Value) (m : List UInt8) (x : UInt8) (w : World) (hm : m.length ≤ 1000000000) : ∃ u W, RpP i0 base v m x i u W := by
  refine ⟨.slice (some ⟨(pushN base w).heap.size, 0, none⟩) m.length m.length, (pushN base w).alloc (.cells (m.map bv).toArray 5), ?_⟩
  unfold RpP
  rw [if_neg hi]
  exact Ob.litL _ _ (by rw [pushN_size]; omega) m hm
set_option maxHeartbeats 8000000 in
theorem rPad_any (l : List UInt8) (W H : Nat) (hp : Pc l W H) (A : Option Addr) (n c : Nat) (hn : n = l.length) (w : World) (hr : Rd w A l) (x y : Nat) (hx4 : x ≤ 4096) (hy4 : y ≤ 4096) (hxy : 3 * x * y ≤ 65536) :
    Calls Try.prog 21 #[ra W H (.slice A n c), .int .i64 x, .int .i64 y] w fun e w' => ∃ s, e = .returned (ra x y s) ∧ Ob w' w.heap.size s (picL (padF l W H) x y) ∧ Below w.heap.size w w' := by
  have h1 := hp.w1
  have h2 := hp.w2
  have h3 := hp.h1
  have h4 := hp.h2
  have HBY : Hid (∀ W', Rd W' A l → ∀ u v k : Nat, k < 3 → Calls Try.prog 11 #[ra W H (.slice A n c), .int .i64 ((min u (W - 1) : Nat) : Int), .int .i64 ((min v (H - 1) : Nat) : Int), .int .i64 k] W' fun e w' => e = .returned (.int .i64 (padF l W H u v k)) ∧ Below W'.heap.size W' w') := fun W' hr' u v k hk => byte_any l W H hp A n c hn W' hr' (min u (W - 1)) (min v (H - 1)) k (by omega) (by omega) hk
  have HMN := Lib.hid (fun u v => rwh W H u v h1 h2 h3 h4)
  have HRG := Lib.hid (fun u v k => padF_rng l W H u v k)
  have HAL := Lib.hid (picB_all (padF l W H) x y)
  have HST := Lib.hid (fun u v k hu hk => picB_step (padF l W H) (w := x) (x := u) (y := v) (c := k) hu hk)
  have HLN := Lib.hid (fun k => picB_len (padF l W H) x k)
  have HR := Lib.hid hr
  have HSR := Lib.hid (fun s => sizeR (x : Int) (y : Int) s)
  have HZ := Lib.hid zeroR
  have HE := Lib.hid ent_byte
  have HXY := Lib.hid hxy
  have HPCL := Lib.hid (pic_len (padF l W H) x y)
  have HPZ : Hid (picB (padF l W H) x (at3 x 0 0 0) = []) := rfl
  generalize picL (padF l W H) x y = PL at *
  generalize picB (padF l W H) x = PB at *
  generalize padF l W H = PF at *
  clear hp hr hn hxy
  have K0 := Lib.hid ((((Kc.refl w).new #[.int .i64 W, .int .i64 H, .slice A n c] 24 w.heap.size rfl).new zR 24 (w.heap.size + 1) (by simp)).new #[.int .i64 x, .int .i64 y, .slice none 0 0] 24 (w.heap.size + 1 + 1) (by simp))
  have R0 : Hid (Rp w #[.int .i64 W, .int .i64 H, .slice A n c] x y (.slice none 0 0) [] _) := Lib.hid ⟨K0.out, Ob.nil _ _⟩
  clear K0
  unfold ra at *
  go_enter Try.func21, Try.ntmps21
  go_wp2
  try simp only [World.size_alloc]
  go_loopw [8] (fun yv wr => ∃ (b : Nat) (v : Value), b ≤ y ∧ yv = .int .i64 b ∧ Hid (Rp w #[.int .i64 W, .int .i64 H, .slice A n c] x y v (PB (at3 x 0 b 0)) wr)) (fun yv _ => y - (RowKit.intOf yv).toNat)
  case atStart => exact ⟨0, _, Nat.zero_le _, rfl, by rw [HPZ.out]; exact R0⟩
  case round =>
    clear R0
    obtain ⟨b, v0, hb, rfl, RB⟩ := hrel
    by_cases hlt : b < y
    · have hbi : (b : Int) < (y : Int) := by omega
      go_wp2
      go_loopw [9] (fun xv wr => ∃ (a : Nat) (v : Value), a ≤ x ∧ xv = .int .i64 a ∧ Hid (Rp w #[.int .i64 W, .int .i64 H, .slice A n c] x y v (PB (at3 x a b 0)) wr)) (fun xv _ => x - (RowKit.intOf xv).toNat)
      case atStart => exact ⟨0, _, Nat.zero_le _, rfl, RB⟩
      case round =>
        clear RB
        obtain ⟨a, v1, ha, rfl, RC⟩ := hrel
        by_cases hla : a < x
        · have hai : (a : Int) < (x : Int) := by omega
          go_wp2
          go_loopw [10] (fun kv wr => ∃ (k : Nat) (v : Value), k ≤ 3 ∧ kv = .int .i64 k ∧ Hid (Rp w #[.int .i64 W, .int .i64 H, .slice A n c] x y v (PB (at3 x a b k)) wr)) (fun kv _ => 3 - (RowKit.intOf kv).toNat)
          case atStart => exact ⟨0, _, Nat.zero_le _, rfl, RC⟩
          case round =>
            clear RC
            obtain ⟨k, v, hk, rfl, RD⟩ := hrel
            by_cases hlk : k < 3
            · have hki : (k : Int) < 3 := by omega
              have hbd := at3_le hla hlt (show k ≤ 3 by omega)
              have HLL := Lib.hid (HLN.out (at3 x a b k))
              have HBD : Hid (at3 x a b k ≤ 65536) := by have := HXY.out; show _ ≤ _; omega
              have HS1 := Lib.hid (HST.out a b k hla hlk)
              have hz := HRG.out a b k
              have HC := Lib.hid (fun W' hr' => HBY.out W' hr' a b k hlk)
              obtain ⟨⟨hw1, hw2⟩, hm1, hm2⟩ := HMN.out a b
              obtain ⟨W1, hW1⟩ : ∃ k, k = (W : Int) - 1 := ⟨_, rfl⟩
              obtain ⟨H1, hH1⟩ : ∃ k, k = (H : Int) - 1 := ⟨_, rfl⟩
              replace hw1 : IntKind.i64.wrap ((W : Int) - 1) = W1 := by rw [hw1, hW1]
              replace hw2 : IntKind.i64.wrap ((H : Int) - 1) = H1 := by rw [hw2, hH1]
              rw [← hW1] at hm1
              rw [← hH1] at hm2
              clear hW1 hH1 hbd
              generalize ((min a (W - 1) : Nat) : Int) = mx at *
              generalize ((min b (H - 1) : Nat) : Int) = my at *
              have HM1 : Hid (∀ (ts : Array TypeId) (T : TypeId) W', (Builtin.min_ ts T #[.int .i64 (a : Int), .int .i64 W1]).run Try.prog W' = .ok (.int .i64 mx) W') := fun ts T W' => run_minI W' ts T _ _ _ hm1
              have HM2 : Hid (∀ (ts : Array TypeId) (T : TypeId) W', (Builtin.min_ ts T #[.int .i64 (b : Int), .int .i64 H1]).run Try.prog W' = .ok (.int .i64 my) W') := fun ts T W' => run_minI W' ts T _ _ _ hm2
              clear hm1 hm2
              obtain ⟨hz1, hz2⟩ := u8b hz
              have HZ1 := Lib.hid hz1
              generalize PF a b k = z at *
              generalize UInt8.ofNat z.toNat = zb at *
              clear hz1
              generalize PB (at3 x a b k) = L at *
              generalize at3 x a b k = j at *
              have HLB : Hid (L.length + 1 ≤ 1000000000) := by have := HLL.out; have := HBD.out; show _ ≤ _; omega
              go_wp2
              refine wp_region_seqH 19 (fun W' => Rp w #[.int .i64 W, .int .i64 H, .slice A n c] x y v L W') (Tp (w.heap.size + 1 + 1 + 1) v (L ++ [zb]))
                (kvP [some (.pointer (some ⟨w.heap.size + 1 + 1, 2, none⟩)), some v, some (.agg #[.int .i64 W, .int .i64 H, .slice A n c]), some (.int .i64 a), some (.pointer (some ⟨w.heap.size, 0, none⟩)), some (.int .i64 W), some (.int .i64 W1), some (.int .i64 mx), some (.int .i64 b), some (.pointer (some ⟨w.heap.size, 1, none⟩)), some (.int .i64 H), some (.int .i64 H1), some (.int .i64 my), some (.int .i64 k), some (.int .i64 z), some (.int .u8 z), none, none, some (.pointer (some ⟨w.heap.size + 1 + 1, 2, none⟩))] (RpP 16 (w.heap.size + 1 + 1 + 1) v (L ++ [zb]) zb)) (by kernel_rfl) (by kernel_rfl) (kvP_st fun i u W W' hT h => RpP.st i u W W' hT h) (RD.out.call ((Below.refl _ _).drew)) ?_
              simp only [List.take_succ_cons, List.take_zero, List.drop_succ_cons, List.drop_zero]
              repeat (
                first
                  | (refine seqH_call _ rfl w 11 #[.agg #[.int .i64 W, .int .i64 H, .slice A n c], .int .i64 mx, .int .i64 my, .int .i64 k] (by rfl) ?_ ?_ ?_
                     focus (intro U; have eg : ∀ args w, (callFunc 11 args).run Try.prog w = .ok (.enter 11 args) w := HE.out; unfold execOp; simp [resolve, invoke, go_sem, eg]; done)
                     focus (intro U hS; exact (HC.out U (HR.out.below hS.k.be)).mono fun e w' h => ⟨h.1, Tp.below h.2, hS.call h.2⟩))
                  | (refine seqH_val _ rfl w (fun _ => Tp.refl _ _ _ _) (by rfl) ?_ ?_
                     focus (intro U hS; have h0 := HM1.out #[3, 3] 3 U; unfold execOp; simp [resolve, invoke, builtin, go_sem, h0]; done))
                  | (refine seqH_val _ rfl w (fun _ => Tp.refl _ _ _ _) (by rfl) ?_ ?_
                     focus (intro U hS; have h0 := HM2.out #[3, 3] 3 U; unfold execOp; simp [resolve, invoke, builtin, go_sem, h0]; done))
                  | (refine seqH_val _ rfl w (fun _ => Tp.refl _ _ _ _) (by rfl) ?_ ?_
                     focus (intro U hS; have e0 := hS.k.cell 0 0 rfl rfl; have e1 := hS.k.cell 0 1 rfl rfl; have e2 := hS.k.cell 0 2 rfl rfl; have e3 := hS.k.cell 2 2 rfl rfl; go_simp; (try with_reducible rfl); done))
                simp only [Act.put, List.setIfInBounds_toArray, List.set_cons_zero, List.set_cons_succ])
              refine seqH_any (by rfl) ⟨_, _, rpp_ex0 16 (w.heap.size + 1 + 1 + 1) v (L ++ [zb]) zb z HZ1.out wr (fun k e => (RD.out.at_ e).2)⟩ (fun U hS => ⟨_, _, mk1 rfl rfl U, Tp.below ((Below.refl _ _).alloc (Nat.le_refl _) _), hS.call ((Below.refl _ _).alloc (Nat.le_refl _) _), rpp_ex0 16 _ v _ zb z HZ1.out U (fun k e => (hS.at_ e).2)⟩) (fun x44 hx => ?_)
              simp only [Act.put, List.setIfInBounds_toArray, List.set_cons_zero, List.set_cons_succ]
              obtain ⟨_, g44, rfl, -, -⟩ := hx
              refine seqH_anyA (by rfl) (rpp_ex1 16 17 _ (by decide) v (L ++ [zb]) zb w (by have := HLB.out; simp; omega)) (fun U hS hp => ?_) (fun x45 hx => ?_)
              · obtain ⟨g, hgg, k1, k2⟩ : RpP 16 (w.heap.size + 1 + 1 + 1) v (L ++ [zb]) zb 16 (.slice (some ⟨g44, 0, none⟩) 1 1) U := hp {on := 16, ground := .data} (by simp) rfl
                injection hgg with hgg
                injection hgg with hgg
                injection hgg with hgg
                subst hgg
                obtain ⟨v', w', hrun, h1, h2, h3, h4⟩ := run_appK U (w.heap.size + 1 + 1 + 1) v L hS.ob (some ⟨g44, 0, none⟩) [zb] 1 k1 22 HLB.out (by have := hS.k.fresh _ (List.mem_of_getElem? (i := 2) rfl); exact this)
                exact ⟨v', w', app_valB (s := .tmp 29) (x := .tmp 44) rfl rfl rfl hrun, Tp.grown h3 h4, hS.app h2 h3, h1⟩
              simp only [Act.put, List.setIfInBounds_toArray, List.set_cons_zero, List.set_cons_succ]
              obtain ⟨_, hx⟩ := hx
              obtain ⟨A3, n3, c3', rfl⟩ := Ob.slice hx
              clear hx
              refine seqH_val _ rfl w (fun _ => Tp.refl _ _ _ _) (by rfl) ?_ ?_
              focus (intro U hS; go_simp; (try with_reducible rfl); done)
              simp only [Act.put, List.setIfInBounds_toArray, List.set_cons_zero, List.set_cons_succ]
              refine seqH_nil fun U hS hF => ?_
              have HO : Hid (Ob U (w.heap.size + 1 + 1 + 1) (.slice A3 n3 c3') (L ++ [zb])) := hF 17 (by omega)
              have R9 := Lib.hid (hS.put HO.out)
              have e3 := hS.k.cell 2 2 rfl rfl
              have f3 := (hS.k.get 2 rfl).frozen 2
              clear hF hS
              go_wp2
              go_roundw
              case rel => exact ⟨k + 1, _, by omega, by go_num, by rw [HS1.out]; exact R9⟩
              case measure => simp [RowKit.intOf]; omega
            · obtain rfl : k = 3 := by omega
              have R9 : Hid (Rp w #[.int .i64 W, .int .i64 H, .slice A n c] x y v (PB (at3 x (a + 1) b 0)) wr) := by rw [← at3_nx]; exact RD
              clear RD
              go_wp2
              go_roundw
              case rel => exact ⟨a + 1, _, by omega, by go_num, R9⟩
              case measure => simp [RowKit.intOf]; omega
        · obtain rfl : a = x := by omega
          have R9 : Hid (Rp w #[.int .i64 W, .int .i64 H, .slice A n c] a y v1 (PB (at3 a 0 (b + 1) 0)) wr) := by rw [← at3_ny]; exact RC
          clear RC
          go_wp2
          go_roundw
          case rel => exact ⟨b + 1, _, by omega, by go_num, R9⟩
          case measure => simp [RowKit.intOf]; omega
    · obtain rfl : b = y := by omega
      have R9 : Hid (Rp w #[.int .i64 W, .int .i64 H, .slice A n c] x b v0 PL wr) := by rw [← HAL.out]; exact RB
      clear RB
      obtain ⟨A3, n3, c3', rfl⟩ := Ob.slice R9.out.ob
      have HO1 := Lib.hid (R9.out.ob.one_ra (x : Int) (b : Int))
      have HS2 := Lib.hid (HSR.out (.slice A3 n3 c3'))
      have HSE : Hid (zR.size = (#[Value.int .i64 (x : Int), .int .i64 (b : Int), .slice A3 n3 c3']).size) := rfl
      go_wp2_with (first
        | (refine wpList_loadB _ rfl 24 (.tmp 7) rfl _ Try.underlying24 rfl (w.heap.size + 1 + 1) rfl _ (R9.out.k.get 2 rfl) HS2.out ?_)
        | ((refine wpList_storeB _ rfl 24 (.tmp 6) (.tmp 47) rfl (w.heap.size + 1) rfl zR (R9.out.k.get 1 rfl) #[.int .i64 (x : Int), .int .i64 (b : Int), .slice A3 n3 c3'] rfl HS2.out HSE.out HO1.out ?_)
           intro w5 hb5 hc5 hs5))
      refine bodyPost_ret (results_cell rfl _ _ _ Try.underlying24 rfl (w.heap.size + 1) #[.int .i64 (x : Int), .int .i64 (b : Int), .slice A3 n3 c3'] rfl (fun j u hu => hb5.cell hu) HS2.out) rfl ?_
      exact ⟨_, rfl, (R9.out.ob.chg hc5 (fun k hk e => by have := (R9.out.ob.at k hk).1; omega)).mono (by omega), R9.out.k.be.trans (hc5.below R9.out.k.be.size fun i e => by omega)⟩
end Go.Proofs.Ytogpnpcdghabmaa
