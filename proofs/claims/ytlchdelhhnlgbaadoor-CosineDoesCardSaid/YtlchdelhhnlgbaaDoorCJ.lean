/- Contracts: transformed (once a closure, by a template), Forward, Inverse. -/
import Derived.Test.YtlchdelhhnlgbaaDoorCI
import Derived.Test.YtlchdelhhnlgbaaDoorDrg
namespace Go.Proofs.YtlchdelhhnlgbaaDoor
open Go.RowKit Go.Lib
set_option linter.unusedVariables false
set_option maxRecDepth 100000
section
variable {P : Program} {ops : Array Oper} {Q : Exit → Act → World → Prop} {md : Region.Mode} {S : World → Prop} {T : World → World → Prop} {Hs : Nat → List Value → Value → World → Prop}
theorem seqG_call {i : Nat} {o : Oper} {rest tail : List Oper} {a : Act} {F : Nat → World → Prop} (hw : Region.wanted o (yielded ops a.tmps) = true)
    (hl : ∀ w, S w → ahead md o F w → (∃ f args, (execOp a.eval o).run P w = .ok (.enter f args) w ∧ Calls P f args w fun e w'' => ∃ v, e = .returned v ∧ T w w'' ∧ S w'' ∧ Hs i (argsOf o a) v w''))
    (h : ∀ v, seqG P md ops Q S T Hs tail (i + 1) rest (a.put o.dst v) (upd F i (Hs i (argsOf o a) v))) : seqG P md ops Q S T Hs tail i (o :: rest) a F :=
  ⟨⟨hw, fun w hS hp => by
    obtain ⟨f, args, h1, h2⟩ := hl w hS hp
    exact .inr (.inr ⟨f, args, w, h1, h2⟩)⟩, h⟩
end
theorem run_callV {o : Oper} {a : Act} (f : FuncId) (xs : List Operand) (ts : Array TypeId) (A : List Value) (ho : o.op = .call { callee := .value (.func f), args := xs.toArray, argTypes := ts })
    (eg : ∀ args w, (callFunc f args).run Tryd.prog w = .ok (.enter f args) w) (hA : xs.map a.eval = A) (w : World) : (execOp a.eval o).run Tryd.prog w = .ok (.enter f A.toArray) w := by
  subst hA
  unfold execOp
  simp [ho, resolve, invoke, go_sem, eg]
/-- A whole table of factors loaded. -/
theorem Blk.ldM {W : World} {g : Nat} {l : List Int} (h : Blk W g (ia l)) (hl : l.length = 64) : (Instr.loadAt 42 (.pointer (some ⟨g, 0, none⟩))).run Tryd.prog W = .ok (.agg (ia l)) W :=
  run_loadAt_mid W g 0 42 (l.map iv) _ h.range Tryd.underlying42 rfl (by rw [List.length_map, hl]; kernel_rfl)
theorem zeroM : (Tryd.prog.info? 42).map (fun i => i.zero) = some (some (.agg (ia zeros))) := by kernel_rfl
theorem sizeM {l : List Int} (h : l.length = 64) : (Tryd.prog.info? 42).map (·.size) = some (ia l).size := by rw [ia_size, h]; kernel_rfl
theorem load_val {o : Oper} {a : Act} {T : TypeId} {x : Operand} {p v : Value} {W : World} (ho : o.op = .load T x) (hx : a.eval x = p) (hl : (Instr.loadAt T p).run Tryd.prog W = .ok v W) : (execOp a.eval o).run Tryd.prog W = .ok (.value v) W := by
  unfold execOp
  simp only [ho, hx, Sem.run_bind, hl, Result.andThen_ok, Sem.run_pure]
theorem alloc_val {o : Oper} {a : Act} {T : TypeId} {Z : Array Value} (ho : o.op = .alloc T) (hz : (Tryd.prog.info? T).map (fun i => i.zero) = some (some (.agg Z))) (W : World) : (execOp a.eval o).run Tryd.prog W = .ok (.value (.pointer (some ⟨W.heap.size, 0, none⟩))) (W.alloc (.cells Z T)) := by
  have hz1 : (zeroValue T).run Tryd.prog W = .ok (.agg Z) W := by
    cases hq : Tryd.prog.info? T with
    | none => rw [hq] at hz; cases hz
    | some i =>
      rw [hq] at hz
      have hi : i.zero = some (.agg Z) := by injection hz
      simp [zeroValue, typeInfo, hq, hi]
  simp [execOp, ho, Instr.alloc, hz1, Result.andThen, newVar, newRow, Value.cells]
/-- What each operation of the sums' region is good for. -/
def hsT (b M : List Int) (G : Nat) : Nat → List Value → Value → World → Prop
  | 0, _, v, _ => v = .agg (ia b)
  | 1, _, v, _ => v = .agg (ia M)
  | 2, _, v, _ => v = .agg (ia (tnL b M))
  | 3, _, v, _ => v = .agg (ia M)
  | 4, _, v, _ => v = .agg (ia (tnL (tnL b M) M))
  | 5, _, v, W => ∃ g, v = .pointer (some ⟨g, 0, none⟩) ∧ Blk W g (ia zeros) ∧ G < g
  | _, _, _, _ => True
theorem hsT_st {b M : List Int} {G : Nat} (i : Nat) (vs : List Value) (v : Value) (W W' : World) (hT : Below W.heap.size W W') (h : hsT b M G i vs v W) : hsT b M G i vs v W' := by
  match i, h with
  | 0, h => exact h
  | 1, h => exact h
  | 2, h => exact h
  | 3, h => exact h
  | 4, h => exact h
  | 5, h => obtain ⟨g, h1, h2, h3⟩ := h; exact ⟨g, h1, h2.below hT, h3⟩
  | n + 6, h => trivial
/-- The transform by the factors M. -/
def trL (b M : List Int) : List Int := mapB fun q => rd ((tnL (tnL b M) M).getD q 0)
theorem trL_len (b M : List Int) : (trL b M).length = 64 := mapB_len _
/-- Rounded up to k. -/
def rdP (s : List Int) (k : Nat) : List Int := (List.range 64).map fun p => if p < k then rd (s.getD p 0) else s.getD p 0
theorem rdP_len (s : List Int) (k : Nat) : (rdP s k).length = 64 := map64_len _
theorem rdP_zero {s : List Int} (hs : s.length = 64) : rdP s 0 = s := ext64 (rdP_len s 0) hs fun k hk => by unfold rdP; rw [map64_getD _ hk, if_neg (by omega)]
theorem rdP_next (s : List Int) {k : Nat} (hk : k < 64) : (rdP s k).set k (rd (s.getD k 0)) = rdP s (k + 1) := by
  refine map64_set hk (if_pos (by omega)) fun p hp hne => ?_
  by_cases h2 : p < k
  · rw [if_pos h2, if_pos (by omega)]
  · rw [if_neg h2, if_neg (by omega)]
theorem rdP_all (s : List Int) : rdP s 64 = mapB fun q => rd (s.getD q 0) := map64_ext fun p hp => if_pos hp
theorem wiB_mono {l : List Int} {a b c d : Int} (h : wiB l a b = true) (h1 : c ≤ a) (h2 : b ≤ d) : wiB l c d = true := wiB_of fun k hk => by
  have := wiB_at h hk
  omega
theorem tn_bnd {b M : List Int} {B : Int} (hb : b.length = 64) (hM : M.length = 64) (hB : 0 ≤ B) (h1 : wiB b (-B) B = true) (h2 : wiB M (-32138) 32138 = true) {q : Nat} (hq : q < 64) : -(8 * (B * 32138)) ≤ (tnL b M).getD q 0 ∧ (tnL b M).getD q 0 ≤ 8 * (B * 32138) := by
  unfold tnL
  rw [mapB_at _ hq]
  have := sm_bnd (f := fun x => b.getD (8 * (q % 8) + x) 0 * M.getD (8 * (q / 8) + x) 0) (C := B * 32138) 8 fun i hi => by
    have c1 := wiB_at h1 (k := 8 * (q % 8) + i) (by omega)
    have c2 := wiB_at h2 (k := 8 * (q / 8) + i) (by omega)
    exact mul_le2 c1.1 c1.2 c2.1 c2.2 hB
  exact this
theorem tn_wi {b M : List Int} (hb : b.length = 64) (hM : M.length = 64) (h1 : wiB b (-32768) 32768 = true) (h2 : wiB M (-32138) 32138 = true) : wiB (tnL b M) (-8589934592) 8589934592 = true := wiB_of fun k hk => by
  rw [tnL_len] at hk
  have := tn_bnd (B := 32768) hb hM (by omega) h1 h2 hk
  omega
theorem tn_wi2 {b M : List Int} (hb : b.length = 64) (hM : M.length = 64) (h1 : wiB b (-32768) 32768 = true) (h2 : wiB M (-32138) 32138 = true) {q : Nat} (hq : q < 64) : -4611686018427387904 ≤ (tnL (tnL b M) M).getD q 0 ∧ (tnL (tnL b M) M).getD q 0 ≤ 4611686018427387904 := by
  have := tn_bnd (B := 8589934592) (tnL_len b M) hM (by omega) (tn_wi hb hM h1 h2) h2 hq
  omega
/-- The factors of cosine.Factor. -/
def kff (p : Nat) : Int := fcI ((p / 8 : Nat) : Int) ((p % 8 : Nat) : Int)
def Kf : List Int := mapB kff
theorem Kf_len : Kf.length = 64 := mapB_len _
theorem Kf_wi : wiB Kf (-32138) 32138 = true := wiB_of fun k hk => by
  rw [Kf_len] at hk
  unfold Kf
  rw [mapB_at _ hk]
  exact fcI_bnd _ _
theorem entf : ∀ args w, (callFunc 7 args).run Tryd.prog w = .ok (.enter 7 args) w := enters_of Tryd.func7 (by kernel_rfl) rfl
set_option maxHeartbeats 16000000 in
theorem trff_yes (b : List Int) (hb : b.length = 64) (h1 : wiB b (-32768) 32768 = true) (w : World) (he : Env w) :
    Calls Tryd.prog 19 #[.agg (ia b), .func (Fn.func 7) #[] #[]] w fun e w' => e = .returned (.tuple #[.agg (ia (trL b Kf)), .int .i64 0]) ∧ Below w.heap.size w w' := by
  obtain ⟨w1, hw1, hb0, hb1, hB⟩ := two_blk w (ia b) (ia zeros) 26 26
  have HZ := Lib.hid zeroB
  have HZM := Lib.hid zeroM
  have K : Hid (Kn w [(w.heap.size, b), (w.heap.size + 1, zeros)] w1) := ⟨fun g l hg => by
    rcases List.mem_cons.1 hg with hg | hg
    · injection hg with h1 h2; subst h1 h2; exact hb0
    · obtain ⟨rfl, rfl⟩ : g = w.heap.size + 1 ∧ l = zeros := by simpa using hg
      exact hb1, hB⟩
  have HSB := Lib.hid (sizeB hb)
  have HWI := Lib.hid (within_any b hb)
  rw [h1] at HWI
  have HE := Lib.hid he
  have hs1 : w1.heap.size = w.heap.size + 1 + 1 := by rw [hw1]; simp
  have HS1 := Lib.hid hs1
  have HBL := Lib.hid hb
  have HW1 := Lib.hid h1
  clear hb0 hb1 hB hb h1 he hs1
  go_enter Tryd.func19, Tryd.ntmps19
  go_wp2_with (first
    | (with_reducible refine wpList_allocZ _ rfl 26 rfl (ia zeros) HZ.out ?_)
    | (rw [← hw1]; (with_reducible refine wpList_loadB _ rfl 26 (.tmp 2) rfl _ Tryd.underlying26 rfl w.heap.size rfl (ia b) (K.out.get 0 rfl) HSB.out ?_))
    | (go_at_call 22; (with_reducible refine (HWI.out _).mono ?_); rintro e w2 ⟨rfl, hb2⟩; replace hb2 : Below w1.heap.size w1 w2 := (by rw [hw1]; simpa using hb2); have K2 := Lib.hid ((K.out.call hb2).new zeros 42); have HS2 := Lib.hid hb2.size; clear hb2)
    | (with_reducible refine wpList_allocZ _ rfl 42 rfl (ia zeros) HZM.out ?_))
  have HG : Hid (w.heap.size + 1 < w2.heap.size) := by have := HS1.out; have := HS2.out; show _ < _; omega
  obtain ⟨w3, hw3⟩ : ∃ w3, w3 = w2.alloc (.cells (ia zeros) 42) := ⟨_, rfl⟩
  rw [← hw3] at K2 ⊢
  clear hw3 hw1 K HWI HS1 HS2
  generalize w2.heap.size = G at *
  clear w2
  go_loopw [16] (fun i wr => ∃ (r : Nat), r ≤ 8 ∧ i = .int .i64 r ∧ Hid (Kn w ([(w.heap.size, b), (w.heap.size + 1, zeros)] ++ [(G, partK kff (8 * r))]) wr)) (fun i _ => 8 - (RowKit.intOf i).toNat)
  case atStart => exact ⟨0, by omega, rfl, (show Hid _ from by show Kn _ _ _; rw [Nat.mul_zero, partK_zero]; exact K2.out)⟩
  case round =>
    clear K2
    rename World => wo
    obtain ⟨r, hr, rfl, K⟩ := hrel
    by_cases hlt : r < 8
    · go_wp2
      generalize decide ((r : Int) < 8) = b9
      go_loopw [19] (fun i wr => ∃ (k : Nat), k ≤ 8 ∧ i = .int .i64 k ∧ Hid (Kn w ([(w.heap.size, b), (w.heap.size + 1, zeros)] ++ [(G, partK kff (8 * r + k))]) wr)) (fun i _ => 8 - (RowKit.intOf i).toNat)
      case atStart => exact ⟨0, by omega, rfl, K⟩
      case round =>
        clear K
        rename World => wi
        obtain ⟨k, hk, rfl, K⟩ := hrel
        by_cases hlt2 : k < 8
        · have HN := Lib.hid (partK_next kff (k := 8 * r + k) (by omega))
          have HP := Lib.hid (partK_len kff (8 * r + k))
          have e0 := K.out.cell 2 rfl (k := r * 8 + k) (by rw [HP.out]; omega) rfl
          have f0 := (K.out.get 2 rfl).frozen (r * 8 + k)
          have HC : Hid (Calls Tryd.prog 7 #[.int .i64 r, .int .i64 k] wi.drew fun e w' => e = .returned (.int .i64 (fcI (r : Int) (k : Int))) ∧ wi.drew = w') := factor_any _ _ _ (HE.out.below K.out.be.drew)
          have HX : Hid (kff (8 * r + k) = fcI (r : Int) (k : Int)) := by
            show _ = _
            unfold kff
            rw [show (8 * r + k) / 8 = r by omega, show (8 * r + k) % 8 = k by omega]
          rw [HX.out] at HN
          have HJ : Hid (r * 8 + k = 8 * r + k) := by show _ = _; omega
          have hr2 : (r : Int) < 8 := by omega
          have hk2 : (k : Int) < 8 := by omega
          clear HX
          generalize fcI (r : Int) (k : Int) = x at *
          generalize (partK kff (8 * r + k)).getD (r * 8 + k) 0 = o at *
          go_wp2
          go_still_tail 8, (by kernel_rfl)
          repeat still_step
          still_call (HC.out.mono fun _ _ h => ⟨h.1, h.2.symm⟩)
          repeat still_step
          refine wpStill_nil ?_
          change wpList _ _ _ _ _ (World.drew _)
          go_wp2
          go_roundw
          case rel => exact ⟨k + 1, by omega, by go_num, (show Hid _ from by show Kn _ _ _; rw [← Nat.add_assoc, ← HN.out]; rw [HJ.out]; first | exact (K.out.drewN _).set (by simp; omega) (by have := HG.out; omega) _ _ | exact (K.out.set (L := [(w.heap.size, b), (w.heap.size + 1, zeros)]) (by have := HG.out; simp; omega) (by have := HG.out; omega) _ _).drewN _)⟩
          case measure => simp [RowKit.intOf]; omega
        · obtain rfl : k = 8 := by omega
          go_wp2
          go_roundw
          case rel => exact ⟨r + 1, by omega, by go_num, (show Hid _ from by show Kn _ _ _; rw [Nat.mul_add, Nat.mul_one]; exact K.out)⟩
          case measure => simp [RowKit.intOf]; omega
    · obtain rfl : r = 8 := by omega
      have HA : Hid (partK kff (8 * 8) = Kf) := partK_all _
      rw [HA.out] at K
      have HTL := Lib.hid (turned_any b Kf HBL.out Kf_len (wiB_mono HW1.out (by omega) (by omega)) Kf_wi)
      have HTU := Lib.hid (turned_any (tnL b Kf) Kf (tnL_len _ _) Kf_len (tn_wi HBL.out Kf_len HW1.out Kf_wi) Kf_wi)
      have HET := Lib.hid (enters_of Tryd.func23 (by kernel_rfl) rfl)
      have HR : Hid (rdP (tnL (tnL b Kf) Kf) 64 = trL b Kf) := rdP_all _
      have HML := Lib.hid Kf_len
      have HRB : Hid (∀ q, q < 64 → -4611686018427387904 ≤ (tnL (tnL b Kf) Kf).getD q 0 ∧ (tnL (tnL b Kf) Kf).getD q 0 ≤ 4611686018427387904) := fun q hq => tn_wi2 HBL.out Kf_len HW1.out Kf_wi hq
      have HTT := Lib.hid (tnL_len (tnL b Kf) Kf)
      have HUL := Lib.hid (trL_len b Kf)
      clear HA HW1 HE HZM
      generalize hKM : Kf = M at *
      have HKM := Lib.hid hKM
      clear hKM
      go_upto_region 13 with fail
      refine wp_region_seqG 6 (Kn w ([(w.heap.size, b), (w.heap.size + 1, zeros)] ++ [(G, M)])) (fun W W' => Below W.heap.size W W') (hsT b M G) (by kernel_rfl) (by kernel_rfl) hsT_st K.out.drew ?_
      simp only [List.take_succ_cons, List.take_zero, List.drop_succ_cons, List.drop_zero]
      refine seqG_cons (by rfl) (fun W hS hp => ⟨.agg (ia b), W, load_val rfl rfl ((hS.get 0 rfl).ld HBL.out), Below.refl _ _, hS, rfl⟩) (fun v0 => ?_)
      simp only [Act.put, List.setIfInBounds_toArray, List.set_cons_zero, List.set_cons_succ]
      refine seqG_cons (by rfl) (fun W hS hp => ⟨.agg (ia M), W, load_val rfl rfl ((hS.get 2 rfl).ldM HML.out), Below.refl _ _, hS, rfl⟩) (fun v1 => ?_)
      simp only [Act.put, List.setIfInBounds_toArray, List.set_cons_zero, List.set_cons_succ]
      refine seqG_call (by rfl) (fun W hS hp => ?_) (fun v2 => ?_)
      · have p0 : v0 = .agg (ia b) := hp { on := 0, ground := .data } (by simp) rfl
        have p1 : v1 = .agg (ia M) := hp { on := 1, ground := .data } (by simp) rfl
        subst p0 p1
        exact ⟨_, _, run_callV 23 _ _ [.agg (ia b), .agg (ia M)] rfl HET.out rfl W, (HTL.out W).mono fun e w2 h => ⟨_, h.1, h.2, hS.call h.2, rfl⟩⟩
      simp only [Act.put, List.setIfInBounds_toArray, List.set_cons_zero, List.set_cons_succ]
      refine seqG_cons (by rfl) (fun W hS hp => ⟨.agg (ia M), W, load_val rfl rfl ((hS.get 2 rfl).ldM HML.out), Below.refl _ _, hS, rfl⟩) (fun v3 => ?_)
      simp only [Act.put, List.setIfInBounds_toArray, List.set_cons_zero, List.set_cons_succ]
      refine seqG_call (by rfl) (fun W hS hp => ?_) (fun v4 => ?_)
      · have p2 : v2 = .agg (ia (tnL b M)) := hp { on := 2, ground := .data } (by simp) rfl
        have p3 : v3 = .agg (ia M) := hp { on := 3, ground := .data } (by simp) rfl
        subst p2 p3
        exact ⟨_, _, run_callV 23 _ _ [.agg (ia (tnL b M)), .agg (ia M)] rfl HET.out rfl W, (HTU.out W).mono fun e w2 h => ⟨_, h.1, h.2, hS.call h.2, rfl⟩⟩
      simp only [Act.put, List.setIfInBounds_toArray, List.set_cons_zero, List.set_cons_succ]
      refine seqG_cons (by rfl) (fun W hS hp => ⟨_, W.alloc (.cells (ia zeros) 26), alloc_val rfl HZ.out W, (Below.refl _ _).alloc (Nat.le_refl _) _, hS.call ((Below.refl _ _).alloc (Nat.le_refl _) _), ⟨_, rfl, Blk.new W _ _, hS.fresh (G, M) (by simp)⟩⟩) (fun v5 => ?_)
      simp only [Act.put, List.setIfInBounds_toArray, List.set_cons_zero, List.set_cons_succ]
      refine seqG_nil fun W hS hF => ?_
      have p4 : v4 = .agg (ia (tnL (tnL b M) M)) := hF 4 (by omega)
      obtain ⟨g, rfl, hg, hGg⟩ : ∃ g, v5 = .pointer (some ⟨g, 0, none⟩) ∧ Blk W g (ia zeros) ∧ G < g := hF 5 (by omega)
      have p0 : v0 = .agg (ia b) := hF 0 (by omega)
      have p1 : v1 = .agg (ia M) := hF 1 (by omega)
      have p2 : v2 = .agg (ia (tnL b M)) := hF 2 (by omega)
      have p3 : v3 = .agg (ia M) := hF 3 (by omega)
      subst p0 p1 p2 p3 p4
      have HST := Lib.hid (sizeB HTT.out)
      have HET2 : Hid ((ia zeros).size = (ia (tnL (tnL b M) M)).size) := same_size zeros_len HTT.out
      have HOT := Lib.hid (one_ia (tnL (tnL b M) M))
      have HGG := Lib.hid hGg
      have HGB := Lib.hid hg
      have HSS := Lib.hid hS
      clear hF hS hg hGg HTL HTU HET K
      refine wpList_storeB _ rfl 26 (.tmp 9) (.tmp 36) rfl g rfl (ia zeros) HGB.out (ia (tnL (tnL b M) M)) rfl HST.out HET2.out HOT.out ?_
      intro W3 hb3 hc3 hs3
      have K3 : Hid (Kn w ([(w.heap.size, b), (w.heap.size + 1, zeros), (G, M)] ++ [(g, rdP (tnL (tnL b M) M) 0)]) W3) := by
        show Kn _ _ _
        rw [rdP_zero HTT.out]
        refine ⟨fun g1 l1 hg1 => ?_, HSS.out.be.trans (hc3.below HSS.out.be.size fun i e => by have := HSS.out.be.size; have := HG.out; have := HGG.out; omega)⟩
        rcases List.mem_append.1 hg1 with hg1 | hg1
        · have hin : (g1, l1) ∈ [(w.heap.size, b), (w.heap.size + 1, zeros)] ++ [(G, M)] := hg1
          refine (HSS.out.blk g1 l1 hin).chg hc3 fun e => ?_
          have a1 := HG.out
          have a2 := HGG.out
          simp at hin
          omega
        · obtain ⟨rfl, rfl⟩ : g1 = g ∧ l1 = tnL (tnL b M) M := by simpa using hg1
          exact hb3
      clear hb3 hc3 hs3 HSS HGB
      generalize tnL (tnL b M) M = s at *
      go_wp2_with (first
        | (with_reducible refine wpList_loadB _ rfl 26 (.tmp 9) rfl _ Tryd.underlying26 rfl g rfl (ia (rdP s 0)) (K3.out.get 3 rfl) (sizeB (rdP_len _ _)) ?_))
      rw [rdP_zero HTT.out]
      go_loopw [38] (fun i wr => ∃ (k : Nat), k ≤ 64 ∧ i = .int .i64 k ∧ Hid (Kn w ([(w.heap.size, b), (w.heap.size + 1, zeros), (G, M)] ++ [(g, rdP s k)]) wr)) (fun i _ => 64 - (RowKit.intOf i).toNat)
      case atStart => exact ⟨0, by omega, rfl, K3⟩
      case round =>
        clear K3
        rename World => wq
        obtain ⟨k, hk, rfl, K⟩ := hrel
        by_cases hlt3 : k < 64
        · have HN := Lib.hid (rdP_next s hlt3)
          have HP := Lib.hid (rdP_len s k)
          have e1 : (ia s)[k]? = some (.int .i64 (s.getD k 0)) := ia_at (by rw [HTT.out]; exact hlt3)
          have e3 := K.out.cell 3 rfl (k := k) (by rw [HP.out]; exact hlt3) rfl
          have f3 := (K.out.get 3 rfl).frozen k
          have hb := HRB.out k hlt3
          have HRD := Lib.hid (round_any (s.getD k 0) hb.1 hb.2)
          clear hb
          generalize (rdP s k).getD k 0 = o at *
          generalize s.getD k 0 = x at *
          generalize rd x = y at *
          go_wp2_with (first
            | (with_reducible refine wpList_indexA _ rfl 26 (.tmp 37) (.tmp 38) rfl 64 3 .i64 Tryd.underlying26 Tryd.underlying3 (by kernel_rfl) (ia s) rfl k rfl hlt3 _ e1 ?_)
            | (go_at_call 24; (with_reducible refine (HRD.out _).mono ?_); rintro e w5 ⟨rfl, rfl⟩))
          go_roundw
          case rel => exact ⟨k + 1, by omega, by go_num, (show Hid _ from by show Kn _ _ _; rw [← HN.out]; exact K.out.set (L := [(w.heap.size, b), (w.heap.size + 1, zeros), (G, M)]) (by have := HG.out; have := HGG.out; simp; omega) (by have := HG.out; have := HGG.out; omega) _ _)⟩
          case measure => simp [RowKit.intOf]; omega
        · obtain rfl : k = 64 := by omega
          rw [HR.out] at K
          have HSU := Lib.hid (sizeB HUL.out)
          have HEU : Hid ((ia zeros).size = (ia (trL b M)).size) := same_size zeros_len HUL.out
          have HOU := Lib.hid (one_ia (trL b M))
          go_wp2_with (first
            | (with_reducible refine wpList_loadB _ rfl 26 (.tmp 9) rfl _ Tryd.underlying26 rfl g rfl (ia (trL b M)) (K.out.get 3 rfl) HSU.out ?_)
            | ((with_reducible refine wpList_storeB _ rfl 26 (.tmp 4) (.tmp 47) rfl (w.heap.size + 1) rfl (ia zeros) (K.out.get 1 rfl) (ia (trL b M)) rfl HSU.out HEU.out HOU.out ?_)
               intro w6 hb6 hc6 hs6))
          refine bodyPost_ret (results_cs rfl _ _ _ Tryd.underlying26 rfl (w.heap.size + 1) (ia (trL b M)) (.int .i64 0) rfl rfl (fun j v hv => hb6.cell hv) HSU.out) rfl ?_
          exact ⟨by rw [HKM.out], K.out.be.trans (hc6.below K.out.be.size (fun i e => by omega))⟩
theorem trff_no (b : List Int) (hb : b.length = 64) (h1 : wiB b (-32768) 32768 = false) (w : World) :
    Calls Tryd.prog 19 #[.agg (ia b), .func (Fn.func 7) #[] #[]] w fun e w' => e = .returned (.tuple #[.agg (ia zeros), .int .i64 1]) ∧ Below w.heap.size w w' := by
  obtain ⟨w1, hw1, hb0, hb1, hB⟩ := two_blk w (ia b) (ia zeros) 26 26
  have HZ := Lib.hid zeroB
  have K0 := Lib.hid hb0
  have K1 := Lib.hid hb1
  have KB := Lib.hid hB
  have HSB := Lib.hid (sizeB hb)
  have HWI := Lib.hid (within_any b hb)
  rw [h1] at HWI
  have HSZ := Lib.hid (sizeB zeros_len)
  have HOZ := Lib.hid (one_ia zeros)
  clear hb0 hb1 hB hb h1
  go_enter Tryd.func19, Tryd.ntmps19
  go_wp2_with (first
    | (with_reducible refine wpList_allocZ _ rfl 26 rfl (ia zeros) HZ.out ?_)
    | (rw [← hw1]; (with_reducible refine wpList_loadB _ rfl 26 (.tmp 2) rfl _ Tryd.underlying26 rfl w.heap.size rfl (ia b) K0.out HSB.out ?_))
    | (go_at_call 22; (with_reducible refine (HWI.out _).mono ?_); rintro e w2 ⟨rfl, hb2⟩; replace hb2 : Below w1.heap.size w1 w2 := (by rw [hw1]; simpa using hb2); have J1 := Lib.hid (K1.out.below hb2); have JB := Lib.hid (KB.out.trans (hb2.mono KB.out.size)); clear hb2)
    | ((refine wpList_storeB _ rfl 26 (.tmp 4) (.tmp 15) rfl (w.heap.size + 1) rfl (ia zeros) J1.out (ia zeros) (by rfl) HSZ.out rfl HOZ.out ?_)
       intro w6 hb6 hc6 hs6))
  refine bodyPost_ret (results_cs rfl _ _ _ Tryd.underlying26 rfl (w.heap.size + 1) (ia zeros) (.int .i64 1) rfl rfl (fun j v hv => hb6.cell hv) HSZ.out) rfl ?_
  exact ⟨rfl, JB.out.trans (hc6.below JB.out.size (fun i e => by omega))⟩
/-- The factors of cosine.Inverse$1. -/
def kfi (p : Nat) : Int := fcI ((p % 8 : Nat) : Int) ((p / 8 : Nat) : Int)
def Ki : List Int := mapB kfi
theorem Ki_len : Ki.length = 64 := mapB_len _
theorem Ki_wi : wiB Ki (-32138) 32138 = true := wiB_of fun k hk => by
  rw [Ki_len] at hk
  unfold Ki
  rw [mapB_at _ hk]
  exact fcI_bnd _ _
theorem enti : ∀ args w, (callFunc 20 args).run Tryd.prog w = .ok (.enter 20 args) w := enters_of Tryd.func20 (by kernel_rfl) rfl
set_option maxHeartbeats 16000000 in
theorem trfi_yes (b : List Int) (hb : b.length = 64) (h1 : wiB b (-32768) 32768 = true) (w : World) (he : Env w) :
    Calls Tryd.prog 19 #[.agg (ia b), .func (Fn.func 20) #[] #[]] w fun e w' => e = .returned (.tuple #[.agg (ia (trL b Ki)), .int .i64 0]) ∧ Below w.heap.size w w' := by
  obtain ⟨w1, hw1, hb0, hb1, hB⟩ := two_blk w (ia b) (ia zeros) 26 26
  have HZ := Lib.hid zeroB
  have HZM := Lib.hid zeroM
  have K : Hid (Kn w [(w.heap.size, b), (w.heap.size + 1, zeros)] w1) := ⟨fun g l hg => by
    rcases List.mem_cons.1 hg with hg | hg
    · injection hg with h1 h2; subst h1 h2; exact hb0
    · obtain ⟨rfl, rfl⟩ : g = w.heap.size + 1 ∧ l = zeros := by simpa using hg
      exact hb1, hB⟩
  have HSB := Lib.hid (sizeB hb)
  have HWI := Lib.hid (within_any b hb)
  rw [h1] at HWI
  have HE := Lib.hid he
  have hs1 : w1.heap.size = w.heap.size + 1 + 1 := by rw [hw1]; simp
  have HS1 := Lib.hid hs1
  have HBL := Lib.hid hb
  have HW1 := Lib.hid h1
  clear hb0 hb1 hB hb h1 he hs1
  go_enter Tryd.func19, Tryd.ntmps19
  go_wp2_with (first
    | (with_reducible refine wpList_allocZ _ rfl 26 rfl (ia zeros) HZ.out ?_)
    | (rw [← hw1]; (with_reducible refine wpList_loadB _ rfl 26 (.tmp 2) rfl _ Tryd.underlying26 rfl w.heap.size rfl (ia b) (K.out.get 0 rfl) HSB.out ?_))
    | (go_at_call 22; (with_reducible refine (HWI.out _).mono ?_); rintro e w2 ⟨rfl, hb2⟩; replace hb2 : Below w1.heap.size w1 w2 := (by rw [hw1]; simpa using hb2); have K2 := Lib.hid ((K.out.call hb2).new zeros 42); have HS2 := Lib.hid hb2.size; clear hb2)
    | (with_reducible refine wpList_allocZ _ rfl 42 rfl (ia zeros) HZM.out ?_))
  have HG : Hid (w.heap.size + 1 < w2.heap.size) := by have := HS1.out; have := HS2.out; show _ < _; omega
  obtain ⟨w3, hw3⟩ : ∃ w3, w3 = w2.alloc (.cells (ia zeros) 42) := ⟨_, rfl⟩
  rw [← hw3] at K2 ⊢
  clear hw3 hw1 K HWI HS1 HS2
  generalize w2.heap.size = G at *
  clear w2
  go_loopw [16] (fun i wr => ∃ (r : Nat), r ≤ 8 ∧ i = .int .i64 r ∧ Hid (Kn w ([(w.heap.size, b), (w.heap.size + 1, zeros)] ++ [(G, partK kfi (8 * r))]) wr)) (fun i _ => 8 - (RowKit.intOf i).toNat)
  case atStart => exact ⟨0, by omega, rfl, (show Hid _ from by show Kn _ _ _; rw [Nat.mul_zero, partK_zero]; exact K2.out)⟩
  case round =>
    clear K2
    rename World => wo
    obtain ⟨r, hr, rfl, K⟩ := hrel
    by_cases hlt : r < 8
    · go_wp2
      generalize decide ((r : Int) < 8) = b9
      go_loopw [19] (fun i wr => ∃ (k : Nat), k ≤ 8 ∧ i = .int .i64 k ∧ Hid (Kn w ([(w.heap.size, b), (w.heap.size + 1, zeros)] ++ [(G, partK kfi (8 * r + k))]) wr)) (fun i _ => 8 - (RowKit.intOf i).toNat)
      case atStart => exact ⟨0, by omega, rfl, K⟩
      case round =>
        clear K
        rename World => wi
        obtain ⟨k, hk, rfl, K⟩ := hrel
        by_cases hlt2 : k < 8
        · have HN := Lib.hid (partK_next kfi (k := 8 * r + k) (by omega))
          have HP := Lib.hid (partK_len kfi (8 * r + k))
          have e0 := K.out.cell 2 rfl (k := r * 8 + k) (by rw [HP.out]; omega) rfl
          have f0 := (K.out.get 2 rfl).frozen (r * 8 + k)
          have HC : Hid (Calls Tryd.prog 20 #[.int .i64 r, .int .i64 k] wi.drew fun e w' => e = .returned (.int .i64 (fcI (k : Int) (r : Int))) ∧ wi.drew = w') := inv_any _ _ _ (HE.out.below K.out.be.drew)
          have HX : Hid (kfi (8 * r + k) = fcI (k : Int) (r : Int)) := by
            show _ = _
            unfold kfi
            rw [show (8 * r + k) / 8 = r by omega, show (8 * r + k) % 8 = k by omega]
          rw [HX.out] at HN
          have HJ : Hid (r * 8 + k = 8 * r + k) := by show _ = _; omega
          have hr2 : (r : Int) < 8 := by omega
          have hk2 : (k : Int) < 8 := by omega
          clear HX
          generalize fcI (k : Int) (r : Int) = x at *
          generalize (partK kfi (8 * r + k)).getD (r * 8 + k) 0 = o at *
          go_wp2
          go_still_tail 8, (by kernel_rfl)
          repeat still_step
          still_call (HC.out.mono fun _ _ h => ⟨h.1, h.2.symm⟩)
          repeat still_step
          refine wpStill_nil ?_
          change wpList _ _ _ _ _ (World.drew _)
          go_wp2
          go_roundw
          case rel => exact ⟨k + 1, by omega, by go_num, (show Hid _ from by show Kn _ _ _; rw [← Nat.add_assoc, ← HN.out]; rw [HJ.out]; first | exact (K.out.drewN _).set (by simp; omega) (by have := HG.out; omega) _ _ | exact (K.out.set (L := [(w.heap.size, b), (w.heap.size + 1, zeros)]) (by have := HG.out; simp; omega) (by have := HG.out; omega) _ _).drewN _)⟩
          case measure => simp [RowKit.intOf]; omega
        · obtain rfl : k = 8 := by omega
          go_wp2
          go_roundw
          case rel => exact ⟨r + 1, by omega, by go_num, (show Hid _ from by show Kn _ _ _; rw [Nat.mul_add, Nat.mul_one]; exact K.out)⟩
          case measure => simp [RowKit.intOf]; omega
    · obtain rfl : r = 8 := by omega
      have HA : Hid (partK kfi (8 * 8) = Ki) := partK_all _
      rw [HA.out] at K
      have HTL := Lib.hid (turned_any b Ki HBL.out Ki_len (wiB_mono HW1.out (by omega) (by omega)) Ki_wi)
      have HTU := Lib.hid (turned_any (tnL b Ki) Ki (tnL_len _ _) Ki_len (tn_wi HBL.out Ki_len HW1.out Ki_wi) Ki_wi)
      have HET := Lib.hid (enters_of Tryd.func23 (by kernel_rfl) rfl)
      have HR : Hid (rdP (tnL (tnL b Ki) Ki) 64 = trL b Ki) := rdP_all _
      have HML := Lib.hid Ki_len
      have HRB : Hid (∀ q, q < 64 → -4611686018427387904 ≤ (tnL (tnL b Ki) Ki).getD q 0 ∧ (tnL (tnL b Ki) Ki).getD q 0 ≤ 4611686018427387904) := fun q hq => tn_wi2 HBL.out Ki_len HW1.out Ki_wi hq
      have HTT := Lib.hid (tnL_len (tnL b Ki) Ki)
      have HUL := Lib.hid (trL_len b Ki)
      clear HA HW1 HE HZM
      generalize hKM : Ki = M at *
      have HKM := Lib.hid hKM
      clear hKM
      go_upto_region 13 with fail
      refine wp_region_seqG 6 (Kn w ([(w.heap.size, b), (w.heap.size + 1, zeros)] ++ [(G, M)])) (fun W W' => Below W.heap.size W W') (hsT b M G) (by kernel_rfl) (by kernel_rfl) hsT_st K.out.drew ?_
      simp only [List.take_succ_cons, List.take_zero, List.drop_succ_cons, List.drop_zero]
      refine seqG_cons (by rfl) (fun W hS hp => ⟨.agg (ia b), W, load_val rfl rfl ((hS.get 0 rfl).ld HBL.out), Below.refl _ _, hS, rfl⟩) (fun v0 => ?_)
      simp only [Act.put, List.setIfInBounds_toArray, List.set_cons_zero, List.set_cons_succ]
      refine seqG_cons (by rfl) (fun W hS hp => ⟨.agg (ia M), W, load_val rfl rfl ((hS.get 2 rfl).ldM HML.out), Below.refl _ _, hS, rfl⟩) (fun v1 => ?_)
      simp only [Act.put, List.setIfInBounds_toArray, List.set_cons_zero, List.set_cons_succ]
      refine seqG_call (by rfl) (fun W hS hp => ?_) (fun v2 => ?_)
      · have p0 : v0 = .agg (ia b) := hp { on := 0, ground := .data } (by simp) rfl
        have p1 : v1 = .agg (ia M) := hp { on := 1, ground := .data } (by simp) rfl
        subst p0 p1
        exact ⟨_, _, run_callV 23 _ _ [.agg (ia b), .agg (ia M)] rfl HET.out rfl W, (HTL.out W).mono fun e w2 h => ⟨_, h.1, h.2, hS.call h.2, rfl⟩⟩
      simp only [Act.put, List.setIfInBounds_toArray, List.set_cons_zero, List.set_cons_succ]
      refine seqG_cons (by rfl) (fun W hS hp => ⟨.agg (ia M), W, load_val rfl rfl ((hS.get 2 rfl).ldM HML.out), Below.refl _ _, hS, rfl⟩) (fun v3 => ?_)
      simp only [Act.put, List.setIfInBounds_toArray, List.set_cons_zero, List.set_cons_succ]
      refine seqG_call (by rfl) (fun W hS hp => ?_) (fun v4 => ?_)
      · have p2 : v2 = .agg (ia (tnL b M)) := hp { on := 2, ground := .data } (by simp) rfl
        have p3 : v3 = .agg (ia M) := hp { on := 3, ground := .data } (by simp) rfl
        subst p2 p3
        exact ⟨_, _, run_callV 23 _ _ [.agg (ia (tnL b M)), .agg (ia M)] rfl HET.out rfl W, (HTU.out W).mono fun e w2 h => ⟨_, h.1, h.2, hS.call h.2, rfl⟩⟩
      simp only [Act.put, List.setIfInBounds_toArray, List.set_cons_zero, List.set_cons_succ]
      refine seqG_cons (by rfl) (fun W hS hp => ⟨_, W.alloc (.cells (ia zeros) 26), alloc_val rfl HZ.out W, (Below.refl _ _).alloc (Nat.le_refl _) _, hS.call ((Below.refl _ _).alloc (Nat.le_refl _) _), ⟨_, rfl, Blk.new W _ _, hS.fresh (G, M) (by simp)⟩⟩) (fun v5 => ?_)
      simp only [Act.put, List.setIfInBounds_toArray, List.set_cons_zero, List.set_cons_succ]
      refine seqG_nil fun W hS hF => ?_
      have p4 : v4 = .agg (ia (tnL (tnL b M) M)) := hF 4 (by omega)
      obtain ⟨g, rfl, hg, hGg⟩ : ∃ g, v5 = .pointer (some ⟨g, 0, none⟩) ∧ Blk W g (ia zeros) ∧ G < g := hF 5 (by omega)
      have p0 : v0 = .agg (ia b) := hF 0 (by omega)
      have p1 : v1 = .agg (ia M) := hF 1 (by omega)
      have p2 : v2 = .agg (ia (tnL b M)) := hF 2 (by omega)
      have p3 : v3 = .agg (ia M) := hF 3 (by omega)
      subst p0 p1 p2 p3 p4
      have HST := Lib.hid (sizeB HTT.out)
      have HET2 : Hid ((ia zeros).size = (ia (tnL (tnL b M) M)).size) := same_size zeros_len HTT.out
      have HOT := Lib.hid (one_ia (tnL (tnL b M) M))
      have HGG := Lib.hid hGg
      have HGB := Lib.hid hg
      have HSS := Lib.hid hS
      clear hF hS hg hGg HTL HTU HET K
      refine wpList_storeB _ rfl 26 (.tmp 9) (.tmp 36) rfl g rfl (ia zeros) HGB.out (ia (tnL (tnL b M) M)) rfl HST.out HET2.out HOT.out ?_
      intro W3 hb3 hc3 hs3
      have K3 : Hid (Kn w ([(w.heap.size, b), (w.heap.size + 1, zeros), (G, M)] ++ [(g, rdP (tnL (tnL b M) M) 0)]) W3) := by
        show Kn _ _ _
        rw [rdP_zero HTT.out]
        refine ⟨fun g1 l1 hg1 => ?_, HSS.out.be.trans (hc3.below HSS.out.be.size fun i e => by have := HSS.out.be.size; have := HG.out; have := HGG.out; omega)⟩
        rcases List.mem_append.1 hg1 with hg1 | hg1
        · have hin : (g1, l1) ∈ [(w.heap.size, b), (w.heap.size + 1, zeros)] ++ [(G, M)] := hg1
          refine (HSS.out.blk g1 l1 hin).chg hc3 fun e => ?_
          have a1 := HG.out
          have a2 := HGG.out
          simp at hin
          omega
        · obtain ⟨rfl, rfl⟩ : g1 = g ∧ l1 = tnL (tnL b M) M := by simpa using hg1
          exact hb3
      clear hb3 hc3 hs3 HSS HGB
      generalize tnL (tnL b M) M = s at *
      go_wp2_with (first
        | (with_reducible refine wpList_loadB _ rfl 26 (.tmp 9) rfl _ Tryd.underlying26 rfl g rfl (ia (rdP s 0)) (K3.out.get 3 rfl) (sizeB (rdP_len _ _)) ?_))
      rw [rdP_zero HTT.out]
      go_loopw [38] (fun i wr => ∃ (k : Nat), k ≤ 64 ∧ i = .int .i64 k ∧ Hid (Kn w ([(w.heap.size, b), (w.heap.size + 1, zeros), (G, M)] ++ [(g, rdP s k)]) wr)) (fun i _ => 64 - (RowKit.intOf i).toNat)
      case atStart => exact ⟨0, by omega, rfl, K3⟩
      case round =>
        clear K3
        rename World => wq
        obtain ⟨k, hk, rfl, K⟩ := hrel
        by_cases hlt3 : k < 64
        · have HN := Lib.hid (rdP_next s hlt3)
          have HP := Lib.hid (rdP_len s k)
          have e1 : (ia s)[k]? = some (.int .i64 (s.getD k 0)) := ia_at (by rw [HTT.out]; exact hlt3)
          have e3 := K.out.cell 3 rfl (k := k) (by rw [HP.out]; exact hlt3) rfl
          have f3 := (K.out.get 3 rfl).frozen k
          have hb := HRB.out k hlt3
          have HRD := Lib.hid (round_any (s.getD k 0) hb.1 hb.2)
          clear hb
          generalize (rdP s k).getD k 0 = o at *
          generalize s.getD k 0 = x at *
          generalize rd x = y at *
          go_wp2_with (first
            | (with_reducible refine wpList_indexA _ rfl 26 (.tmp 37) (.tmp 38) rfl 64 3 .i64 Tryd.underlying26 Tryd.underlying3 (by kernel_rfl) (ia s) rfl k rfl hlt3 _ e1 ?_)
            | (go_at_call 24; (with_reducible refine (HRD.out _).mono ?_); rintro e w5 ⟨rfl, rfl⟩))
          go_roundw
          case rel => exact ⟨k + 1, by omega, by go_num, (show Hid _ from by show Kn _ _ _; rw [← HN.out]; exact K.out.set (L := [(w.heap.size, b), (w.heap.size + 1, zeros), (G, M)]) (by have := HG.out; have := HGG.out; simp; omega) (by have := HG.out; have := HGG.out; omega) _ _)⟩
          case measure => simp [RowKit.intOf]; omega
        · obtain rfl : k = 64 := by omega
          rw [HR.out] at K
          have HSU := Lib.hid (sizeB HUL.out)
          have HEU : Hid ((ia zeros).size = (ia (trL b M)).size) := same_size zeros_len HUL.out
          have HOU := Lib.hid (one_ia (trL b M))
          go_wp2_with (first
            | (with_reducible refine wpList_loadB _ rfl 26 (.tmp 9) rfl _ Tryd.underlying26 rfl g rfl (ia (trL b M)) (K.out.get 3 rfl) HSU.out ?_)
            | ((with_reducible refine wpList_storeB _ rfl 26 (.tmp 4) (.tmp 47) rfl (w.heap.size + 1) rfl (ia zeros) (K.out.get 1 rfl) (ia (trL b M)) rfl HSU.out HEU.out HOU.out ?_)
               intro w6 hb6 hc6 hs6))
          refine bodyPost_ret (results_cs rfl _ _ _ Tryd.underlying26 rfl (w.heap.size + 1) (ia (trL b M)) (.int .i64 0) rfl rfl (fun j v hv => hb6.cell hv) HSU.out) rfl ?_
          exact ⟨by rw [HKM.out], K.out.be.trans (hc6.below K.out.be.size (fun i e => by omega))⟩
theorem trfi_no (b : List Int) (hb : b.length = 64) (h1 : wiB b (-32768) 32768 = false) (w : World) :
    Calls Tryd.prog 19 #[.agg (ia b), .func (Fn.func 20) #[] #[]] w fun e w' => e = .returned (.tuple #[.agg (ia zeros), .int .i64 1]) ∧ Below w.heap.size w w' := by
  obtain ⟨w1, hw1, hb0, hb1, hB⟩ := two_blk w (ia b) (ia zeros) 26 26
  have HZ := Lib.hid zeroB
  have K0 := Lib.hid hb0
  have K1 := Lib.hid hb1
  have KB := Lib.hid hB
  have HSB := Lib.hid (sizeB hb)
  have HWI := Lib.hid (within_any b hb)
  rw [h1] at HWI
  have HSZ := Lib.hid (sizeB zeros_len)
  have HOZ := Lib.hid (one_ia zeros)
  clear hb0 hb1 hB hb h1
  go_enter Tryd.func19, Tryd.ntmps19
  go_wp2_with (first
    | (with_reducible refine wpList_allocZ _ rfl 26 rfl (ia zeros) HZ.out ?_)
    | (rw [← hw1]; (with_reducible refine wpList_loadB _ rfl 26 (.tmp 2) rfl _ Tryd.underlying26 rfl w.heap.size rfl (ia b) K0.out HSB.out ?_))
    | (go_at_call 22; (with_reducible refine (HWI.out _).mono ?_); rintro e w2 ⟨rfl, hb2⟩; replace hb2 : Below w1.heap.size w1 w2 := (by rw [hw1]; simpa using hb2); have J1 := Lib.hid (K1.out.below hb2); have JB := Lib.hid (KB.out.trans (hb2.mono KB.out.size)); clear hb2)
    | ((refine wpList_storeB _ rfl 26 (.tmp 4) (.tmp 15) rfl (w.heap.size + 1) rfl (ia zeros) J1.out (ia zeros) (by rfl) HSZ.out rfl HOZ.out ?_)
       intro w6 hb6 hc6 hs6))
  refine bodyPost_ret (results_cs rfl _ _ _ Tryd.underlying26 rfl (w.heap.size + 1) (ia zeros) (.int .i64 1) rfl rfl (fun j v hv => hb6.cell hv) HSZ.out) rfl ?_
  exact ⟨rfl, JB.out.trans (hc6.below JB.out.size (fun i e => by omega))⟩
end Go.Proofs.YtlchdelhhnlgbaaDoor
