/- Contract of built: a picture out of a function of places. -/
import Derived.Test.YtogpnpcdghabmaaRaH
import Derived.Test.YtogpnpcdghabmaaRowB
namespace Go.Proofs.Ytogpnpcdghabmaa
open Go.RowKit Go.Lib
set_option linter.unusedVariables false
set_option maxRecDepth 100000
/-- The first n pixels of a picture. -/
def picT (f : Nat → Nat → Nat → Int) (w n : Nat) : List UInt8 := (List.range (3 * n)).map fun j => UInt8.ofNat (f (j % (3 * w) / 3) (j / (3 * w)) (j % 3)).toNat
theorem picT_all (f : Nat → Nat → Nat → Int) (w h : Nat) : picT f w (h * w) = picL f w h := by unfold picT picL; rw [show 3 * (h * w) = 3 * w * h by rw [Nat.mul_comm h w, Nat.mul_assoc]]
theorem picT_len (f : Nat → Nat → Nat → Int) (w n : Nat) : (picT f w n).length = 3 * n := by simp [picT]
theorem picT_zero (f : Nat → Nat → Nat → Int) (w : Nat) : picT f w 0 = [] := rfl
def px (f : Nat → Int) : List UInt8 := [UInt8.ofNat (f 0).toNat, UInt8.ofNat (f 1).toNat, UInt8.ofNat (f 2).toNat]
theorem picT_step (f : Nat → Nat → Nat → Int) {w x y : Nat} (hx : x < w) : picT f w (y * w + x + 1) = picT f w (y * w + x) ++ px (f x y) := by
  have e : ∀ c, 3 * (y * w + x) + c = at3 w x y c := fun c => by unfold at3; rw [Nat.mul_add, Nat.mul_assoc, Nat.mul_comm y w]
  have hj : ∀ c, c < 3 → (fun j => UInt8.ofNat (f (j % (3 * w) / 3) (j / (3 * w)) (j % 3)).toNat) (3 * (y * w + x) + c) = UInt8.ofNat (f x y c).toNat := fun c hc => by
    show UInt8.ofNat (f ((3 * (y * w + x) + c) % (3 * w) / 3) ((3 * (y * w + x) + c) / (3 * w)) ((3 * (y * w + x) + c) % 3)).toNat = _
    rw [e c, at3_x hx hc, at3_y hx hc, at3_c hx hc]
  unfold picT px
  rw [show 3 * (y * w + x + 1) = 3 * (y * w + x) + 2 + 1 by omega, List.range_succ, List.range_succ, List.range_succ]
  simp only [List.map_append, List.map_cons, List.map_nil, List.append_assoc, List.cons_append, List.nil_append]
  rw [← hj 0 (by omega), ← hj 1 (by omega), ← hj 2 (by omega)]
  rfl
theorem px_row {f : Nat → Int} (h : ∀ c, c < 3 → 0 ≤ f c ∧ f c ≤ 255) : c3 f = ((px f).map bv).toArray := by
  have e : ∀ c, c < 3 → ((UInt8.ofNat (f c).toNat).toNat : Int) = f c := fun c hc => by
    have := h c hc
    rw [UInt8.toNat_ofNat']
    omega
  unfold px c3
  simp only [List.map_cons, List.map_nil, bv]
  rw [e 0 (by omega), e 1 (by omega), e 2 (by omega)]
/-- make([]byte, 0, n). -/
theorem run_makeC (n : Nat) (hn : n ≤ 65536) (w : World) :
    (Instr.makeSlice 22 (.int .i64 0) (.int .i64 (n : Int))).run Try.prog w = .ok (.slice (some ⟨w.heap.size, 0, none⟩) 0 n) (w.alloc (.cells (zeroRow n) 5)) := by
  obtain ⟨i0, hi, hz0, hz1, hz2⟩ := info_parts Try.info5
  have hr := run_make (P := Try.prog) w 22 5 i0 (.int .u8 0) Try.underlying22 hi hz0 .i64 .i64 0 n (by omega) (by omega) (by rw [hz2]; omega) (by omega)
  simp only [Int.toNat_natCast, hz1] at hr
  rw [← zero_made]
  exact hr
theorem Ob.made (w : World) (n base : Nat) (hn : n ≤ maxLen) (hb : base ≤ w.heap.size) : Ob (w.alloc (.cells (zeroRow n) 5)) base (.slice (some ⟨w.heap.size, 0, none⟩) 0 n) [] := by
  refine ⟨by simp, .inr ⟨w.heap.size, n, zeroRow n, rfl, hb, heap_alloc_new w _, Nat.zero_le _, hn, by simp [zeroRow], by simp⟩⟩
/-- A call of a function value. -/
theorem wpList_callV (w : World) {ops : Array Oper} {rest : List Oper} {o : Oper} {a : Act} {Q : Exit → Act → World → Prop} (hgd : o.guard = none) (fo : Operand) (xs : List Operand) (ts : Array TypeId)
    (ho : o.op = .call { callee := .value fo, args := xs.toArray, argTypes := ts }) (f : FuncId) (first cap : Array Value) (hf : a.eval fo = .func (.func f) first cap) (eg : ∀ args w, (callFunc f args).run Try.prog w = .ok (.enter f args) w)
    (B : List Value) (hA : xs.map a.eval = B) {v : Value} (hc : Calls Try.prog f (first ++ B.toArray ++ cap) w fun e w' => e = .returned v ∧ Below w.heap.size w w')
    (h : ∀ w', Below w.heap.size w w' → wpList Try.prog ops Q rest (a.put o.dst v) w') : wpList Try.prog ops Q (o :: rest) a w := by
  refine wpList_plain hgd fun K hK => ?_
  have hr : (execOp a.eval o).run Try.prog w = .ok (.enter f (first ++ B.toArray ++ cap)) w := by
    subst hA
    unfold execOp
    simp only [ho, resolve, hf, Deferred.ofValue, Sem.run_bind, Sem.run_pure, Result.andThen_ok]
    simp [invoke, go_sem, eg]
  unfold Oper.wp
  rw [hr]
  simp only [Oper.upon]
  refine Calls.mono hc fun e w' he => ?_
  obtain ⟨rfl, hb⟩ := he
  exact hK _ _ (h w' hb)
/-- What built's loops hold. -/
structure Bd (w : World) (Z : Array Value) (v : Value) (l : List UInt8) (wr : World) : Prop where
  k : Kc w [(w.heap.size, Z)] wr
  ob : Ob wr (w.heap.size + 1) v l
section
variable {w W W2 W3 : World} {Z : Array Value} {v v2 : Value} {l m : List UInt8}
theorem Bd.call (h : Bd w Z v l W) (hb : Below W.heap.size W W2) : Bd w Z v l W2 := ⟨h.k.call hb, h.ob.below hb⟩
theorem Bd.put (h : Bd w Z v l W) (o : Obj) (hc : Chg (fun k => k = W.heap.size) (W.alloc o) W2) : Bd w Z v l W2 :=
  ⟨(h.k.any o).chg hc (fun p hp e => by have := h.k.fresh p hp; omega) (fun k e => by have := h.k.be.size; omega),
    (h.ob.below ((Below.refl _ _).alloc (Nat.le_refl _) o)).chg hc fun k hk e => by have := (h.ob.at k hk).2; omega⟩
theorem Bd.app (h : Bd w Z v l W) (ho : Ob W2 (w.heap.size + 1) v2 m) (hg : W.grownBy W2 v.ownBlock) : Bd w Z v2 m W2 :=
  ⟨h.k.chg (S := fun k => v.ownBlock = some k) ((Chg.refl _ W).grown hg fun k hk => .inl hk) (fun p hp e => by
      have h1 := (h.ob.at _ e).1
      simp only [List.mem_cons, List.not_mem_nil, or_false] at hp
      subst hp
      have : w.heap.size + 1 ≤ w.heap.size := h1
      omega) (fun k e => by have := (h.ob.at _ e).1; omega), ho⟩
end
theorem Blk.px {w : World} {g : Nat} {f : Nat → Int} (h : Blk w g (c3 f)) (hf : ∀ c, c < 3 → 0 ≤ f c ∧ f c ≤ 255) : Rd w (some ⟨g, 0, none⟩) (px f) := by
  refine .inr ⟨g, 0, rfl, fun i hi => ?_⟩
  rw [Nat.zero_add]
  apply h.cell
  rw [px_row hf, ← bv_bt _ i hi]
  simp [hi]
def zR : Array Value := #[.int .i64 0, .int .i64 0, .slice none 0 0]
theorem zeroR : (Try.prog.info? 24).map (fun i => i.zero) = some (some (.agg zR)) := by kernel_rfl
theorem sizeR (W H : Int) (s : Value) : (Try.prog.info? 24).map (·.size) = some (#[Value.int .i64 W, .int .i64 H, s]).size := by
  show _ = some 3; kernel_rfl
theorem Ob.one_ra {w : World} {base : Nat} {s : Value} {l : List UInt8} (h : Ob w base s l) (W H : Int) : ∀ v ∈ (#[Value.int .i64 W, .int .i64 H, s]).toList, v.oneCell' = true := by
  obtain ⟨A, c, rfl, _⟩ := h.open
  exact Go.Proofs.Ytogpnpcdghabmaa.one_ra W H A _ c
set_option maxHeartbeats 4000000 in
theorem built_any (w : World) (f : FuncId) (first cap : Array Value) (eg : ∀ args w, (callFunc f args).run Try.prog w = .ok (.enter f args) w) (W H : Nat) (hW : W ≤ 4096) (hH : H ≤ 4096) (hn : 3 * W * H ≤ 65536) (F : Nat → Nat → Nat → Int)
    (hF : ∀ x y c, x < W → y < H → c < 3 → 0 ≤ F x y c ∧ F x y c ≤ 255)
    (HC : Hid (∀ W' x y, Below w.heap.size w W' → x < W → y < H → Calls Try.prog f (first ++ #[.int .i64 ((x : Nat) : Int), .int .i64 ((y : Nat) : Int)] ++ cap) W' fun e w' => e = .returned (.agg (c3 (F x y))) ∧ Below W'.heap.size W' w')) :
    Calls Try.prog 28 #[.int .i64 W, .int .i64 H, .func (.func f) first cap] w fun e w' => ∃ s, e = .returned (ra W H s) ∧ Ob w' w.heap.size s (picL F W H) ∧ Below w.heap.size w w' := by
  have m1 := (mulN hW hH).1
  have e3 : ((W * H : Nat) : Int) * 3 = ((3 * W * H : Nat) : Int) := by push_cast; rw [Int.mul_assoc (3 : Int), Int.mul_comm (3 : Int)]
  have m2 : IntKind.i64.wrap (((W * H : Nat) : Int) * 3) = ((3 * W * H : Nat) : Int) := by rw [e3]; exact IntWalk.i64_in _ (by omega)
  clear e3
  have HEG := Lib.hid eg
  have HFF := Lib.hid hF
  have HAL := Lib.hid (picT_all F W H)
  have HZ := Lib.hid zeroR
  have HZC := Lib.hid zeroC
  have HSZ := Lib.hid (sizeR (W : Int) (H : Int))
  have hmk := run_makeC (3 * W * H) hn
  have HLN : Hid (3 * (H * W) ≤ 65536) := by show _ ≤ _; rw [Nat.mul_comm H W, ← Nat.mul_assoc]; exact hn
  generalize picL F W H = PL at *
  clear hF eg
  generalize W * H = p at *
  generalize 3 * W * H = N at *
  have HB0 : Hid (Bd w zR (.slice (some ⟨w.heap.size + 1, 0, none⟩) 0 N) [] ((w.alloc (.cells zR 24)).alloc (.cells (zeroRow N) 5))) := by
    have hk := ((Kc.refl w).new zR 24 w.heap.size rfl).any (.cells (zeroRow N) 5)
    have ho := Ob.made (w.alloc (.cells zR 24)) N (w.heap.size + 1) (by unfold maxLen; omega) (by rw [World.size_alloc]; exact Nat.le_refl _)
    rw [World.size_alloc] at ho
    exact ⟨hk, ho⟩
  go_enter Try.func28, Try.ntmps28
  go_wp2_with (first
    | (with_reducible refine wpList_allocZ _ rfl 24 rfl zR HZ.out ?_))
  clear hmk m1 m2
  go_loopw [17, 7] (fun yv s wr => ∃ (y : Nat) (v : Value), y ≤ H ∧ yv = .int .i64 y ∧ v = s ∧ Hid (Bd w zR v (picT F W (y * W)) wr)) (fun yv _ _ => H - (RowKit.intOf yv).toNat)
  case atStart => exact ⟨0, _, Nat.zero_le _, rfl, rfl, by rw [Nat.zero_mul, picT_zero]; exact HB0⟩
  case round =>
    clear HB0
    obtain ⟨y, v, hy, rfl, rfl, HB⟩ := hrel
    by_cases hlt : y < H
    · have hyi : (y : Int) < (H : Int) := by omega
      go_wp2
      go_loopw [21, 7] (fun xv s wr => ∃ (x : Nat) (v : Value), x ≤ W ∧ xv = .int .i64 x ∧ v = s ∧ Hid (Bd w zR v (picT F W (y * W + x)) wr)) (fun xv _ _ => W - (RowKit.intOf xv).toNat)
      case atStart => exact ⟨0, _, Nat.zero_le _, rfl, rfl, HB⟩
      case round =>
        clear HB
        obtain ⟨x, v, hx, rfl, rfl, HD⟩ := hrel
        by_cases hlx : x < W
        · have hxi : (x : Int) < (W : Int) := by omega
          have HC1 := Lib.hid (HC.out wr x y HD.out.k.be hlx hlt)
          have HST := Lib.hid (picT_step F (y := y) hlx)
          have HNL : Hid (y * W + W ≤ H * W) := by
            show _ ≤ _
            have := Nat.mul_le_mul_right W (show y + 1 ≤ H by omega)
            rw [Nat.add_mul, Nat.one_mul] at this
            exact this
          have HLL : Hid ((picT F W (y * W + x)).length + 3 ≤ 65536) := by
            have h1 := HNL.out
            have h2 := HLN.out
            show _ ≤ _
            rw [picT_len]
            omega
          have HRG := Lib.hid (fun c hc => HFF.out x y c hlx hlt hc)
          have HSC := Lib.hid (sizeC (F x y))
          have HOC := Lib.hid (one_c3 (F x y))
          have HSP : Hid ((c3 fun _ => 0).size = (c3 (F x y)).size) := rfl
          have HP3 : Hid ((px (F x y)).length = 3) := rfl
          have HPX : Hid (∀ (W' : World) g, Blk W' g (c3 (F x y)) → Rd W' (some ⟨g, 0, none⟩) (px (F x y))) := fun W' g h => h.px HRG.out
          clear HNL HRG
          generalize picT F W (y * W + x) = L at *
          generalize c3 (F x y) = C at *
          generalize px (F x y) = R at *
          obtain ⟨Av, cv, rfl, hv1, hv2, hv3, hv4⟩ := HD.out.ob.open
          clear hv1 hv2 hv3 hv4
          go_wp2_with (first
            | ((refine wpList_callV _ rfl (.tmp 24) [.tmp 25, .tmp 26] _ rfl f first cap rfl HEG.out [.int .i64 x, .int .i64 y] rfl HC1.out ?_)
               intro w1 hb1; have D1 := Lib.hid (HD.out.call hb1); clear hb1)
            | (with_reducible refine wpList_allocZ _ rfl 48 rfl (c3 fun _ => 0) HZC.out ?_)
            | ((refine wpList_storeB _ rfl 48 (.tmp 10) (.tmp 27) rfl w1.heap.size rfl (c3 fun _ => 0) (Blk.new w1 _ _) C rfl HSC.out HSP.out HOC.out ?_)
               intro w3 hb3 hc3 hs3; have D3 := Lib.hid (D1.out.put _ hc3); have R3 := Lib.hid (HPX.out _ _ hb3); clear hb3 hc3 hs3)
            | ((at_builtin)
               (refine wpList_appB _ rfl (.tmp 28) (.tmp 29) rfl (w.heap.size + 1) _ L rfl D3.out.ob _ 3 3 R HP3.out.symm rfl R3.out (by have := HLL.out; rw [HP3.out]; omega) (by have := D3.out.k.be.size; have := D3.out.k.fresh _ (List.mem_singleton.2 rfl); exact this) ?_)
               intro v6 w6 ho6 hg6 _; have D6 := Lib.hid (D3.out.app ho6 hg6); clear ho6 hg6))
          go_roundw
          case rel => exact ⟨x + 1, _, by omega, by go_num, rfl, by rw [← Nat.add_assoc, HST.out]; exact D6⟩
          case measure => simp [RowKit.intOf]; omega
        · obtain rfl : x = W := by omega
          have HN : Hid (Bd w zR v (picT F x ((y + 1) * x)) wr) := by
            have e : y * x + x = (y + 1) * x := by rw [Nat.add_mul, Nat.one_mul]
            rw [← e]
            exact HD
          clear HD
          go_wp2
          go_roundw
          case rel => exact ⟨y + 1, _, by omega, by go_num, rfl, HN⟩
          case measure => simp [RowKit.intOf]; omega
    · obtain rfl : y = H := by omega
      have HD : Hid (Bd w zR v PL wr) := by rw [← HAL.out]; exact HB
      clear HB
      obtain ⟨Av, cv, rfl, hv1, hv2, hv3, hv4⟩ := HD.out.ob.open
      clear hv1 hv2 hv3 hv4
      have HO1 := Lib.hid (HD.out.ob.one_ra (W : Int) (y : Int))
      have HS2 := Lib.hid (HSZ.out (.slice Av PL.length cv))
      have HSE : Hid (zR.size = (#[Value.int .i64 (W : Int), .int .i64 (y : Int), .slice Av PL.length cv]).size) := rfl
      go_wp2_with (first
        | ((refine wpList_storeB _ rfl 24 (.tmp 6) (.tmp 36) rfl w.heap.size rfl zR (HD.out.k.get 0 rfl) #[.int .i64 (W : Int), .int .i64 (y : Int), .slice Av PL.length cv] rfl HS2.out HSE.out HO1.out ?_)
           intro w3 hb3 hc3 hs3))
      refine bodyPost_ret (results_cell rfl _ _ _ Try.underlying24 rfl w.heap.size #[.int .i64 (W : Int), .int .i64 (y : Int), .slice Av PL.length cv] rfl (fun j u hu => hb3.cell hu) HS2.out) rfl ?_
      exact ⟨_, rfl, (HD.out.ob.chg hc3 (fun k hk e => by have := (HD.out.ob.at k hk).1; omega)).mono (by omega), HD.out.k.be.trans (hc3.below HD.out.k.be.size fun i e => by omega)⟩
end Go.Proofs.Ytogpnpcdghabmaa
