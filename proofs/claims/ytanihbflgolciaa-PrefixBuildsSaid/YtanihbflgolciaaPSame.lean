/- Contract of the document's Same. -/
import Derived.Test.YtanihbflgolciaaFCod
import Derived.Laws.StructEq
namespace Go.Proofs.Ytanihbflgolciaa
open Go.RowKit Go.Lib
set_option linter.unusedVariables false
set_option maxRecDepth 100000

theorem all_range_eqI : ∀ (xs ys : List Int), xs.length = ys.length → ((List.range xs.length).all fun i => xs.getD i 0 == ys.getD i 0) = (xs == ys)
  | [], [], _ => rfl
  | x :: xs, y :: ys, h => by
    have ih := all_range_eqI xs ys (by simpa using h)
    rw [List.length_cons, List.range_succ_eq_map, List.all_cons, List.all_map]
    simp only [List.getD_cons_zero, Function.comp_def, List.getD_cons_succ, ih]
    simp [List.cons_beq_cons]
  | [], _ :: _, h => by simp at h
  | _ :: _, [], h => by simp at h
theorem run_equalIn_ints {P : Program} (w : World) (d : Nat) (t e : TypeId) (n : Nat) (ht : P.underlying t = some (.array n e)) (he : P.underlying e = some (.int .i64)) (hsz : ∀ w, (sizeOf e).run P w = .ok 1 w)
    (xs ys : List Int) (hx : xs.length = n) (hy : ys.length = n) :
    (Op.equalIn (d + 2) t (.agg (ia xs)) (.agg (ia ys))).run P w = .ok (xs == ys) w := by
  rw [← all_range_eqI xs ys (hx.trans hy.symm), hx, List.range_eq_range', Op.equalIn]
  simp only [Sem.run_bind, run_underlying ht, Result.andThen_ok, hsz, Std.Legacy.Range.forIn_eq_forIn_range', Std.Legacy.Range.size, Nat.sub_zero, Nat.add_sub_cancel, Nat.div_one]
  have hl : ∀ i ∈ List.range' 0 n 1, i < n := fun i hi => by simpa using (List.mem_range'_1.1 hi).2
  generalize List.range' 0 n 1 = l at hl ⊢
  induction l with
  | nil => simp
  | cons i l ih =>
    have hi : i < n := hl i (by simp)
    have px : (part e (ia xs) (i * 1)).run P w = .ok (.int .i64 (xs.getD i 0)) w := by
      have := ia_at (l := xs) (j := i) (by omega)
      simp [part, isAgg, run_underlying he, this]
    have py : (part e (ia ys) (i * 1)).run P w = .ok (.int .i64 (ys.getD i 0)) w := by
      have := ia_at (l := ys) (j := i) (by omega)
      simp [part, isAgg, run_underlying he, this]
    have pe : (Op.equalIn (d + 1) e (.int .i64 (xs.getD i 0)) (.int .i64 (ys.getD i 0))).run P w = .ok (xs.getD i 0 == ys.getD i 0) w := run_equalIn_int w d e .i64 .i64 _ _ he
    simp only [List.forIn_cons, Sem.run_bind, px, py, pe, Result.andThen_ok, List.all_cons]
    cases hb : (xs.getD i 0 == ys.getD i 0)
    · simp
    · simp only [Bool.not_true, Bool.false_eq_true, if_false, Sem.run_pure, Result.andThen_ok, Bool.true_and]
      exact ih fun j hj => hl j (by simp [hj])
theorem sizeInt (w : World) : (sizeOf 3).run Try.prog w = .ok 1 w := by
  obtain ⟨i0, hi, hz0, hz1, hz2⟩ := info_parts Try.info3
  simp [sizeOf, typeInfo, hi, hz1]
theorem run_neq16 (w : World) (l m : List Int) (hl : l.length = 16) (hm : m.length = 16) : (binOp .neq 22 (.agg (ia l)) (.agg (ia m))).run Try.prog w = .ok (.bool (!(l == m))) w := by
  rw [run_neq_struct, run_equalIn_ints w 9998 22 3 16 Try.underlying22 Try.underlying3 sizeInt l m hl hm]
  rfl
/-- '!=' of two arrays of sixteen counts. -/
theorem wpList_neqA (w : World) {ops : Array Oper} {rest : List Oper} {o : Oper} {a : Act} {Q : Exit → Act → World → Prop} (hgd : o.guard = none) (x y : Operand) (ho : o.op = .binOp .neq 22 x y 22)
    (l m : List Int) (hx : a.eval x = .agg (ia l)) (hy : a.eval y = .agg (ia m)) (hl : l.length = 16) (hm : m.length = 16)
    (h : wpList Try.prog ops Q rest (a.put o.dst (.bool (!(l == m)))) w) : wpList Try.prog ops Q (o :: rest) a w := by
  refine wpList_plain hgd fun K hK => ?_
  have hg : (eqGuard .neq 22 x y (.agg (ia l)) (.agg (ia m))).run Try.prog w = .ok () w := run_eqGuard_agg w .neq 22 x y _ _ (by kernel_rfl)
  have hr := run_neq16 w l m hl hm
  unfold Oper.wp
  simp [execOp, ho, hx, hy, hg, hr, Result.andThen]
  exact hK _ _ h
theorem arr16 {Y : Array Value} {cs : List Int} (hs : Y.size = 16) (hc : cs.length = 16) (h : ∀ k, k < 16 → Y[k]? = some (.int .i64 (cs.getD k 0))) : Y = ia cs := by
  apply Array.ext_getElem?
  intro i
  by_cases hi : i < 16
  · rw [h i hi, ia_at (by omega)]
  · rw [Array.getElem?_eq_none (by omega), Array.getElem?_eq_none (by rw [ia_size]; omega)]

def sameB (cs ds l m : List Int) : Bool := decide (cs = ds ∧ l = m)
theorem sameB_no {cs ds l m : List Int} (h : ¬ (cs = ds ∧ l = m)) : sameB cs ds l m = false := decide_eq_false h
theorem sameB_yes {cs ds l m : List Int} (h : cs = ds ∧ l = m) : sameB cs ds l m = true := decide_eq_true h
set_option maxHeartbeats 2000000 in
theorem rSame_any (X Y : Array Value) (cs ds : List Int) (l m : List Int) (A B : Option Addr) (c d : Nat) (w : World) (hX : Hv X cs (.slice A l.length c)) (hY : Hv Y ds (.slice B m.length d)) (hcs : cs.length = 16) (hds : ds.length = 16) (hr : Ri w A l) (hrm : Ri w B m) (hl : l.length ≤ 100000) (hml : m.length ≤ 100000) :
    Calls Try.prog 14 #[.agg X, .agg Y] w fun e w' => e = .returned (.bool (sameB cs ds l m)) ∧ Below w.heap.size w w' := by
  obtain ⟨C, hC1, hC2, hC3⟩ := hX.counts
  obtain ⟨D, hD1, hD2, hD3⟩ := hY.counts
  have hC := arr16 hC1 hcs hC2
  have hD := arr16 hD1 hds hD2
  subst hC hD
  have HW := Lib.hid (((Below.refl w.heap.size w).alloc (Nat.le_refl _) (.cells X 25)).alloc (by simp) (.cells Y 25))
  have hB1 := (Blk.new w X 25).alloc (.cells Y 25)
  have hB2 : Blk ((w.alloc (.cells X 25)).alloc (.cells Y 25)) (w.heap.size + 1) Y := by
    have := Blk.new (w.alloc (.cells X 25)) Y 25
    simp only [World.size_alloc] at this
    exact this
  have HL1 : Hid (∀ (j : Nat) (v : Value), (ia cs)[j]? = some v → ((w.alloc (.cells X 25)).alloc (.cells Y 25)).cell? ⟨w.heap.size, 0 + j, none⟩ = some v) := fun j v hv => by rw [Nat.zero_add]; exact hB1.cell (hC3 j v hv)
  have HL2 : Hid (∀ (j : Nat) (v : Value), (ia ds)[j]? = some v → ((w.alloc (.cells X 25)).alloc (.cells Y 25)).cell? ⟨w.heap.size + 1, 0 + j, none⟩ = some v) := fun j v hv => by rw [Nat.zero_add]; exact hB2.cell (hD3 j v hv)
  have e1 := hB1.cell hX.syms
  have e2 := hB2.cell hY.syms
  have HS1 : Hid ((Try.prog.info? 22).map (·.size) = some (ia cs).size) := by show _ = _; rw [ia_size, hcs]; kernel_rfl
  have HS2 : Hid ((Try.prog.info? 22).map (·.size) = some (ia ds).size) := by show _ = _; rw [ia_size, hds]; kernel_rfl
  have HR := Lib.hid (hr.below HW.out)
  have HRM := Lib.hid (hrm.below HW.out)
  have HCS := Lib.hid hcs
  have HDS := Lib.hid hds
  clear hX hY hC1 hC2 hC3 hD1 hD2 hD3 hr hrm hB1 hB2 hcs hds
  go_enter Try.func14, Try.ntmps14
  by_cases hcd : cs = ds
  · subst hcd
    have hbb : (!(cs == cs)) = false := by simp
    by_cases hlm : l.length = m.length
    · go_wp2_with (first
        | (with_reducible refine wpList_loadP _ rfl 22 (.tmp 6) rfl _ Try.underlying22 rfl w.heap.size 0 rfl (ia cs) HL1.out HS1.out ?_)
        | (with_reducible refine wpList_loadP _ rfl 22 (.tmp 8) rfl _ Try.underlying22 rfl (w.heap.size + 1) 0 rfl (ia cs) HL2.out HS2.out ?_)
        | (with_reducible refine wpList_neqA _ rfl (.tmp 7) (.tmp 9) rfl cs cs rfl rfl HCS.out HDS.out ?_
           rw [hbb]))
      obtain ⟨w1, hw1⟩ : ∃ w1, w1 = (w.alloc (.cells X 25)).alloc (.cells Y 25) := ⟨_, rfl⟩
      rw [← hw1] at HR HRM HW e1 e2 ⊢
      clear hw1 HL1 HL2
      go_loopw [5] (fun i wr => ∃ (k : Nat), k ≤ l.length ∧ i = .int .i64 k ∧ Hid (∀ j, j < k → l.getD j 0 = m.getD j 0) ∧ ∃ N, wr = w1.drewN N) (fun i _ => l.length - (RowKit.intOf i).toNat)
      case atStart => exact ⟨0, Nat.zero_le _, rfl, (show Hid _ from fun j hj => absurd hj (Nat.not_lt_zero _)), 0, rfl⟩
      case round =>
        obtain ⟨k, hk, rfl, HE, N, rfl⟩ := hrel
        by_cases hlt : k < l.length
        · obtain ⟨b, o, hAb, hc⟩ : ∃ b o, A = some ⟨b, o, none⟩ ∧ ∀ i, i < l.length → w1.cell? ⟨b, o + i, none⟩ = some (.int .i64 (l.getD i 0)) := by
            rcases HR.out with h | h
            · rw [h] at hlt; simp at hlt
            · exact h
          obtain ⟨b2, o2, hBb, hc2⟩ : ∃ b o, B = some ⟨b, o, none⟩ ∧ ∀ i, i < m.length → w1.cell? ⟨b, o + i, none⟩ = some (.int .i64 (m.getD i 0)) := by
            rcases HRM.out with h | h
            · rw [h] at hlm; simp at hlm; rw [hlm] at hlt; simp at hlt
            · exact h
          subst hAb hBb
          have f1 := hc k hlt
          have f2 := hc2 k (by omega)
          clear hc hc2
          generalize hx : l.getD k 0 = x at *
          generalize hy : m.getD k 0 = y at *
          have HX := Lib.hid hx
          have HY := Lib.hid hy
          clear hx hy
          have hml' : k < m.length := by omega
          by_cases hxy : x = y
          · have hq : (x != y) = false := by simp [hxy]
            have HQ := Lib.hid hxy
            clear hxy
            go_wp2
            go_quiet (fail)
            go_wp2
            go_roundw
            case rel =>
              refine ⟨k + 1, by omega, by go_num, (show Hid _ from fun j hj => ?_), _, rfl⟩
              by_cases hjk : j = k
              · subst hjk
                rw [HX.out, HY.out]
                exact HQ.out
              · exact HE.out j (by omega)
            case measure => simp [RowKit.intOf]; omega
          · have hq : (x != y) = true := by simp [hxy]
            have hf : Hid (sameB cs cs l m = false) := by
              refine sameB_no ?_
              rintro ⟨_, rfl⟩
              exact hxy (HX.out.symm.trans HY.out)
            clear hxy
            go_wp2
            go_quiet (fail)
            go_wp2
            go_ret
            rw [hf.out]
            exact ⟨rfl, dN (dN HW.out _) _⟩
        · obtain rfl : k = l.length := by omega
          have hf : Hid (sameB cs cs l m = true) := by
            refine sameB_yes ⟨rfl, List.ext_getElem hlm fun i h1 h2 => ?_⟩
            have := HE.out i h1
            rwa [List.getD_eq_getElem?_getD, List.getD_eq_getElem?_getD, List.getElem?_eq_getElem h1, List.getElem?_eq_getElem h2] at this
          go_wp2
          go_ret
          rw [hf.out]
          exact ⟨rfl, dN HW.out _⟩
    · have hf : Hid (sameB cs cs l m = false) := by
        refine sameB_no ?_
        rintro ⟨_, rfl⟩
        exact hlm rfl
      have hq : ((l.length : Int) != (m.length : Int)) = true := by
        have : (l.length : Int) ≠ (m.length : Int) := by omega
        simp [this]
      clear hlm
      go_wp2_with (first
        | (with_reducible refine wpList_loadP _ rfl 22 (.tmp 6) rfl _ Try.underlying22 rfl w.heap.size 0 rfl (ia cs) HL1.out HS1.out ?_)
        | (with_reducible refine wpList_loadP _ rfl 22 (.tmp 8) rfl _ Try.underlying22 rfl (w.heap.size + 1) 0 rfl (ia cs) HL2.out HS2.out ?_)
        | (with_reducible refine wpList_neqA _ rfl (.tmp 7) (.tmp 9) rfl cs cs rfl rfl HCS.out HDS.out ?_
           rw [hbb]))
      go_ret
      rw [hf.out]
      exact ⟨rfl, HW.out⟩
  · have hf : Hid (sameB cs ds l m = false) := by
      refine sameB_no ?_
      exact fun h => hcd h.1
    have hbb : (!(cs == ds)) = true := by simp [hcd]
    go_wp2_with (first
      | (with_reducible refine wpList_loadP _ rfl 22 (.tmp 6) rfl _ Try.underlying22 rfl w.heap.size 0 rfl (ia cs) HL1.out HS1.out ?_)
      | (with_reducible refine wpList_loadP _ rfl 22 (.tmp 8) rfl _ Try.underlying22 rfl (w.heap.size + 1) 0 rfl (ia ds) HL2.out HS2.out ?_)
      | (with_reducible refine wpList_neqA _ rfl (.tmp 7) (.tmp 9) rfl cs ds rfl rfl HCS.out HDS.out ?_
         rw [hbb]))
    go_ret
    rw [hf.out]
    exact ⟨rfl, HW.out⟩
end Go.Proofs.Ytanihbflgolciaa
