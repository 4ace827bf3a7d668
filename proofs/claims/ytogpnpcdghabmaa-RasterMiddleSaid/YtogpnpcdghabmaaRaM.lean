/- Contract of the law's own; append of bytes at a step of a region that draws its order. -/
import Derived.Test.YtogpnpcdghabmaaRaL
import Derived.Test.YtogpnpcdghabmaaApK
namespace Go.Proofs.Ytogpnpcdghabmaa
open Go.RowKit Go.Lib
set_option linter.unusedVariables false
set_option maxRecDepth 100000
theorem Ob.slice {w : World} {base : Nat} {v : Value} {l : List UInt8} (h : Ob w base v l) : ∃ A n c, v = .slice A n c := by
  obtain ⟨A, c, e, _⟩ := h.open'
  exact ⟨_, _, _, e⟩
theorem blk_put3 {W : World} {g : Nat} {a b c : Value} (h : Blk W g #[a, b, c]) (x y z : Value) :
    Blk (((W.setCell ⟨g, 0, none⟩ x).setCell ⟨g, 1, none⟩ y).setCell ⟨g, 2, none⟩ z) g #[x, y, z] ∧ Chg (fun k => k = g) W (((W.setCell ⟨g, 0, none⟩ x).setCell ⟨g, 1, none⟩ y).setCell ⟨g, 2, none⟩ z) :=
  ⟨((h.set 0 x).set 1 y).set 2 z, (((Chg.refl (fun k => k = g) W).setCell (p := ⟨g, 0, none⟩) (.inl rfl) x).setCell (p := ⟨g, 1, none⟩) (.inl rfl) y).setCell (p := ⟨g, 2, none⟩) (.inl rfl) z⟩
/-- Memory of the call's own that append has grown, and a variable beside it. -/
theorem Kc.app {w W W2 : World} {L : List (Nat × Array Value)} {v : Value} {base : Nat} {l : List UInt8} (h : Kc w L W) (ho : Ob W base v l) (hb : w.heap.size ≤ base) (hL : ∀ p ∈ L, p.1 < base) (hg : W.grownBy W2 v.ownBlock) : Kc w L W2 :=
  h.chg (S := fun k => v.ownBlock = some k) ((Chg.refl _ W).grown hg fun k hk => .inl hk) (fun p hp e => by have := (ho.at _ e).1; have := hL p hp; omega) (fun k e => by have := (ho.at _ e).1; omega)
theorem mk0 {o : Oper} {a : Act} (ho : o.op = .buildSlice 22 0 #[]) (w : World) : (execOp a.eval o).run Try.prog w = .ok (.value (.slice (some ⟨w.heap.size, 0, none⟩) 0 0)) (w.alloc (.cells #[] 5)) := by
  obtain ⟨i0, hi, hz0, hz1, hz2⟩ := info_parts Try.info5
  unfold execOp
  simp only [ho]
  go_simp
  done
/-- What is known of the empty literal, of what append makes of it. -/
def OwP (w : World) (l : List UInt8) (i : Nat) (v : Value) (W : World) : Prop :=
  if i = 4 then ∃ g, v = .slice (some ⟨g, 0, none⟩) 0 0 ∧ W.heap[g]? = some (.cells #[] 5 (0, 0)) ∧ w.heap.size + 1 + 1 ≤ g else Ob W (w.heap.size + 1 + 1) v l
theorem OwP.st {w : World} {l : List UInt8} (i : Nat) (v : Value) (W W' : World) (hT : Below W.heap.size W W') (h : OwP w l i v W) : OwP w l i v W' := by
  unfold OwP at *
  by_cases hi : i = 4
  · rw [if_pos hi] at *
    obtain ⟨g, h1, h2, h3⟩ := h
    exact ⟨g, h1, (hT.block g (Array.getElem?_eq_some_iff.1 h2).1).trans h2, h3⟩
  · rw [if_neg hi] at *
    exact h.below hT
theorem owp_ex7 (w : World) (l : List UInt8) (hl : l.length ≤ 1000000000) : ∃ v W', OwP w l 7 v W' :=
  ⟨.slice (some ⟨((w.alloc (.cells #[] 5)).alloc (.cells #[] 5)).heap.size, 0, none⟩) l.length l.length, ((w.alloc (.cells #[] 5)).alloc (.cells #[] 5)).alloc (.cells (l.map bv).toArray 5), by
    show Ob _ _ _ _
    exact Ob.litL _ _ (by simp) l hl⟩
theorem owp_4 (w : World) (l : List UInt8) (W : World) (hW : w.heap.size + 1 + 1 ≤ W.heap.size) : OwP w l 4 (.slice (some ⟨W.heap.size, 0, none⟩) 0 0) (W.alloc (.cells #[] 5)) :=
  ⟨_, rfl, heap_alloc_new W _, hW⟩
theorem owp_ex4 (w : World) (l : List UInt8) : ∃ v W', OwP w l 4 v W' := ⟨_, _, owp_4 w l ((w.alloc (.cells #[] 5)).alloc (.cells #[] 5)) (by simp)⟩
set_option maxHeartbeats 4000000 in
theorem own_any (l : List UInt8) (W H : Int) (A : Option Addr) (n c : Nat) (hn : n = l.length) (hl : l.length ≤ 100000) (w : World) (hr : Rd w A l) :
    Calls Try.prog 15 #[ra W H (.slice A n c)] w fun e w' => ∃ s, e = .returned (ra W H s) ∧ Ob w' w.heap.size s l ∧ Below w.heap.size w w' := by
  have HZ := Lib.hid zeroR
  have HSR := Lib.hid (fun s => sizeR W H s)
  have K1 := Lib.hid (((Kc.refl w).new #[.int .i64 W, .int .i64 H, .slice A n c] 24 w.heap.size rfl).new zR 24 (w.heap.size + 1) (by simp)).drew
  have HR := Lib.hid (fun W' (K : Kc w [(w.heap.size, #[.int .i64 W, .int .i64 H, .slice A n c]), (w.heap.size + 1, zR)] W') => hr.below K.be)
  have HL := Lib.hid hl
  have HNN := Lib.hid hn
  have HX := Lib.hid (owp_ex7 w l (by omega))
  clear hr hl hn
  unfold ra at *
  go_enter Try.func15, Try.ntmps15
  go_wp2_with (first
    | (with_reducible refine wpList_allocZ _ rfl 24 rfl zR HZ.out ?_))
  try simp only [World.size_alloc]
  refine wp_region_seqH 8 (fun W' => Kc w [(w.heap.size, #[.int .i64 W, .int .i64 H, .slice A n c]), (w.heap.size + 1, zR)] W') (fun W W' => Below W.heap.size W W')
    (kvP [some (.pointer (some ⟨w.heap.size, 0, none⟩)), some (.int .i64 W), some (.pointer (some ⟨w.heap.size, 1, none⟩)), some (.int .i64 H), none, some (.pointer (some ⟨w.heap.size, 2, none⟩)), some (.slice A n c), none] (OwP w l)) (by kernel_rfl) (by kernel_rfl) (kvP_st fun i v W W' hT h => OwP.st i v W W' hT h) K1.out ?_
  simp only [List.take_succ_cons, List.take_zero, List.drop_succ_cons, List.drop_zero]
  repeat (
    first
      | (refine seqH_val _ rfl w (fun _ => Below.refl _ _) (by rfl) ?_ ?_
         focus (intro W hS; have e0 := hS.cell 0 0 rfl rfl; have e1 := hS.cell 0 1 rfl rfl; have e2 := hS.cell 0 2 rfl rfl; go_simp; (try with_reducible rfl); done))
    simp only [Act.put, List.setIfInBounds_toArray, List.set_cons_zero, List.set_cons_succ])
  refine seqH_any (by rfl) (owp_ex4 w l) (fun W hS => ⟨_, _, mk0 rfl W, (Below.refl _ _).alloc (Nat.le_refl _) _, hS.any _, owp_4 w l W (by have := hS.fresh _ (List.mem_of_getElem? (i := 1) rfl); exact this)⟩) (fun x7 hx => ?_)
  simp only [Act.put, List.setIfInBounds_toArray, List.set_cons_zero, List.set_cons_succ]
  obtain ⟨_, g7, rfl, -, -⟩ := hx
  repeat (
    first
      | (refine seqH_val _ rfl w (fun _ => Below.refl _ _) (by rfl) ?_ ?_
         focus (intro W hS; have e0 := hS.cell 0 0 rfl rfl; have e1 := hS.cell 0 1 rfl rfl; have e2 := hS.cell 0 2 rfl rfl; go_simp; (try with_reducible rfl); done))
    simp only [Act.put, List.setIfInBounds_toArray, List.set_cons_zero, List.set_cons_succ])
  refine seqH_anyA (by rfl) HX.out (fun W hS hp => ?_) (fun x10 hx => ?_)
  · obtain ⟨g, hgg, k1, k2⟩ : OwP w l 4 (.slice (some ⟨g7, 0, none⟩) 0 0) W := hp {on := 4, ground := .data} (by simp) rfl
    injection hgg with hgg
    injection hgg with hgg
    injection hgg with hgg
    subst hgg
    obtain ⟨v', w', hrun, h1, h2⟩ := run_appZ W g7 k1 (w.heap.size + 1 + 1) k2 A l c (HR.out W hS) 22 (by have := HL.out; omega)
    refine ⟨v', w', ?_, h2, hS.call h2, h1⟩
    rw [← HNN.out] at hrun
    exact app_valB (s := .tmp 7) (x := .tmp 9) rfl rfl rfl hrun
  simp only [Act.put, List.setIfInBounds_toArray, List.set_cons_zero, List.set_cons_succ]
  obtain ⟨_, hx⟩ := hx
  obtain ⟨A3, n3, c3', rfl⟩ := Ob.slice hx
  refine seqH_nil fun U hS hF => ?_
  have HO : Hid (Ob U (w.heap.size + 1 + 1) (.slice A3 n3 c3') l) := hF 7 (by omega)
  have K4 := Lib.hid hS
  clear hF hS hx HX HR
  have HO1 := Lib.hid (HO.out.one_ra W H)
  have HS2 := Lib.hid (HSR.out (.slice A3 n3 c3'))
  have HSE : Hid (zR.size = (#[Value.int .i64 W, .int .i64 H, .slice A3 n3 c3']).size) := rfl
  go_wp2_with (first
    | ((refine wpList_storeB _ rfl 24 (.tmp 2) (.tmp 11) rfl (w.heap.size + 1) rfl zR (K4.out.get 1 rfl) #[.int .i64 W, .int .i64 H, .slice A3 n3 c3'] rfl HS2.out HSE.out HO1.out ?_)
       intro w5 hb5 hc5 hs5))
  refine bodyPost_ret (results_cell rfl _ _ _ Try.underlying24 rfl (w.heap.size + 1) #[.int .i64 W, .int .i64 H, .slice A3 n3 c3'] rfl (fun j u hu => hb5.cell hu) HS2.out) rfl ?_
  exact ⟨_, rfl, (HO.out.chg hc5 (fun k hk e => by have := (HO.out.at k hk).1; omega)).mono (by omega), K4.out.be.trans (hc5.below K4.out.be.size fun i e => by omega)⟩
end Go.Proofs.Ytogpnpcdghabmaa
