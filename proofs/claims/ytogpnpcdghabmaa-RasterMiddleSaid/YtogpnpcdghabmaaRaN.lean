/- What the loops of the document's Pad and Box hold; a byte appended to a picture in a variable. -/
import Derived.Test.YtogpnpcdghabmaaRaM
namespace Go.Proofs.Ytogpnpcdghabmaa
open Go.RowKit Go.Lib
set_option linter.unusedVariables false
set_option maxRecDepth 100000
/-- The first n bytes of a picture. -/
def picB (f : Nat → Nat → Nat → Int) (w n : Nat) : List UInt8 := (List.range n).map fun j => UInt8.ofNat (f (j % (3 * w) / 3) (j / (3 * w)) (j % 3)).toNat
theorem picB_all (f : Nat → Nat → Nat → Int) (w h : Nat) : picB f w (at3 w 0 h 0) = picL f w h := by unfold picB picL at3; rfl
theorem picB_len (f : Nat → Nat → Nat → Int) (w n : Nat) : (picB f w n).length = n := by simp [picB]
theorem picB_step (f : Nat → Nat → Nat → Int) {w x y c : Nat} (hx : x < w) (hc : c < 3) : picB f w (at3 w x y (c + 1)) = picB f w (at3 w x y c) ++ [UInt8.ofNat (f x y c).toNat] := by
  have e : at3 w x y (c + 1) = at3 w x y c + 1 := rfl
  unfold picB
  rw [e, List.range_succ, List.map_append, List.map_cons, List.map_nil, at3_x hx hc, at3_y hx hc, at3_c hx hc]
theorem at3_nx (w x y : Nat) : at3 w x y 3 = at3 w (x + 1) y 0 := by unfold at3; omega
theorem at3_ny (w y : Nat) : at3 w w y 0 = at3 w 0 (y + 1) 0 := by unfold at3; rw [Nat.mul_add]; omega
theorem at3_le {w h x y c : Nat} (hx : x < w) (hy : y < h) (hc : c ≤ 3) : at3 w x y c ≤ 3 * w * h := by
  have h1 : 3 * w * y + 3 * w ≤ 3 * w * h := by
    rw [← Nat.mul_succ]
    exact Nat.mul_le_mul_left _ hy
  unfold at3
  omega
/-- What the loops hold. -/
structure Rp (w : World) (RA : Array Value) (a b : Int) (v : Value) (l : List UInt8) (W : World) : Prop where
  k : Kc w [(w.heap.size, RA), (w.heap.size + 1, zR), (w.heap.size + 1 + 1, #[.int .i64 a, .int .i64 b, v])] W
  ob : Ob W (w.heap.size + 1 + 1 + 1) v l
section
variable {w W W2 : World} {RA : Array Value} {a b : Int} {v v2 : Value} {l m : List UInt8}
theorem Rp.call (h : Rp w RA a b v l W) (hb : Below W.heap.size W W2) : Rp w RA a b v l W2 := ⟨h.k.call hb, h.ob.below hb⟩
theorem Rp.at_ (h : Rp w RA a b v l W) {k : Nat} (e : v.ownBlock = some k) : w.heap.size + 1 + 1 + 1 ≤ k ∧ k < W.heap.size := h.ob.at k e
/-- What append makes of it. -/
theorem Rp.app (h : Rp w RA a b v l W) (ho : Ob W2 (w.heap.size + 1 + 1 + 1) v l) (hg : W.grownBy W2 v.ownBlock) : Rp w RA a b v l W2 :=
  ⟨h.k.app h.ob (by omega) (fun p hp => by
    simp only [List.mem_cons, List.not_mem_nil, or_false] at hp
    rcases hp with rfl | rfl | rfl
    · show w.heap.size < _; omega
    · show w.heap.size + 1 < _; omega
    · show w.heap.size + 1 + 1 < _; omega) hg, ho⟩
/-- The longer row, stored in the variable. -/
theorem Rp.put (h : Rp w RA a b v l W) (ho : Ob W (w.heap.size + 1 + 1 + 1) v2 m) : Rp w RA a b v2 m (W.setCell ⟨w.heap.size + 1 + 1, 2, none⟩ v2) := by
  have hc := (Chg.refl (fun k => k = w.heap.size + 1 + 1) W).setCell (p := ⟨w.heap.size + 1 + 1, 2, none⟩) (.inl rfl) v2
  refine ⟨h.k.upd hc ((h.k.get 2 rfl).set 2 v2) (by omega) fun p hp => ?_, ho.chg hc fun k hk e => by have := (ho.at k hk).1; omega⟩
  simp only [List.mem_cons, List.not_mem_nil, or_false] at hp ⊢
  rcases hp with rfl | rfl | rfl
  · exact .inr ⟨.inl rfl, by show w.heap.size ≠ _; omega⟩
  · exact .inr ⟨.inr (.inl rfl), by show w.heap.size + 1 ≠ _; omega⟩
  · exact .inl rfl
end
/-- What an operation of the statement may do. -/
def Tp (base : Nat) (v : Value) (m : List UInt8) (W W' : World) : Prop := Chg (fun k => v.ownBlock = some k) W W' ∧ ∀ u, Ob W base u m → Ob W' base u m
theorem Tp.below {base : Nat} {v : Value} {m : List UInt8} {W W' : World} (h : Below W.heap.size W W') : Tp base v m W W' := ⟨Chg.of_below h, fun u hu => hu.below h⟩
theorem Tp.refl (base : Nat) (v : Value) (m : List UInt8) (W : World) : Tp base v m W W := Tp.below (Below.refl _ _)
theorem Tp.grown {base : Nat} {v : Value} {m : List UInt8} {W W' : World} (hg : W.grownBy W' v.ownBlock) (h : ∀ u, Ob W base u m → Ob W' base u m) : Tp base v m W W' :=
  ⟨(Chg.refl _ W).grown hg fun k hk => .inl hk, h⟩
/-- What is known of the byte's own slice (place i), of what append makes of it. -/
def RpP (i0 base : Nat) (v : Value) (m : List UInt8) (x : UInt8) (i : Nat) (u : Value) (W : World) : Prop :=
  if i = i0 then ∃ g, u = .slice (some ⟨g, 0, none⟩) 1 1 ∧ Rd W (some ⟨g, 0, none⟩) [x] ∧ ¬ v.ownBlock = some g else Ob W base u m
theorem RpP.st {i0 base : Nat} {v : Value} {m : List UInt8} {x : UInt8} (i : Nat) (u : Value) (W W' : World) (hT : Tp base v m W W') (h : RpP i0 base v m x i u W) : RpP i0 base v m x i u W' := by
  unfold RpP at *
  by_cases hi : i = i0
  · rw [if_pos hi] at *
    obtain ⟨g, h1, h2, h3⟩ := h
    exact ⟨g, h1, h2.chg hT.1 (fun b o s e => by
      injection e with e
      injection e with e1 _ _
      subst e1
      exact h3), h3⟩
  · rw [if_neg hi] at *
    exact hT.2 _ h
theorem mk1 {o : Oper} {a : Act} {k : Tmp} (ho : o.op = .buildSlice 22 1 #[(0, .tmp k)]) {x : Int} (hx : a.eval (.tmp k) = .int .u8 x) (w : World) : (execOp a.eval o).run Try.prog w = .ok (.value (.slice (some ⟨w.heap.size, 0, none⟩) 1 1)) (w.alloc (.cells #[.int .u8 x] 5)) := by
  unfold execOp
  simp only [ho, hx, List.map_toArray, List.map_cons, List.map_nil]
  go_simp
  done
end Go.Proofs.Ytogpnpcdghabmaa
