/- Contracts of the document's Byte and of view.colour. -/
import Derived.Test.YtogpnpcdghabmaaRaC
namespace Go.Proofs.Ytogpnpcdghabmaa
open Go.RowKit Go.Lib
set_option linter.unusedVariables false
set_option maxRecDepth 100000
/-- The bytes l are a picture of W by H. -/
structure Pc (l : List UInt8) (W H : Nat) : Prop where
  len : l.length = 3 * W * H
  w1 : 1 ≤ W
  w2 : W ≤ 4096
  h1 : 1 ≤ H
  h2 : H ≤ 4096
theorem nat_mul4 {a b : Nat} (ha : a ≤ 4096) (hb : b ≤ 4096) : a * b ≤ 16777216 := by
  have := Nat.mul_le_mul ha hb
  omega
theorem Pc.big {l : List UInt8} {W H : Nat} (h : Pc l W H) : l.length ≤ 50331648 := by
  rw [h.len, Nat.mul_assoc]
  have := nat_mul4 h.w2 h.h2
  omega
theorem bt_pb (l : List UInt8) (i : Nat) : bt l i = pb l i := rfl
set_option maxHeartbeats 1000000 in
theorem byte_any (l : List UInt8) (W H : Nat) (hp : Pc l W H) (A : Option Addr) (n c : Nat) (hn : n = l.length) (w : World) (hr : Rd w A l) (x y k : Nat) (hx : x < W) (hy : y < H) (hk : k < 3) :
    Calls Try.prog 11 #[ra W H (.slice A n c), .int .i64 x, .int .i64 y, .int .i64 k] w fun e w' => e = .returned (.int .i64 (pb l (at3 W x y k))) ∧ Below w.heap.size w w' := by
  subst hn
  have hj : at3 W x y k < l.length := by rw [hp.len]; exact at3_lt hx hy hk
  have hbig := hp.big
  have hW := hp.w2
  have hH := hp.h2
  have hWy := nat_mul4 hW (show y ≤ 4096 by omega)
  have e1 : 3 * (W : Int) * (y : Int) + 3 * (x : Int) + (k : Int) = ((at3 W x y k : Nat) : Int) := by unfold at3; push_cast; rfl
  have e2 : 3 * (W : Int) * (y : Int) = ((3 * (W * y) : Nat) : Int) := by push_cast; rw [Int.mul_assoc]
  have hw1 : IntKind.i64.wrap (3 * (W : Int)) = 3 * (W : Int) := IntWalk.i64_in _ (by omega)
  have hw2 : IntKind.i64.wrap (3 * (W : Int) * (y : Int)) = 3 * (W : Int) * (y : Int) := IntWalk.i64_in _ (by omega)
  have hw3 : IntKind.i64.wrap (3 * (x : Int)) = 3 * (x : Int) := IntWalk.i64_in _ (by omega)
  have hw4 : IntKind.i64.wrap (3 * (W : Int) * (y : Int) + 3 * (x : Int)) = 3 * (W : Int) * (y : Int) + 3 * (x : Int) := IntWalk.i64_in _ (by omega)
  have hw5 : IntKind.i64.wrap (3 * (W : Int) * (y : Int) + 3 * (x : Int) + (k : Int)) = ((at3 W x y k : Nat) : Int) := by rw [e1]; exact IntWalk.i64_in _ (by omega)
  clear e1 e2 hWy
  obtain ⟨b, o, rfl, hc⟩ := hr.resolve_left (fun e => by rw [e] at hj; simp at hj)
  have hB := Lib.hid (((Below.refl w.heap.size w).alloc (Nat.le_refl _) (.cells #[.int .i64 W, .int .i64 H, .slice (some ⟨b, o, none⟩) l.length c] 24)))
  have h0 := cell_later hB.out (hc _ hj)
  have hpb := bt_rng l (at3 W x y k)
  clear hc hr hp
  rw [bt_pb] at *
  generalize pb l (at3 W x y k) = v at *
  generalize at3 W x y k = j at *
  have hv : IntKind.i64.wrap v = v := IntWalk.i64_in _ (by omega)
  have hjl : (j : Int) < (l.length : Int) := by omega
  unfold ra
  go_enter Try.func11, Try.ntmps11
  go_wp2
  go_ret
  exact ⟨rfl, hB.out⟩
/-- A colour's cells. -/
def c3 (f : Nat → Int) : Array Value := #[.int .u8 (f 0), .int .u8 (f 1), .int .u8 (f 2)]
theorem zeroC : (Try.prog.info? 48).map (fun i => i.zero) = some (some (.agg (c3 fun _ => 0))) := by kernel_rfl
theorem sizeC (f : Nat → Int) : (Try.prog.info? 48).map (·.size) = some (c3 f).size := by
  show _ = some 3; kernel_rfl
theorem one_c3 (f : Nat → Int) : ∀ v ∈ (c3 f).toList, v.oneCell' = true := by
  intro v hv
  simp only [c3, List.mem_cons, List.not_mem_nil, or_false] at hv
  rcases hv with rfl | rfl | rfl <;> rfl
/-- The colour at a place. -/
def colF (l : List UInt8) (W x y : Nat) (k : Nat) : Int := pb l (at3 W x y k)
/-- A slice as an array's place. -/
theorem wpList_arrayAt (w : World) {ops : Array Oper} {rest : List Oper} {o : Oper} {a : Act} {Q : Exit → Act → World → Prop} (hgd : o.guard = none) (ty : TypeId) (x : Operand) (ho : o.op = .sliceToArrayPointer ty x)
    (n : Nat) (E : TypeId) (hu : Try.prog.underlying ty = some (.array n E)) (A : Option Addr) (len c : Nat) (hx : a.eval x = .slice A len c) (hl : n ≤ len)
    (h : wpList Try.prog ops Q rest (a.put o.dst (.pointer A)) w) : wpList Try.prog ops Q (o :: rest) a w := by
  refine wpList_plain hgd fun K hK => ?_
  have hn : ¬ len < n := by omega
  unfold Oper.wp execOp
  simp [ho, hx, Instr.arrayAt, run_underlying hu, Result.andThen, hn]
  exact hK _ _ h
set_option maxHeartbeats 1000000 in
theorem colour_any (l : List UInt8) (W H : Nat) (hp : Pc l W H) (A : Option Addr) (n c : Nat) (hn : n = l.length) (hnc : n ≤ c) (hcm : c ≤ maxLen) (w : World) (hr : Rd w A l) (x y : Nat) (hx : x < W) (hy : y < H) :
    Calls Try.prog 25 #[ra W H (.slice A n c), .int .i64 x, .int .i64 y] w fun e w' => e = .returned (.agg (c3 (colF l W x y))) ∧ Below w.heap.size w w' := by
  subst hn
  have hj0 : at3 W x y 0 < l.length := by rw [hp.len]; exact at3_lt hx hy (by omega)
  have hj1 : at3 W x y 1 < l.length := by rw [hp.len]; exact at3_lt hx hy (by omega)
  have hj2 : at3 W x y 2 < l.length := by rw [hp.len]; exact at3_lt hx hy (by omega)
  have hbig := hp.big
  have hW := hp.w2
  have hH := hp.h2
  have hWy := nat_mul4 (show y ≤ 4096 by omega) hW
  have e1 : ((y : Int) * (W : Int) + (x : Int)) * 3 = ((at3 W x y 0 : Nat) : Int) := by
    unfold at3; push_cast
    rw [Int.mul_assoc, Int.mul_comm (W : Int) (y : Int)]
    generalize (y : Int) * (W : Int) = q
    omega
  have e2 : (y : Int) * (W : Int) = ((y * W : Nat) : Int) := by push_cast; rfl
  have hw1 : IntKind.i64.wrap ((y : Int) * (W : Int)) = (y : Int) * (W : Int) := IntWalk.i64_in _ (by omega)
  have hw2 : IntKind.i64.wrap ((y : Int) * (W : Int) + (x : Int)) = (y : Int) * (W : Int) + (x : Int) := IntWalk.i64_in _ (by omega)
  have hw3 : IntKind.i64.wrap (((y : Int) * (W : Int) + (x : Int)) * 3) = ((at3 W x y 0 : Nat) : Int) := by rw [e1]; exact IntWalk.i64_in _ (by omega)
  clear e1 e2 hWy
  obtain ⟨b, o, rfl, hc⟩ := hr.resolve_left (fun e => by rw [e] at hj0; simp at hj0)
  have q0 := hc _ hj0
  have q1 := hc _ hj1
  have q2 := hc _ hj2
  rw [show at3 W x y 1 = at3 W x y 0 + 1 from rfl] at q1 hj1
  rw [show at3 W x y 2 = at3 W x y 0 + 2 from rfl] at q2 hj2
  have HF : Hid (c3 (colF l W x y) = #[.int .u8 (bt l (at3 W x y 0)), .int .u8 (bt l (at3 W x y 0 + 1)), .int .u8 (bt l (at3 W x y 0 + 2))]) := rfl
  have HS := Lib.hid (sizeC (colF l W x y))
  have H1 := Lib.hid (one_c3 (colF l W x y))
  have hB := Lib.hid (((Below.refl w.heap.size w).alloc (Nat.le_refl _) (.cells #[.int .i64 W, .int .i64 H, .slice (some ⟨b, o, none⟩) l.length c] 46)))
  have hB1 := Lib.hid (hB.out.alloc (by simp) (.cells (c3 fun _ => 0) 48))
  have hC := Lib.hid (fun (j : Nat) (u : Value) (hu : #[Value.int .u8 (bt l (at3 W x y 0)), .int .u8 (bt l (at3 W x y 0 + 1)), .int .u8 (bt l (at3 W x y 0 + 2))][j]? = some u) =>
    cell_later hB1.out (a := ⟨b, o + at3 W x y 0 + j, none⟩) (v := u) (by
      rcases j with _ | _ | _ | j
      · simp at hu; subst hu; exact q0
      · simp at hu; subst hu; exact q1
      · simp at hu; subst hu; exact q2
      · simp at hu))
  have HK0 : Hid (Blk ((w.alloc (.cells #[.int .i64 W, .int .i64 H, .slice (some ⟨b, o, none⟩) l.length c] 46)).alloc (.cells (c3 fun _ => 0) 48)) (w.heap.size + 1) (c3 fun _ => 0)) := by
    have := Blk.new (w.alloc (.cells #[.int .i64 W, .int .i64 H, .slice (some ⟨b, o, none⟩) l.length c] 46)) (c3 fun _ => 0) 48
    rwa [World.size_alloc] at this
  clear hc hr hp q0 q1 q2
  have HZ := Lib.hid zeroC
  generalize c3 (colF l W x y) = R at *
  generalize bt l (at3 W x y 0) = v0 at *
  generalize bt l (at3 W x y 0 + 1) = v1 at *
  generalize bt l (at3 W x y 0 + 2) = v2 at *
  generalize at3 W x y 0 = j at *
  have hwj : IntKind.i64.wrap ((j : Int) + 3) = (j : Int) + 3 := IntWalk.i64_in _ (by omega)
  have hjc : (j : Int) + 3 ≤ (c : Int) := by omega
  have hjt : ((j : Int) + 3).toNat = j + 3 := by omega
  have hjt2 : ((j : Int) + 3 - (j : Int)).toNat = 3 := by omega
  unfold ra
  go_enter Try.func25, Try.ntmps25
  go_wp2_with (first
    | (with_reducible refine wpList_allocZ _ rfl 48 rfl (c3 fun _ => 0) HZ.out ?_)
    | (with_reducible refine wpList_arrayAt _ rfl 48 (.tmp 22) rfl 3 5 Try.underlying48 _ 3 _ rfl (by omega) ?_)
    | (refine wpList_loadP _ rfl 48 (.tmp 23) rfl _ Try.underlying48 rfl b (o + j) rfl #[.int .u8 v0, .int .u8 v1, .int .u8 v2] hC.out (by rw [← HF.out]; exact HS.out) ?_)
    | ((refine wpList_storeB _ rfl 48 (.tmp 6) (.tmp 24) rfl (w.heap.size + 1) rfl (c3 fun _ => 0) HK0.out #[.int .u8 v0, .int .u8 v1, .int .u8 v2] (by rfl) (by rw [← HF.out]; exact HS.out) (by rfl) (by rw [← HF.out]; exact H1.out) ?_)
       intro w3 hb3 hc3 hs3; have B3 := Lib.hid (hB1.out.trans (hc3.below hB1.out.size (fun i e => by omega)))))
  refine bodyPost_ret (results_cell rfl _ _ _ Try.underlying48 rfl (w.heap.size + 1) #[.int .u8 v0, .int .u8 v1, .int .u8 v2] rfl (fun j v hv => hb3.cell hv) (by rw [← HF.out]; exact HS.out)) rfl ?_
  exact ⟨by rw [HF.out], B3.out⟩
end Go.Proofs.Ytogpnpcdghabmaa
