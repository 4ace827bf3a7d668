/- Contract of the document's All. -/
import Derived.Test.YtefdimkiijmjbaaColF
import Derived.Test.YtefdimkiijmjbaaDrh
namespace Go.Proofs.Ytefdimkiijmjbaa
open Go.RowKit Go.Lib
set_option linter.unusedVariables false
set_option maxRecDepth 100000
theorem rall_no (p : Bool) (l : List UInt8) (A : Option Addr) (c : Nat) (w : World) (hl : l.length ≤ 65536) (hm : ¬ l.length % 3 = 0) :
    Calls Try.prog 15 #[.slice A l.length c, .bool p] w fun e w' => e = .returned (.slice none 0 0) ∧ Below w.heap.size w w' := by
  have hb : (((l.length : Int) % 3) != 0) = true := by rw [bne_iff_ne]; omega
  clear hm
  go_enter Try.func15, Try.ntmps15
  go_wp2
  go_ret
  exact ⟨rfl, Below.refl _ _⟩
/-- The first a bytes. -/
def allT (p : Bool) (l : List UInt8) (a : Nat) : List UInt8 := (List.range a).map (fun i => UInt8.ofNat (colAt p l i).toNat)
theorem allT_len (p : Bool) (l : List UInt8) (a : Nat) : (allT p l a).length = a := by simp [allT]
theorem allT_all {p : Bool} {l : List UInt8} (h : l.length % 3 = 0) : allT p l l.length = allL p l := by unfold allL allT; rw [if_pos h]
theorem allT_succ (p : Bool) (l : List UInt8) (a : Nat) (h : a % 3 = 0) :
    allT p l (a + 3) = allT p l a ++ [UInt8.ofNat (cv p 0 (bt l a) (bt l (a + 1)) (bt l (a + 2))).toNat, UInt8.ofNat (cv p 1 (bt l a) (bt l (a + 1)) (bt l (a + 2))).toNat, UInt8.ofNat (cv p 2 (bt l a) (bt l (a + 1)) (bt l (a + 2))).toNat] := by
  unfold allT
  rw [List.range_succ, List.range_succ, List.range_succ]
  simp only [List.map_append, List.map_cons, List.map_nil, List.append_assoc, List.cons_append, List.nil_append]
  unfold colAt
  rw [show a % 3 = 0 by omega, show a / 3 * 3 = a by omega, show (a + 1) % 3 = 1 by omega, show (a + 1) / 3 * 3 = a by omega, show (a + 2) % 3 = 2 by omega, show (a + 2) / 3 * 3 = a by omega]
theorem cv3 (p : Bool) (a b c : Int) : (if p = true then pa3 a b c else lu3 a b c) = [cv p 0 a b c, cv p 1 a b c, cv p 2 a b c] := by cases p <;> rfl
theorem rcv_lu (a b c : Int) (W : World) : Calls Try.prog 10 #[.int .i64 a, .int .i64 b, .int .i64 c] W fun e w' => e = .returned (.agg #[.int .i64 (cv false 0 a b c), .int .i64 (cv false 1 a b c), .int .i64 (cv false 2 a b c)]) ∧ Below W.heap.size W w' := rLuma_any a b c W
theorem rcv_pa (a b c : Int) (W : World) : Calls Try.prog 12 #[.int .i64 a, .int .i64 b, .int .i64 c] W fun e w' => e = .returned (.agg #[.int .i64 (cv true 0 a b c), .int .i64 (cv true 1 a b c), .int .i64 (cv true 2 a b c)]) ∧ Below W.heap.size W w' := rPaint_any a b c W
/-- What the loop holds. -/
structure Ar (w : World) (A : Option Addr) (l : List UInt8) (v : Value) (m : List UInt8) (W : World) : Prop where
  rd : Rd W A l
  ob : Ob W w.heap.size v m
  be : Below w.heap.size w W
theorem Ar.call {w W W' : World} {A : Option Addr} {l m : List UInt8} {v : Value} (h : Ar w A l v m W) (hb : Below W.heap.size W W') : Ar w A l v m W' := ⟨h.rd.below hb, h.ob.below hb, h.be.trans (hb.mono h.be.size)⟩
theorem seven (b o a l c : Nat) (z0 z1 z2 : Int) (R : Value) : True := True.intro
/-- The values of the region that turns three bytes. -/
def rgn (b o a n c : Nat) (z0 z1 z2 : Int) (R : Value) : List (Option Value) :=
  [some (.slice (some ⟨b, o, none⟩) n c), some (.int .i64 a), some (.pointer (some ⟨b, o + a, none⟩)), some (.int .u8 z0), some (.int .i64 z0),
   some (.slice (some ⟨b, o, none⟩) n c), some (.int .i64 a), some (.int .i64 ((a : Int) + 1)), some (.pointer (some ⟨b, o + (a + 1), none⟩)), some (.int .u8 z1), some (.int .i64 z1),
   some (.slice (some ⟨b, o, none⟩) n c), some (.int .i64 a), some (.int .i64 ((a : Int) + 2)), some (.pointer (some ⟨b, o + (a + 2), none⟩)), some (.int .u8 z2), some (.int .i64 z2), some R]
/-- What of the world the region wants. -/
structure Rg (w : World) (A : Option Addr) (l : List UInt8) (v : Value) (m : List UInt8) (b o a : Nat) (z0 z1 z2 : Int) (W : World) : Prop where
  ar : Ar w A l v m W
  c0 : W.cell? ⟨b, o + a, none⟩ = some (.int .u8 z0)
  c1 : W.cell? ⟨b, o + (a + 1), none⟩ = some (.int .u8 z1)
  c2 : W.cell? ⟨b, o + (a + 2), none⟩ = some (.int .u8 z2)
theorem Rg.call {w W W' : World} {A : Option Addr} {l m : List UInt8} {v : Value} {b o a : Nat} {z0 z1 z2 : Int} (h : Rg w A l v m b o a z0 z1 z2 W) (hb : Below W.heap.size W W') : Rg w A l v m b o a z0 z1 z2 W' :=
  ⟨h.ar.call hb, cell_later hb h.c0, cell_later hb h.c1, cell_later hb h.c2⟩
theorem Rg.chg {w W W' : World} {A : Option Addr} {l m : List UInt8} {v : Value} {b o a g : Nat} {z0 z1 z2 : Int} (h : Rg w A l v m b o a z0 z1 z2 W) (hb : Chg (fun k => k = g) W W') (h1 : b ≠ g) (hA : ∀ b o s, A = some ⟨b, o, s⟩ → b ≠ g) (hg : w.heap.size ≤ g) (hv : ∀ k, v.ownBlock = some k → k ≠ g) : Rg w A l v m b o a z0 z1 z2 W' :=
  ⟨⟨h.ar.rd.chg hb hA, h.ar.ob.chg hb hv, h.ar.be.trans (hb.below h.ar.be.size fun i e => by omega)⟩, hb.cellv h.c0 h1, hb.cellv h.c1 h1, hb.cellv h.c2 h1⟩
theorem zero3_alloc {o : Oper} {a : Act} (ho : o.op = .alloc 23) (w : World) : (execOp a.eval o).run Try.prog w = .ok (.value (.pointer (some ⟨w.heap.size, 0, none⟩))) (w.alloc (.cells (ia [0, 0, 0]) 23)) := by
  have hz1 : (zeroValue 23).run Try.prog w = .ok (.agg (ia [0, 0, 0])) w := by kernel_rfl
  simp [execOp, ho, Instr.alloc, hz1, Result.andThen, newVar, newRow, Value.cells]
theorem ent_rlu : ∀ args w, (callFunc 10 args).run Try.prog w = .ok (.enter 10 args) w := enters_of Try.func10 (by kernel_rfl) rfl
theorem ent_rpa : ∀ args w, (callFunc 12 args).run Try.prog w = .ok (.enter 12 args) w := enters_of Try.func12 (by kernel_rfl) rfl
/-- The new variable. -/
def NewX (w : World) (A : Option Addr) (b : Nat) (v : Value) (x : Value) (W : World) : Prop := ∃ g, x = .pointer (some ⟨g, 0, none⟩) ∧ Blk W g (ia [0, 0, 0]) ∧ b ≠ g ∧ w.heap.size ≤ g ∧ (∀ b o s, A = some ⟨b, o, s⟩ → b ≠ g) ∧ (∀ k, v.ownBlock = some k → k ≠ g)
theorem NewX.st {w : World} {A : Option Addr} {b : Nat} {v x : Value} {W W' : World} (hT : Below W.heap.size W W') (h : NewX w A b v x W) : NewX w A b v x W' := by
  obtain ⟨g, h1, h2, h3⟩ := h
  exact ⟨g, h1, h2.below hT, h3⟩
theorem u8w {y : Int} (h0 : 0 ≤ y) (h1 : y ≤ 255) : bv (UInt8.ofNat y.toNat) = .int .u8 y := by
  unfold bv
  congr 1
  rw [UInt8.toNat_ofNat']
  omega

end Go.Proofs.Ytefdimkiijmjbaa
