/- Towards prefix.merged: what stands in memory, round by round; the two that are popped. -/
import Derived.Test.YtanihbflgolciaaFPop
import Derived.Test.YtanihbflgolciaaHufM
import Derived.Test.YtanihbflgolciaaFJoin
import Derived.Test.YtanihbflgolciaaFCln
import Derived.Test.YtanihbflgolciaaMkI
import Derived.Deep.Cut
import Derived.Deep.DeepCutAuto
import Derived.Deep.LoopGhost
namespace Go.Proofs.Ytanihbflgolciaa
open Go.RowKit Go.Lib Go.Sort
set_option linter.unusedVariables false
set_option maxRecDepth 100000

/-- The leaves of a tree, as ints. -/
def lvI (t : Tr) : List Int := t.lf.map (fun q => (q.1 : Int))
/-- A tree's leaves stand in memory, off the three blocks that are written. -/
def Lok (w : World) (p g gd : Nat) (t : (Int × Value) × Tr) : Prop :=
  ∃ A k c, t.1.2 = Value.slice A k c ∧ k = (lvI t.2).length ∧ Ri w A (lvI t.2) ∧ ∀ b o s, A = some ⟨b, o, s⟩ → b ≠ p ∧ b ≠ g ∧ b ≠ gd ∧ b < w.heap.size
theorem Lok.chg {w w' : World} {p g gd : Nat} {t : (Int × Value) × Tr} (h : Lok w p g gd t) {S : Nat → Prop} (hc : Chg S w w') (hS : ∀ i, S i → i = p ∨ i = g ∨ i = gd) : Lok w' p g gd t := by
  obtain ⟨A, k, c, h1, h2, h3, h4⟩ := h
  refine ⟨A, k, c, h1, h2, h3.chg hc (fun b o s hA hSb => ?_), fun b o s hA => ?_⟩
  · obtain ⟨n1, n2, n3, _⟩ := h4 b o s hA
    rcases hS b hSb with e | e | e
    · exact n1 e
    · exact n2 e
    · exact n3 e
  · obtain ⟨n1, n2, n3, n4⟩ := h4 b o s hA
    exact ⟨n1, n2, n3, Nat.lt_of_lt_of_le n4 hc.size⟩
theorem Lok.move {w : World} {p g g' gd : Nat} {t : (Int × Value) × Tr} {B : Nat} (h : Lok w p g gd t) (hg : g' = g ∨ w.heap.size ≤ g') : Lok w p g' gd t := by
  obtain ⟨A, k, c, h1, h2, h3, h4⟩ := h
  refine ⟨A, k, c, h1, h2, h3, fun b o s hA => ?_⟩
  obtain ⟨n1, n2, n3, n4⟩ := h4 b o s hA
  refine ⟨n1, ?_, n3, n4⟩
  rcases hg with e | e
  · rw [e]; exact n2
  · omega
/-- The state of the heap, and of all else that merged has. -/
structure Ks (w0 : World) (p g c gd : Nat) (T : List ((Int × Value) × Tr)) (dp : List Int) (D : Array (Int × Value)) (w : World) : Prop where
  fo : Fo w p g c D
  lk : ∀ t ∈ T, Lok w p g gd t
  db : BI w gd dp
  be : Below w0.heap.size w0 w
  op : w0.heap.size ≤ p
  og : w0.heap.size ≤ g
  od : w0.heap.size ≤ gd
  n1 : p ≠ gd
  n2 : g ≠ gd
theorem Fo.off {w w' : World} {p g c : Nat} {d : Array (Int × Value)} (h : Fo w p g c d) {S : Nat → Prop} (hc : Chg S w w') (h1 : ¬ S p) (h2 : ¬ S g) : Fo w' p g c d :=
  ⟨hc.cellv h.var h1, by rw [hc.frozen (World.block_lt_of_cell? _ _ h.var) h1]; exact h.fr, h.gr.chg hc h2, h.ne⟩
theorem chg_below {S : Nat → Prop} {B : Nat} {w0 a b : World} (h : Below B w0 a) (hc : Chg S a b) (hS : ∀ i, S i → B ≤ i) (hB : B ≤ a.heap.size) : Below B w0 b := h.trans (hc.below hB hS)
theorem Ks.off {w0 w w' : World} {p g c gd : Nat} {T : List ((Int × Value) × Tr)} {dp : List Int} {D : Array (Int × Value)} (h : Ks w0 p g c gd T dp D w) (hc : Chg (fun _ => False) w w') : Ks w0 p g c gd T dp D w' :=
  ⟨h.fo.off hc (fun e => e) (fun e => e), fun t ht => (h.lk t ht).chg hc (fun i e => e.elim), h.db.chg hc (fun e => e), chg_below h.be hc (fun i e => e.elim) h.be.size, h.op, h.og, h.od, h.n1, h.n2⟩
/-- A pop. -/
theorem Ks.pop {w0 w : World} {p g c gd n : Nat} {T : List ((Int × Value) × Tr)} {dp : List Int} {D : Array (Int × Value)} (h : Ks w0 p g c gd T dp D w) (hn : D.size = n + 1) (hd : D.size ≤ 100000) :
    Calls Try.prog 39 #[.iface 75 (.pointer (some ⟨p, 0, none⟩))] w fun e w' => e = .returned (gval (popped ltw n D)[n]!) ∧ Ks w0 p g c gd T dp (popped ltw n D).pop w' ∧ Chg (fun k => k = p ∨ k = g) w w' := by
  refine (fPop_any p g c n D w h.fo hn (by have := h.fo.gr.cap; unfold maxLen at this; omega) hd).mono ?_
  rintro e w' ⟨rfl, hF, hC⟩
  refine ⟨rfl, ⟨hF, fun t ht => (h.lk t ht).chg hC (fun i e => by rcases e with e | e; exact .inl e; exact .inr (.inl e)), h.db.chg hC (fun e => by rcases e with e | e; exact h.n1 e.symm; exact h.n2 e.symm), chg_below h.be hC (fun i e => by rcases e with e | e; rw [e]; exact h.op; rw [e]; exact h.og) h.be.size, h.op, h.og, h.od, h.n1, h.n2⟩, hC⟩

/-- A new variable of a group. -/
structure Zc (w : World) (b : Nat) : Prop where
  c0 : w.cell? ⟨b, 0, none⟩ = some (.int .i64 0)
  c1 : w.cell? ⟨b, 1, none⟩ = some (.slice none 0 0)
  f0 : w.frozen? ⟨b, 0, none⟩ = false
  f1 : w.frozen? ⟨b, 1, none⟩ = false
theorem Zc.new (w : World) : Zc (w.alloc (.cells #[.int .i64 0, .slice none 0 0] 68)) w.heap.size := ⟨by go_cell, by go_cell, by go_cell, by go_cell⟩
theorem Zc.new1 (w : World) : Zc ((w.alloc (.cells #[.int .i64 0, .slice none 0 0] 68)).alloc (.cells #[.int .i64 0, .slice none 0 0] 68)) (w.heap.size + 1) := ⟨by go_cell, by go_cell, by go_cell, by go_cell⟩
theorem Zc.chg {w w' : World} {b : Nat} (h : Zc w b) {S : Nat → Prop} (hc : Chg S w w') (hb : ¬ S b) : Zc w' b := by
  have hl := World.block_lt_of_cell? _ _ h.c0
  exact ⟨hc.cellv h.c0 hb, hc.cellv h.c1 hb, by rw [hc.frozen hl hb]; exact h.f0, by rw [hc.frozen (p := ⟨b, 1, none⟩) hl hb]; exact h.f1⟩
theorem Zc.alloc {w : World} {b : Nat} (h : Zc w b) (o : Obj) : Zc (w.alloc o) b := h.chg ((Chg.refl (fun _ => False) w).alloc o) (fun e => e)
theorem Zc.drew {w : World} {b : Nat} (h : Zc w b) : Zc w.drew b := ⟨h.c0, h.c1, h.f0, h.f1⟩
theorem Zc.lt {w : World} {b : Nat} (h : Zc w b) : b < w.heap.size := World.block_lt_of_cell? _ _ h.c0
/-- The state by what it was, and a heap that has turned. -/
theorem Ks.by {w0 w w1 w' : World} {p g c gd : Nat} {T : List ((Int × Value) × Tr)} {dp : List Int} {D D' : Array (Int × Value)} (h : Ks w0 p g c gd T dp D w) (hF : Fo w1 p g c D') {N : Nat} (hN : w.heap.size = N) (h1 : Chg (fun k => N ≤ k) w1 w') (h2 : Chg (fun k => k = p ∨ k = g) w w') : Ks w0 p g c gd T dp D' w' := by
  have hp := World.block_lt_of_cell? _ _ h.fo.var
  have hg := h.fo.gr.lt
  simp only at hp
  exact ⟨hF.off h1 (by omega) (by omega), fun t ht => (h.lk t ht).chg h2 (fun i e => by rcases e with e | e; exact .inl e; exact .inr (.inl e)), h.db.chg h2 (fun e => by rcases e with e | e; exact h.n1 e.symm; exact h.n2 e.symm),
    chg_below h.be h2 (fun i e => by rcases e with e | e; rw [e]; exact h.op; rw [e]; exact h.og) h.be.size, h.op, h.og, h.od, h.n1, h.n2⟩
end Go.Proofs.Ytanihbflgolciaa
