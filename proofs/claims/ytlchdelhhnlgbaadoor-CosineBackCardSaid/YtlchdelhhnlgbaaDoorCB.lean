/- Blocks: lengths, zero, loaded and compared whole; in rows (Kn). -/
import Derived.Test.YtlchdelhhnlgbaaDoorQP
import Derived.Test.YtlchdelhhnlgbaaDoorZEq
import Derived.Test.YtlchdelhhnlgbaaDoorDrw
import Derived.Test.YtlchdelhhnlgbaaDoorCosR
import Derived.StillTailTactics
import Derived.Deep.DeepCutAuto
namespace Go.Proofs.YtlchdelhhnlgbaaDoor
open Go.RowKit Go.Lib
set_option linter.unusedVariables false
set_option maxRecDepth 100000
theorem ret_i {k : IntKind} {a b : Int} (h : a = b) : Ending.returned (.int k a) = .returned (.int k b) := by rw [h]
theorem zeros_len : zeros.length = 64 := by decide +kernel
theorem same_size {l m : List Int} (hl : l.length = 64) (hm : m.length = 64) : (ia l).size = (ia m).size := by rw [ia_size, ia_size, hl, hm]
theorem results_cs {fn : Func} {p q : Tmp} {ty : TypeId} (h : fn.results = #[.cell p ty, .tmp q]) (tmps : Array Value) (w : World) (d : TypeDesc) (hu : Tryd.prog.underlying ty = some d) (hd : aggD d = true) (g : Nat) (X : Array Value) (v : Value)
    (hp : tmps.getD p undef = .pointer (some ⟨g, 0, none⟩)) (hq : tmps.getD q undef = v) (hg : ∀ (j : Nat) (v : Value), X[j]? = some v → w.cell? ⟨g, j, none⟩ = some v) (hi : (Tryd.prog.info? ty).map (·.size) = some X.size) :
    (results fn tmps).run Tryd.prog w = .ok (.tuple #[.agg X, v]) w := by
  have hp' : tmps[p]?.getD undef = .pointer (some ⟨g, 0, none⟩) := by simpa using hp
  have hq' : tmps[q]?.getD undef = v := by simpa using hq
  have hl := run_loadVarP w ty d hu hd g 0 X (fun j v hv => by rw [Nat.zero_add]; exact hg j v hv) hi
  simp [results, h, hp', hq', asAddr, hl]
theorem two_blk (w : World) (X Y : Array Value) (T U : TypeId) : ∃ w1, w1 = (w.alloc (.cells X T)).alloc (.cells Y U) ∧ Blk w1 w.heap.size X ∧ Blk w1 (w.heap.size + 1) Y ∧ Below w.heap.size w w1 := by
  refine ⟨_, rfl, (Blk.new w X T).alloc _, ?_, ((Below.refl _ w).alloc (Nat.le_refl _) _).alloc (by simp) _⟩
  have := Blk.new (w.alloc (.cells X T)) Y U
  rwa [World.size_alloc] at this
theorem tre_blk (w : World) (X0 X1 X2 : Array Value) (T0 T1 T2 : TypeId) : ∃ w1, w1 = ((w.alloc (.cells X0 T0)).alloc (.cells X1 T1)).alloc (.cells X2 T2) ∧ Blk w1 w.heap.size X0 ∧ Blk w1 (w.heap.size + 1) X1 ∧ Blk w1 (w.heap.size + 1 + 1) X2 ∧ Below w.heap.size w w1 := by
  obtain ⟨w1, hw1, h0, h1, hB⟩ := two_blk w X0 X1 T0 T1
  have hs : w1.heap.size = w.heap.size + 1 + 1 := by rw [hw1]; simp
  refine ⟨w1.alloc (.cells X2 T2), by rw [hw1], h0.alloc _, h1.alloc _, ?_, hB.alloc hB.size _⟩
  have := Blk.new w1 X2 T2
  rwa [hs] at this
theorem fou_blk (w : World) (X0 X1 X2 X3 : Array Value) (T0 T1 T2 T3 : TypeId) : ∃ w1, w1 = (((w.alloc (.cells X0 T0)).alloc (.cells X1 T1)).alloc (.cells X2 T2)).alloc (.cells X3 T3) ∧ Blk w1 w.heap.size X0 ∧ Blk w1 (w.heap.size + 1) X1 ∧ Blk w1 (w.heap.size + 1 + 1) X2 ∧ Blk w1 (w.heap.size + 1 + 1 + 1) X3 ∧ Below w.heap.size w w1 := by
  obtain ⟨w1, hw1, h0, h1, h2, hB⟩ := tre_blk w X0 X1 X2 T0 T1 T2
  have hs : w1.heap.size = w.heap.size + 1 + 1 + 1 := by rw [hw1]; simp
  refine ⟨w1.alloc (.cells X3 T3), by rw [hw1], h0.alloc _, h1.alloc _, h2.alloc _, ?_, hB.alloc hB.size _⟩
  have := Blk.new w1 X3 T3
  rwa [hs] at this
theorem Blk.range {W : World} {g : Nat} {l : List Int} (h : Blk W g (ia l)) : W.rangeAt g 0 (l.map iv) := fun j v hv => by
  rw [Nat.zero_add]
  exact h.cell (by simpa [ia] using hv)
theorem Blk.ld {W : World} {g : Nat} {l : List Int} (h : Blk W g (ia l)) (hl : l.length = 64) : (Instr.loadAt 26 (.pointer (some ⟨g, 0, none⟩))).run Tryd.prog W = .ok (.agg (ia l)) W :=
  run_loadAt_mid W g 0 26 (l.map iv) _ h.range Tryd.underlying26 rfl (by rw [List.length_map, hl]; kernel_rfl)
theorem eq64 {w : World} {l m : List Int} (hl : l.length = 64) (hm : m.length = 64) : (Op.equalIn 10000 26 (.agg (ia l)) (.agg (ia m))).run Tryd.prog w = .ok (l == m) w :=
  run_equalIn_ints w 9998 26 3 64 Tryd.underlying26 Tryd.underlying3 sizeInt l m hl hm
theorem eqs64 {w : World} {l : List Int} (hl : l.length = 64) : (Op.equalIn 10000 26 (.agg (ia l)) (.agg (ia l))).run Tryd.prog w = .ok true w := by
  rw [eq64 hl hl]; simp
theorem cellv {l : List Int} {j : Nat} {v : Int} (hl : l.length = 64) (hj : j < 64) (hv : l.getD j 0 = v) : (ia l)[j]? = some (.int .i64 v) := by rw [ia_at (by omega), hv]
structure Kn (w : World) (L : List (Nat × List Int)) (W : World) : Prop where
  blk : ∀ g l, (g, l) ∈ L → Blk W g (ia l)
  be : Below w.heap.size w W
section
variable {w W W2 W3 : World} {L : List (Nat × List Int)}
theorem Kn.get (h : Kn w L W) (n : Nat) {g : Nat} {l : List Int} (hn : L[n]? = some (g, l)) : Blk W g (ia l) := h.blk g l (List.mem_of_getElem? hn)
theorem Kn.cell (h : Kn w L W) (n : Nat) {g : Nat} {l : List Int} {k : Nat} {v : Int} (hn : L[n]? = some (g, l)) (hk : k < l.length) (hv : l.getD k 0 = v) : W.cell? ⟨g, k, none⟩ = some (.int .i64 v) := by
  rw [← hv]; exact (h.get n hn).cell (ia_at hk)
theorem Kn.call (h : Kn w L W) (hb : Below W.heap.size W W2) : Kn w L W2 := ⟨fun g l hg => (h.blk g l hg).below hb, h.be.trans (hb.mono h.be.size)⟩
theorem Kn.drew (h : Kn w L W) : Kn w L W.drew := ⟨h.blk, h.be.drew⟩
theorem Kn.drewN (h : Kn w L W) (n : Nat) : Kn w L (W.drewN n) := ⟨h.blk, dN h.be n⟩
theorem Kn.new (h : Kn w L W) (l : List Int) (T : TypeId) : Kn w (L ++ [(W.heap.size, l)]) (W.alloc (.cells (ia l) T)) := by
  refine ⟨fun g m hg => ?_, h.be.alloc h.be.size _⟩
  rcases List.mem_append.1 hg with hg | hg
  · exact (h.blk g m hg).alloc _
  · obtain ⟨rfl, rfl⟩ : g = W.heap.size ∧ m = l := by simpa using hg
    exact Blk.new W (ia m) T
/-- A call's result, stored in a new variable. -/
theorem Kn.push {T : TypeId} {r : List Int} (h : Kn w L W) (hb : Below W.heap.size W W2) (hc : Chg (fun k => k = W2.heap.size) (W2.alloc (.cells (ia zeros) T)) W3) (hr : Blk W3 W2.heap.size (ia r)) : Kn w (L ++ [(W2.heap.size, r)]) W3 := by
  have h2 := h.call hb
  refine ⟨fun g m hg => ?_, (h2.be.alloc h2.be.size _).trans (hc.below (h2.be.alloc h2.be.size _).size fun i e => by have := h2.be.size; omega)⟩
  rcases List.mem_append.1 hg with hg | hg
  · exact ((h2.blk g m hg).alloc _).chg hc (fun e => by have := (h2.blk g m hg).lt; omega)
  · obtain ⟨rfl, rfl⟩ : g = W2.heap.size ∧ m = r := by simpa using hg
    exact hr
theorem Kn.set {g : Nat} {l : List Int} (h : Kn w (L ++ [(g, l)]) W) (hL : ∀ p ∈ L, p.1 < g) (hw : w.heap.size ≤ g) (k : Nat) (v : Int) : Kn w (L ++ [(g, l.set k v)]) (W.setCell ⟨g, k, none⟩ (.int .i64 v)) := by
  refine ⟨fun i m hi => ?_, h.be.setCell (p := ⟨g, k, none⟩) hw _⟩
  rcases List.mem_append.1 hi with hi | hi
  · exact (h.blk i m (List.mem_append_left _ hi)).other (by have := hL _ hi; simp only at this; show i ≠ g; omega) _
  · obtain ⟨rfl, rfl⟩ : i = g ∧ m = l.set k v := by simpa using hi
    exact (h.blk i l (List.mem_append_right _ (by simp))).set_int k v
theorem Kn.fresh (h : Kn w L W) : ∀ p ∈ L, p.1 < W.heap.size := fun p hp => (h.blk p.1 p.2 hp).lt
theorem Kn.ld (h : Kn w L W) (n : Nat) {g : Nat} {l : List Int} (hn : L[n]? = some (g, l)) (hl : l.length = 64) : (Instr.loadAt 26 (.pointer (some ⟨g, 0, none⟩))).run Tryd.prog W = .ok (.agg (ia l)) W := (h.get n hn).ld hl
end
end Go.Proofs.YtlchdelhhnlgbaaDoor
