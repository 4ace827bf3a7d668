/- What the laws over deeds share: a Writer beside a row of ints; the deeds that came in. -/
import Derived.Test.YthidhgobocihpaaDoorAwk3
import Derived.Deep.RegionHeld3
namespace Go.Proofs.YthidhgobocihpaaDoor
open Go.RowKit Go.Lib
set_option linter.unusedVariables false

/-- Deeds that can be read from A on: value and number of bits. -/
def Pz (w : World) (A : Option Addr) (l : List (Int × Int)) : Prop := l = [] ∨ ∃ b o, A = some ⟨b, o, none⟩ ∧ ∀ i, i < l.length → w.cell? ⟨b, o + i * 2, none⟩ = some (.int .i64 (l.getD i (0, 0)).1) ∧ w.cell? ⟨b, o + i * 2 + 1, none⟩ = some (.int .i64 (l.getD i (0, 0)).2)
theorem Pz.below {w w' : World} {A : Option Addr} {l : List (Int × Int)} (h : Pz w A l) (hb : Below w.heap.size w w') : Pz w' A l := by
  rcases h with h | ⟨b, o, hA, hc⟩
  · exact .inl h
  · exact .inr ⟨b, o, hA, fun i hi => ⟨cell_later hb (hc i hi).1, cell_later hb (hc i hi).2⟩⟩
theorem Pz.at {w : World} {A : Option Addr} {l : List (Int × Int)} (h : Pz w A l) {k : Nat} (hk : k < l.length) : ∃ b o, A = some ⟨b, o, none⟩ ∧ b < w.heap.size ∧ ∀ i, i < l.length → w.cell? ⟨b, o + i * 2, none⟩ = some (.int .i64 (l.getD i (0, 0)).1) ∧ w.cell? ⟨b, o + i * 2 + 1, none⟩ = some (.int .i64 (l.getD i (0, 0)).2) := by
  obtain ⟨b, o, rfl, hc⟩ := h.resolve_left (fun e => by rw [e] at hk; simp at hk)
  exact ⟨b, o, rfl, World.block_lt_of_cell? w _ (hc k hk).1, hc⟩
/-- What deeds put. -/
def deed (d : Int × Int) : List Int := if 0 ≤ d.2 ∧ d.2 ≤ 16 then lo d.1 d.2.toNat else []
def deeds (l : List (Int × Int)) : List Int := l.flatMap deed
theorem deed_yes (x : Int) (m : Nat) (h : m ≤ 16) : deed (x, (m : Int)) = lo x m := by unfold deed; rw [if_pos ⟨by simp, by simp; omega⟩]; simp
theorem deed_no {d : Int × Int} (h : d.2 < 0 ∨ 16 < d.2) : deed d = [] := by unfold deed; rw [if_neg (by omega)]
theorem deeds_succ (l : List (Int × Int)) (k : Nat) (h : k < l.length) : deeds (l.take (k + 1)) = deeds (l.take k) ++ deed (l.getD k (0, 0)) := by
  rw [take_snoc l k h (0, 0)]
  simp [deeds]
theorem deed_len (d : Int × Int) : (deed d).length ≤ 16 := by
  unfold deed
  split
  · rw [lo_len]; omega
  · simp
theorem deeds_len (l : List (Int × Int)) : (deeds l).length ≤ 16 * l.length := by
  induction l with
  | nil => simp [deeds]
  | cons d l ih =>
    have := deed_len d
    simp only [deeds, List.flatMap_cons, List.length_append, List.length_cons] at ih ⊢
    omega

/-- A Writer of the bits B in block p; a row of ints C of the call's own, apart from it. -/
def St (w : World) (base p : Nat) (B C : List Int) (v : Value) : Prop := ∃ g, Wtr w base p B g ∧ Oi w base v C ∧ v.ownBlock ≠ some p ∧ ∀ k, g = some k → v.ownBlock ≠ some k
theorem St.wt {w : World} {base p : Nat} {B C : List Int} {v : Value} (h : Hid (St w base p B C v)) : Hid (∃ g, Wtr w base p B g) := by
  obtain ⟨g, hg, _⟩ := h
  exact ⟨g, hg⟩
theorem St.oi {w : World} {base p : Nat} {B C : List Int} {v : Value} (h : Hid (St w base p B C v)) : Oi w base v C := by
  obtain ⟨g, _, h, _⟩ := h
  exact h
theorem St.bit {w : World} {base p : Nat} {B C : List Int} {v : Value} (h : Hid (St w base p B C v)) : Bit B := by
  obtain ⟨g, hg, _⟩ := h
  exact hg.bit
theorem St.ri {w : World} {base p : Nat} {B C : List Int} {A : Option Addr} {n c : Nat} (h : Hid (St w base p B C (.slice A n c))) : Ri w A C := by
  obtain ⟨g, _, h, _⟩ := h
  obtain ⟨A', c', e, _, _, r, _, _⟩ := h.open
  injection e with e1 e2 e3
  subst e1
  exact r
theorem St.on {w w' : World} {base p : Nat} {B C : List Int} {v : Value} (h : Hid (St w base p B C v)) (hb : Below w.heap.size w w') : Hid (St w' base p B C v) := by
  obtain ⟨g, h1, h2, h3, h4⟩ := h
  exact ⟨g, h1.below hb, h2.below hb, h3, h4⟩
theorem St.grown {w w' : World} {base p : Nat} {B C D : List Int} {v v' : Value} (h : Hid (St w base p B C v)) (ho : Oi w' base v' D) (hg : w.grownBy w' v.ownBlock) (hv : v'.ownBlock = v.ownBlock ∨ v'.ownBlock = some w.heap.size) : Hid (St w' base p B D v') := by
  obtain ⟨g, h1, h2, h3, h4⟩ := h
  have hc : Chg (fun i => v.ownBlock = some i) w w' := (Chg.refl _ w).grown hg fun k hk => .inl hk
  have hp := h1.lt
  refine ⟨g, h1.chg hc h3 h4, ho, ?_, fun k hk => ?_⟩
  · rcases hv with e | e
    · rw [e]; exact h3
    · rw [e]; intro e2; injection e2 with e2; omega
  · have := (h1.gt k hk).2
    rcases hv with e | e
    · rw [e]; exact h4 k hk
    · rw [e]; intro e2; injection e2 with e2; omega
theorem St.put {w : World} {base p : Nat} {B C : List Int} {v : Value} (x : Int) (m : Nat) (h : Hid (St w base p B C v)) (hm : m ≤ 16) (hl : B.length ≤ 10000000) (hbw : base ≤ w.heap.size) :
    Calls Tryd.prog 8 #[.pointer (some ⟨p, 0, none⟩), .int .i64 x, .int .i64 m] w fun e w' => e = .returned (.bool true) ∧ Hid (St w' base p (B ++ lo x m) C v) ∧ Below base w w' := by
  obtain ⟨g, h1, h2, h3, h4⟩ := h
  refine (put_yes base p B g x m w h1 hm hl hbw).mono ?_
  rintro e w' ⟨g', rfl, q1, q2, q3⟩
  refine ⟨rfl, ⟨g', q1, h2.chg q3 fun k hk e => ?_, h3, fun k hk => ?_⟩, q3.below hbw fun i hi => ?_⟩
  · rcases e with rfl | e
    · exact h3 hk
    · exact h4 k e hk
  · rcases q2 with rfl | ⟨j, q2, q4⟩
    · exact h4 k hk
    · intro e
      have := (h2.at k e).2
      rw [q2] at hk; injection hk with hk; omega
  · rcases hi with rfl | hi
    · exact h1.bp
    · exact (h1.gt i hi).1
/-- append of ints at a step of a region that draws its order. -/
theorem step_appI {w : World} {ops : Array Oper} {o : Oper} {a : Act} {K : Act → World → Prop} {Q : Exit → Act → World → Prop} {E : Prop} (hgd : o.guard = none) (s x : Operand)
    (ho : o.op = .call { callee := .builtin .append, args := #[s, x], argTypes := #[28, 28] })
    (base : Nat) (v u : Value) (l : List Int) (hs : a.eval s = v) (A : Option Addr) (n c : Nat) (m : List Int) (hx : a.eval x = u) (hu : u = .slice A n c) (hn : n = m.length) (hown : Oi w base v l) (hr : Ri w A m)
    (hlen : l.length + m.length ≤ 1000000000) (hbase : base ≤ w.heap.size)
    (h : ∀ v' w', Oi w' base v' (l ++ m) → w.grownBy w' v.ownBlock → (v'.ownBlock = v.ownBlock ∨ v'.ownBlock = some w.heap.size) → K (a.put o.dst v') w') :
    if Region.wanted o (yielded ops a.tmps) = true then Oper.wp Tryd.prog o a w K Q else E := by
  have hw : Region.wanted o (yielded ops a.tmps) = true := by simp [Region.wanted, hgd]
  rw [if_pos hw]
  subst hu hn
  obtain ⟨v', w', hrun, h2, h3, h4⟩ := run_appV Tryd.underlying28 Tryd.info3 rfl w base v l.length (l.map iv) hown A c (m.map iv) (iv_one m) hr.v o.type (by simpa using hlen) (by decide) hbase
  rw [List.length_map] at hrun
  unfold Oper.wp
  simp [execOp, ho, resolve, invoke, builtin, hs, hx, hrun, Result.andThen]
  exact h v' w' (Oi.app h2) h3 h4
end Go.Proofs.YthidhgobocihpaaDoor
