/- append of bytes: what it keeps (the old row; any row that is what append makes of it); onto an empty literal. At a step of a drawn region (Drh). REUSABLE in each seat with bytes. -/
import Derived.Test.YtogpnpcdghabmaaRowB
import Derived.Test.YtogpnpcdghabmaaDrh
import Derived.ArgAppend
namespace Go.Proofs.Ytogpnpcdghabmaa
open Go.RowKit Go.Lib
set_option linter.unusedVariables false
set_option maxRecDepth 100000
theorem Ob.room {w w' : World} {base g n cap : Nat} {l m : List UInt8} (h : Ob w base (.slice (some ⟨g, 0, none⟩) n cap) l) (h' : Ob w' base (.slice (some ⟨g, 0, none⟩) (n + m.length) cap) (l ++ m)) (hn : n = l.length) :
    Ob w' base (.slice (some ⟨g, 0, none⟩) n cap) l := by
  subst hn
  obtain ⟨a1, a2⟩ := h
  obtain ⟨b1, b2⟩ := h'
  refine ⟨a1, .inr ?_⟩
  rcases a2 with ⟨e, _⟩ | ⟨g1, c1, cur1, e1, q1, q2, q3, q4, q5, q6⟩
  · cases e
  rcases b2 with ⟨e, _⟩ | ⟨g2, c2, cur2, e2, r1, r2, r3, r4, r5, r6⟩
  · cases e
  injection e1 with x1 x2 x3
  injection x1 with x1
  injection x1 with x1 _ _
  injection e2 with y1 y2 y3
  injection y1 with y1
  injection y1 with y1 _ _
  subst x1 x3 y1 y3
  refine ⟨g, cap, cur2, rfl, q1, r2, q3, q4, r5, ?_⟩
  have := congrArg (List.take (l.length * 1)) r6
  rw [List.take_take] at this
  simp only [List.length_append, List.map_append] at this
  rw [Nat.min_eq_left (by omega), List.take_left' (by simp)] at this
  exact this
/-- Another row of the same bytes in the block that append has written. -/
theorem Ob.twin {w w' : World} {base g n cap : Nat} {l m : List UInt8} (hl : Ob w base (.slice (some ⟨g, 0, none⟩) n cap) l) (h' : Ob w' base (.slice (some ⟨g, 0, none⟩) (n + m.length) cap) (l ++ m)) (hg : w.grownBy w' (some g)) {u : Value} (hu : Ob w base u (l ++ m)) : Ob w' base u (l ++ m) := by
  obtain ⟨u1, u2⟩ := hu
  refine ⟨u1, ?_⟩
  rcases u2 with u2 | ⟨g1, c1, cur1, e1, q1, q2, q3, q4, q5, q6⟩
  · exact .inl u2
  · right
    by_cases hgg : g1 = g
    · subst hgg
      obtain ⟨b1, b2⟩ := h'
      rcases b2 with ⟨e, _⟩ | ⟨g2, c2, cur2, e2, r1, r2, r3, r4, r5, r6⟩
      · cases e
      injection e2 with y1 y2 y3
      injection y1 with y1
      injection y1 with y1 _ _
      subst y1 y3
      obtain ⟨a1, a2⟩ := hl
      rcases a2 with ⟨e, _⟩ | ⟨g3, c3', cur3, e3, t1, t2, t3, t4, t5, t6⟩
      · cases e
      injection e3 with z1 z2 z3
      injection z1 with z1
      injection z1 with z1 _ _
      subst z1 z3
      rw [t2] at q2
      injection q2 with q2
      injection q2 with q2 _ _
      subst q2
      exact ⟨g1, c1, cur2, e1, q1, r2, q3, q4, by rw [r5, ← t5, q5], r6⟩
    · have hlt : g1 < w.heap.size := by
        rcases Nat.lt_or_ge g1 w.heap.size with h | h
        · exact h
        · rw [Array.getElem?_eq_none h] at q2; cases q2
      exact ⟨g1, c1, cur1, e1, q1, (hg.block g1 hlt (fun e => hgg (Option.some.inj e))).trans q2, q3, q4, q5, q6⟩
theorem grown_none {w w' : World} (h : w.grownBy w' none) : Below w.heap.size w w' := (Below.refl _ _).grown h (Nat.le_refl _) (by rintro k ⟨⟩)
theorem run_appK (w : World) (base : Nat) (v : Value) (l : List UInt8) (hown : Ob w base v l) (A : Option Addr) (m : List UInt8) (c : Nat) (hr : Rd w A m) (ty : TypeId) (hlen : l.length + m.length ≤ 1000000000) (hbase : base ≤ w.heap.size) :
    ∃ v' w', (Builtin.append_ #[22, 22] ty #[v, .slice A m.length c]).run Try.prog w = .ok v' w' ∧ Ob w' base v' (l ++ m) ∧ Ob w' base v l ∧ w.grownBy w' v.ownBlock ∧ (∀ u, Ob w base u (l ++ m) → Ob w' base u (l ++ m)) := by
  obtain ⟨i0, hi, hz0, hz1, hz2⟩ := info_parts Try.info5
  rcases A with _ | ad
  · have hm : m = [] := by
      rcases hr with h | ⟨b, o, h, _⟩
      · exact h
      · cases h
    subst hm
    exact ⟨v, w, run_app_none w base v l hown ty c, by rw [List.append_nil]; exact hown, hown, ⟨rfl, rfl, rfl, Nat.le_refl _, fun _ _ _ => rfl⟩, fun u h => h⟩
  · have hnews : ∀ j u, (m.map bv)[j]? = some u → w.cell? (ad.add j) = some u := by
      intro j u hu
      obtain ⟨hj, rfl⟩ := bv_at hu
      rcases hr with h | ⟨b, o, h, hc⟩
      · rw [h] at hj; simp at hj
      · injection h with h
        subst h
        rw [Addr.add_lit]
        exact hc j hj
    rcases hown.form with ⟨rfl, rfl⟩ | ⟨g, cap, rfl, hb, hlt, hle, hmx, hcell, hfr⟩
    · obtain ⟨v', w', hrun, h2, h3, h4, h5⟩ := run_append_own_at (P := Try.prog) w base 22 ty 5 i0 (.int .u8 0) 1 1 Try.underlying22 hi hz0 hz1 hz2 rfl (by decide) (.slice none 0 0) 0 [] (World.ownsRow_nil _ _ _ _) ad m.length c (m.map bv)
        (by simp) hnews (bv_one m) (by unfold maxLen; omega) (by simp at hlen; omega) hbase
      have hB := grown_none h3
      refine ⟨v', w', hrun, ?_, Ob.nil _ _, h3, fun u hu => hu.below hB⟩
      exact Ob.app (l := []) (by rw [List.length_map]; exact h2)
    · by_cases hroom : l.length + m.length ≤ cap
      · obtain ⟨w', hrun, h2, h3⟩ := run_append_fits (P := Try.prog) w base 22 ty 5 i0 1 Try.underlying22 hi hz1 g l.length cap (l.map bv) hown ad m.length c (m.map bv) (by simp) hnews (bv_one m) hroom
        have h2' : Ob w' base (.slice (some ⟨g, 0, none⟩) (l.length + m.length) cap) (l ++ m) := Ob.app (by rw [List.length_map]; exact h2)
        exact ⟨_, w', hrun, h2', hown.room h2' rfl, h3, fun u hu => hown.twin h2' h3 hu⟩
      · obtain ⟨v', w', hrun, h2, h3⟩ := run_append_arg_grows (P := Try.prog) w 22 ty 5 i0 (.int .u8 0) 1 1 Try.underlying22 hi hz0 hz1 hz2 rfl (by decide) ⟨g, 0, none⟩ l.length cap (l.map bv) (by simp)
          (fun j u hu => by
            obtain ⟨hj, rfl⟩ := bv_at hu
            rw [Addr.add_lit, Nat.zero_add]
            exact hcell j hj) ad m.length c (m.map bv) (by simp) hnews (by omega) (by unfold maxLen; omega) (by omega)
        have hB := grown_none h3
        have ho : Ob w' w.heap.size v' (l ++ m) := Ob.app (by rw [List.length_map]; exact h2)
        exact ⟨v', w', hrun, ho.mono hbase, hown.below hB, ⟨h3.os, h3.tape, h3.output, h3.size, fun k hk _ => h3.block k hk (by simp)⟩, fun u hu => hu.below hB⟩
theorem app_valB {o : Oper} {a : Act} {s x : Operand} {v u v' : Value} {w w' : World} (ho : o.op = .call { callee := .builtin .append, args := #[s, x], argTypes := #[22, 22] }) (hs : a.eval s = v) (hx : a.eval x = u)
    (hrun : (Builtin.append_ #[22, 22] o.type #[v, u]).run Try.prog w = .ok v' w') : (execOp a.eval o).run Try.prog w = .ok (.value v') w' := by
  unfold execOp
  simp [ho, resolve, invoke, builtin, hs, hx, hrun, Result.andThen]
/-- The bytes of a literal in a new block are the call's own. -/
theorem Ob.litL (w : World) (base : Nat) (hb : base ≤ w.heap.size) (l : List UInt8) (hl : l.length ≤ 1000000000) : Ob (w.alloc (.cells (l.map bv).toArray 5)) base (.slice (some ⟨w.heap.size, 0, none⟩) l.length l.length) l := by
  have := World.ownsRow_lit (e := 5) (size := 1) w (l.map bv).toArray l.length hb (by unfold maxLen; omega) (by simp)
  unfold Ob
  simpa using this
/-- append onto []byte{}. -/
theorem run_appZ (w : World) (g : Nat) (hz : w.heap[g]? = some (.cells #[] 5 (0, 0))) (base : Nat) (hg : base ≤ g) (A : Option Addr) (m : List UInt8) (c : Nat) (hr : Rd w A m) (ty : TypeId) (hlen : m.length ≤ 1000000000) :
    ∃ v' w', (Builtin.append_ #[22, 22] ty #[.slice (some ⟨g, 0, none⟩) 0 0, .slice A m.length c]).run Try.prog w = .ok v' w' ∧ Ob w' base v' m ∧ Below w.heap.size w w' := by
  obtain ⟨i0, hi, hz0, hz1, hz2⟩ := info_parts Try.info5
  have hlt : g < w.heap.size := (Array.getElem?_eq_some_iff.1 hz).1
  have hown : Ob w base (.slice (some ⟨g, 0, none⟩) 0 0) [] := ⟨rfl, .inr ⟨g, 0, #[], rfl, hg, hz, Nat.le_refl _, Nat.zero_le _, rfl, rfl⟩⟩
  by_cases hm : m = []
  · subst hm
    rcases A with _ | ad
    · exact ⟨_, w, run_app_none w base _ [] hown ty c, hown, Below.refl _ _⟩
    · refine ⟨.slice (some ⟨g, 0, none⟩) 0 0, w, ?_, hown, Below.refl _ _⟩
      simp [Builtin.append_, run_underlying Try.underlying22, sizeOf, typeInfo, hi, Builtin.lenOf, Builtin.firstCells, storeCells, loadCells, loadCellsFrom]
  · obtain ⟨b, o, rfl, hc⟩ := hr.resolve_left hm
    have hpos : 0 < m.length := List.length_pos_iff.2 hm
    obtain ⟨v', w', hrun, h2, h3⟩ := run_append_arg_grows (P := Try.prog) w 22 ty 5 i0 (.int .u8 0) 1 1 Try.underlying22 hi hz0 hz1 hz2 rfl (by decide) ⟨g, 0, none⟩ 0 0 [] (by simp)
      (fun j u hu => by simp at hu) ⟨b, o, none⟩ m.length c (m.map bv) (by simp) (fun j u hu => by
        obtain ⟨hj, rfl⟩ := bv_at hu
        rw [Addr.add_lit]
        exact hc j hj) (by omega) (by unfold maxLen; omega) (by omega)
    refine ⟨v', w', hrun, ?_, grown_none h3⟩
    have : Ob w' w.heap.size v' m := Ob.app (l := []) (by rw [List.length_map]; exact h2)
    exact this.mono (by omega)
section
variable {P : Program} {md : Region.Mode} {ops : Array Oper} {Q : Exit → Act → World → Prop} {S : World → Prop} {T : World → World → Prop} {Hs : Nat → List Value → Value → World → Prop}
/-- An operation of whose value something is known, out of what is known of those that it waits for. -/
theorem seqH_anyA {i : Nat} {o : Oper} {rest tail : List Oper} {a : Act} {F : Nat → World → Prop} (hw : Region.wanted o (yielded ops a.tmps) = true) (hex : ∃ v w, Hs i (argsOf o a) v w)
    (hl : ∀ w, S w → ahead md o F w → ∃ v w', (execOp a.eval o).run P w = .ok (.value v) w' ∧ T w w' ∧ S w' ∧ Hs i (argsOf o a) v w')
    (h : ∀ v, (∃ w, Hs i (argsOf o a) v w) → seqH P md ops Q S T Hs tail (i + 1) rest (a.put o.dst v) (upd F i (Hs i (argsOf o a) v))) : seqH P md ops Q S T Hs tail i (o :: rest) a F :=
  ⟨⟨hw, fun w hS hp => .inl (hl w hS hp)⟩, hex, h⟩
end
end Go.Proofs.Ytogpnpcdghabmaa
