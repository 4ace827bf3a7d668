/- The law OctetGets: it returns true, whatever bytes and numbers; its walk by the contracts of what it calls. -/
import Derived.Test.YtdjpdpdaaahmiaaLaw
import Derived.Test.YtdjpdpdaaahmiaaRGet
import Derived.Test.YtdjpdpdaaahmiaaRTurn
import Derived.Lib.SliceRun
namespace Go.Proofs.Ytdjpdpdaaahmiaa
open Go.RowKit
set_option linter.unusedVariables false

theorem below_cells {B b : Nat} {a : World} (hb : B ≤ b) : ∀ (vs : List Value) (o : Nat) (w : World), Below B a w → Below B a (w.setCells b o vs) := by
  intro vs
  induction vs with
  | nil => intro o w h; exact h
  | cons v r ih => intro o w h; exact ih (o + 1) _ (h.setCell hb v)

theorem Try.zero5 (w : World) : (zeroValue 5).run Try.prog w = .ok (.int .u8 0) w := by kernel_rfl

theorem wpList_clearB (w : World) {ops : Array Oper} {rest : List Oper} {o : Oper} {a : Act} {Q : Exit → Act → World → Prop} (hgd : o.guard = none) (x : Operand)
    (ho : o.op = .call { callee := .builtin .clear, args := #[x], argTypes := #[22] })
    (base : Nat) (v : Value) (l : List UInt8) (hx : a.eval x = v) (hown : Ob w base v l)
    (h : ∀ w', Below base w w' → wpList Try.prog ops Q rest (a.put o.dst (.tuple #[])) w') : wpList Try.prog ops Q (o :: rest) a w := by
  refine wpList_plain hgd fun K hK => ?_
  have hrun : ∃ w', (Builtin.clear_ #[22] o.type #[v]).run Try.prog w = .ok (.tuple #[]) w' ∧ Below base w w' := by
    rcases hown.form with ⟨rfl, rfl⟩ | ⟨g, c, rfl, h1, h2, h3, h4, h5, h6⟩
    · exact ⟨w, by simp [Builtin.clear_, run_underlying Try.underlying22], Below.refl _ _⟩
    · rcases Nat.eq_zero_or_pos l.length with h0 | h0
      · rw [h0]
        exact ⟨w, by simp [Builtin.clear_, run_underlying Try.underlying22], Below.refl _ _⟩
      · refine ⟨_, Lib.run_clear_slice (P := Try.prog) w 22 5 o.type (.int .u8 0) Try.underlying22 Try.zero5 rfl rfl g 0 l.length c h0 (fun j hj => ?_) (fun j hj => ?_), below_cells h1 _ _ _ (Below.refl _ _)⟩
        · rw [Nat.zero_add, h5 j hj]; rfl
        · rw [Nat.zero_add]; exact h6 j
  obtain ⟨w', hr, hb⟩ := hrun
  unfold Oper.wp
  simp [execOp, ho, resolve, invoke, builtin, hx, hr, Result.andThen]
  exact hK _ _ (h w' hb)

set_option maxRecDepth 100000 in
set_option maxHeartbeats 1600000 in
theorem gets_far (l : List UInt8) (A : Option Addr) (c : Nat) (k s o : Int) (w : World) (hl : 300 < l.length) (hm : l.length ≤ maxLen) :
    Calls Try.prog 3 #[.slice A l.length c, .int .i64 k, .int .i64 s, .int .i64 o] w fun e w' => e = .returned (.bool true) ∧ Below w.heap.size w w' := by
  unfold maxLen at hm
  go_enter Try.func3, Try.ntmps3
  go_wp2_with (go_at_call 7; (with_reducible refine (awake_any _).mono ?_); rintro e w1 ⟨rfl, hb⟩)
  go_ret
  exact ⟨rfl, hb⟩

theorem own_open (l : List UInt8) (A : Option Addr) (c : Nat) (w : World) (hr : Rd w A l) (hl : l.length ≤ 140737488355328) :
    Calls Try.prog 8 #[.slice A l.length c] w fun e w' => ∃ B d, e = .returned (.slice B l.length d) ∧ l.length ≤ d ∧ Rd w' B l ∧ Below w.heap.size w w' := by
  refine (own_any l A c w hr hl).mono ?_
  rintro e w' ⟨v, rfl, ho, hb⟩
  obtain ⟨B, d, rfl, hd, _, hr, _⟩ := ho.open
  exact ⟨B, d, rfl, hd, hr, hb⟩
theorem rTurn_open (l : List UInt8) (A : Option Addr) (c : Nat) (s o : Int) (w : World) (hr : Rd w A l) (hl : l.length ≤ 65536) :
    Calls Try.prog 13 #[.slice A l.length c, .int .i64 s, .int .i64 o] w fun e w' => ∃ B d, e = .returned (.slice B (turnL l s o).length d) ∧ Rd w' B (turnL l s o) ∧ Below w.heap.size w w' := by
  refine (rTurn_any l A c s o w hr hl).mono ?_
  rintro e w' ⟨v, rfl, ho, hb⟩
  obtain ⟨B, d, rfl, hd, _, hr, _⟩ := ho.open
  exact ⟨B, d, rfl, hr, hb⟩
theorem oTurn_open (l : List UInt8) (A : Option Addr) (c : Nat) (s o : Int) (w : World) (hr : Rd w A l) (hl : l.length ≤ 65536) :
    Calls Try.prog 11 #[.slice A l.length c, .int .i64 s, .int .i64 o] w fun e w' => ∃ B d, e = .returned (.slice B (turnL l s o).length d) ∧ Ob w' w.heap.size (.slice B (turnL l s o).length d) (turnL l s o) ∧ Rd w' B (turnL l s o) ∧
      (turnL l s o).length ≤ maxLen ∧ Below w.heap.size w w' := by
  refine (oTurn_any l A c s o w hr hl).mono ?_
  rintro e w' ⟨v, rfl, ho, hb⟩
  have hlen := ho.len
  obtain ⟨B, d, rfl, hd, _, hr, _⟩ := ho.open
  exact ⟨B, d, rfl, ho, hr, hlen, hb⟩

set_option maxRecDepth 100000 in
set_option maxHeartbeats 1600000 in
theorem gets_near (l : List UInt8) (A : Option Addr) (c : Nat) (k s o : Int) (w : World) (hr : Rd w A l) (hl : l.length ≤ 300) (s2 : s ≤ 9223372036854775807) :
    Calls Try.prog 3 #[.slice A l.length c, .int .i64 k, .int .i64 s, .int .i64 o] w fun e w' => e = .returned (.bool true) ∧ Below w.heap.size w w' := by
  go_enter Try.func3, Try.ntmps3
  go_wp2_with fail
  (with_reducible refine (own_open l A c _ hr (by omega)).mono ?_); rintro e w1 ⟨B, d, rfl, hd, r1, b1⟩
  go_wp2_with fail
  (with_reducible refine (oGet_any l B d k s o _ r1 (by omega) hd).mono ?_); rintro e w2 ⟨rfl, h2⟩
  have b2 := b1.trans (h2.mono b1.size)
  have r2 := r1.below h2
  have p2 := hr.below b2
  clear h2 b1 r1
  go_wp2_with fail
  (with_reducible refine (rGet_any l A c k s o _ p2 (by omega) s2).mono ?_); rintro e w3 ⟨rfl, rfl⟩
  go_wp2_with fail
  (with_reducible refine (oTurn_open l B d s o _ r2 (by omega)).mono ?_); rintro e w3 ⟨C, f, rfl, o3, t3, l3, h3⟩
  have b3 := b2.trans (h3.mono b2.size)
  have r3 := r2.below h3
  have p3 := p2.below h3
  have z3 := h3.size
  go_wp2_with fail
  (with_reducible refine (rTurn_open l A c s o _ p3 (by omega)).mono ?_); rintro e w4 ⟨D, g, rfl, u4, h4⟩
  have b4 := b3.trans (h4.mono b3.size)
  have t4 := t3.below h4
  have o4 := o3.below h4
  have r4 := r3.below h4
  have p4 := p3.below h4
  have q4 := h3.trans (h4.mono z3)
  clear h3 h4 b3 t3 o3 p3
  go_wp2_with fail
  (with_reducible refine (aw_same (turnL l s o) _ _ _ _ _ _ rfl t4 u4 l3).mono ?_); rintro e w5 ⟨rfl, h5⟩
  have b5 := b4.trans (h5.mono b4.size)
  have o5 := o4.below h5
  have p5 := p4.below h5
  have q5 := q4.trans (h5.mono q4.size)
  clear h5 b4 o4 t4 u4 r4 p4 q4
  go_wp2_with ((with_reducible refine wpList_clearB _ rfl (.tmp 58) rfl w2.heap.size (.slice C (turnL l s o).length f) (turnL l s o) rfl o5 ?_); intro w6 h6)
  have b6 := b5.trans (h6.mono b2.size)
  have r6 := r2.below (q5.trans h6)
  have p6 := hr.below b6
  clear h6 b5 o5 p5 q5
  go_wp2_with fail
  (with_reducible refine (aw_same l _ _ _ _ _ _ rfl r6 p6 ?_).mono ?_)
  · unfold maxLen; omega
  rintro e w7 ⟨rfl, h7⟩
  have b7 := b6.trans (h7.mono b6.size)
  clear h7 b6 r6 p6
  go_wp2_with fail
  (with_reducible refine (awake_any _).mono ?_); rintro e w8 ⟨rfl, h8⟩
  have b8 := b7.trans (h8.mono b7.size)
  clear h8 b7
  go_wp2
  go_ret
  exact ⟨rfl, b8⟩

theorem gets_any (l : List UInt8) (A : Option Addr) (c : Nat) (k s o : Int) (w : World) (hr : Rd w A l) (hm : l.length ≤ maxLen) (s2 : s ≤ 9223372036854775807) :
    Calls Try.prog 3 #[.slice A l.length c, .int .i64 k, .int .i64 s, .int .i64 o] w fun e w' => e = .returned (.bool true) ∧ Below w.heap.size w w' := by
  by_cases h : 300 < l.length
  · exact gets_far l A c k s o w h hm
  · exact gets_near l A c k s o w hr (by omega) s2
end Go.Proofs.Ytdjpdpdaaahmiaa
