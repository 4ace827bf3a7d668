/- string(b) of bytes that can be read; clear of bytes of the call's own. REUSABLE in each seat with bytes. -/
import Derived.Test.YtogpnpcdghabmaaMem
import Derived.Laws.BytesArg
import Derived.Lib.SliceRun
namespace Go.Proofs.Ytogpnpcdghabmaa
open Go.RowKit Go.Lib
set_option linter.unusedVariables false
set_option maxRecDepth 100000
theorem strNums (l : List UInt8) : strOfNums (l.map fun x => (x.toNat : Int)) = ⟨l.toArray⟩ := by
  unfold strOfNums
  congr 1
  rw [List.map_map]
  congr 1
  conv => rhs; rw [← List.map_id l]
  apply List.map_congr_left
  intro x _
  simp
/-- string(b). -/
theorem run_strB (w : World) (l : List UInt8) (A : Option Addr) (n c : Nat) (hn : n = l.length) (h : Rd w A l) : (convert 22 9 (.slice A n c)).run Try.prog w = .ok (.string ⟨l.toArray⟩) w := by
  subst hn
  rcases h with rfl | ⟨b, o, rfl, hc⟩
  · rw [run_convert_bytes_string w 22 9 5 _ _ c Try.underlying22 Try.underlying5 Try.underlying9]
    cases A <;> simp [Conv.bytesToString, loadCells]
    all_goals rfl
  · have := run_convert_bytes_arg (P := Try.prog) w 22 5 Try.underlying22 Try.underlying5 b o l.length c (l.map fun x => (x.toNat : Int)) (by simp) (fun i hi => by
      rw [hc i hi]
      unfold bt
      congr 2
      rw [List.getD_eq_getElem?_getD, List.getD_eq_getElem?_getD, List.getElem?_map]
      cases l[i]? <;> rfl) 9 Try.underlying9
    rw [this, strNums]
theorem below_cells {B b : Nat} {a : World} (hb : B ≤ b) : ∀ (vs : List Value) (o : Nat) (w : World), Below B a w → Below B a (w.setCells b o vs) := by
  intro vs
  induction vs with
  | nil => intro o w h; exact h
  | cons v r ih => intro o w h; exact ih (o + 1) _ (h.setCell hb v)

theorem Try.zero5 (w : World) : (zeroValue 5).run Try.prog w = .ok (.int .u8 0) w := by kernel_rfl

theorem wpList_clearB (w : World) {ops : Array Oper} {rest : List Oper} {o : Oper} {a : Act} {Q : Exit → Act → World → Prop} (hgd : o.guard = none) (x : Operand)
    (ho : o.op = .call { callee := .builtin .clear, args := #[x], argTypes := #[22] })
    (base : Nat) (v : Value) (l : List UInt8) (hx : a.eval x = v) (hown : Ob w base v l)
    (h : ∀ w', Below base w w' → wpList Try.prog ops Q rest (a.put o.dst (.tuple #[])) w') : wpList Try.prog ops Q (o :: rest) a w := by
  refine wpList_plain hgd fun K hK => ?_
  have hrun : ∃ w', (Builtin.clear_ #[22] o.type #[v]).run Try.prog w = .ok (.tuple #[]) w' ∧ Below base w w' := by
    rcases hown.form with ⟨rfl, rfl⟩ | ⟨g, c, rfl, h1, h2, h3, h4, h5, h6⟩
    · exact ⟨w, by simp [Builtin.clear_, run_underlying Try.underlying22], Below.refl _ _⟩
    · rcases Nat.eq_zero_or_pos l.length with h0 | h0
      · rw [h0]
        exact ⟨w, by simp [Builtin.clear_, run_underlying Try.underlying22], Below.refl _ _⟩
      · refine ⟨_, Lib.run_clear_slice (P := Try.prog) w 22 5 o.type (.int .u8 0) Try.underlying22 Try.zero5 rfl rfl g 0 l.length c h0 (fun j hj => ?_) (fun j hj => ?_), below_cells h1 _ _ _ (Below.refl _ _)⟩
        · rw [Nat.zero_add, h5 j hj]; rfl
        · rw [Nat.zero_add]; exact h6 j
  obtain ⟨w', hr, hb⟩ := hrun
  unfold Oper.wp
  simp [execOp, ho, resolve, invoke, builtin, hx, hr, Result.andThen]
  exact hK _ _ (h w' hb)

theorem chg_cells {S : Nat → Prop} {b : Nat} {a : World} (hb : S b) : ∀ (vs : List Value) (o : Nat) (w : World), Chg S a w → Chg S a (w.setCells b o vs) := by
  intro vs
  induction vs with
  | nil => intro o w h; exact h
  | cons v r ih => intro o w h; exact ih (o + 1) _ (h.setCell (p := ⟨b, o, none⟩) (.inl hb) v)
/-- clear of bytes of the call's own: their block alone is written. -/
theorem wpList_clearC (w : World) {ops : Array Oper} {rest : List Oper} {o : Oper} {a : Act} {Q : Exit → Act → World → Prop} (hgd : o.guard = none) (x : Operand)
    (ho : o.op = .call { callee := .builtin .clear, args := #[x], argTypes := #[22] })
    (base : Nat) (v : Value) (l : List UInt8) (hx : a.eval x = v) (hown : Ob w base v l)
    (h : ∀ w', Chg (fun k => v.ownBlock = some k) w w' → wpList Try.prog ops Q rest (a.put o.dst (.tuple #[])) w') : wpList Try.prog ops Q (o :: rest) a w := by
  refine wpList_plain hgd fun K hK => ?_
  have hrun : ∃ w', (Builtin.clear_ #[22] o.type #[v]).run Try.prog w = .ok (.tuple #[]) w' ∧ Chg (fun k => v.ownBlock = some k) w w' := by
    rcases hown.form with ⟨rfl, rfl⟩ | ⟨g, c, rfl, h1, h2, h3, h4, h5, h6⟩
    · exact ⟨w, by simp [Builtin.clear_, run_underlying Try.underlying22], Chg.refl _ _⟩
    · rcases Nat.eq_zero_or_pos l.length with h0 | h0
      · rw [h0]
        exact ⟨w, by simp [Builtin.clear_, run_underlying Try.underlying22], Chg.refl _ _⟩
      · refine ⟨_, Lib.run_clear_slice (P := Try.prog) w 22 5 o.type (.int .u8 0) Try.underlying22 Try.zero5 rfl rfl g 0 l.length c h0 (fun j hj => ?_) (fun j hj => ?_), chg_cells (by rfl) _ _ _ (Chg.refl _ _)⟩
        · rw [Nat.zero_add, h5 j hj]; rfl
        · rw [Nat.zero_add]; exact h6 j
  obtain ⟨w', hr, hb⟩ := hrun
  unfold Oper.wp
  simp [execOp, ho, resolve, invoke, builtin, hx, hr, Result.andThen]
  exact hK _ _ (h w' hb)
end Go.Proofs.Ytogpnpcdghabmaa
