/- slices.Clone of rows of groups; slices.Max of ints. -/
import Derived.Test.YtanihbflgolciaaFPop
import Derived.Lib.SliceRun
namespace Go.Proofs.Ytanihbflgolciaa
open Go.RowKit Go.Lib Go.Sort
set_option linter.unusedVariables false
set_option maxRecDepth 100000

/-- append of groups. -/
theorem wpList_appG {tS : TypeId} (ht : Try.prog.underlying tS = some (.slice 68)) (w : World) {ops : Array Oper} {rest : List Oper} {o : Oper} {a : Act} {Q : Exit → Act → World → Prop} (hgd : o.guard = none) (s x : Operand)
    (ho : o.op = .call { callee := .builtin .append, args := #[s, x], argTypes := #[tS, tS] })
    (base : Nat) (v : Value) (l : List (Int × Value)) (hs : a.eval s = v) (hown : w.ownsRow base 68 2 v l.length (gv l)) (A : Option Addr) (n c : Nat) (m : List (Int × Value)) (hn : n = m.length) (hx : a.eval x = .slice A n c) (hm : ∀ p ∈ m, p.2.oneCell' = true) (hr : RdV w A (gv m))
    (hlen : l.length + m.length ≤ 1000000000) (hbase : base ≤ w.heap.size)
    (h : ∀ v' w', w'.ownsRow base 68 2 v' (l ++ m).length (gv (l ++ m)) → w.grownBy w' v.ownBlock → (v'.ownBlock = v.ownBlock ∨ v'.ownBlock = some w.heap.size) → wpList Try.prog ops Q rest (a.put o.dst v') w') : wpList Try.prog ops Q (o :: rest) a w := by
  subst hn
  exact wpList_appK ht Try.infoG rfl (by decide) w hgd s x ho base v l.length (gv l) hs hown A m.length c (gv m) (gv_len m) hx (gv_one m hm) hr (by omega) (by decide) hbase fun v' w' h1 h2 h3 => h v' w' (by rw [List.length_append, gv_append]; exact h1) h2 h3

set_option maxHeartbeats 1000000 in
theorem fClone_any (d : List (Int × Value)) (g n c : Nat) (w : World) (hr : RdV w (some ⟨g, 0, none⟩) (gv d)) (hn : n = d.length) (hd : d ≠ []) (hs : ∀ p ∈ d, ∃ A n c, p.2 = Value.slice A n c) (hl : d.length ≤ 100000) :
    Calls Try.prog 36 #[.slice (some ⟨g, 0, none⟩) n c] w fun e w' => ∃ g' c', e = .returned (.slice (some ⟨g', 0, none⟩) n c') ∧ w.heap.size ≤ g' ∧ Gr w' g' c' d ∧ Below w.heap.size w w' := by
  have qT : ∀ (w : World) (a : Option Addr) (n c n' c' : Nat), (binOp .eql 66 (.slice a n c) (.slice none n' c')).run Try.prog w = .ok (.bool a.isNone) w := fun w a n c n' c' => Lib.run_eql_slice_nil w _ _ a n c n' c' Try.underlying66
  have HN := Lib.hid hn
  have HD := Lib.hid hd
  have HS := Lib.hid hs
  have hB1 := (Below.refl w.heap.size w).alloc (Nat.le_refl _) (.cells #[] 68)
  have HB1 := Lib.hid hB1
  have HO : Hid (World.ownsRow (w.alloc (.cells #[] 68)) w.heap.size 68 2 (.slice (some ⟨w.heap.size, 0, none⟩) 0 0) ([] : List (Int × Value)).length (gv [])) :=
    ⟨rfl, .inr ⟨w.heap.size, 0, #[], rfl, Nat.le_refl _, heap_alloc_new w _, Nat.le_refl _, Nat.zero_le _, rfl, rfl⟩⟩
  have HR : Hid (RdV (w.alloc (.cells #[] 68)) (some ⟨g, 0, none⟩) (gv d)) := by
    show RdV _ _ _
    rcases hr with h | ⟨b, o, h1, h2⟩
    · exact .inl h
    · exact .inr ⟨b, o, h1, fun i u hu => cell_later hB1 (h2 i u hu)⟩
  have HS1 : Hid (∀ p ∈ d, p.2.oneCell' = true) := fun p hp => by obtain ⟨A, n, c, e⟩ := hs p hp; rw [e]; rfl
  clear hn hd hs hr hB1
  go_enter Try.func36, Try.ntmps36
  go_wp2_with (first
    | ((at_builtin; (refine wpList_appG Try.underlying66 _ rfl (.tmp 5) (.tmp 6) rfl w.heap.size (.slice (some ⟨w.heap.size, 0, none⟩) 0 0) [] rfl HO.out (some ⟨g, 0, none⟩) n c d HN.out rfl HS1.out HR.out (by simp; omega) (by simp) ?_))
       intro v' w' ho hg hv
       have HO2 := Lib.hid ho
       have HB2 := Lib.hid (HB1.out.grown hg (by simp) (fun k hk => by cases hk; exact Nat.le_refl _))
       clear ho hg hv))
  go_ret
  obtain ⟨g', c', hv, hb, hG⟩ := Gr.of HO2.out HS.out HD.out
  subst hv
  refine ⟨g', c', ?_, hb, hG, HB2.out⟩
  rw [HN.out]
  rfl

def mxL (l : List Int) : Nat → Int
  | 0 => l.getD 0 0
  | k + 1 => max (mxL l k) (l.getD (k + 1) 0)
theorem mxL_ge (l : List Int) : ∀ k j, j ≤ k → l.getD j 0 ≤ mxL l k
  | 0, j, h => by obtain rfl : j = 0 := by omega
                  exact Int.le_refl _
  | k + 1, j, h => by
    rw [mxL]
    by_cases e : j = k + 1
    · subst e; exact Int.le_max_right _ _
    · exact Int.le_trans (mxL_ge l k j (by omega)) (Int.le_max_left _ _)
theorem mxL_in (l : List Int) : ∀ k, ∃ j, j ≤ k ∧ mxL l k = l.getD j 0
  | 0 => ⟨0, Nat.le_refl _, rfl⟩
  | k + 1 => by
    rw [mxL]
    obtain ⟨j, hj, e⟩ := mxL_in l k
    rcases Int.le_total (mxL l k) (l.getD (k + 1) 0) with h | h
    · exact ⟨k + 1, Nat.le_refl _, Int.max_eq_right h⟩
    · exact ⟨j, by omega, by rw [Int.max_eq_left h, e]⟩
theorem if_max (a b : Int) : (if a < b then b else a) = max a b := by
  by_cases h : a < b
  · rw [if_pos h, Int.max_eq_right (by omega)]
  · rw [if_neg h, Int.max_eq_left (by omega)]
set_option maxHeartbeats 1000000 in
theorem fMax_any (l : List Int) (A : Option Addr) (n c : Nat) (w : World) (hr : Ri w A l) (hn : n = l.length) (hl : l ≠ []) (hlen : n ≤ 1000000) :
    Calls Try.prog 32 #[.slice A n c] w fun e w' => e = .returned (.int .i64 (mxL l (n - 1))) ∧ w = w' := by
  have hpos : 1 ≤ n := by rw [hn]; exact List.length_pos_iff.2 hl
  obtain ⟨b, o, hA, hc⟩ : ∃ b o, A = some ⟨b, o, none⟩ ∧ ∀ i, i < l.length → w.cell? ⟨b, o + i, none⟩ = some (.int .i64 (l.getD i 0)) := by
    rcases hr with h | h
    · exact absurd h hl
    · exact h
  subst hA
  have HC : Hid (∀ i, i < n → w.cell? ⟨b, o + i, none⟩ = some (.int .i64 (l.getD i 0))) := by rw [hn]; exact hc
  have c0 := HC.out 0 (by omega)
  rw [Nat.add_zero] at c0
  clear hc hr hn hl
  have h1 : ¬ ((n : Int) < 1) := by omega
  go_enter Try.func32, Try.ntmps32
  go_wp2
  go_loopw [3, 4] (fun m i wr => ∃ (k : Nat), 1 ≤ k ∧ k ≤ n ∧ i = .int .i64 k ∧ m = .int .i64 (mxL l (k - 1)) ∧ wr = w) (fun _ i _ => n - (RowKit.intOf i).toNat)
  case atStart => exact ⟨1, Nat.le_refl _, hpos, rfl, rfl, rfl⟩
  case round =>
    obtain ⟨k, hk1, hk, rfl, rfl, hw⟩ := hrel
    subst hw
    by_cases hlt : k < n
    · have e1 := HC.out k hlt
      have hst : Hid (max (mxL l (k - 1)) (l.getD k 0) = mxL l (k + 1 - 1)) := by
        show _ = _
        rw [show k + 1 - 1 = (k - 1) + 1 by omega, mxL, show k - 1 + 1 = k by omega]
      generalize mxL l (k - 1) = M at *
      generalize l.getD k 0 = x at *
      go_wp2
      go_roundw
      case rel => exact ⟨k + 1, by omega, by omega, by go_num, by rw [← hst.out]; congr 1; exact (if_max M x), trivial⟩
      case measure => simp [RowKit.intOf]; omega
    · obtain rfl : k = n := by omega
      go_wp2
      go_ret
      exact ⟨rfl, rfl⟩
end Go.Proofs.Ytanihbflgolciaa
