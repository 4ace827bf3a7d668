/- slices.Grow and slices.Concat of rows of ints; prefix.join. -/
import Derived.Test.YtanihbflgolciaaFor
namespace Go.Proofs.Ytanihbflgolciaa
open Go.RowKit Go.Lib
set_option linter.unusedVariables false
set_option maxRecDepth 100000

theorem cap_rng (n t : Nat) (hn : n < 9223372036854775807) {o : Nat} {T : TypeId} : n ≤ (Question.appendCap n o T).cut t ∧ (Question.appendCap n o T).cut t ≤ 9223372036854775807 := by
  show n ≤ n + t % (2 ^ 63 - n) ∧ n + t % (2 ^ 63 - n) ≤ 9223372036854775807
  have : t % (2 ^ 63 - n) < 2 ^ 63 - n := Nat.mod_lt _ (by omega)
  omega
set_option maxHeartbeats 1000000 in
theorem gGrow_any (n : Nat) (x : Int) (hx : x = (n : Int)) (w : World) (hn : n ≤ 100000000) :
    Calls Try.prog 57 #[.slice none 0 0, .int .i64 x] w fun e w' => ∃ v, e = .returned v ∧ Oi w' w.heap.size v [] ∧ Below w.heap.size w w' := by
  subst hx
  go_enter Try.func57, Try.ntmps57
  by_cases h0 : n = 0
  · subst h0
    go_wp2
    go_ret
    exact ⟨_, rfl, Oi.nil _ _, Below.refl _ _⟩
  · have h1 : (0 : Int) < n := by omega
    have hb : Try.t3.bytes = 8 := by kernel_rfl
    have hc : Builtin.nextslicecap n 0 = n := by unfold Builtin.nextslicecap; rw [if_pos (by omega)]
    have hb1 : ¬ 281474976710656 < n * 8 := by omega
    have hb2 : ¬ 281474976710656 < (n : Int) * 8 := by omega
    have hk := cap_rng n (w.tape w.drawn (Question.appendCap n 0 3)) (by omega) (o := 0) (T := 3)
    have HK := Lib.hid hk
    clear hk
    go_wp2
    generalize (Question.appendCap n 0 3).cut (w.tape w.drawn (Question.appendCap n 0 3)) = K at *
    have hkk := HK.out
    go_ret
    refine ⟨_, rfl, ⟨by simp, .inr ⟨w.heap.size, K, _, rfl, Nat.le_refl _, heap_alloc_new w _, Nat.zero_le _, by unfold maxLen; omega, ?_, by simp⟩⟩, ((Below.refl _ _).alloc (Nat.le_refl _) _).drew⟩
    rw [Array.size_append, size_zeroCells, size_zeroCells]
    simp only [List.size_toArray, List.length_cons, List.length_nil]
    omega

set_option maxHeartbeats 2000000 in
theorem gConcat2_any (A B : Option Addr) (n m c e : Nat) (l r : List Int) (g : Nat) (w : World) (h0 : w.cell? ⟨g, 0, none⟩ = some (.slice A n c)) (h1 : w.cell? ⟨g, 1, none⟩ = some (.slice B m e)) (hl : Ri w A l) (hr : Ri w B r) (hn : n = l.length) (hm : m = r.length) (hln : n ≤ 1000000) (hmn : m ≤ 1000000) :
    Calls Try.prog 49 #[.slice (some ⟨g, 0, none⟩) 2 2] w fun e w' => ∃ v, e = .returned v ∧ Oi w' w.heap.size v (l ++ r) ∧ Below w.heap.size w w' := by
  subst hn hm
  have HL := Lib.hid hl
  have HR := Lib.hid hr
  clear hl hr
  have CG := Lib.hid (gGrow_any (l.length + r.length) ((l.length : Int) + (r.length : Int)) (by omega) w (by omega))
  have hp1 : ¬ ((l.length : Int) < 0) := by omega
  have hp2 : ¬ ((l.length : Int) + (r.length : Int) < 0) := by omega
  go_enter Try.func49, Try.ntmps49
  go_wp2
  refine wp_loop_rounds 3 ?_
  rw [rounds_succ]
  go_wp2
  rw [rounds_succ]
  go_wp2
  rw [rounds_succ]
  go_wp2_with (first
    | ((with_reducible refine CG.out.mono ?_)
       rintro e w2 ⟨v, rfl, hO, hB⟩
       have HO := Lib.hid hO
       have HB := Lib.hid hB
       have h0' := cell_later hB h0
       have h1' := cell_later hB h1
       have HL2 := Lib.hid (HL.out.below hB)
       have HR2 := Lib.hid (HR.out.below hB)
       clear hO hB))
  refine wp_loop_rounds 3 ?_
  rw [rounds_succ]
  go_wp2_with (first
    | ((with_reducible refine wpList_appI _ rfl (.tmp 31) (.tmp 32) rfl w.heap.size v [] rfl HO.out A l.length c l rfl rfl HL2.out (by simp; omega) HB.out.size ?_)
       intro v3 w3 hO hg hv
       have HO3 := Lib.hid hO
       have HB3 := Lib.hid (HB.out.grown hg HB.out.size (fun k hk => (HO.out.at k hk).1))
       have HR3 := Lib.hid (HR.out.below HB3.out)
       have h1'' := cell_later HB3.out h1
       clear hO hg hv))
  rw [rounds_succ]
  go_wp2_with (first
    | ((with_reducible refine wpList_appI _ rfl (.tmp 31) (.tmp 32) rfl w.heap.size v3 ([] ++ l) rfl HO3.out B r.length e r rfl rfl HR3.out (by simp; omega) HB3.out.size ?_)
       intro v4 w4 hO hg hv
       have HO4 := Lib.hid hO
       have HB4 := Lib.hid (HB3.out.grown hg HB3.out.size (fun k hk => (HO3.out.at k hk).1))
       clear hO hg hv))
  rw [rounds_succ]
  go_wp2
  go_ret
  exact ⟨_, rfl, HO4.out, HB4.out⟩
end Go.Proofs.Ytanihbflgolciaa
