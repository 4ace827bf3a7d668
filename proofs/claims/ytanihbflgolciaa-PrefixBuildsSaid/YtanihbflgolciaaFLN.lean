/- FLN: the texts FLh, FLi, FLj, FLk, FLl, FLm, FLn, FLo, FLp, FLq, FLr in one. -/
import Derived.Test.YtanihbflgolciaaFCln
import Derived.Test.YtanihbflgolciaaFCnc
import Derived.Test.YtanihbflgolciaaFMrg
import Derived.Test.YtanihbflgolciaaFJoin
import Derived.Test.YtanihbflgolciaaDrg
import Derived.Test.YtanihbflgolciaaPkgP
import Derived.Test.YtanihbflgolciaaFLgs
import Derived.Test.YtanihbflgolciaaFLM
import Derived.Test.YtanihbflgolciaaFMgd
import Derived.Test.YtanihbflgolciaaFYM
import Derived.Test.YtanihbflgolciaaFBld
import Derived.Test.YtanihbflgolciaaFCost
import Derived.Test.YtanihbflgolciaaPCst
/- slices.Grow and slices.Concat of rows of groups. -/
namespace Go.Proofs.Ytanihbflgolciaa
open Go.RowKit Go.Lib
set_option linter.unusedVariables false
set_option maxRecDepth 100000
/-- A row of groups of the call's own. -/
def Og (w : World) (B : Nat) (v : Value) (l : List (Int × Value)) : Prop := w.ownsRow B 68 2 v l.length (gv l)
theorem Og.nil (B : Nat) (w : World) : Og w B (.slice none 0 0) [] := World.ownsRow_nil _ _ _ _
theorem RdV.below {w w' : World} {A : Option Addr} {xs : List Value} (h : RdV w A xs) (hb : Below w.heap.size w w') : RdV w' A xs := by
  rcases h with h | ⟨b, o, h1, h2⟩
  · exact .inl h
  · exact .inr ⟨b, o, h1, fun i u hu => cell_later hb (h2 i u hu)⟩
set_option maxHeartbeats 1000000 in
theorem gGrowG_any (n : Nat) (x : Int) (hx : x = (n : Int)) (w : World) (hn : n ≤ 100000000) :
    Calls Try.prog 51 #[.slice none 0 0, .int .i64 x] w fun e w' => ∃ v, e = .returned v ∧ Og w' w.heap.size v [] ∧ Below w.heap.size w w' := by
  subst hx
  go_enter Try.func51, Try.ntmps51
  by_cases h0 : n = 0
  · subst h0
    go_wp2
    go_ret
    exact ⟨_, rfl, Og.nil _ _, Below.refl _ _⟩
  · have h1 : (0 : Int) < n := by omega
    have hb : Try.t68.bytes = 32 := by kernel_rfl
    have hc : Builtin.nextslicecap n 0 = n := by unfold Builtin.nextslicecap; rw [if_pos (by omega)]
    have hb1 : ¬ 281474976710656 < n * 32 := by omega
    have hb2 : ¬ 281474976710656 < (n : Int) * 32 := by omega
    have hk := cap_rng n (w.tape w.drawn (Question.appendCap n 0 68)) (by omega) (o := 0) (T := 68)
    have HK := Lib.hid hk
    clear hk
    go_wp2
    generalize (Question.appendCap n 0 68).cut (w.tape w.drawn (Question.appendCap n 0 68)) = K at *
    have hkk := HK.out
    go_ret
    refine ⟨_, rfl, ⟨by simp [gv], .inr ⟨w.heap.size, K, _, rfl, Nat.le_refl _, heap_alloc_new w _, Nat.zero_le _, by unfold maxLen; omega, ?_, by simp [gv]⟩⟩, ((Below.refl _ _).alloc (Nat.le_refl _) _).drew⟩
    rw [Array.size_append, size_zeroCells, size_zeroCells]
    simp only [List.size_toArray, List.length_cons, List.length_nil]
    omega
set_option maxHeartbeats 2000000 in
theorem gConcatG_any (A B : Option Addr) (n m c e : Nat) (l r : List (Int × Value)) (g : Nat) (w : World) (h0 : w.cell? ⟨g, 0, none⟩ = some (.slice A n c)) (h1 : w.cell? ⟨g, 1, none⟩ = some (.slice B m e)) (hl : RdV w A (gv l)) (hr : RdV w B (gv r)) (hn : n = l.length) (hm : m = r.length) (hln : n ≤ 1000000) (hmn : m ≤ 1000000)
    (ol : ∀ p ∈ l, p.2.oneCell' = true) (or : ∀ p ∈ r, p.2.oneCell' = true) :
    Calls Try.prog 42 #[.slice (some ⟨g, 0, none⟩) 2 2] w fun e w' => ∃ v, e = .returned v ∧ Og w' w.heap.size v (l ++ r) ∧ Below w.heap.size w w' := by
  have HL := Lib.hid hl
  have HR := Lib.hid hr
  have OL := Lib.hid ol
  have OR := Lib.hid or
  have HN := Lib.hid hn
  have HM := Lib.hid hm
  have CG := Lib.hid (gGrowG_any (n + m) ((n : Int) + (m : Int)) (by omega) w (by omega))
  clear hl hr ol or hn hm
  have hp1 : ¬ ((n : Int) < 0) := by omega
  have hp2 : ¬ ((n : Int) + (m : Int) < 0) := by omega
  go_enter Try.func42, Try.ntmps42
  go_wp2
  refine wp_loop_rounds 3 ?_
  rw [rounds_succ]
  go_wp2
  rw [rounds_succ]
  go_wp2
  rw [rounds_succ]
  go_wp2_with (first
    | ((with_reducible refine CG.out.mono ?_)
       rintro e w2 ⟨v, rfl, hO, hB⟩
       have HO := Lib.hid hO
       have HB := Lib.hid hB
       have h0' := cell_later hB h0
       have h1' := cell_later hB h1
       have HL2 := Lib.hid (HL.out.below hB)
       have HR2 := Lib.hid (HR.out.below hB)
       clear hO hB))
  refine wp_loop_rounds 3 ?_
  rw [rounds_succ]
  go_wp2_with (first
    | ((at_builtin; (refine wpList_appG Try.underlying66 _ rfl (.tmp 31) (.tmp 32) rfl w.heap.size v [] rfl HO.out A n c l HN.out rfl OL.out HL2.out (by simp; have := HN.out; omega) HB.out.size ?_))
       intro v3 w3 hO hg hv
       have HO3 := Lib.hid hO
       have HB3 := Lib.hid (HB.out.grown hg HB.out.size (fun k hk => (World.ownsRow.lt HO.out k hk).1))
       have HR3 := Lib.hid (HR.out.below HB3.out)
       have h1'' := cell_later HB3.out h1
       clear hO hg hv))
  rw [rounds_succ]
  go_wp2_with (first
    | ((at_builtin; (refine wpList_appG Try.underlying66 _ rfl (.tmp 31) (.tmp 32) rfl w.heap.size v3 ([] ++ l) rfl HO3.out B m e r HM.out rfl OR.out HR3.out (by simp; have := HN.out; have := HM.out; omega) HB3.out.size ?_))
       intro v4 w4 hO hg hv
       have HO4 := Lib.hid hO
       have HB4 := Lib.hid (HB3.out.grown hg HB3.out.size (fun k hk => (World.ownsRow.lt HO3.out k hk).1))
       clear hO hg hv))
  rw [rounds_succ]
  go_wp2
  go_ret
  exact ⟨_, rfl, HO4.out, HB4.out⟩
end Go.Proofs.Ytanihbflgolciaa
/- Groups in memory with what they stand for: weights, leaves; join of two. -/
namespace Go.Proofs.Ytanihbflgolciaa
open Go.RowKit Go.Lib
set_option linter.unusedVariables false
set_option maxRecDepth 100000
/-- A weight and the leaves, each as often as it is in the group. -/
abbrev Wl := Nat × List Nat
def jw (a b : Wl) : Wl := (a.1 + b.1, a.2 ++ b.2)
def liI (l : List Nat) : List Int := l.map fun (n : Nat) => (n : Int)
/-- The value p is the group q; its leaves lie below block B. -/
structure GR (w : World) (B : Nat) (p : Int × Value) (q : Wl) : Prop where
  wt : p.1 = (q.1 : Int)
  sl : ∃ A k c, p.2 = .slice A k c ∧ k = q.2.length ∧ Ri w A (liI q.2) ∧ ∀ b o s, A = some ⟨b, o, s⟩ → b < B
theorem GR.below {w w' : World} {B : Nat} {p : Int × Value} {q : Wl} (h : GR w B p q) (hb : Below w.heap.size w w') : GR w' B p q := by
  obtain ⟨h1, A, k, c, h2, h3, h4, h5⟩ := h
  exact ⟨h1, A, k, c, h2, h3, h4.below hb, h5⟩
theorem GR.up {w : World} {B B' : Nat} {p : Int × Value} {q : Wl} (h : GR w B p q) (hb : B ≤ B') : GR w B' p q := by
  obtain ⟨h1, A, k, c, h2, h3, h4, h5⟩ := h
  exact ⟨h1, A, k, c, h2, h3, h4, fun b o s e => Nat.lt_of_lt_of_le (h5 b o s e) hb⟩
theorem ri_chg {S : Nat → Prop} {w w' : World} {A : Option Addr} {l : List Int} (h : Ri w A l) (hc : Chg S w w') (hn : ∀ b o s, A = some ⟨b, o, s⟩ → ¬ S b) : Ri w' A l := by
  rcases h with h | ⟨b, o, h1, h2⟩
  · exact .inl h
  · exact .inr ⟨b, o, h1, fun i hi => hc.cellv (h2 i hi) (hn b o none h1)⟩
theorem GR.chg {S : Nat → Prop} {w w' : World} {B : Nat} {p : Int × Value} {q : Wl} (h : GR w B p q) (hc : Chg S w w') (hS : ∀ k, S k → B ≤ k) : GR w' B p q := by
  obtain ⟨h1, A, k, c, h2, h3, h4, h5⟩ := h
  exact ⟨h1, A, k, c, h2, h3, ri_chg h4 hc fun b o s e hb => by have := h5 b o s e; have := hS b hb; omega, h5⟩
theorem GR.one {w : World} {B : Nat} {p : Int × Value} {q : Wl} (h : GR w B p q) : p.2.oneCell' = true := by
  obtain ⟨_, A, k, c, h2, _⟩ := h
  rw [h2]; rfl
/-- Groups, one behind the other. -/
structure PL (w : World) (B : Nat) (L : List (Int × Value)) (Q : List Wl) : Prop where
  len : L.length = Q.length
  at_ : ∀ (i : Nat) (p : Int × Value) (q : Wl), L[i]? = some p → Q[i]? = some q → GR w B p q
theorem PL.nil (w : World) (B : Nat) : PL w B [] [] := ⟨rfl, fun i p q h => by simp at h⟩
theorem PL.mono {w w' : World} {B B' : Nat} {L : List (Int × Value)} {Q : List Wl} (h : PL w B L Q) (f : ∀ p q, GR w B p q → GR w' B' p q) : PL w' B' L Q := ⟨h.len, fun i p q h1 h2 => f p q (h.at_ i p q h1 h2)⟩
theorem PL.app {w : World} {B : Nat} {L M : List (Int × Value)} {Q R : List Wl} (h : PL w B L Q) (k : PL w B M R) : PL w B (L ++ M) (Q ++ R) := by
  refine ⟨by rw [List.length_append, List.length_append, h.len, k.len], fun i p q h1 h2 => ?_⟩
  by_cases hi : i < L.length
  · rw [List.getElem?_append_left hi] at h1
    rw [List.getElem?_append_left (by rw [← h.len]; exact hi)] at h2
    exact h.at_ i p q h1 h2
  · rw [List.getElem?_append_right (by omega)] at h1
    rw [List.getElem?_append_right (by rw [← h.len]; omega), ← h.len] at h2
    exact k.at_ _ p q h1 h2
theorem PL.one {w : World} {B : Nat} {p : Int × Value} {q : Wl} (h : GR w B p q) : PL w B [p] [q] := ⟨rfl, fun i a b h1 h2 => by
  match i with
  | 0 =>
    simp only [List.getElem?_cons_zero, Option.some.injEq] at h1 h2
    rw [← h1, ← h2]; exact h
  | i + 1 => simp at h1⟩
theorem PL.cells {w : World} {B : Nat} {L : List (Int × Value)} {Q : List Wl} (h : PL w B L Q) : ∀ p ∈ L, p.2.oneCell' = true := fun p hp => by
  obtain ⟨i, hi⟩ := List.mem_iff_getElem?.1 hp
  have hl := (List.getElem?_eq_some_iff.1 hi).1
  exact (h.at_ i p _ hi (List.getElem?_eq_getElem (by rw [← h.len]; exact hl))).one
theorem PL.sl {w : World} {B : Nat} {L : List (Int × Value)} {Q : List Wl} (h : PL w B L Q) : ∀ p ∈ L, ∃ A n c, p.2 = Value.slice A n c := fun p hp => by
  obtain ⟨i, hi⟩ := List.mem_iff_getElem?.1 hp
  have hl := (List.getElem?_eq_some_iff.1 hi).1
  obtain ⟨_, A, k, c, h2, _⟩ := h.at_ i p _ hi (List.getElem?_eq_getElem (by rw [← h.len]; exact hl))
  exact ⟨A, k, c, h2⟩
/-- The leaves lie in block B or later. -/
def Nu (B : Nat) (p : Int × Value) : Prop := ∀ b o s n c, p.2 = .slice (some ⟨b, o, s⟩) n c → B ≤ b
/-- The leaves do not lie in the row's own block. -/
def Off (v : Value) (p : Int × Value) : Prop := ∀ b o s n c, p.2 = .slice (some ⟨b, o, s⟩) n c → v.ownBlock ≠ some b
theorem GR.chg2 {S : Nat → Prop} {w w' : World} {B B' : Nat} {p : Int × Value} {q : Wl} (h : GR w B p q) (hc : Chg S w w') (hn : ∀ b o s n c, p.2 = .slice (some ⟨b, o, s⟩) n c → ¬ S b) (hB : B ≤ B') : GR w' B' p q := by
  obtain ⟨h1, A, k, c, h2, h3, h4, h5⟩ := h
  exact ⟨h1, A, k, c, h2, h3, ri_chg h4 hc fun b o s e => hn b o s k c (by rw [h2, e]), fun b o s e => Nat.lt_of_lt_of_le (h5 b o s e) hB⟩
theorem GR.lt {w : World} {B : Nat} {p : Int × Value} {q : Wl} (h : GR w B p q) : ∀ b o s n c, p.2 = .slice (some ⟨b, o, s⟩) n c → b < B := fun b o s n c e => by
  obtain ⟨h1, A, k, c', h2, h3, h4, h5⟩ := h
  rw [h2] at e
  injection e with e
  exact h5 b o s e
theorem PL.mono2 {w w' : World} {B B' : Nat} {L : List (Int × Value)} {Q : List Wl} (h : PL w B L Q) (f : ∀ p ∈ L, ∀ q, GR w B p q → GR w' B' p q) : PL w' B' L Q := ⟨h.len, fun i p q h1 h2 => f p (List.mem_of_getElem? h1) q (h.at_ i p q h1 h2)⟩
theorem PL.ex {w : World} {B : Nat} {L : List (Int × Value)} {Q : List Wl} (h : PL w B L Q) {p : Int × Value} (hp : p ∈ L) : ∃ q, GR w B p q := by
  obtain ⟨i, hi⟩ := List.mem_iff_getElem?.1 hp
  have hl := (List.getElem?_eq_some_iff.1 hi).1
  exact ⟨_, h.at_ i p _ hi (List.getElem?_eq_getElem (by rw [← h.len]; exact hl))⟩
/-- join of two groups. -/
theorem join_gr (p1 p2 : Int × Value) (q1 q2 : Wl) (B : Nat) (w : World) (h1 : GR w B p1 q1) (h2 : GR w B p2 q2) (hB : B ≤ w.heap.size) (b1 : q1.1 ≤ 1000000000000000000) (b2 : q2.1 ≤ 1000000000000000000) (l1 : q1.2.length ≤ 1000000) (l2 : q2.2.length ≤ 1000000) :
    Calls Try.prog 40 #[.agg #[.int .i64 p1.1, p1.2], .agg #[.int .i64 p2.1, p2.2]] w fun e w' => ∃ p : Int × Value, e = .returned (.agg #[.int .i64 p.1, p.2]) ∧ GR w' w'.heap.size p (jw q1 q2) ∧ Nu w.heap.size p ∧ Below w.heap.size w w' := by
  obtain ⟨e1, A, n, c, s1, k1, r1, _⟩ := h1
  obtain ⟨e2, A2, n2, c2, s2, k2, r2, _⟩ := h2
  rw [s1, s2]
  refine (fJoin_any p1.1 p2.1 A A2 n n2 c c2 (liI q1.2) (liI q2.2) w r1 r2 (by rw [k1]; simp [liI]) (by rw [k2]; simp [liI]) (by omega) (by omega) (by omega) (by omega)).mono ?_
  rintro e w' ⟨A', k', c', rfl, hO, hB'⟩
  obtain ⟨A3, c3, hv, _, _, hri, hlt, _⟩ := hO.open
  injection hv with hA hk2 hc
  refine ⟨(p1.1 + p2.1, .slice A' k' c'), rfl, ⟨by show p1.1 + p2.1 = ((q1.1 + q2.1 : Nat) : Int); omega, ?_⟩, (fun b o s n c e => by injection e with e; exact (hlt b o s (by rw [← hA]; exact e)).1), hB'⟩
  refine ⟨A', k', c', rfl, by rw [hk2]; simp [liI, jw], ?_, fun b o s e => (hlt b o s (by rw [← hA]; exact e)).2⟩
  rw [hA]
  have : liI (jw q1 q2).2 = liI q1.2 ++ liI q2.2 := by simp [liI, jw]
  rw [this]; exact hri
end Go.Proofs.Ytanihbflgolciaa
/- Contract of paired: neighbours joined two by two. -/
namespace Go.Proofs.Ytanihbflgolciaa
open Go.RowKit Go.Lib
set_option linter.unusedVariables false
set_option maxRecDepth 100000
theorem Og.below {w w' : World} {B : Nat} {v : Value} {l : List (Int × Value)} (h : Og w B v l) (hb : Below w.heap.size w w') : Og w' B v l :=
  owns_chg h (Chg.of_below (S := fun _ => False) hb) fun _ _ e => e
theorem Og.open {w : World} {B : Nat} {v : Value} {l : List (Int × Value)} (h : Og w B v l) (hs : ∀ p ∈ l, ∃ A n c, p.2 = Value.slice A n c) : ∃ A c, v = .slice A l.length c ∧ RdV w A (gv l) := by
  by_cases h0 : l = []
  · subst h0
    rcases h.2 with ⟨rfl, _⟩ | ⟨g, c, cur, rfl, _⟩
    · exact ⟨none, 0, rfl, .inl rfl⟩
    · exact ⟨_, c, rfl, .inl rfl⟩
  · obtain ⟨g, c, rfl, _, hG⟩ := Gr.of h hs h0
    exact ⟨_, c, rfl, hG.rd⟩
theorem pairUp_at {α : Type} (j : α → α → α) : ∀ (l : List α) (r : Nat) (a b : α), l[2 * r]? = some a → l[2 * r + 1]? = some b → (pairUp j l)[r]? = some (j a b)
  | [], r, a, b, h, _ => by simp at h
  | [x], r, a, b, h, k => by simp at k
  | x :: y :: t, 0, a, b, h, k => by
    simp only [Nat.mul_zero, List.getElem?_cons_zero, List.getElem?_cons_succ, Option.some.injEq] at h k
    rw [pairUp, ← h, ← k]; rfl
  | x :: y :: t, r + 1, a, b, h, k => by
    rw [show 2 * (r + 1) = 2 * r + 1 + 1 by omega] at h
    rw [show 2 * (r + 1) + 1 = (2 * r + 1) + 1 + 1 by omega] at k
    simp only [List.getElem?_cons_succ] at h k
    rw [pairUp, List.getElem?_cons_succ]
    exact pairUp_at j t r a b h k
/-- What a round's operations are good for. -/
def hsP (A : Option Addr) (n c : Nat) (v : Value) (b o r : Nat) (p1 p2 : Int × Value) (q : Wl) (D : Nat) : Nat → List Value → Value → World → Prop
  | 0, _, u, _ => u = v
  | 1, _, u, _ => u = .slice A n c
  | 2, _, u, _ => u = .int .i64 ((2 * r + 1 : Nat) : Int)
  | 3, _, u, _ => u = .int .i64 ((2 * r : Nat) : Int)
  | 4, _, u, _ => u = .pointer (some ⟨b, o + 2 * r * 2, none⟩)
  | 5, _, u, _ => u = .agg #[.int .i64 p1.1, p1.2]
  | 6, _, u, _ => u = .slice A n c
  | 7, _, u, _ => u = .int .i64 ((2 * r + 1 : Nat) : Int)
  | 8, _, u, _ => u = .pointer (some ⟨b, o + (2 * r + 1) * 2, none⟩)
  | 9, _, u, _ => u = .agg #[.int .i64 p2.1, p2.2]
  | 10, _, u, W => ∃ p : Int × Value, u = .agg #[.int .i64 p.1, p.2] ∧ GR W W.heap.size p q ∧ Nu D p
  | 11, _, u, W => ∃ (p : Int × Value) (g : Nat), u = .slice (some ⟨g, 0, none⟩) 1 1 ∧ GR W W.heap.size p q ∧ Nu D p ∧ RdV W (some ⟨g, 0, none⟩) (gv [p])
  | _, _, _, _ => True
theorem hsP_st {A : Option Addr} {n c : Nat} {v : Value} {b o r : Nat} {p1 p2 : Int × Value} {q : Wl} {D : Nat} (i : Nat) (vs : List Value) (u : Value) (W W' : World) (hT : Below W.heap.size W W') (h : hsP A n c v b o r p1 p2 q D i vs u W) : hsP A n c v b o r p1 p2 q D i vs u W' := by
  match i with
  | 0 => exact h
  | 1 => exact h
  | 2 => exact h
  | 3 => exact h
  | 4 => exact h
  | 5 => exact h
  | 6 => exact h
  | 7 => exact h
  | 8 => exact h
  | 9 => exact h
  | 10 => obtain ⟨p, h1, h2, h3⟩ := h; exact ⟨p, h1, (h2.below hT).up hT.size, h3⟩
  | 11 => obtain ⟨p, g, h1, h2, h3, h4⟩ := h; exact ⟨p, g, h1, (h2.below hT).up hT.size, h3, h4.below hT⟩
  | _ + 12 => exact trivial
section
variable {P : Program} {ops : Array Oper} {Q : Exit → Act → World → Prop} {md : Region.Mode} {S : World → Prop} {T : World → World → Prop} {Hs : Nat → List Value → Value → World → Prop}
theorem seqG_call {i : Nat} {o : Oper} {rest tail : List Oper} {a : Act} {F : Nat → World → Prop} (hw : Region.wanted o (yielded ops a.tmps) = true)
    (hl : ∀ w, S w → ahead md o F w → (∃ f args, (execOp a.eval o).run P w = .ok (.enter f args) w ∧ Calls P f args w fun e w'' => ∃ v, e = .returned v ∧ T w w'' ∧ S w'' ∧ Hs i (argsOf o a) v w''))
    (h : ∀ v, seqG P md ops Q S T Hs tail (i + 1) rest (a.put o.dst v) (upd F i (Hs i (argsOf o a) v))) : seqG P md ops Q S T Hs tail i (o :: rest) a F :=
  ⟨⟨hw, fun w hS hp => by
    obtain ⟨f, args, h1, h2⟩ := hl w hS hp
    exact .inr (.inr ⟨f, args, w, h1, h2⟩)⟩, h⟩
end
theorem run_callV {o : Oper} {a : Act} (f : FuncId) (xs : List Operand) (ts : Array TypeId) (A : List Value) (ho : o.op = .call { callee := .value (.func f), args := xs.toArray, argTypes := ts })
    (eg : ∀ args w, (callFunc f args).run Try.prog w = .ok (.enter f args) w) (hA : xs.map a.eval = A) (w : World) : (execOp a.eval o).run Try.prog w = .ok (.enter f A.toArray) w := by
  subst hA
  unfold execOp
  simp [ho, resolve, invoke, go_sem, eg]
theorem load_val {o : Oper} {a : Act} {T : TypeId} {x : Operand} {p v : Value} {W : World} (ho : o.op = .load T x) (hx : a.eval x = p) (hl : (Instr.loadAt T p).run Try.prog W = .ok v W) : (execOp a.eval o).run Try.prog W = .ok (.value v) W := by
  unfold execOp
  simp only [ho, hx, Sem.run_bind, hl, Result.andThen_ok, Sem.run_pure]
theorem GL.ld {W : World} {b o : Nat} {p : Int × Value} (h0 : W.cell? ⟨b, o, none⟩ = some (.int .i64 p.1)) (h1 : W.cell? ⟨b, o + 1, none⟩ = some p.2) : (Instr.loadAt 68 (.pointer (some ⟨b, o, none⟩))).run Try.prog W = .ok (.agg #[.int .i64 p.1, p.2]) W := by
  have := run_loadVarP W 68 _ Try.underlying68 rfl b o #[.int .i64 p.1, p.2] (fun j v hv => by
    rcases j with _ | _ | j
    · simp at hv; subst hv; exact h0
    · simp at hv; subst hv; exact h1
    · simp at hv) (by kernel_rfl)
  simp only [Instr.loadAt, Instr.sureAddr, Sem.run_bind, Sem.run_pure, Result.andThen_ok, this]
theorem RdV.pairAt {w : World} {b o : Nat} {l : List (Int × Value)} (h : ∀ (i : Nat) u, (gv l)[i]? = some u → w.cell? ⟨b, o + i, none⟩ = some u) {i : Nat} {p : Int × Value} (hp : l[i]? = some p) : w.cell? ⟨b, o + i * 2, none⟩ = some (.int .i64 p.1) ∧ w.cell? ⟨b, o + i * 2 + 1, none⟩ = some p.2 := by
  have := gv_at l i p hp
  exact ⟨h _ _ this.1, h _ _ this.2⟩
set_option maxHeartbeats 4000000 in
theorem paired_any (A : Option Addr) (n c : Nat) (L : List (Int × Value)) (Q : List Wl) (w : World) (hr : RdV w A (gv L)) (hn : n = L.length) (hn2 : n ≤ 100000) (hP : PL w w.heap.size L Q) (hQ : ∀ q ∈ Q, q.1 ≤ 1000000000000000000 ∧ q.2.length ≤ 1000000) :
    Calls Try.prog 43 #[.slice A n c] w fun e w' => ∃ v M, e = .returned v ∧ Og w' w.heap.size v M ∧ PL w' w'.heap.size M (pairUp jw Q) ∧ (∀ p ∈ M, Nu w.heap.size p) ∧ Below w.heap.size w w' := by
  have HR := Lib.hid hr
  have HN := Lib.hid hn
  have HP := Lib.hid hP
  have HQ := Lib.hid hQ
  have HL2 : Hid ((pairUp jw Q).length = n / 2) := by show _ = _; rw [pairUp_length, ← hP.len, hn]
  have HET := Lib.hid (enters_of Try.func40 (by kernel_rfl) rfl)
  clear hr hn hP hQ
  go_enter Try.func43, Try.ntmps43
  go_wp2
  go_loopw [3, 4] (fun v i wr => ∃ (r : Nat) (u : Value) (M : List (Int × Value)), 2 * r ≤ n ∧ i = .int .i64 ((2 * r + 1 : Nat) : Int) ∧ u = v ∧ Hid (Og wr w.heap.size u M ∧ PL wr wr.heap.size M ((pairUp jw Q).take r) ∧ ∀ p ∈ M, Off u p ∧ Nu w.heap.size p) ∧ Hid (Below w.heap.size w wr)) (fun _ i _ => n + 2 - (RowKit.intOf i).toNat)
  case atStart => exact ⟨0, _, [], by omega, rfl, rfl, ⟨Og.nil _ _, PL.nil _ _, fun p hp => by cases hp⟩, Below.refl _ _⟩
  case round =>
    rename World => wo
    obtain ⟨r, v, M, hrn, rfl, rfl, HM, HB⟩ := hrel
    by_cases hlt : 2 * r + 1 < n
    · have hb1 := HR.out.below HB.out
      obtain ⟨b, o, hA, hc⟩ := hb1.resolve_left (fun e => by
        have := congrArg List.length e
        rw [gv_len, ← HN.out] at this
        simp only [List.length_nil] at this
        omega)
      obtain ⟨p1, hp1⟩ : ∃ p, L[2 * r]? = some p := ⟨_, List.getElem?_eq_getElem (by rw [← HN.out]; omega)⟩
      obtain ⟨p2, hp2⟩ : ∃ p, L[2 * r + 1]? = some p := ⟨_, List.getElem?_eq_getElem (by rw [← HN.out]; omega)⟩
      obtain ⟨q1, hq1⟩ : ∃ q, Q[2 * r]? = some q := ⟨_, List.getElem?_eq_getElem (by rw [← HP.out.len, ← HN.out]; omega)⟩
      obtain ⟨q2, hq2⟩ : ∃ q, Q[2 * r + 1]? = some q := ⟨_, List.getElem?_eq_getElem (by rw [← HP.out.len, ← HN.out]; omega)⟩
      have HC1 := Lib.hid (RdV.pairAt hc hp1)
      have HC2 := Lib.hid (RdV.pairAt hc hp2)
      have HG1 := Lib.hid (((HP.out.at_ _ _ _ hp1 hq1).below HB.out).up HB.out.size)
      have HG2 := Lib.hid (((HP.out.at_ _ _ _ hp2 hq2).below HB.out).up HB.out.size)
      have HQ1 := Lib.hid (HQ.out q1 (List.mem_of_getElem? hq1))
      have HQ2 := Lib.hid (HQ.out q2 (List.mem_of_getElem? hq2))
      have HPU := Lib.hid (pairUp_at jw Q r q1 q2 hq1 hq2)
      have HML : Hid (M.length ≤ 100000) := by
        have := HM.out.2.1.len
        rw [List.length_take] at this
        show _ ≤ _
        omega
      have hd : decide (((2 * r + 1 : Nat) : Int) < (n : Int)) = true := by rw [decide_eq_true_iff]; omega
      have hA2 : Hid (A = some ⟨b, o, none⟩) := hA
      clear hb1 hc hp1 hp2 hq1 hq2 hA
      go_upto_region 5 with fail
      refine wp_region_seqG 12 (Below wo.heap.size wo) (fun W W' => Below W.heap.size W W') (hsP A n c v b o r p1 p2 (jw q1 q2) wo.heap.size) (by kernel_rfl) (by kernel_rfl) hsP_st (Below.drew (Below.refl _ _)) ?_
      simp only [List.take_succ_cons, List.take_zero, List.drop_succ_cons, List.drop_zero]
      refine seqG_cons (by rfl) (fun W hS hp => ⟨v, W, by go_simp, Below.refl _ _, hS, rfl⟩) (fun v0 => ?_)
      simp only [Act.put, List.setIfInBounds_toArray, List.set_cons_zero, List.set_cons_succ]
      refine seqG_cons (by rfl) (fun W hS hp => ⟨.slice A n c, W, by go_simp, Below.refl _ _, hS, rfl⟩) (fun v1 => ?_)
      simp only [Act.put, List.setIfInBounds_toArray, List.set_cons_zero, List.set_cons_succ]
      refine seqG_cons (by rfl) (fun W hS hp => ⟨.int .i64 ((2 * r + 1 : Nat) : Int), W, by go_simp, Below.refl _ _, hS, rfl⟩) (fun v2 => ?_)
      simp only [Act.put, List.setIfInBounds_toArray, List.set_cons_zero, List.set_cons_succ]
      refine seqG_cons (by rfl) (fun W hS hp => ?_) (fun v3 => ?_)
      · have p2 : v2 = .int .i64 ((2 * r + 1 : Nat) : Int) := hp { on := 2, ground := .data } (by simp) rfl
        subst p2
        refine ⟨.int .i64 ((2 * r : Nat) : Int), W, ?_, Below.refl _ _, hS, rfl⟩
        go_simp
        rw [IntKind.wrap_i64]
        omega
      simp only [Act.put, List.setIfInBounds_toArray, List.set_cons_zero, List.set_cons_succ]
      refine seqG_cons (by rfl) (fun W hS hp => ?_) (fun v4 => ?_)
      · have p1 : v1 = .slice A n c := hp { on := 1, ground := .data } (by simp) rfl
        have p3 : v3 = .int .i64 ((2 * r : Nat) : Int) := hp { on := 3, ground := .data } (by simp) rfl
        subst p1 p3
        refine ⟨.pointer (some ⟨b, o + 2 * r * 2, none⟩), W, ?_, Below.refl _ _, hS, rfl⟩
        rw [hA2.out]
        go_simp
        rw [if_pos (by omega), show (2 * (r : Int)).toNat = 2 * r by omega]
      simp only [Act.put, List.setIfInBounds_toArray, List.set_cons_zero, List.set_cons_succ]
      refine seqG_cons (by rfl) (fun W hS hp => ?_) (fun v5 => ?_)
      · have p4 : v4 = .pointer (some ⟨b, o + 2 * r * 2, none⟩) := hp { on := 4, ground := .data } (by simp) rfl
        subst p4
        exact ⟨_, W, load_val rfl rfl (GL.ld (cell_later hS HC1.out.1) (cell_later hS HC1.out.2)), Below.refl _ _, hS, rfl⟩
      simp only [Act.put, List.setIfInBounds_toArray, List.set_cons_zero, List.set_cons_succ]
      refine seqG_cons (by rfl) (fun W hS hp => ⟨.slice A n c, W, by go_simp, Below.refl _ _, hS, rfl⟩) (fun v6 => ?_)
      simp only [Act.put, List.setIfInBounds_toArray, List.set_cons_zero, List.set_cons_succ]
      refine seqG_cons (by rfl) (fun W hS hp => ⟨.int .i64 ((2 * r + 1 : Nat) : Int), W, by go_simp, Below.refl _ _, hS, rfl⟩) (fun v7 => ?_)
      simp only [Act.put, List.setIfInBounds_toArray, List.set_cons_zero, List.set_cons_succ]
      refine seqG_cons (by rfl) (fun W hS hp => ?_) (fun v8 => ?_)
      · have p6 : v6 = .slice A n c := hp { on := 6, ground := .data } (by simp) rfl
        have p7 : v7 = .int .i64 ((2 * r + 1 : Nat) : Int) := hp { on := 7, ground := .data } (by simp) rfl
        subst p6 p7
        refine ⟨.pointer (some ⟨b, o + (2 * r + 1) * 2, none⟩), W, ?_, Below.refl _ _, hS, rfl⟩
        rw [hA2.out]
        go_simp
        rw [if_pos (by omega), show (2 * (r : Int) + 1).toNat = 2 * r + 1 by omega]
      simp only [Act.put, List.setIfInBounds_toArray, List.set_cons_zero, List.set_cons_succ]
      refine seqG_cons (by rfl) (fun W hS hp => ?_) (fun v9 => ?_)
      · have p8 : v8 = .pointer (some ⟨b, o + (2 * r + 1) * 2, none⟩) := hp { on := 8, ground := .data } (by simp) rfl
        subst p8
        exact ⟨_, W, load_val rfl rfl (GL.ld (cell_later hS HC2.out.1) (cell_later hS HC2.out.2)), Below.refl _ _, hS, rfl⟩
      simp only [Act.put, List.setIfInBounds_toArray, List.set_cons_zero, List.set_cons_succ]
      refine seqG_call (by rfl) (fun W hS hp => ?_) (fun v10 => ?_)
      · have p5 : v5 = .agg #[.int .i64 p1.1, p1.2] := hp { on := 5, ground := .data } (by simp) rfl
        have p9 : v9 = .agg #[.int .i64 p2.1, p2.2] := hp { on := 9, ground := .data } (by simp) rfl
        subst p5 p9
        exact ⟨_, _, run_callV 40 _ _ [.agg #[.int .i64 p1.1, p1.2], .agg #[.int .i64 p2.1, p2.2]] rfl HET.out rfl W, (join_gr p1 p2 q1 q2 wo.heap.size W (HG1.out.below hS) (HG2.out.below hS) hS.size HQ1.out.1 HQ2.out.1 HQ1.out.2 HQ2.out.2).mono fun e w2 ⟨p, h1, h2, h4, h3⟩ => ⟨_, h1, h3, hS.trans (h3.mono hS.size), ⟨p, rfl, h2, fun b o s n c e => Nat.le_trans hS.size (h4 b o s n c e)⟩⟩⟩
      simp only [Act.put, List.setIfInBounds_toArray, List.set_cons_zero, List.set_cons_succ]
      refine seqG_cons (by rfl) (fun W hS hp => ?_) (fun v11 => ?_)
      · obtain ⟨p, rfl, hG, hNu⟩ : ∃ p : Int × Value, v10 = .agg #[.int .i64 p.1, p.2] ∧ GR W W.heap.size p (jw q1 q2) ∧ Nu wo.heap.size p := hp { on := 10, ground := .data } (by simp) rfl
        exact ⟨.slice (some ⟨W.heap.size, 0, none⟩) 1 1, W.alloc (.cells #[.int .i64 p.1, p.2] 68), by go_simp, (Below.refl _ _).alloc (Nat.le_refl _) _, hS.alloc hS.size _, ⟨p, _, rfl, (hG.below ((Below.refl _ _).alloc (Nat.le_refl _) _)).up (by simp), hNu, RdV.group W _ p.1 p.2 rfl⟩⟩
      simp only [Act.put, List.setIfInBounds_toArray, List.set_cons_zero, List.set_cons_succ]
      refine seqG_nil fun W hS hF => ?_
      have q0 : v0 = v := hF 0 (by omega)
      obtain ⟨p, g, rfl, hG, hNu, hrd⟩ : ∃ (p : Int × Value) (g : Nat), v11 = .slice (some ⟨g, 0, none⟩) 1 1 ∧ GR W W.heap.size p (jw q1 q2) ∧ Nu wo.heap.size p ∧ RdV W (some ⟨g, 0, none⟩) (gv [p]) := hF 11 (by omega)
      subst q0
      clear hF
      have HBW := Lib.hid (HB.out.trans (hS.mono HB.out.size))
      have HOW := Lib.hid (HM.out.1.below hS)
      have HPW := Lib.hid ((HM.out.2.1.mono (w' := W) (B' := W.heap.size) fun p q hg => (hg.below hS).up hS.size).app (PL.one hG))
      have HTK : Hid ((pairUp jw Q).take (r + 1) = (pairUp jw Q).take r ++ [jw q1 q2]) := by show _ = _; rw [List.take_add_one, HPU.out]; rfl
      refine wpList_appG Try.underlying66 _ rfl (.tmp 11) (.tmp 22) rfl w.heap.size v0 M rfl HOW.out (some ⟨g, 0, none⟩) 1 1 [p] rfl rfl (fun x hx => by rw [List.mem_singleton] at hx; rw [hx]; exact hG.one) hrd (by have := HML.out; simp; omega) HBW.out.size ?_
      intro v12 w12 ho hg hv
      have HO := Lib.hid ho
      have hlt0 := fun k hk => World.ownsRow.lt HOW.out k hk
      have HB12 := Lib.hid (HBW.out.grown hg HBW.out.size (fun k hk => (hlt0 k hk).1))
      have hof : ∀ x ∈ M ++ [p], Off v0 x := fun x hx => by
        rcases List.mem_append.1 hx with hx | hx
        · exact (HM.out.2.2 x hx).1
        · rw [List.mem_singleton] at hx
          subst hx
          intro b o s n c e h0
          have := hNu b o s n c e
          have := (World.ownsRow.lt HM.out.1 b h0).2
          omega
      have hsz : W.heap.size ≤ w12.heap.size := ((Chg.refl (fun k => v0.ownBlock = some k) W).grown hg fun k hk => .inl hk).size
      have HM12 : Hid (Og w12 w.heap.size v12 (M ++ [p]) ∧ PL w12 w12.heap.size (M ++ [p]) ((pairUp jw Q).take (r + 1)) ∧ ∀ x ∈ M ++ [p], Off v12 x ∧ Nu w.heap.size x) := by
        refine ⟨HO.out, ?_, fun x hx => ⟨fun b o s n c e => ?_, ?_⟩⟩
        · rw [HTK.out]
          exact HPW.out.mono2 fun x hx q hq => hq.chg2 ((Chg.refl (fun k => v0.ownBlock = some k) W).grown hg fun k hk => .inl hk) (fun b o s n c e => hof x hx b o s n c e) hsz
        · rcases hv with h | h
          · rw [h]; exact hof x hx b o s n c e
          · obtain ⟨q, hq⟩ := HPW.out.ex hx
            have := hq.lt b o s n c e
            rw [h]
            intro h9
            injection h9 with h9
            omega
        · rcases List.mem_append.1 hx with hx | hx
          · exact (HM.out.2.2 x hx).2
          · rw [List.mem_singleton] at hx
            subst hx
            exact fun b o s n c e => Nat.le_trans HB.out.size (hNu b o s n c e)
      clear ho hrd hg hv hof hlt0 hsz hG hNu hS
      go_wp2
      go_roundw
      case rel => exact ⟨r + 1, v12, M ++ [p], by omega, by go_num, rfl, HM12, HB12⟩
      case measure => simp [RowKit.intOf]; omega
    · have hd : decide (((2 * r + 1 : Nat) : Int) < (n : Int)) = false := by rw [decide_eq_false_iff_not]; omega
      have hrr : r = n / 2 := by omega
      have HF : Hid (PL wo wo.heap.size M (pairUp jw Q)) := by
        have := HM.out.2.1
        rw [hrr, ← HL2.out, List.take_length] at this
        exact this
      go_wp2
      go_ret
      exact ⟨v, M, rfl, HM.out.1, HF.out, fun p hp => (HM.out.2.2 p hp).2, HB.out⟩
end Go.Proofs.Ytanihbflgolciaa
/- limited, a round: what the sorted row stands for; how great packages are. -/
namespace Go.Proofs.Ytanihbflgolciaa
open Go.RowKit Go.Lib Go.Sort
set_option linter.unusedVariables false
set_option maxRecDepth 100000
theorem mem_pairUp {α : Type} {j : α → α → α} : ∀ {l : List α} {q : α}, q ∈ pairUp j l → ∃ a b, a ∈ l ∧ b ∈ l ∧ q = j a b
  | [], q, h => by simp [pairUp] at h
  | [x], q, h => by simp [pairUp] at h
  | x :: y :: t, q, h => by
    rw [pairUp, List.mem_cons] at h
    rcases h with h | h
    · exact ⟨x, y, by simp, by simp, h⟩
    · obtain ⟨a, b, h1, h2, h3⟩ := mem_pairUp h
      exact ⟨a, b, by simp [h1], by simp [h2], h3⟩
theorem lev_len {α : Type} {f : α → Nat} {j : α → α → α} {lv l : List α} {k : Nat} (h : Lev f j lv k l) : l.length ≤ 2 * lv.length := by
  induction h with
  | nil => simp
  | step _ _ hp ih =>
    rw [hp.length_eq, List.length_append, pairUp_length]
    omega
theorem lev_bnd {Q R : List Wl} {W k : Nat} (h : Lev Prod.fst jw Q k R) (hQ : ∀ q ∈ Q, q.1 ≤ W ∧ q.2.length ≤ 1) : ∀ q ∈ R, q.1 ≤ 2 ^ k * W ∧ q.2.length ≤ 2 ^ k := by
  induction h with
  | nil => intro q hq; cases hq
  | step _ _ hp ih =>
    rename_i k l l' _ _
    intro q hq
    have hk : 1 ≤ 2 ^ k := Nat.one_le_two_pow
    have hkw : W ≤ 2 ^ k * W := Nat.le_mul_of_pos_left W hk
    have e1 : 2 ^ (k + 1) = 2 ^ k + 2 ^ k := by rw [Nat.pow_succ]; omega
    have e2 : 2 ^ (k + 1) * W = 2 ^ k * W + 2 ^ k * W := by rw [e1, Nat.add_mul]
    rcases List.mem_append.1 (hp.subset hq) with hq | hq
    · have := hQ q hq
      omega
    · obtain ⟨a, b, ha, hb, rfl⟩ := mem_pairUp hq
      have h1 := ih a ha
      have h2 := ih b hb
      show a.1 + b.1 ≤ _ ∧ (a.2 ++ b.2).length ≤ _
      rw [List.length_append]
      omega
theorem lev_all {Q R : List Wl} {n k : Nat} (h : Lev Prod.fst jw Q k R) (hQ : ∀ q ∈ Q, ∀ x ∈ q.2, x < n) : ∀ q ∈ R, ∀ x ∈ q.2, x < n := by
  induction h with
  | nil => intro q hq; cases hq
  | step _ _ hp ih =>
    intro q hq x hx
    rcases List.mem_append.1 (hp.subset hq) with hq | hq
    · exact hQ q hq x hx
    · obtain ⟨a, b, ha, hb, rfl⟩ := mem_pairUp hq
      rcases List.mem_append.1 (show x ∈ a.2 ++ b.2 from hx) with hx | hx
      · exact ih a ha x hx
      · exact ih b hb x hx
theorem flat_len {R : List Wl} {K : Nat} (h : ∀ q ∈ R, q.2.length ≤ K) : (R.flatMap Prod.snd).length ≤ R.length * K := by
  induction R with
  | nil => simp
  | cons q R ih =>
    have h1 := h q (by simp)
    have h2 := ih fun x hx => h x (by simp [hx])
    rw [List.flatMap_cons, List.length_append, List.length_cons, Nat.add_mul]
    omega
theorem gsL_range (gs : List (Int × Value)) : gsL gs (Array.range gs.length) = gs := by
  apply List.ext_getElem?
  intro i
  by_cases h : i < gs.length
  · rw [gsL_at gs _ (by simpa using h)]
    have h2 : (Array.range gs.length)[i]! = i := by rw [getElem!_pos _ i (by simpa using h)]; simp
    rw [h2, List.getElem?_eq_getElem h]
    simp [gp, List.getD_eq_getElem?_getD, List.getElem?_eq_getElem h]
  · rw [List.getElem?_eq_none (by rw [gsL_len]; simpa using h), List.getElem?_eq_none (by omega)]
def qsL (Q : List Wl) (σ : Array Nat) : List Wl := σ.toList.map fun i => Q.getD i (0, [])
theorem map_getD_range {α : Type} (d : α) : ∀ l : List α, (List.range l.length).map (fun i => l.getD i d) = l := fun l => by
  apply List.ext_getElem
  · simp
  · intro i h1 h2
    simp [List.getD_eq_getElem?_getD, List.getElem?_eq_getElem h2]
/-- The row that is sorted, and what it stands for. -/
theorem sorted_row {w : World} {B n : Nat} {gs : List (Int × Value)} {Q : List Wl} {σ : Array Nat} (hP : PL w B gs Q) (hn : n = gs.length) (hp : PermIn 0 n (Array.range n) σ) (hs : SortedIn (rL (ltG gs)) 0 n σ) :
    (qsL Q σ).Perm Q ∧ (qsL Q σ).Pairwise (fun a b => a.1 ≤ b.1) ∧ PL w B (gsL gs σ) (qsL Q σ) := by
  have hz : σ.size = n := by have := hp.1; simpa using this
  have hpm : σ.toList.Perm (List.range n) := by
    have h3 := hp.2.2
    have a1 : σ.extract 0 n = σ := by rw [← hz]; exact Array.extract_size
    have a2 : (Array.range n).extract 0 n = Array.range n := by
      have := Array.extract_size (xs := Array.range n)
      rw [Array.size_range] at this; exact this
    rw [a1, a2] at h3
    rw [show (Array.range n).toList = List.range n from Array.toList_range] at h3
    exact h3
  have hin : ∀ i, i < n → σ[i]! < n ∧ σ.toList[i]? = some σ[i]! := fun i hi => by
    have h1 : i < σ.size := by omega
    have h2 : σ[i]! = σ[i] := getElem!_pos σ i h1
    refine ⟨?_, by rw [h2, Array.getElem?_toList, Array.getElem?_eq_getElem h1]⟩
    rw [h2]
    exact List.mem_range.1 (hpm.subset (by rw [← Array.getElem_toList h1]; exact List.getElem_mem _))
  have hQn : Q.length = n := by rw [← hP.len, hn]
  have hgq : ∀ k, k < n → GR w B (gp gs k) (Q.getD k (0, [])) := fun k hk => by
    refine hP.at_ k _ _ ?_ ?_
    · rw [List.getElem?_eq_getElem (by omega)]
      simp [gp, List.getD_eq_getElem?_getD, List.getElem?_eq_getElem (show k < gs.length by omega)]
    · rw [List.getElem?_eq_getElem (by omega)]
      simp [List.getD_eq_getElem?_getD, List.getElem?_eq_getElem (show k < Q.length by omega)]
  refine ⟨?_, ?_, ?_⟩
  · have := hpm.map (fun i => Q.getD i ((0, []) : Wl))
    rw [← hQn, map_getD_range] at this
    exact this
  · rw [List.pairwise_iff_getElem]
    intro i j hi hj hij
    have hjn : j < n := by simpa [qsL, hz] using hj
    have hin2 : i < n := by omega
    have h1 := (rB_false.1 (hs i j (Nat.zero_le _) hij hjn)).1
    have gi := hgq _ (hin i hin2).1
    have gj := hgq _ (hin j hjn).1
    have ei : (qsL Q σ)[i] = Q.getD σ[i]! (0, []) := by
      have h2 : σ[i]! = σ[i]'(by omega) := getElem!_pos σ i (by omega)
      simp [qsL, h2]
    have ej : (qsL Q σ)[j] = Q.getD σ[j]! (0, []) := by
      have h2 : σ[j]! = σ[j]'(by omega) := getElem!_pos σ j (by omega)
      simp [qsL, h2]
    rw [ei, ej]
    simp only [ltG, decide_eq_false_iff_not, gi.wt, gj.wt] at h1
    omega
  · refine ⟨by simp [gsL, qsL], fun i p q h1 h2 => ?_⟩
    have hi : i < n := by
      have := (List.getElem?_eq_some_iff.1 h1).1
      rw [gsL_len, hz] at this; exact this
    obtain ⟨h3, h4⟩ := hin i hi
    unfold gsL at h1
    unfold qsL at h2
    rw [List.getElem?_map, h4] at h1 h2
    simp only [Option.map_some, Option.some.injEq] at h1 h2
    rw [← h1, ← h2]
    exact hgq _ h3
end Go.Proofs.Ytanihbflgolciaa
/- Contract of limited. -/
namespace Go.Proofs.Ytanihbflgolciaa
open Go.RowKit Go.Lib Go.Sort
set_option linter.unusedVariables false
set_option maxRecDepth 100000
theorem Og.row {w : World} {B : Nat} {v : Value} {l : List (Int × Value)} (h : Og w B v l) (hs : ∀ p ∈ l, ∃ A n c, p.2 = Value.slice A n c) (h0 : l ≠ []) : ∃ g c, v = .slice (some ⟨g, 0, none⟩) l.length c ∧ B ≤ g ∧ Gr w g c l := Gr.of h hs h0
/-- What stands in memory between the rounds. -/
structure Lm (w : World) (pv : Nat) (Q : List Wl) (k : Nat) (M : List (Int × Value)) (R : List Wl) (A : Option Addr) (c : Nat) (wr : World) : Prop where
  var : Blk wr pv #[.slice A M.length c]
  rd : RdV wr A (gv M)
  pl : PL wr wr.heap.size M R
  lev : Lev Prod.fst jw Q k R
  be : Below w.heap.size w wr
  lt : pv < wr.heap.size
  le : M.length ≤ c ∧ c ≤ maxLen
theorem gp_start {w3 : World} {pk c3 pv : Nat} {gs : List (Int × Value)} {u : Value} (hG : Gr w3 pk c3 gs) (hB : Blk w3 pv #[u]) (hne : pv ≠ pk) : GP gs pk c3 pv (Array.range gs.length) (w3.setCell ⟨pv, 0, none⟩ (.slice (some ⟨pk, 0, none⟩) gs.length c3)) := by
  refine ⟨by simp, ?_, ?_, hne⟩
  · rw [gsL_range]
    exact hG.chg ((Chg.refl (fun k => k = pv) w3).setCell (p := ⟨pv, 0, none⟩) (.inl rfl) _) fun e => hne e.symm
  · exact hB.set 0 _
theorem range_asc (n : Nat) : ∀ p q, p < q → q < n → (Array.range n)[p]! < (Array.range n)[q]! := fun p q h1 h2 => by
  rw [getElem!_pos _ p (by simp; omega), getElem!_pos _ q (by simpa using h2)]
  simpa using h1
theorem lm_next {w wo w2 w3 w5 : World} {Q R : List Wl} {L M M2 : List (Int × Value)} {A' : Option Addr} {c' k pk c3 n pv : Nat} {σ : Array Nat} {v3 : Value} (hpv : pv = w.heap.size) (hM : Lm w pv Q k M R A' c' wo) (hP : PL w w.heap.size L Q) (hB2 : Below wo.heap.size wo w2) (hP2 : PL w2 w2.heap.size M2 (pairUp jw R)) (hNu : ∀ p ∈ M2, Nu wo.heap.size p)
    (hB3 : Below w2.heap.size w2 w3) (hpk : w2.heap.size ≤ pk) (hn : n = (L ++ M2).length) (hp : PermIn 0 n (Array.range n) σ) (hs : SortedIn (rL (ltG (L ++ M2))) 0 n σ) (hg : GP (L ++ M2) pk c3 pv σ w5) (hC : Chg (fun k => k = pk) (w3.setCell ⟨pv, 0, none⟩ v3) w5) :
    Lm w pv Q (k + 1) (gsL (L ++ M2) σ) (qsL (Q ++ pairUp jw R) σ) (some ⟨pk, 0, none⟩) c3 w5 := by
  subst hpv
  have hwo := hM.lt
  have hw2 : wo.heap.size ≤ w2.heap.size := hB2.size
  have hw3 : w2.heap.size ≤ w3.heap.size := hB3.size
  have hbw2 : Below w.heap.size w w2 := hM.be.trans (hB2.mono hM.be.size)
  have hbw3 : Below w.heap.size w w3 := hbw2.trans (hB3.mono hbw2.size)
  have hc4 : Chg (fun k => k = w.heap.size) w2 (w3.setCell ⟨w.heap.size, 0, none⟩ v3) := (Chg.of_below (S := fun k => k = w.heap.size) hB3).setCell (p := ⟨w.heap.size, 0, none⟩) (.inl rfl) _
  have hbw4 : Below w.heap.size w (w3.setCell ⟨w.heap.size, 0, none⟩ v3) := hbw3.setCell (Nat.le_refl _) _
  have hP4 : PL (w3.setCell ⟨w.heap.size, 0, none⟩ v3) w2.heap.size (L ++ M2) (Q ++ pairUp jw R) := by
    refine (hP.mono fun p q h => (h.below hbw4).up hbw2.size).app (hP2.mono2 fun p hp q h => h.chg2 hc4 (fun b o s n c e h0 => ?_) (Nat.le_refl _))
    have := hNu p hp b o s n c e
    omega
  obtain ⟨h1, h2, h3⟩ := sorted_row hP4 hn hp hs
  have hpk5 : w2.heap.size ≤ w5.heap.size := by
    have := hC.size
    simp only [World.size_setCell] at this
    omega
  refine ⟨?_, hg.gr.rd, h3.mono fun p q h => (h.chg hC fun k e => by omega).up hpk5, .step hM.lev h2 h1, hbw4.trans (hC.below hbw4.size fun i e => by omega), by omega, hg.gr.fits, hg.gr.cap⟩
  rw [gsL_len, hg.sz]
  exact hg.var
set_option maxHeartbeats 4000000 in
theorem limited_any (A : Option Addr) (n c : Nat) (L : List (Int × Value)) (Q : List Wl) (w : World) (hr : RdV w A (gv L)) (hn : n = L.length) (hn1 : 2 ≤ n) (hn2 : n ≤ 300) (hP : PL w w.heap.size L Q) (hQ : ∀ q ∈ Q, q.1 ≤ 1099511627776 ∧ q.2.length ≤ 1) (hQ2 : ∀ q ∈ Q, ∀ x ∈ q.2, x < n) :
    Calls Try.prog 33 #[.slice A n c] w fun e w' => ∃ gd R, e = .returned (.slice (some ⟨gd, 0, none⟩) n n) ∧ BI w' gd (incL (List.replicate n 0) ((R.take (2 * (n - 1))).flatMap Prod.snd)) ∧ Lev Prod.fst jw Q 16 R ∧ w.heap.size ≤ gd ∧ Below w.heap.size w w' := by
  have HR := Lib.hid hr
  have HN := Lib.hid hn
  have HP := Lib.hid hP
  have HQ := Lib.hid hQ
  have HQ2 := Lib.hid hQ2
  have HQL : Hid (Q.length = n) := by show _ = _; rw [← hP.len, hn]
  have HOL := Lib.hid hP.cells
  have HSL := Lib.hid hP.sl
  have HLM : Hid (Lm w w.heap.size Q 0 [] [] none 0 (w.alloc (.cells #[.slice none 0 0] 66))) := ⟨Blk.new _ _ _, .inl rfl, PL.nil _ _, .nil, (Below.refl _ _).alloc (Nat.le_refl _) _, by simp, by simp [maxLen]⟩
  clear hr hn hP hQ hQ2
  go_enter Try.func33, Try.ntmps33
  go_wp2
  generalize w.alloc (.cells #[.slice none 0 0] 66) = w1 at *
  obtain ⟨pv, hpv⟩ : ∃ pv, pv = w.heap.size := ⟨_, rfl⟩
  have HPV := Lib.hid hpv
  rw [← hpv] at HLM ⊢
  clear hpv
  go_loopw [9] (fun i wr => ∃ (k : Nat) (M : List (Int × Value)) (R : List Wl) (A' : Option Addr) (c' : Nat), k ≤ 16 ∧ i = .int .i64 k ∧ Hid (Lm w pv Q k M R A' c' wr)) (fun i _ => 16 - (RowKit.intOf i).toNat)
  case atStart => exact ⟨0, [], [], none, 0, by omega, rfl, HLM⟩
  case round =>
    clear HLM w1
    rename World => wo
    obtain ⟨k, M, R, A', c', hk, rfl, HM⟩ := hrel
    have e0 := HM.out.var.cell (j := 0) rfl
    have f0 := HM.out.var.frozen 0
    have HML : Hid (M.length ≤ 2 * n) := by show _ ≤ _; rw [HM.out.pl.len, ← HQL.out]; exact lev_len HM.out.lev
    by_cases hlt : k < 16
    · have hk16 : (k : Int) < 16 := by omega
      have CP : Hid (Calls Try.prog 43 #[.slice A' M.length c'] wo fun e w' => ∃ Av mv cv M2, e = .returned (.slice Av mv cv) ∧ Hid (RdV w' Av (gv M2)) ∧ Hid (mv = M2.length) ∧ Hid (PL w' w'.heap.size M2 (pairUp jw R)) ∧ Hid (∀ p ∈ M2, Nu wo.heap.size p) ∧ Hid (Below wo.heap.size wo w')) := by
        show Calls _ _ _ _ _
        refine (paired_any A' M.length c' M R wo HM.out.rd rfl (by have := HML.out; omega) HM.out.pl fun q hq => ?_).mono ?_
        · have h1 := lev_bnd HM.out.lev HQ.out q hq
          have h2 : 2 ^ k ≤ 2 ^ 16 := Nat.pow_le_pow_right (by omega) hk
          have h3 : 2 ^ k * 1099511627776 ≤ 2 ^ 16 * 1099511627776 := Nat.mul_le_mul_right _ h2
          omega
        · rintro e w' ⟨v, M2, rfl, hO, hP2, hNu, hB⟩
          obtain ⟨Av, cv, rfl, hrd⟩ := hO.open hP2.sl
          exact ⟨Av, _, cv, M2, rfl, hrd, rfl, hP2, hNu, hB⟩
      go_wp2_with (first
        | (go_at_call 43
           refine CP.out.mono ?_
           rintro e w2 ⟨Av, mv, cv, M2, rfl, HRV, HMV, HP2, HNu, HB2⟩
           have hw2 : wo.heap.size ≤ w2.heap.size := HB2.out.size
           have HBW2 : Hid (Below w.heap.size w w2) := HM.out.be.trans (HB2.out.mono HM.out.be.size))
        | (go_at_call 42
           refine (gConcatG_any A Av n mv c cv L M2 w2.heap.size _ (by go_cell) (by go_cell) (HR.out.below (HBW2.out.alloc HBW2.out.size _)) (HRV.out.below ((Below.refl _ _).alloc (Nat.le_refl _) _)) HN.out HMV.out (by omega) (by have := HMV.out; have := HML.out; have := HP2.out.len; rw [pairUp_length] at this; have := HM.out.pl.len; omega) HOL.out HP2.out.cells).mono ?_
           rintro e w3 ⟨v3, rfl, hO, hB⟩
           obtain ⟨pk, c3, rfl, hpk, hG⟩ := hO.row (fun p hp => by
             rcases List.mem_append.1 hp with hp | hp
             · exact HSL.out p hp
             · exact HP2.out.sl p hp) (by intro e; have := congrArg List.length e; rw [List.length_append, ← HN.out] at this; simp at this; omega)
           have HB3 : Hid (Below w2.heap.size w2 w3) := ((Below.refl w2.heap.size w2).alloc (Nat.le_refl _) _).trans (hB.mono (by simp))
           have HV3 : Hid (Blk w3 pv #[.slice A' M.length c']) := (HM.out.var.below HB2.out).below HB3.out
           have HPK : Hid (w2.heap.size ≤ pk ∧ pv < w2.heap.size) := ⟨by simp at hpk; omega, by have := HM.out.lt; omega⟩
           have HG := Lib.hid hG
           have e03 := HV3.out.cell (j := 0) rfl
           have f03 := HV3.out.frozen 0
           obtain ⟨N, hN⟩ : ∃ N, N = (L ++ M2).length := ⟨_, rfl⟩
           have HNN := Lib.hid hN
           have HN2 : Hid (2 ≤ N ∧ N ≤ 1000) := by
             show _ ∧ _
             rw [hN, List.length_append, ← HN.out]
             have := HML.out
             have h4 := HP2.out.len
             rw [pairUp_length] at h4
             have := HM.out.pl.len
             omega
           have HGP : Hid (GP (L ++ M2) pk c3 pv (Array.range N) (w3.setCell ⟨pv, 0, none⟩ (.slice (some ⟨pk, 0, none⟩) N c3))) := by
             show GP _ _ _ _ _ _
             rw [hN]
             exact gp_start HG.out HV3.out (by have := HPK.out; omega)
           rw [← hN]
           have CS := Lib.hid (sstb_any (L ++ M2) pk c3 pv N hN HN2.out.1 HN2.out.2 (Array.range N) _ HGP.out (range_asc N))
           clear hO hB hG hpk hN)
        | (go_at_call 44
           refine CS.out.mono ?_
           rintro e w5 ⟨rfl, ⟨σ', hp, hs, hg⟩, hC⟩
           have HNX : Hid (Lm w pv Q (k + 1) (gsL (L ++ M2) σ') (qsL (Q ++ pairUp jw R) σ') (some ⟨pk, 0, none⟩) c3 w5) := by
             show Lm _ _ _ _ _ _ _ _ _
             exact lm_next HPV.out HM.out HP.out HB2.out HP2.out HNu.out HB3.out HPK.out.1 HNN.out hp hs hg hC
           clear hp hs hg hC))
      go_roundw
      case rel => exact ⟨k + 1, _, _, _, _, by omega, by go_num, HNX⟩
      case measure => simp [RowKit.intOf]; omega
    · obtain rfl : k = 16 := by omega
      have hroom : 2 * (n - 1) ≤ M.length := by
        have := lev_room (fun a b => rfl) HM.out.lev (by rw [HQL.out]; omega)
        rw [HQL.out, ← HM.out.pl.len] at this
        omega
      obtain ⟨b, o, hA, hc⟩ := HM.out.rd.resolve_left (fun e => by
        have := congrArg List.length e
        rw [gv_len] at this
        simp only [List.length_nil] at this
        omega)
      subst hA
      have HC := Lib.hid hc
      have hle := HM.out.le.1
      have hle2 := HM.out.le.2
      obtain ⟨m, hm⟩ : ∃ m, m = M.length := ⟨_, rfl⟩
      have HMm := Lib.hid hm
      rw [← hm] at e0 hroom hle
      obtain ⟨K, hK⟩ : ∃ K, K = 2 * (n - 1) := ⟨_, rfl⟩
      have HK := Lib.hid hK
      rw [← hK] at hroom
      have w1 : IntKind.i64.wrap ((n : Int) - 1) = ((n - 1 : Nat) : Int) := by rw [IntKind.wrap_i64]; omega
      have w2 : IntKind.i64.wrap (2 * ((n - 1 : Nat) : Int)) = (K : Int) := by rw [IntKind.wrap_i64]; omega
      unfold maxLen at hle2
      clear hm hK hc hlt
      go_wp2_with (first
        | ((with_reducible refine wpList_makeI _ rfl (.tmp 22) (.tmp 22) rfl n (n : Int) (n : Int) rfl rfl rfl rfl (by omega) ?_)
           intro w6 hb6 hg6
           have hC6 : Chg (fun _ => False) wo w6 := ⟨hg6.os, hg6.tape, hg6.output, hg6.size, fun k hk _ => hg6.block k hk (by simp)⟩
           have HC6 := Lib.hid hC6
           have HD6 := Lib.hid hb6
           have e6 := hC6.cellv e0 (fun e => e)
           have HGD : Hid (pv < wo.heap.size ∧ wo.heap.size < w6.heap.size ∧ w.heap.size ≤ wo.heap.size) := ⟨HM.out.lt, hb6.blk.lt, HM.out.be.size⟩
           clear hb6 hg6 hC6 e0 f0))
      have HB6 : Hid (b < wo.heap.size) := by
        have h0 : 0 < (gv M).length := by rw [gv_len]; have := HMm.out; have := HK.out; omega
        have := HC.out 0 _ (List.getElem?_eq_getElem h0)
        exact World.block_lt_of_cell? _ _ this
      obtain ⟨gd, hgd⟩ : ∃ gd, gd = wo.heap.size := ⟨_, rfl⟩
      have HGDE := Lib.hid hgd
      rw [← hgd] at HD6 HGD HB6 ⊢
      clear hgd
      have HZL : Hid ((List.replicate n (0 : Int)).length = n) := by show _ = _; simp
      have HZ0 : Hid (∀ i, (List.replicate n (0 : Int)).getD i 0 = 0) := fun i => by rw [List.getD_eq_getElem?_getD, List.getElem?_replicate]; split <;> rfl
      obtain ⟨zs, hzs⟩ : ∃ zs, zs = List.replicate n (0 : Int) := ⟨_, rfl⟩
      have HZS := Lib.hid hzs
      rw [← hzs] at HZL HZ0 HD6
      clear hzs
      have HRL : Hid (R.length = m) := by show _ = _; rw [HMm.out, HM.out.pl.len]
      have HLN : Hid (∀ q ∈ R, q.2.length ≤ 65536 ∧ ∀ x ∈ q.2, x < n) := fun q hq => ⟨(lev_bnd HM.out.lev HQ.out q hq).2, lev_all HM.out.lev HQ2.out q hq⟩
      go_loopw [31] (fun vi wr => ∃ (j : Nat), j ≤ K ∧ vi = .int .i64 j ∧ Hid (BI wr gd (incL zs ((R.take j).flatMap Prod.snd))) ∧ Hid (Chg (fun k => k = gd) w6 wr)) (fun vi _ => K - (RowKit.intOf vi).toNat)
      case atStart => exact ⟨0, Nat.zero_le _, rfl, (show Hid _ from by show BI _ _ _; rw [List.take_zero]; exact HD6.out), Chg.refl _ _⟩
      case round =>
        rename World => wr
        obtain ⟨j, hj, rfl, HBI, HCR⟩ := hrel
        have epv := HCR.out.cellv e6 (by show ¬ pv = gd; have := HGD.out; omega)
        by_cases hjK : j < K
        · obtain ⟨p, hp⟩ : ∃ p, M[j]? = some p := ⟨_, List.getElem?_eq_getElem (by have := HMm.out; omega)⟩
          obtain ⟨q, hq⟩ : ∃ q, R[j]? = some q := ⟨_, List.getElem?_eq_getElem (by have := HRL.out; omega)⟩
          obtain ⟨hx, B, kk, cc, hB, hkk, hri, hbl⟩ := HM.out.pl.at_ j p q hp hq
          obtain ⟨c1, c2⟩ := RdV.pairAt HC.out hp
          rw [hB] at c2
          have c3 := HCR.out.cellv (HC6.out.cellv c1 (fun e => e)) (by show ¬ b = gd; have := HB6.out; omega)
          have c4 := HCR.out.cellv (HC6.out.cellv c2 (fun e => e)) (by show ¬ b = gd; have := HB6.out; omega)
          obtain ⟨x, hx2⟩ : ∃ x, x = p.1 := ⟨_, rfl⟩
          rw [← hx2] at c3
          have hLN := HLN.out q (List.mem_of_getElem? hq)
          obtain ⟨ls, hls⟩ : ∃ ls, ls = q.2 := ⟨_, rfl⟩
          rw [← hls] at hkk hri hLN
          subst hkk
          obtain ⟨F, hF⟩ : ∃ F, F = (R.take j).flatMap Prod.snd := ⟨_, rfl⟩
          have HNF : Hid ((R.take (j + 1)).flatMap Prod.snd = F ++ ls) := by
            show _ = _
            rw [List.take_add_one, hq, List.flatMap_append, ← hF, hls]
            simp
          rw [← hF] at HBI
          have HFL : Hid (F.length ≤ 39321600 ∧ (∀ y ∈ F, y < n) ∧ ls.length ≤ 65536 ∧ ∀ y ∈ ls, y < n) := by
            refine ⟨?_, fun y hy => ?_, hLN⟩
            · have h1 := flat_len (R := R.take j) (K := 65536) fun q hq => (HLN.out q (List.mem_of_mem_take hq)).1
              rw [← hF, List.length_take] at h1
              have h2 : j < 600 := by have := HML.out; have := HMm.out; omega
              clear HZ0
              omega
            · rw [hF, List.mem_flatMap] at hy
              obtain ⟨q', h1, h2⟩ := hy
              exact (HLN.out q' (List.mem_of_mem_take h1)).2 y h2
          have HRI : Hid (Ri wo B (liI ls)) := hri
          have HBL : Hid (∀ b o s, B = some ⟨b, o, s⟩ → b < gd) := by show ∀ b o s, _; rw [HGDE.out]; exact hbl
          clear hp hq hB hri hbl c1 c2 hx hx2 hls hF hLN
          have hjK2 : (j : Int) < (K : Int) := by omega
          have hgw : Hid (gd < wr.heap.size) := HBI.out.blk.lt
          go_wp2
          obtain ⟨w7, hw7⟩ : ∃ w7, w7 = wr.alloc (.cells #[.int .i64 x, .slice B ls.length cc] 68) := ⟨_, rfl⟩
          rw [← hw7]
          have HC7 : Hid (Chg (fun k => k = gd) w6 w7) := by show Chg _ _ _; rw [hw7]; exact HCR.out.alloc _
          have HB7 : Hid (BI w7 gd (incL zs F)) := by show BI _ _ _; rw [hw7]; exact HBI.out.chg ((Chg.refl (fun _ => False) wr).alloc _) (fun e => e)
          have HRI7 : Hid (Ri w7 B (liI ls)) := by
            show Ri _ _ _
            refine ri_chg (ri_chg HRI.out HC6.out fun b o s e h => h) HC7.out fun b o s e h => ?_
            have := HBL.out b o s e
            omega
          clear hw7 HRI HBI c3 c4 epv
          go_loopw [38] (fun vi w8 => ∃ (t : Nat), t ≤ ls.length ∧ vi = .int .i64 t ∧ Hid (BI w8 gd (incL zs (F ++ ls.take t))) ∧ Hid (Chg (fun k => k = gd) w7 w8)) (fun vi _ => ls.length - (RowKit.intOf vi).toNat)
          case atStart => exact ⟨0, Nat.zero_le _, rfl, (show Hid _ from by show BI _ _ _; rw [List.take_zero, List.append_nil]; exact HB7.out), Chg.refl _ _⟩
          case round =>
            rename World => w8
            obtain ⟨t, ht, rfl, HBI, HC8⟩ := hrel
            by_cases htl : t < ls.length
            · obtain ⟨b2, o2, hA2, hc2⟩ : ∃ b o, B = some ⟨b, o, none⟩ ∧ ∀ i, i < (liI ls).length → w7.cell? ⟨b, o + i, none⟩ = some (.int .i64 ((liI ls).getD i 0)) := by
                rcases HRI7.out with h | h
                · have := congrArg List.length h
                  simp only [liI, List.length_map, List.length_nil] at this
                  omega
                · exact h
              subst hA2
              have hbr := HBL.out b2 o2 none rfl
              obtain ⟨y, hy⟩ : ∃ y, y = ls[t] := ⟨_, rfl⟩
              have hyn : y < n := HFL.out.2.2.2 y (by rw [hy]; exact List.getElem_mem htl)
              have e1 := hc2 t (by simpa [liI] using htl)
              have e1' : (liI ls).getD t 0 = (y : Int) := by unfold liI; rw [List.getD_eq_getElem?_getD, List.getElem?_map, List.getElem?_eq_getElem htl, hy]; rfl
              rw [e1'] at e1
              have e2 := HC8.out.cellv e1 (by show ¬ b2 = gd; omega)
              obtain ⟨z, hz⟩ : ∃ z, z = (incL zs (F ++ ls.take t)).getD y 0 := ⟨_, rfl⟩
              have e3 := HBI.out.blk.cell (ia_at (l := incL zs (F ++ ls.take t)) (j := y) (by rw [incL_len, HZL.out]; exact hyn))
              rw [← hz] at e3
              have e4 := HBI.out.blk.frozen y
              have hzr : 0 ≤ z ∧ z ≤ 100000000 := by
                have hcl := List.count_le_length (a := y) (l := F ++ ls.take t)
                rw [hz, incL_at _ _ _ (fun i hi => by
                  rw [HZL.out]
                  rcases List.mem_append.1 hi with hi | hi
                  · exact HFL.out.2.1 i hi
                  · exact HFL.out.2.2.2 i (List.mem_of_mem_take hi)), HZ0.out]
                rw [List.length_append, List.length_take] at hcl
                have h1 := HFL.out.1
                have h2 := HFL.out.2.2.1
                omega
              have hst : Hid ((incL zs (F ++ ls.take t)).set y (z + 1) = incL zs (F ++ ls.take (t + 1))) := by
                show _ = _
                rw [List.take_add_one, List.getElem?_eq_getElem htl, Option.toList_some, ← List.append_assoc, incL_snoc, ← hy, ← hz]
              clear hc2 e1 e1' hy hz
              have htl' : (t : Int) < (ls.length : Int) := by omega
              have hls : ls.length ≤ 65536 := HFL.out.2.2.1
              have hyn' : (y : Int) < (n : Int) := by omega
              go_wp2
              go_roundw
              case rel =>
                refine ⟨t + 1, by omega, by go_num, ?_, ?_⟩
                · show BI _ _ _
                  rw [← hst.out]
                  exact HBI.out.set y (z + 1)
                · show Chg _ _ _
                  exact HC8.out.setCell (.inl rfl) _
              case measure => simp [RowKit.intOf]; omega
            · obtain rfl : t = ls.length := by omega
              have htl' : ¬ (ls.length : Int) < (ls.length : Int) := by omega
              have HBE : Hid (BI w8 gd (incL zs ((R.take (j + 1)).flatMap Prod.snd))) := by
                have := HBI.out
                rw [List.take_length] at this
                show BI _ _ _
                rw [HNF.out]
                exact this
              have HCE : Hid (Chg (fun k => k = gd) w6 w8) := HC7.out.trans HC8.out fun _ _ e => e
              clear HBI
              go_wp2
              go_roundw
              case rel => exact ⟨j + 1, by omega, by go_num, HBE, HCE⟩
              case measure => simp [RowKit.intOf]; omega
        · obtain rfl : j = K := by omega
          have hjK2 : ¬ (j : Int) < (j : Int) := by omega
          have hK := HK.out
          rw [hK] at HBI
          have HBF : Hid (Below w.heap.size w wr) := by
            have h1 := HM.out.be
            have h2 := h1.trans (HC6.out.below h1.size fun i e => e.elim)
            exact h2.trans (HCR.out.below h2.size fun i e => by have := HGD.out; omega)
          go_wp2
          go_ret
          exact ⟨gd, rfl, R, (by rw [← HZS.out]; exact HBI.out), HM.out.lev, HGD.out.2.2, HBF.out⟩
end Go.Proofs.Ytanihbflgolciaa
/- Pure: what lengths are, whether merged or limited made them: they may be, and cost the least. -/
namespace Go.Proofs.Ytanihbflgolciaa
open Go.RowKit Go.Lib Go.Sort
set_option linter.unusedVariables false
set_option maxRecDepth 100000
structure Dp (ws : List Nat) (dp : List Int) : Prop where
  len : dp.length = ws.length
  rng : ∀ i, i < ws.length → 1 ≤ dp.getD i 0 ∧ dp.getD i 0 ≤ 16
  krf : kraft 16 ((List.range ws.length).map fun i => (dp.getD i 0).toNat) ≤ 2 ^ 16
  least : ∀ q : List (Nat × Nat), (q.map Prod.fst).Perm ws → (∀ p ∈ q, p.2 ≤ 16) → kraft 16 (q.map Prod.snd) ≤ 2 ^ 16 → ((List.range ws.length).map fun i => ws.getD i 0 * (dp.getD i 0).toNat).sum ≤ (q.map fun p => p.1 * p.2).sum
theorem perm_lift {α β : Type} (f : α → β) {a b : List β} (h : a.Perm b) : ∀ lv : List α, lv.map f = a → ∃ lv', lv.Perm lv' ∧ lv'.map f = b := by
  induction h with
  | nil => intro lv e; exact ⟨lv, .refl _, e⟩
  | cons x _ ih =>
    intro lv e
    match lv, e with
    | y :: t, e =>
      simp only [List.map_cons, List.cons.injEq] at e
      obtain ⟨t', h1, h2⟩ := ih t e.2
      exact ⟨y :: t', h1.cons y, by rw [List.map_cons, h2, e.1]⟩
  | swap x y l =>
    intro lv e
    match lv, e with
    | u :: v :: t, e =>
      simp only [List.map_cons, List.cons.injEq] at e
      exact ⟨v :: u :: t, .swap _ _ _, by simp [e.1, e.2.1, e.2.2]⟩
  | trans _ _ ih1 ih2 =>
    intro lv e
    obtain ⟨l1, h1, h2⟩ := ih1 lv e
    obtain ⟨l2, h3, h4⟩ := ih2 l1 h2
    exact ⟨l2, h1.trans h3, h4⟩
theorem zip_mul {α : Type} (f : α → Nat) : ∀ (l : List α) (q : List (Nat × Nat)), l.map f = q.map Prod.fst → ((l.zip (q.map Prod.snd)).map fun p => f p.1 * p.2) = q.map fun p => p.1 * p.2
  | [], [], _ => rfl
  | [], _ :: _, h => by simp at h
  | _ :: _, [], h => by simp at h
  | a :: l, p :: q, h => by
    simp only [List.map_cons, List.cons.injEq] at h
    simp only [List.map_cons, List.zip_cons_cons, zip_mul f l q h.2, h.1]
theorem q_lift {α : Type} (f : α → Nat) (lv : List α) (q : List (Nat × Nat)) (h : (q.map Prod.fst).Perm (lv.map f)) : ∃ q' : List (α × Nat), (q'.map Prod.fst).Perm lv ∧ q'.map Prod.snd = q.map Prod.snd ∧ (q'.map fun p => f p.1 * p.2) = q.map fun p => p.1 * p.2 := by
  obtain ⟨lv', h1, h2⟩ := perm_lift f h.symm lv rfl
  have hl : lv'.length = (q.map Prod.snd).length := by
    have := congrArg List.length h2
    simpa using this
  exact ⟨lv'.zip (q.map Prod.snd), by rw [zip_fst _ _ hl]; exact h1.symm, zip_snd _ _ hl, zip_mul f lv' q h2⟩
theorem kraft_mem {L : Nat} : ∀ {d : List Nat} {x : Nat}, x ∈ d → 2 ^ (L - x) ≤ kraft L d
  | y :: t, x, h => by
    rw [kraft_cons]
    rcases List.mem_cons.1 h with e | h
    · subst e; omega
    · exact Nat.le_trans (kraft_mem (L := L) h) (Nat.le_add_left _ _)
theorem kraft_one {n : Nat} (d : Nat → Nat) (hn : 2 ≤ n) (hk : kraft 16 ((List.range n).map d) ≤ 2 ^ 16) (i : Nat) (hi : i < n) : 1 ≤ d i := by
  rcases Nat.eq_zero_or_pos (d i) with h | h
  · exfalso
    obtain ⟨l, l', e⟩ := List.append_of_mem (List.mem_range.2 hi)
    have hp : (List.range n).Perm (i :: (l ++ l')) := by rw [e]; exact List.perm_middle
    have hlen := hp.length_eq
    rw [List.length_range, List.length_cons] at hlen
    have h2 := kraft_perm (L := 16) (hp.map d)
    rw [List.map_cons, kraft_cons, h] at h2
    obtain ⟨j, hj⟩ : ∃ j, j ∈ l ++ l' := by
      match hh : l ++ l' with
      | [] => rw [hh] at hlen; simp at hlen; omega
      | a :: t => exact ⟨a, by simp⟩
    have h3 := kraft_mem (L := 16) (List.mem_map_of_mem (f := d) hj)
    have h4 : 0 < 2 ^ (16 - d j) := Nat.two_pow_pos _
    rw [Nat.sub_zero] at h2
    omega
  · exact h
theorem dp_mk {ws : List Nat} {dp : List Int} (d : Nat → Nat) (hn : 2 ≤ ws.length) (hl : dp.length = ws.length) (hd : ∀ i, i < ws.length → dp.getD i 0 = (d i : Int)) (h16 : ∀ i, i < ws.length → d i ≤ 16) (hk : kraft 16 ((List.range ws.length).map d) ≤ 2 ^ 16)
    (hc : ∀ q : List (Nat × Nat), (q.map Prod.fst).Perm ws → (∀ p ∈ q, p.2 ≤ 16) → kraft 16 (q.map Prod.snd) ≤ 2 ^ 16 → ((List.range ws.length).map fun i => ws.getD i 0 * d i).sum ≤ (q.map fun p => p.1 * p.2).sum) : Dp ws dp := by
  have e1 : ((List.range ws.length).map fun i => (dp.getD i 0).toNat) = (List.range ws.length).map d := List.map_congr_left fun i hi => by rw [hd i (List.mem_range.1 hi)]; simp
  have e2 : ((List.range ws.length).map fun i => ws.getD i 0 * (dp.getD i 0).toNat) = (List.range ws.length).map fun i => ws.getD i 0 * d i := List.map_congr_left fun i hi => by rw [hd i (List.mem_range.1 hi)]; simp
  refine ⟨hl, fun i hi => ?_, by rw [e1]; exact hk, by rw [e2]; exact hc⟩
  have h1 := kraft_one d hn hk i hi
  have h2 := h16 i hi
  rw [hd i hi]
  omega
theorem ws_range (ws : List Nat) : (List.range ws.length).map (fun i => ws.getD i 0) = ws := map_getD_range 0 ws
/-- Out of merged, where no leaf is deeper than 16. -/
theorem dp_of_ht {ws : List Nat} {dp : List Int} {r : Tr} (hn : 2 ≤ ws.length) (hl : dp.length = ws.length) (hh : HT (lfT ws) r) (hp : (r.lf.map Prod.fst).Perm (List.range ws.length)) (hd : ∀ q ∈ r.lf, dp.getD q.1 0 = (q.2 : Int)) (h16 : ∀ i, i < ws.length → dp.getD i 0 ≤ 16) : Dp ws dp := by
  have h0 : ∀ i, i < ws.length → dp.getD i 0 = ((dp.getD i 0).toNat : Int) := fun i hi => by
    obtain ⟨q, hq, rfl⟩ := List.mem_map.1 (hp.symm.subset (List.mem_range.2 hi))
    rw [hd q hq]; simp
  have hpl : ((List.range ws.length).map fun i => (i, (dp.getD i 0).toNat)).Perm r.lf := by
    have h1 := hp.symm.map fun i => (i, (dp.getD i 0).toNat)
    rw [List.map_map] at h1
    have h2 : r.lf.map ((fun i => (i, (dp.getD i 0).toNat)) ∘ Prod.fst) = r.lf := by
      have : r.lf.map ((fun i => (i, (dp.getD i 0).toNat)) ∘ Prod.fst) = r.lf.map id := List.map_congr_left fun q hq => by
        show (q.1, (dp.getD q.1 0).toNat) = q
        rw [hd q hq]; simp
      rw [this, List.map_id]
    rw [h2] at h1
    exact h1
  have hg := (huf_upper (f := Tr.f) (c := Tr.c) (j := jn) (lf := Tr.lf) (w := fun i => ws.getD i 0) (fun a b => rfl) (fun a b => rfl) (fun a b => .refl _) hh (fun x hx => by
    obtain ⟨i, _, rfl⟩ := List.mem_map.1 hx
    exact ⟨by simp, by simp, fun M _ => by simp [kraft]⟩)).1
  have hd16 : ∀ p ∈ r.lf, p.2 ≤ 16 := fun p hp2 => by
    have h1 := h16 p.1 (List.mem_range.1 (hp.subset (List.mem_map_of_mem hp2)))
    rw [hd p hp2] at h1
    omega
  refine dp_mk (fun i => (dp.getD i 0).toNat) hn hl h0 (fun i hi => by have := h16 i hi; have := h0 i hi; omega) ?_ fun q h1 h2 h3 => ?_
  · have h1 := hg.full 16 hd16
    have h2 := kraft_perm (L := 16) (hpl.map Prod.snd)
    rw [List.map_map] at h2
    rw [h1] at h2
    exact Nat.le_of_eq h2
  · have h4 : ws = (lfT ws).map Tr.f := (lfT_f ws).symm
    rw [h4] at h1
    obtain ⟨q', e1, e2, e3⟩ := q_lift Tr.f (lfT ws) q h1
    have h5 := huf_lower (f := Tr.f) (c := Tr.c) (j := jn) (fun a b => rfl) (fun a b => rfl) hh (L := 16) e1 (fun p hp => by
      have : p.2 ∈ q.map Prod.snd := by rw [← e2]; exact List.mem_map_of_mem hp
      obtain ⟨p', hp', e⟩ := List.mem_map.1 this
      rw [← e]; exact h2 p' hp') (by rw [e2]; exact h3)
    unfold paid at h5
    rw [e3] at h5
    have h6 : ((lfT ws).map Tr.c).sum = 0 := by
      unfold lfT
      rw [List.map_map]
      have : (List.range ws.length).map (Tr.c ∘ fun i => ⟨ws.getD i 0, 0, [(i, 0)]⟩) = (List.range ws.length).map fun _ => 0 := rfl
      rw [this]
      generalize List.range ws.length = l
      induction l with
      | nil => rfl
      | cons a t ih => rw [List.map_cons, List.sum_cons, ih]
    have h7 := (hpl.map fun p => ws.getD p.1 0 * p.2).sum_nat
    rw [List.map_map] at h7
    have h8 := hg.cost
    have h9 : ((List.range ws.length).map fun i => ws.getD i 0 * (dp.getD i 0).toNat).sum = r.c := by rw [h8]; exact h7
    rw [h9]
    omega
/-- Single leaves, as limited has them. -/
def wlQ (ws : List Nat) : List Wl := (List.range ws.length).map fun i => (ws.getD i 0, [i])
theorem lev_wt {ws : List Nat} {k : Nat} {R : List Wl} (h : Lev Prod.fst jw (wlQ ws) k R) : ∀ x ∈ R, x.1 = (x.2.map fun i => ws.getD i 0).sum := by
  induction h with
  | nil => intro x hx; cases hx
  | step _ _ hp ih =>
    intro x hx
    rcases List.mem_append.1 (hp.subset hx) with hx | hx
    · obtain ⟨i, _, rfl⟩ := List.mem_map.1 hx
      simp
    · obtain ⟨a, b, ha, hb, rfl⟩ := mem_pairUp hx
      show a.1 + b.1 = ((a.2 ++ b.2).map _).sum
      rw [List.map_append, List.sum_append_nat, ← ih a ha, ← ih b hb]
/-- Out of limited. -/
theorem dp_of_lev {ws : List Nat} {R : List Wl} (hn : 2 ≤ ws.length) (hn2 : ws.length ≤ 300) (hl : Lev Prod.fst jw (wlQ ws) 16 R) : Dp ws (incL (List.replicate ws.length 0) ((R.take (2 * (ws.length - 1))).flatMap Prod.snd)) := by
  have hql : (wlQ ws).length = ws.length := by simp [wlQ]
  have hroom := lev_room (fun a b => rfl) hl (by rw [hql]; omega)
  rw [hql] at hroom
  have hal := lev_all (n := ws.length) hl fun q hq x hx => by
    obtain ⟨i, hi, rfl⟩ := List.mem_map.1 hq
    rw [List.mem_singleton] at hx
    rw [hx]; exact List.mem_range.1 hi
  have hsl : (R.take (2 * (ws.length - 1))).length = 2 * (List.range ws.length).length - 2 := by rw [List.length_take, List.length_range]; omega
  obtain ⟨u1, u2, u3⟩ := lev_upper (f := Prod.fst) (j := jw) (sy := Prod.snd) (fun a b => .refl _) (ids := List.range ws.length) List.nodup_range (by simp [wlQ]) (by simp; omega) hl (s := R.take (2 * (ws.length - 1))) (r := R.drop (2 * (ws.length - 1))) (by rw [List.take_append_drop]) hsl (w := fun i => ws.getD i 0) (fun x hx => lev_wt hl x (List.mem_of_mem_take hx))
  refine dp_mk (fun i => ((R.take (2 * (ws.length - 1))).flatMap Prod.snd).count i) hn (by rw [incL_len]; simp) (fun i hi => ?_) (fun i hi => u1 i (List.mem_range.2 hi)) u2 fun q h1 h2 h3 => ?_
  · rw [incL_at _ _ _ fun y hy => ?_]
    · rw [List.getD_eq_getElem?_getD, List.getElem?_replicate, if_pos hi]
      simp
    · rw [List.mem_flatMap] at hy
      obtain ⟨q', h1, h2⟩ := hy
      rw [List.length_replicate]
      exact hal q' (List.mem_of_mem_take h1) y h2
  · have h4 : ws = (wlQ ws).map Prod.fst := by
      unfold wlQ
      rw [List.map_map]
      exact (ws_range ws).symm
    rw [h4] at h1
    obtain ⟨q', e1, e2, e3⟩ := q_lift Prod.fst (wlQ ws) q h1
    have h5 := (lev_lower (f := Prod.fst) (j := jw) (fun a b => rfl) hl e1 (fun p hp => by
      have : p.2 ∈ q.map Prod.snd := by rw [← e2]; exact List.mem_map_of_mem hp
      obtain ⟨p', hp', e⟩ := List.mem_map.1 this
      rw [← e]; exact h2 p' hp') (by rw [e2]; exact h3)).2
    rw [e3, hql] at h5
    rw [show 2 * ws.length - 2 = 2 * (ws.length - 1) by omega] at h5
    exact Nat.le_trans (Nat.le_of_eq u3) h5
end Go.Proofs.Ytanihbflgolciaa
/- Contract of lengths, of any number of symbols. -/
namespace Go.Proofs.Ytanihbflgolciaa
open Go.RowKit Go.Lib Go.Sort
set_option linter.unusedVariables false
set_option maxRecDepth 100000
theorem Lfs.pl {f : Nat → Int} {B : Nat} {v : Value} {L : List (Int × Value)} {w : World} (h : Lfs f B v L w) (ws : List Nat) (hn : L.length = ws.length) (hf : ∀ i, i < ws.length → f i = ((ws.getD i 0 : Nat) : Int)) : PL w w.heap.size L (wlQ ws) := by
  refine ⟨by simp [wlQ, hn], fun i p q h1 h2 => ?_⟩
  have hi := (List.getElem?_eq_some_iff.1 h1).1
  rw [hn] at hi
  unfold wlQ at h2
  rw [List.getElem?_map, List.getElem?_range hi] at h2
  simp only [Option.map_some, Option.some.injEq] at h2
  subst h2
  obtain ⟨e1, b, e2, e3, e4, e5, e6⟩ := h.at_ i p h1
  refine ⟨by rw [e1, hf i hi], some ⟨b, 0, none⟩, 1, 1, e2, rfl, .inr ⟨b, 0, rfl, ?_⟩, fun b' o s e => ?_⟩
  · intro k hk
    simp [liI] at hk
    subst hk
    exact e6
  · cases e; exact e4
theorem mxL_16 {dp : List Int} (h : ¬ 16 < mxL dp (dp.length - 1)) {n : Nat} (hn : dp.length = n) (i : Nat) (hi : i < n) : dp.getD i 0 ≤ 16 := by
  have := mxL_ge dp (dp.length - 1) i (by omega)
  omega
theorem wlQ_in {ws : List Nat} {W : Nat} (h : ∀ i, ws.getD i 0 ≤ W) : ∀ q ∈ wlQ ws, q.1 ≤ W ∧ q.2.length ≤ 1 := fun q hq => by
  obtain ⟨i, _, rfl⟩ := List.mem_map.1 hq
  exact ⟨h i, by simp⟩
theorem wlQ_lt {ws : List Nat} : ∀ q ∈ wlQ ws, ∀ x ∈ q.2, x < ws.length := fun q hq x hx => by
  obtain ⟨i, hi, rfl⟩ := List.mem_map.1 hq
  rw [List.mem_singleton] at hx
  rw [hx]; exact List.mem_range.1 hi
theorem lgW_max {T : List Int} (ht : ∀ j, 0 ≤ T.getD j 0 ∧ T.getD j 0 ≤ 1099511627776) (sy : List Nat) (i : Nat) : (lgW T sy).getD i 0 ≤ 1099511627776 := by
  by_cases hi : i < sy.length + 1
  · have h1 := lgW_at T sy (fun j => (ht j).1) i hi
    unfold wfI at h1
    split at h1
    · have := (ht (sy.getD i 0)).2
      omega
    · omega
  · rw [List.getD_eq_getElem?_getD, List.getElem?_eq_none (by rw [lgW_len]; omega)]
    simp
set_option maxHeartbeats 4000000 in
theorem fLengths_all (T : List Int) (A : Option Addr) (c : Nat) (sy : List Nat) (w : World) (hT : T.length = 256) (hr : Ri w A (sy.map (fun (i : Nat) => (i : Int)))) (hs : ∀ i ∈ sy, i < 256) (hl1 : 1 ≤ sy.length) (hl : sy.length ≤ 256) (ht : ∀ j, 0 ≤ T.getD j 0 ∧ T.getD j 0 ≤ 1099511627776) :
    Calls Try.prog 27 #[.agg (ia T), .slice A sy.length c] w fun e w' => ∃ A' c', ∃ dp : List Int, e = .returned (.slice A' sy.length c') ∧ Ri w' A' (dp.take sy.length) ∧ Dp (lgW T sy) dp ∧ Below w.heap.size w w' ∧ (∀ b o s, A' = some ⟨b, o, s⟩ → w.heap.size ≤ b) := by
  have HTB := Lib.hid ht
  have HR := Lib.hid hr
  have HTL := Lib.hid hT
  have HSY := Lib.hid hs
  have HBe := Lib.hid ((Below.refl w.heap.size w).alloc (Nat.le_refl _) (.cells (ia T) 55))
  have HBlk := Lib.hid (Blk.new w (ia T) 55)
  obtain ⟨X, hX⟩ : ∃ X, X = ia T := ⟨_, rfl⟩
  rw [← hX] at HBe HBlk ⊢
  have HX := Lib.hid hX
  clear hX hr hT hs ht
  go_enter Try.func27, Try.ntmps27
  go_wp2_with fail
  have HB0 : Hid (w.heap.size + 1 ≤ (w.alloc (.cells X 55)).heap.size) := by show _ ≤ _; simp
  generalize w.alloc (.cells X 55) = w1 at *
  go_loopg [5, 11] sy.length (fun gm v5 v11 wr => ∃ (j : Nat) (L : List (Int × Value)), v11 = .int .i64 j ∧ j ≤ sy.length ∧ sy.length - j ≤ gm ∧ L.length = j ∧ Hid (Lfs (wfI T sy) (w.heap.size + 1) v5 L wr) ∧ Hid (Below w.heap.size w wr) ∧ Hid (Blk wr w.heap.size X) ∧ Hid (w.heap.size + 1 ≤ wr.heap.size))
  case atStart => exact ⟨0, [], rfl, Nat.zero_le _, by omega, rfl, Lfs.nil _ _ _, HBe, HBlk, HB0⟩
  case round =>
    obtain ⟨j, L, rfl, hj, hgm, hLj, HL, HB, HK, HB1⟩ := hrel
    by_cases hjl : j < sy.length
    · obtain ⟨b, o, hA, hc⟩ : ∃ b o, A = some ⟨b, o, none⟩ ∧ ∀ i, i < (sy.map (fun (i : Nat) => (i : Int))).length → w.cell? ⟨b, o + i, none⟩ = some (.int .i64 ((sy.map (fun (i : Nat) => (i : Int))).getD i 0)) := by
        rcases HR.out with h | h
        · have := congrArg List.length h
          rw [List.length_map] at this
          rw [this] at hjl
          simp at hjl
        · exact h
      subst hA
      obtain ⟨s, hs⟩ : ∃ s, s = sy[j] := ⟨_, rfl⟩
      have hsn : s < 256 := by rw [hs]; exact HSY.out _ (List.getElem_mem hjl)
      have e1 := hc j (by rw [List.length_map]; exact hjl)
      have e1' : (sy.map (fun (i : Nat) => (i : Int))).getD j 0 = (s : Int) := by rw [List.getD_eq_getElem?_getD, List.getElem?_map, List.getElem?_eq_getElem hjl, hs]; rfl
      rw [e1'] at e1
      have e2 := cell_later HB.out e1
      obtain ⟨z, hz⟩ : ∃ z, z = T.getD s 0 := ⟨_, rfl⟩
      have e3 := HK.out.cell (g := w.heap.size) (j := s) (v := .int .i64 z) (by rw [HX.out, hz]; exact ia_at (by rw [HTL.out]; exact hsn))
      have hjl' : (j : Int) < (sy.length : Int) := by omega
      have hsn' : (s : Int) < 256 := by omega
      have HZ := Lib.hid hz
      have HSE := Lib.hid hs
      clear hc e1 e1' hs hz
      have hzf : z = wfI T sy j := by
        have : sy.getD j 0 = s := by rw [List.getD_eq_getElem?_getD, List.getElem?_eq_getElem hjl, HSE.out]; rfl
        rw [wfI_lt hjl, this, HZ.out]
      obtain ⟨HLA, HRA, hbb, HFN⟩ := Lfs.step HL.out hLj HB.out HK.out HB1.out hzf
      unfold lfW at HLA HRA hbb HFN
      have hll : L.length + [(z, Value.slice (some ⟨wr.heap.size, 0, none⟩) 1 1)].length ≤ 1000000000 := by simp; omega
      clear hzf
      go_wp2_with (first
        | ((at_builtin; (refine wpList_appG Try.underlying66 _ rfl (.tmp 16) (.tmp 23) rfl (w.heap.size + 1) u5 L rfl HLA.out (some ⟨wr.heap.size + 1, 0, none⟩) 1 1 [(z, .slice (some ⟨wr.heap.size, 0, none⟩) 1 1)] rfl rfl (by intro q hq; rw [List.mem_singleton] at hq; subst hq; rfl) HRA.out hll hbb ?_))
           intro v' w' ho hg hv
           have HF := Lib.hid (HFN.out v' w' ho hg hv)
           clear ho hg hv))
      go_roundg (gk - 1)
      case measure => omega
      case rel => exact ⟨j + 1, _, by push_cast; rfl, by omega, by omega, by rw [List.length_append, hLj]; rfl, HF.out.1, HF.out.2.1, HF.out.2.2.1, HF.out.2.2.2⟩
    · have hje : j = sy.length := by omega
      subst hje
      have hjl' : ¬ (sy.length : Int) < (sy.length : Int) := by omega
      obtain ⟨HLA, HRA, hbb, HFN⟩ := Lfs.step HL.out hLj HB.out HK.out HB1.out (wfI_last T sy).symm
      unfold lfW at HLA HRA hbb HFN
      have hll : L.length + [((0 : Int), Value.slice (some ⟨wr.heap.size, 0, none⟩) 1 1)].length ≤ 1000000000 := by simp; omega
      go_wp2_with (first
        | ((at_builtin; (refine wpList_appG Try.underlying66 _ rfl (.tmp 26) (.tmp 31) rfl (w.heap.size + 1) u5 L rfl HLA.out (some ⟨wr.heap.size + 1, 0, none⟩) 1 1 [(0, .slice (some ⟨wr.heap.size, 0, none⟩) 1 1)] rfl rfl (by intro q hq; rw [List.mem_singleton] at hq; subst hq; rfl) HRA.out hll hbb ?_))
           intro v' w' ho hg hv
           have HF := Lib.hid (HFN.out v' w' ho hg hv)
           have hlt' : (L ++ [((0 : Int), Value.slice (some ⟨wr.heap.size, 0, none⟩) 1 1)]).length = sy.length + 1 := by rw [List.length_append, hLj]; rfl
           obtain ⟨g, cg, hvg, hRg, hLg⟩ := Lfs.lvs HF.out.1 hlt' (by omega) (lgW T sy) (lgW_len T sy) (fun i hi => lgW_at T sy (fun j => (HTB.out j).1) i hi) (by have := lgW_sum T HTB.out sy; have h2 : sy.length * 1099511627776 ≤ 256 * 1099511627776 := Nat.mul_le_mul_right _ hl; omega)
           subst hvg
           have HPL := Lib.hid (Lfs.pl HF.out.1 (lgW T sy) (by rw [hlt', lgW_len]) fun i hi => lgW_at T sy (fun j => (HTB.out j).1) i (by rw [lgW_len] at hi; exact hi))
           have HRG := Lib.hid hRg
           have HLT := Lib.hid hlt'
           have CM := Lib.hid (fMerged_any _ (lfT (lgW T sy)) g (sy.length + 1) cg w' hRg hLg (by omega))
           clear ho hg hv hlt' hRg hLg)
        | ((with_reducible refine CM.out.mono ?_)
           rintro e w3 ⟨v, dp, r, rfl, hO, hdl, hh, hpm, hdp, hbm⟩
           obtain ⟨A3, c3, hv3, hc3, hm3, hR3, hb3, hz3⟩ := hO.open
           subst hv3
           rw [hdl] at hc3
           have HR3 := Lib.hid hR3
           have HDL := Lib.hid hdl
           have HH := Lib.hid hh
           have HPM := Lib.hid hpm
           have HDP := Lib.hid hdp
           have HBM := Lib.hid (HF.out.2.1.trans (Chg.below (S := fun _ => False) (Chg.of_below hbm) HF.out.2.1.size (fun i e => e.elim)))
           have HPL3 := Lib.hid (HPL.out.mono fun p q h => (h.below hbm).up hbm.size)
           have HRG3 := Lib.hid (HRG.out.below hbm)
           have CX := Lib.hid (fMax_any dp A3 dp.length c3 w3 hR3 rfl (by intro e; rw [e] at hdl; simp at hdl) (by omega))
           clear hO hdl hR3 hh hpm hdp hbm))
      refine CX.out.mono ?_
      rintro e w4 ⟨rfl, rfl⟩
      have hmn : (lgW T sy).length = sy.length + 1 := lgW_len T sy
      have HMN := Lib.hid hmn
      have HQA := Lib.hid (wlQ_in (lgW_max HTB.out sy))
      have HQB : Hid (∀ q ∈ wlQ (lgW T sy), ∀ x ∈ q.2, x < sy.length + 1) := by show ∀ q ∈ _, _; rw [← hmn]; exact wlQ_lt
      clear hmn
      by_cases hmx : 16 < mxL dp (dp.length - 1)
      · have HLI := Lib.hid (limited_any (some ⟨g, 0, none⟩) (sy.length + 1) cg _ (wlQ (lgW T sy)) w3 HRG3.out HLT.out.symm (by omega) (by omega) HPL3.out HQA.out HQB.out)
        generalize mxL dp (dp.length - 1) = mx at *
        go_wp2_with (first
          | (go_at_call 33
             refine HLI.out.mono ?_
             rintro e w5 ⟨gd, R, rfl, hBI, hLv, hgd, hB5⟩
             have HDP2 : Hid (Dp (lgW T sy) (incL (List.replicate (sy.length + 1) 0) ((R.take (2 * sy.length)).flatMap Prod.snd))) := by
               have := dp_of_lev (by rw [HMN.out]; omega) (by rw [HMN.out]; omega) hLv
               rw [HMN.out] at this
               exact this
             have HBI5 : Hid (BI w5 gd (incL (List.replicate (sy.length + 1) 0) ((R.take (2 * sy.length)).flatMap Prod.snd))) := hBI
             have HB5 := Lib.hid (HBM.out.trans (hB5.mono HBM.out.size))
             have HGD := Lib.hid (Nat.le_trans HBM.out.size hgd)
             clear hBI hLv hgd hB5))
        go_ret
        exact ⟨some ⟨gd, 0, none⟩, _, _, rfl, Ri.take HBI5.out.blk.ints _, HDP2.out, HB5.out, fun b o s e => by cases e; exact HGD.out⟩
      · have HDP2 := Lib.hid (dp_of_ht (by rw [HMN.out]; omega) (by rw [HMN.out]; exact HDL.out) HH.out (by rw [HMN.out]; exact HPM.out) HDP.out (fun i hi => mxL_16 hmx HDL.out i (by rw [← HMN.out]; exact hi)))
        generalize mxL dp (dp.length - 1) = mx at *
        go_wp2
        go_ret
        exact ⟨A3, c3, dp, rfl, HR3.out.take _, HDP2.out, HBM.out, fun b o s e => Nat.le_trans HF.out.2.1.size (hb3 b o s e).1⟩
end Go.Proofs.Ytanihbflgolciaa
/- Contract of prefix.Build, of any counts. -/
namespace Go.Proofs.Ytanihbflgolciaa
open Go.RowKit Go.Lib Go.Sort
set_option linter.unusedVariables false
set_option maxRecDepth 100000
theorem posS_max (T : List Int) (m : Nat) : (posS T m).length ≤ m := by
  unfold posS
  refine Nat.le_trans (List.length_filter_le _ _) ?_
  simp
set_option maxHeartbeats 4000000 in
theorem fBuild_all (t : List Int) (A : Option Addr) (c : Nat) (w : World) (hr : Ri w A t) (hl : t.length ≤ 100000) (hcb : cntB t = true) (h1 : 1 ≤ (posS (talS t) 256).length) :
    Calls Try.prog 18 #[.slice A t.length c] w fun e w' => ∃ A' c', ∃ dp : List Int, e = .returned (.tuple #[.agg (hx (incL (zeroL 16) (dsL dp (posS (talS t) 256).length)) (.slice A' (srtS (talS t)).length c')), .int .i64 0]) ∧ Ri w' A' ((srtS (talS t)).map (fun (i : Nat) => (i : Int))) ∧ Dp (lgW (talS t) (srtS (talS t))) dp ∧ Below w.heap.size w w' := by
  have HR := Lib.hid hr
  have h2 := posS_max (talS t) 256
  obtain ⟨Z, hZ⟩ : ∃ Z, Z = ia (zeroL 256) := ⟨_, rfl⟩
  have HZ : Hid ((Try.prog.info? 55).map (fun i => i.zero) = some (some (.agg Z))) := by show _ = _; rw [hZ]; exact info256
  have HZS : Hid (Z.size = 256) := by show _ = _; rw [hZ, ia_size]; simp [zeroL]
  obtain ⟨Y, hY⟩ : ∃ Y, Y = hx (zeroL 16) (.slice none 0 0) := ⟨_, rfl⟩
  have HY : Hid ((Try.prog.info? 25).map (fun i => i.zero) = some (some (.agg Y))) := by show _ = _; rw [hY]; exact infoH
  have HYE := Lib.hid hY
  have HYZ : Hid (Y.size = 17) := by show _ = _; rw [hY, hx_size]; rfl
  have HB1 := Lib.hid ((Below.refl w.heap.size w).alloc (Nat.le_refl _) (.cells Y 25))
  have HK1 := Lib.hid (Blk.new w Y 25)
  clear hZ hY hr
  have HTal := Lib.hid (fun w1 (h1 : Ri w1 A t) => fTal_any t A c w1 h1 hl)
  rw [hcb] at HTal
  obtain ⟨T, hT⟩ : ∃ T, T = talS t := ⟨_, rfl⟩
  have hTl : T.length = 256 := by rw [hT]; exact talS_len t
  have HTS := Lib.hid (size256 T hTl)
  have htr := talS_in t
  have HTT := Lib.hid hT
  rw [← hT] at HTal h1 h2 htr ⊢
  have HTR := Lib.hid htr
  have HTL := Lib.hid hTl
  obtain ⟨n, hn⟩ : ∃ n, n = (posS T 256).length := ⟨_, rfl⟩
  have HC := Lib.hid (fun w1 => fCtd_any w1 T hTl h1)
  rw [← hn] at HC h1 h2 ⊢
  have HN := Lib.hid hn
  have hsl : (srtS T).length = n := by rw [srtS_len, hn]
  have HL : Hid (∀ w1 A1 c1, Ri w1 A1 ((srtS T).map (fun (i : Nat) => (i : Int))) → Calls Try.prog 27 #[.agg (ia T), .slice A1 n c1] w1 fun e w' => ∃ A' c', ∃ dp : List Int, e = .returned (.slice A' n c') ∧ Ri w' A' (dp.take n) ∧ Dp (lgW T (srtS T)) dp ∧ Below w1.heap.size w1 w' ∧ (∀ b o s, A' = some ⟨b, o, s⟩ → w1.heap.size ≤ b)) := by
    show ∀ w1 A1 c1, _
    intro w1 A1 c1 hw1
    have := fLengths_all T A1 c1 (srtS T) w1 hTl hw1 (srtS_lt T) (by omega) (by omega) htr
    rw [hsl] at this
    exact this
  rw [hsl]
  have HSL := Lib.hid hsl
  have hn0 : ¬ (n : Int) = 0 := by omega
  have hn1 : ((n : Int) == 0) = false := by simp; omega
  clear hT htr hcb hn hTl hsl
  go_enter Try.func18, Try.ntmps18
  go_wp2_with (first
    | (with_reducible refine wpList_allocZ _ rfl 25 rfl Y HY.out ?_)
    | (with_reducible refine wpList_allocZ _ rfl 55 rfl Z HZ.out ?_)
    | ((go_at_call 25; refine (HTal.out _ (HR.out.below HB1.out)).mono ?_)
       rintro e w3 ⟨rfl, hb3⟩
       have HB3 := Lib.hid (below_le HB1.out hb3 HB1.out.size)
       have HK3 := Lib.hid (HK1.out.below hb3)
       have HZ3 := Lib.hid (Blk.new w3 Z 55)
       have HZ4 := Lib.hid ((Below.refl w3.heap.size w3).alloc (Nat.le_refl _) (.cells Z 55))
       clear hb3)
    | ((with_reducible refine wpList_storeB _ rfl 55 (.tmp 4) (.tmp 13) rfl w3.heap.size rfl Z HZ3.out (ia T) rfl HTS.out (by rw [HZS.out, ia_size, HTL.out]) (ia_one _) ?_)
       intro w4 hb4 hc4 hs4
       have HB34 := Lib.hid (HZ4.out.trans (hc4.below (B := w3.heap.size) HZ4.out.size (fun i hi => Nat.le_of_eq hi.symm)))
       have HB4 := Lib.hid (below_le HB3.out HB34.out HB3.out.size)
       have HT4 := Lib.hid hb4
       have HK4 := Lib.hid (HK3.out.below HB34.out)
       clear hb4 hc4)
    | (with_reducible refine wpList_loadB _ rfl 55 (.tmp 4) rfl _ Try.underlying55 rfl w3.heap.size rfl (ia T) HT4.out HTS.out ?_)
    | ((go_at_call 26; refine (HC.out _).mono ?_)
       rintro e w5 ⟨A5, c5, rfl, hb5, ha5, hr5⟩
       have HB5 := Lib.hid (below_le HB4.out hb5 HB4.out.size)
       have HT5 := Lib.hid (HT4.out.below hb5)
       have HK5 := Lib.hid (HK4.out.below hb5)
       have HR5 := Lib.hid hr5
       have HAW : Hid (∀ b o s, A5 = some ⟨b, o, s⟩ → b ≠ w.heap.size) := fun b o s e => by have h1 := ha5 b o s e; have h2 := HK4.out.lt; omega
       have HK7 := Lib.hid (Blk.new w5 Y 25)
       have HB57 := Lib.hid ((Below.refl w5.heap.size w5).alloc (Nat.le_refl _) (.cells Y 25))
       clear hb5 hr5 ha5)
    | ((with_reducible refine wpList_storeB _ rfl 25 (.tmp 7) (.tmp 26) rfl w5.heap.size rfl Y HK7.out (litH A5 n c5) rfl (sizeH (litH_size A5 n c5)) (HYZ.out.trans (litH_size A5 n c5).symm) (litH_one A5 n c5) ?_)
       intro w6 hb6 hc6 hs6
       have hB56 := HB57.out.trans (hc6.below (B := w5.heap.size) HB57.out.size (fun i hi => Nat.le_of_eq hi.symm))
       have HB6 := Lib.hid (below_le HB5.out hB56 HB5.out.size)
       have HT6 := Lib.hid (HT5.out.below hB56)
       have HK6 := Lib.hid (HK5.out.below hB56)
       have HR6 := Lib.hid (HR5.out.below hB56)
       have HQ6 : Hid (Blk w6 w5.heap.size (hx (zeroL 16) (.slice A5 n c5))) := hb6
       clear hb6 hc6 hs6 hB56)
    | (with_reducible refine wpList_loadB _ rfl 55 (.tmp 4) rfl _ Try.underlying55 rfl w3.heap.size rfl (ia T) HT6.out HTS.out ?_)
    | ((go_at_call 27; refine (HL.out _ _ _ HR6.out).mono ?_)
       rintro e w7 ⟨A7, c7, dp, rfl, hr7, hdp, hb7, hA7⟩
       have hdl : dp.length = n + 1 := by rw [hdp.len, lgW_len, HSL.out]
       have HB7 := Lib.hid (below_le HB6.out hb7 HB6.out.size)
       have HA7 : Hid (∀ b o s, A7 = some ⟨b, o, s⟩ → b ≠ w5.heap.size) := fun b o s e => by have h1 := hA7 b o s e; have h2 := HQ6.out.lt; omega
       have HK8 := Lib.hid (HK6.out.below hb7)
       have HR7 := Lib.hid (HR6.out.below hb7)
       have HQ7 := Lib.hid (HQ6.out.below hb7)
       have HD7 := Lib.hid hr7
       have HDL := Lib.hid hdl
       have HDP := Lib.hid hdp
       clear hr7 hdl hdp hb7 hA7))
  obtain ⟨ds, hds⟩ : ∃ ds, ds = dsL dp n := ⟨_, rfl⟩
  have hdl : ds.length = n := by rw [hds, dsL_len]
  have hrng := HDP.out.rng
  rw [lgW_len, HSL.out] at hrng
  have HAT : Hid (∀ j, j < n → ∃ k : Nat, ds[j]? = some k ∧ k < 16 ∧ (dp.take n).getD j 0 = (k : Int) + 1) := by
    show ∀ j, _
    intro j hj
    have h3 := hrng j (by omega)
    refine ⟨(dp.getD j 0).toNat - 1, by rw [hds, dsL_at dp n j hj], by omega, ?_⟩
    rw [List.getD_eq_getElem?_getD, List.getElem?_take_of_lt hj, ← List.getD_eq_getElem?_getD]
    omega
  have HDS := Lib.hid hds
  have h5w := HQ7.out.lt
  have hn16 : w.heap.size ≠ w5.heap.size := by have := HK5.out.lt; omega
  have HA5 : Hid (∀ b o s, A5 = some ⟨b, o, s⟩ → b ≠ w5.heap.size) := by
    show ∀ b o s, _
    intro b o s e
    rcases HR5.out with h | ⟨b', o', h, hc⟩
    · have := congrArg List.length h
      rw [List.length_map, HSL.out] at this
      simp at this
      omega
    · rw [e] at h
      cases h
      have := World.block_lt_of_cell? _ _ (hc 0 (by rw [List.length_map, HSL.out]; omega))
      simp only at this
      omega
  clear hds hrng
  go_loopg [31] n (fun gm v31 wr => ∃ (j : Nat), v31 = .int .i64 j ∧ j ≤ n ∧ n - j ≤ gm ∧ Hid (Blk wr w5.heap.size (hx (incL (zeroL 16) (ds.take j)) (.slice A5 n c5))) ∧ Hid (Chg (fun k => k = w5.heap.size) w7 wr))
  case atStart => exact ⟨0, rfl, Nat.zero_le _, by omega, HQ7, Chg.refl _ _⟩
  case round =>
    obtain ⟨j, rfl, hj, hgm, HQ, HCg⟩ := hrel
    by_cases hjn : j < n
    · obtain ⟨k, hk1, hk2, hk3⟩ := HAT.out j hjn
      have hzl : (zeroL 16).length = 16 := by simp [zeroL]
      have hlc : (incL (zeroL 16) (ds.take j)).length = 16 := by rw [incL_len]; exact hzl
      obtain ⟨cs, hcs⟩ : ∃ cs, cs = incL (zeroL 16) (ds.take j) := ⟨_, rfl⟩
      have HST : Hid (cs.set k (cs.getD k 0 + 1) = incL (zeroL 16) (ds.take (j + 1))) := by
        show _ = _
        rw [List.take_add_one, hk1, Option.toList_some, incL_snoc, ← hcs]
      have hcb : 0 ≤ cs.getD k 0 ∧ cs.getD k 0 ≤ 1000 := by
        rw [hcs, incL_at _ _ _ (fun i hi => by
          obtain ⟨m, hm⟩ := List.mem_iff_getElem?.1 (List.mem_of_mem_take hi)
          have hmn : m < n := by rw [← hdl]; exact (List.getElem?_eq_some_iff.1 hm).1
          obtain ⟨k2, e1, e2, _⟩ := HAT.out m hmn
          rw [e1] at hm
          cases hm
          rw [hzl]; exact e2)]
        have hz0 : (zeroL 16).getD k 0 = 0 := by rw [List.getD_eq_getElem?_getD]; unfold zeroL; rw [List.getElem?_replicate]; split <;> rfl
        have hc1 : (ds.take j).count k ≤ (ds.take j).length := List.count_le_length
        rw [List.length_take] at hc1
        omega
      rw [← hcs] at HQ hlc
      obtain ⟨z, hz⟩ : ∃ z, z = cs.getD k 0 := ⟨_, rfl⟩
      have e3 := HQ.out.cell (hx_at (v := .slice A5 n c5) (show k < cs.length by omega))
      have e4 := HQ.out.frozen k
      rw [← hz] at e3 hcb HST
      obtain ⟨b, o, hA, hc⟩ : ∃ b o, A7 = some ⟨b, o, none⟩ ∧ ∀ i, i < (dp.take n).length → w7.cell? ⟨b, o + i, none⟩ = some (.int .i64 ((dp.take n).getD i 0)) := by
        rcases HD7.out with h | h
        · have := congrArg List.length h
          rw [List.length_take, HDL.out] at this
          simp at this
          omega
        · exact h
      have e5 := hc j (by rw [List.length_take, HDL.out]; omega)
      rw [hk3] at e5
      have e6 := HCg.out.cellv e5 (HA7.out b o none hA)
      subst hA
      have hjn' : (j : Int) < (n : Int) := by omega
      have hk2' : (k : Int) < 16 := by omega
      have hk5 : ((k : Int) + 1 - 1) = (k : Int) := by omega
      have HCL := Lib.hid hlc
      clear hc e5 hcs hz hlc hzl
      go_wp2
      go_roundg (gk - 1)
      case measure => omega
      case rel =>
        refine ⟨j + 1, by push_cast; rfl, by omega, by omega, ?_, ?_⟩
        · show Blk _ _ _
          rw [← HST.out, ← hx_set cs _ k (z + 1) (by rw [HCL.out]; exact hk2)]
          exact HQ.out.set k (.int .i64 (z + 1))
        · show Chg _ _ _
          exact HCg.out.setCell (.inl rfl) _
    · have hje : j = n := by omega
      subst hje
      have hjn' : ¬ (j : Int) < (j : Int) := by omega
      have HQE : Hid (Blk wr w5.heap.size (hx (incL (zeroL 16) ds) (.slice A5 j c5))) := by
        have := HQ.out
        rw [← hdl, List.take_length] at this
        rw [hdl] at this
        exact this
      obtain ⟨cs, hcs⟩ : ∃ cs, cs = incL (zeroL 16) ds := ⟨_, rfl⟩
      have hlc : cs.length = 16 := by rw [hcs, incL_len]; simp [zeroL]
      rw [← hcs] at HQE
      have HCS := Lib.hid hcs
      have hxs : (hx cs (.slice A5 j c5)).size = 17 := by rw [hx_size, hlc]
      have HXS := Lib.hid hxs
      have HK9 := Lib.hid (HK8.out.chg HCg.out hn16)
      have HR9 := Lib.hid (HR7.out.chg HCg.out (fun b o s e h => HA5.out b o s e h))
      have HB9 := Lib.hid (HB7.out.trans (HCg.out.below HB7.out.size (fun i e => by rw [e]; exact HB5.out.size)))
      clear HQ hcs hlc hxs
      go_wp2_with (first
        | (with_reducible refine wpList_loadB _ rfl 25 (.tmp 7) rfl _ Try.underlying25 rfl w5.heap.size rfl (hx cs (.slice A5 j c5)) HQE.out (sizeH HXS.out) ?_)
        | ((with_reducible refine wpList_storeB _ rfl 25 (.tmp 2) (.tmp 44) rfl w.heap.size rfl Y HK9.out (hx cs (.slice A5 j c5)) rfl (sizeH HXS.out) (HYZ.out.trans HXS.out.symm) (hx_one cs A5 j c5) ?_)
           intro w10 hb10 hc10 hs10
           have HQ10 := Lib.hid hb10
           have HC10 := Lib.hid hc10
           clear hb10 hc10 hs10))
      (try simp only [Exit.inBlock, Exit.then])
      refine bodyPost_ret (results_cell_tmp rfl _ _ _ Try.underlying25 rfl w.heap.size (hx cs (.slice A5 j c5)) (.int .i64 0) rfl rfl (fun j v hv => HQ10.out.cell hv) (sizeH HXS.out)) rfl ?_
      exact ⟨A5, c5, dp, by rw [← HDS.out, ← HCS.out], HR9.out.chg HC10.out (fun b o s e h => HAW.out b o s e h), HDP.out, HB9.out.trans (HC10.out.below HB9.out.size (fun i e => Nat.le_of_eq e.symm))⟩
end Go.Proofs.Ytanihbflgolciaa
/- Pure: what Build makes may be, and costs the least. -/
namespace Go.Proofs.Ytanihbflgolciaa
open Go.RowKit Go.Lib Go.Sort
set_option linter.unusedVariables false
set_option maxRecDepth 100000
/- The symbols by falling counts. -/
theorem srtS_perm (T : List Int) : (srtS T).Perm (posS T 256) := by
  have h := srt_perm T
  have h3 := h.2.2
  have hz := h.1
  have a1 : (insertionSort (ltOf (cfT T)) (dS T) 0 (dS T).size).extract 0 (dS T).size = insertionSort (ltOf (cfT T)) (dS T) 0 (dS T).size := by
    have := Array.extract_size (xs := insertionSort (ltOf (cfT T)) (dS T) 0 (dS T).size)
    rw [hz] at this; exact this
  rw [a1, Array.extract_size] at h3
  unfold srtS
  refine (h3.map Fin.val).trans ?_
  unfold dS
  rw [List.map_map]
  have : (posS T 256).map (Fin.val ∘ fin256) = (posS T 256).map id := List.map_congr_left fun i hi => by
    show i % 256 = i
    exact Nat.mod_eq_of_lt (posS_lt i hi)
  rw [this, List.map_id]
theorem srtS_fall (T : List Int) : (srtS T).Pairwise (fun a b => T.getD b 0 ≤ T.getD a 0) := by
  have hs := (insertionSort_holds (cf_swo T) (dS T) 0 (dS T).size (Nat.zero_le _) (Nat.le_refl _)).2
  have hz := (srt_perm T).1
  unfold srtS
  generalize insertionSort (ltOf (cfT T)) (dS T) 0 (dS T).size = R at *
  rw [List.pairwise_map, List.pairwise_iff_getElem]
  intro i j hi hj hij
  have h1 := hs i j (Nat.zero_le _) hij (by rw [← hz]; simpa using hj)
  rw [ltOf_cf, decide_eq_false_iff_not] at h1
  rw [getElem!_pos R i (by simpa using hi), getElem!_pos R j (by simpa using hj)] at h1
  simp only [Array.getElem_toList]
  omega
theorem posS_nodup (T : List Int) (m : Nat) : (posS T m).Nodup := List.Pairwise.filter _ List.nodup_range
theorem srtS_nodup (T : List Int) : (srtS T).Nodup := (srtS_perm T).symm.nodup (posS_nodup T 256)
theorem srtS_pos {T : List Int} {s : Nat} (h : s ∈ srtS T) : 0 < T.getD s 0 := by
  have := (srtS_perm T).subset h
  unfold posS at this
  exact of_decide_eq_true (List.mem_filter.1 this).2
/- Lengths counted, and laid out again. -/
theorem zL_at (k : Nat) : (zeroL 16).getD k 0 = 0 := by rw [List.getD_eq_getElem?_getD]; unfold zeroL; rw [List.getElem?_replicate]; split <;> rfl
theorem cs_at {ds : List Nat} (h : ∀ x ∈ ds, x < 16) (k : Nat) : (incL (zeroL 16) ds).getD k 0 = (ds.count k : Int) := by
  rw [incL_at _ _ _ (fun i hi => by have := h i hi; simp [zeroL]; exact this), zL_at]
  omega
theorem lens_count {cs : List Int} : ∀ (i x : Nat), (lensOf cs i).count (x + 1) = if x < i then (cs.getD x 0).toNat else 0
  | 0, x => by simp [lensOf]
  | i + 1, x => by
    rw [lensOf, List.count_append, lens_count i x, List.count_replicate]
    by_cases e : x = i
    · subst e
      simp
    · have e2 : ((i + 1 == x + 1) = false) := by simp; omega
      rw [e2]
      by_cases h : x < i
      · simp only [if_pos h, if_pos (show x < i + 1 by omega), Bool.false_eq_true, if_false, Nat.add_zero]
      · simp only [if_neg h, if_neg (show ¬ x < i + 1 by omega), Bool.false_eq_true, if_false, Nat.add_zero]
theorem lens_zero {cs : List Int} (i : Nat) : (lensOf cs i).count 0 = 0 := List.count_eq_zero.2 fun h => by have := (lens_le cs i 0 h).1; omega
theorem count_succ (ds : List Nat) (x : Nat) : (ds.map (· + 1)).count (x + 1) = ds.count x := by
  induction ds with
  | nil => rfl
  | cons a t ih =>
    rw [List.map_cons, List.count_cons, List.count_cons, ih]
    by_cases e : a = x
    · subst e; simp
    · have h1 : (a + 1 == x + 1) = false := by simp; exact e
      have h2 : (a == x) = false := by simp; exact e
      rw [h1, h2]
theorem lens_perm {ds : List Nat} (h : ∀ x ∈ ds, x < 16) : (lensOf (incL (zeroL 16) ds) 16).Perm (ds.map (· + 1)) := by
  rw [List.perm_iff_count]
  intro a
  match a with
  | 0 =>
    rw [lens_zero, eq_comm]
    refine List.count_eq_zero.2 fun h => ?_
    obtain ⟨x, _, e⟩ := List.mem_map.1 h
    simp at e
  | x + 1 =>
    rw [lens_count, count_succ, cs_at h]
    by_cases hx : x < 16
    · rw [if_pos hx]; simp
    · rw [if_neg hx, eq_comm]
      exact List.count_eq_zero.2 fun hm => hx (h x hm)
/-- Symbols as ints. -/
abbrev syI (sy : List Nat) : List Int := sy.map fun (i : Nat) => (i : Int)
section
variable {T : List Int} {dp : List Int} (hT : ∀ j, 0 ≤ T.getD j 0) (hD : Dp (lgW T (srtS T)) dp)
include hD
theorem ds_lt : ∀ x ∈ dsL dp (srtS T).length, x < 16 := fun x hx => by
  obtain ⟨i, hi, rfl⟩ := List.mem_map.1 hx
  have := hD.rng i (by rw [lgW_len]; have := List.mem_range.1 hi; omega)
  omega
theorem ds_up : (dsL dp (srtS T).length).map (· + 1) = (List.range (srtS T).length).map fun i => (dp.getD i 0).toNat := by
  unfold dsL
  rw [List.map_map]
  refine List.map_congr_left fun i hi => ?_
  have := hD.rng i (by rw [lgW_len]; have := List.mem_range.1 hi; omega)
  show (dp.getD i 0).toNat - 1 + 1 = _
  omega
theorem ds_kraft : kraft 16 ((dsL dp (srtS T).length).map (· + 1)) < 65536 := by
  rw [ds_up hD]
  have h1 := hD.krf
  rw [lgW_len, List.range_succ, List.map_append, kraft_app, List.map_cons, List.map_nil, kraft_cons] at h1
  have h2 : 0 < 2 ^ (16 - (dp.getD (srtS T).length 0).toNat) := Nat.two_pow_pos _
  omega
theorem may_of (h1 : 1 ≤ (srtS T).length) : MayP (incL (zeroL 16) (dsL dp (srtS T).length)) (syI (srtS T)) := by
  have hlt := ds_lt hD
  have hl : (dsL dp (srtS T).length).length = (srtS T).length := dsL_len _ _
  have h256 : (srtS T).length ≤ 256 := by rw [srtS_len]; exact posS_le _ _
  have hp := lens_perm hlt
  have h0 : ∀ k, 0 ≤ (incL (zeroL 16) (dsL dp (srtS T).length)).getD k 0 := fun k => by rw [cs_at hlt]; omega
  have hsy : ∀ i, i < (srtS T).length → (syI (srtS T)).getD i 0 = (((srtS T).getD i 0 : Nat) : Int) ∧ (srtS T).getD i 0 ∈ srtS T := fun i hi => by
    refine ⟨?_, ?_⟩
    · unfold syI
      rw [List.getD_eq_getElem?_getD, List.getElem?_map, List.getElem?_eq_getElem hi, List.getD_eq_getElem?_getD, List.getElem?_eq_getElem hi]
      rfl
    · rw [List.getD_eq_getElem?_getD, List.getElem?_eq_getElem hi]
      exact List.getElem_mem hi
  refine ⟨fun k hk => ⟨h0 k, ?_⟩, fun i hi => ?_, fun i k hi hk e => ?_, ?_, by simpa [syI] using h1, ?_⟩
  · rw [cs_at hlt]
    have := List.count_le_length (a := k) (l := dsL dp (srtS T).length)
    omega
  · rw [List.length_map] at hi
    rw [(hsy i hi).1]
    have := srtS_lt T _ (hsy i hi).2
    omega
  · rw [List.length_map] at hi
    rw [(hsy i hi).1, (hsy k (by omega)).1] at e
    have e2 : (srtS T).getD k 0 = (srtS T).getD i 0 := by omega
    rw [List.getD_eq_getElem?_getD, List.getD_eq_getElem?_getD, List.getElem?_eq_getElem hi, List.getElem?_eq_getElem (show k < (srtS T).length by omega)] at e2
    have := (List.pairwise_iff_getElem.1 (srtS_nodup T)) k i (by omega) hi hk
    exact this e2
  · rw [← lens_many 16 (fun j _ => h0 j), hp.length_eq, List.length_map, hl, List.length_map]
  · rw [← lens_kraft 16 (Nat.le_refl _) (fun j _ => h0 j), kraft_perm hp]
    have := ds_kraft hD
    omega
end
/- What symbols cost. -/
theorem code_len {cs l : List Int} (h : MayP cs l) (s : Int) : (codeAt cs l s).2 = (lensOf cs 16).getD (l.findIdx (· == s)) 0 := by
  unfold codeAt
  rw [if_pos (mayB_true h)]
  have := cds_snd (lensOf cs 16)
  generalize l.findIdx (· == s) = i
  have h2 : ((cds (lensOf cs 16)).map Prod.snd).getD i 0 = ((cds (lensOf cs 16)).getD i (0, 0)).2 := by
    rw [List.getD_eq_getElem?_getD, List.getD_eq_getElem?_getD, List.getElem?_map]
    cases (cds (lensOf cs 16))[i]? <;> rfl
  rw [← h2, this]
theorem lens_length {cs l : List Int} (h : MayP cs l) : (lensOf cs 16).length = l.length := by
  have h1 := lens_many (cs := cs) 16 fun j hj => (h.cnt j hj).1
  rw [h.many] at h1
  omega
end Go.Proofs.Ytanihbflgolciaa
/- Pure: the cost of what Build makes; none that may be costs less. -/
namespace Go.Proofs.Ytanihbflgolciaa
open Go.RowKit Go.Lib Go.Sort
set_option linter.unusedVariables false
set_option maxRecDepth 100000
/-- What a symbol costs. -/
noncomputable def gN (T cs l : List Int) (s : Nat) : Nat := (T.getD s 0).toNat * (codeAt cs l s).2
theorem costN_nat {T cs l : List Int} (h : ∀ j, 0 ≤ T.getD j 0) : ∀ k, costN cs l T k = ((((List.range k).map (gN T cs l)).sum : Nat) : Int)
  | 0 => rfl
  | k + 1 => by
    rw [costN, costN_nat h k, List.range_succ, List.map_append, List.sum_append_nat]
    have h1 : T.getD k 0 = (((T.getD k 0).toNat : Nat) : Int) := by have := h k; omega
    rw [h1]
    simp only [List.map_cons, List.map_nil, List.sum_cons, List.sum_nil, Nat.add_zero, gN]
    push_cast
    rfl
theorem sum_filter {g : Nat → Nat} {p : Nat → Bool} (h : ∀ s, p s = false → g s = 0) : ∀ l : List Nat, ((l.filter p).map g).sum = (l.map g).sum
  | [] => rfl
  | a :: t => by
    cases hp : p a with
    | true => rw [List.filter_cons_of_pos hp, List.map_cons, List.map_cons, List.sum_cons, List.sum_cons, sum_filter h t]
    | false => rw [List.filter_cons_of_neg (by simp [hp]), List.map_cons, List.sum_cons, h a hp, sum_filter h t, Nat.zero_add]
theorem cost_sum {T cs l : List Int} (h : ∀ j, 0 ≤ T.getD j 0) : costN cs l T 256 = ((((srtS T).map (gN T cs l)).sum : Nat) : Int) := by
  rw [costN_nat h, ((srtS_perm T).map (gN T cs l)).sum_nat]
  unfold posS
  rw [sum_filter fun s hs => ?_]
  unfold gN
  have h1 : ¬ 0 < T.getD s 0 := of_decide_eq_false hs
  have h2 : (T.getD s 0).toNat = 0 := by omega
  rw [h2, Nat.zero_mul]
theorem sub_sum (g : Nat → Nat) : ∀ (m : Nat) (a : List Nat), a.Nodup → (∀ x ∈ a, x < m) → (a.map g).sum ≤ ((List.range m).map g).sum
  | 0, a, _, h => by
    match a with
    | [] => simp
    | x :: t => exact absurd (h x (by simp)) (Nat.not_lt_zero _)
  | m + 1, a, hn, h => by
    rw [List.range_succ, List.map_append, List.sum_append_nat]
    by_cases hm : m ∈ a
    · rw [((List.perm_cons_erase hm).map g).sum_nat, List.map_cons, List.sum_cons]
      have := sub_sum g m (a.erase m) (hn.erase m) fun x hx => by
        have h1 := (hn.mem_erase_iff).1 hx
        have h2 := h x h1.2
        have h3 := h1.1
        omega
      simp only [List.map_cons, List.map_nil, List.sum_cons, List.sum_nil]
      omega
    · have := sub_sum g m a hn fun x hx => by
        have h2 := h x hx
        have h3 : x ≠ m := fun e => hm (e ▸ hx)
        omega
      omega
theorem idx_own {sy : List Nat} (hn : sy.Nodup) {k : Nat} (hk : k < sy.length) : (syI sy).findIdx (· == ((sy[k] : Nat) : Int)) = k := by
  rw [List.findIdx_eq (by simpa [syI] using hk)]
  refine ⟨by simp [syI], fun j hj => ?_⟩
  simp only [syI, List.getElem_map, beq_eq_false_iff_ne, ne_eq]
  intro e
  have e2 : sy[j] = sy[k] := by omega
  exact (List.pairwise_iff_getElem.1 hn) j k (by omega) hk hj e2
/-- The weights. -/
def wL (T : List Int) : List Nat := (srtS T).map fun s => (T.getD s 0).toNat
theorem wL_len (T : List Int) : (wL T).length = (srtS T).length := by simp [wL]
theorem own_zip {T cs : List Int} (h : MayP cs (syI (srtS T))) : (srtS T).map (gN T cs (syI (srtS T))) = ((wL T).zip (lensOf cs 16)).map fun p => p.1 * p.2 := by
  have hl := lens_length h
  have hc := code_len h
  have hn := srtS_nodup T
  unfold wL gN
  rw [List.length_map] at hl
  generalize lensOf cs 16 = ls at *
  generalize srtS T = sy at *
  apply List.ext_getElem
  · simp [hl]
  · intro k h1 h2
    rw [List.length_map] at h1
    have hk : k < ls.length := by omega
    simp only [List.getElem_map, List.getElem_zip]
    rw [hc, idx_own hn h1, List.getD_eq_getElem?_getD (l := ls), List.getElem?_eq_getElem hk]
    rfl
section
variable {T : List Int} {dp : List Int} (hT : ∀ j, 0 ≤ T.getD j 0) (hD : Dp (lgW T (srtS T)) dp) (h1 : 1 ≤ (srtS T).length)
include hD h1
theorem own_le : ((srtS T).map (gN T (incL (zeroL 16) (dsL dp (srtS T).length)) (syI (srtS T)))).sum ≤ ((List.range (lgW T (srtS T)).length).map fun i => (lgW T (srtS T)).getD i 0 * (dp.getD i 0).toNat).sum := by
  rw [own_zip (may_of hD h1)]
  have hlt := ds_lt hD
  have hp := lens_perm hlt
  rw [ds_up hD] at hp
  have hlen : (wL T).length = ((List.range (srtS T).length).map fun i => (dp.getD i 0).toNat).length := by simp [wL]
  refine Nat.le_trans (rearr (q := (wL T).zip ((List.range (srtS T).length).map fun i => (dp.getD i 0).toNat)) ?_ (lens_rise _ 16) (by rw [zip_fst _ _ hlen]) (by rw [zip_snd _ _ hlen]; exact hp.symm)) ?_
  · unfold wL
    rw [List.pairwise_map]
    exact (srtS_fall T).imp fun {a b} h => by omega
  · rw [lgW_len, List.range_succ, List.map_append, List.sum_append_nat]
    refine Nat.le_trans (Nat.le_of_eq ?_) (Nat.le_add_right _ _)
    congr 1
    apply List.ext_getElem
    · simp [wL]
    · intro i h2 h3
      have hi : i < (srtS T).length := by simpa using h3
      simp only [List.getElem_map, List.getElem_zip, List.getElem_range, wL]
      congr 1
      unfold lgW
      rw [List.getD_eq_getElem?_getD (l := List.map _ _ ++ [0]), List.getElem?_append_left (by simpa using hi), List.getElem?_map, List.getElem?_eq_getElem hi]
      rfl
omit h1 in
theorem least_le {cs' l' : List Int} (hm : MayP cs' l') (ho : ∀ s ∈ srtS T, 0 < (codeAt cs' l' (s : Int)).2) : ((List.range (lgW T (srtS T)).length).map fun i => (lgW T (srtS T)).getD i 0 * (dp.getD i 0).toNat).sum ≤ ((srtS T).map (gN T cs' l')).sum := by
  have hll := lens_length hm
  have hcl := code_len hm
  have hkl : ((kraft 16 (lensOf cs' 16) : Nat) : Int) < 65536 := by
    rw [lens_kraft 16 (Nat.le_refl _) fun j hj => (hm.cnt j hj).1]
    exact hm.sum
  have hnd := srtS_nodup T
  have hle := hD.least
  have hl16 : ∀ s : Int, (codeAt cs' l' s).2 ≤ 16 := len_code cs' l'
  have eW : lgW T (srtS T) = (srtS T).map (fun s => (T.getD s 0).toNat) ++ [0] := rfl
  unfold gN
  rw [eW] at hle ⊢
  clear eW
  generalize lensOf cs' 16 = ls at *
  clear hD
  generalize srtS T = sy at *
  have hix : ∀ s ∈ sy, l'.findIdx (· == (s : Int)) < ls.length := fun s hs => by
    have h2 := ho s hs
    rw [hcl, List.getD_eq_getElem?_getD] at h2
    rcases Nat.lt_or_ge (l'.findIdx (· == (s : Int))) ls.length with h | h
    · exact h
    · rw [List.getElem?_eq_none h] at h2
      simp at h2
  have hinj : (sy.map fun (s : Nat) => l'.findIdx (· == (s : Int))).Nodup := by
    show List.Pairwise _ _
    rw [List.pairwise_map]
    refine hnd.imp_of_mem fun {a b} ha hb hne e => ?_
    have i1 := hix a ha
    have i2 := hix b hb
    rw [hll] at i1 i2
    have e1 := List.findIdx_getElem (p := (· == (a : Int))) (w := i1)
    have e2 := List.findIdx_getElem (p := (· == (b : Int))) (w := i2)
    simp only [beq_iff_eq] at e1 e2
    have e3 : l'[l'.findIdx (· == (a : Int))] = l'[l'.findIdx (· == (b : Int))] := by congr 1
    rw [e1, e2] at e3
    exact hne (by omega)
  have hk : kraft 16 (sy.map fun (s : Nat) => (codeAt cs' l' (s : Int)).2) ≤ kraft 16 ls := by
    have h2 := sub_sum (fun i => 2 ^ (16 - ls.getD i 0)) ls.length _ hinj fun x hx => by
      obtain ⟨s, hs, rfl⟩ := List.mem_map.1 hx
      exact hix s hs
    rw [List.map_map] at h2
    have e1 : (List.range ls.length).map (fun i => 2 ^ (16 - ls.getD i 0)) = ls.map fun x => 2 ^ (16 - x) := by
      have h3 : (List.range ls.length).map (fun i => 2 ^ (16 - ls.getD i 0)) = ((List.range ls.length).map fun i => ls.getD i 0).map fun x => 2 ^ (16 - x) := by rw [List.map_map]; rfl
      rw [h3, map_getD_range 0 ls]
    rw [e1] at h2
    have e2 : sy.map ((fun i => 2 ^ (16 - ls.getD i 0)) ∘ fun (s : Nat) => l'.findIdx (· == (s : Int))) = (sy.map fun (s : Nat) => (codeAt cs' l' (s : Int)).2).map fun x => 2 ^ (16 - x) := by
      rw [List.map_map]
      refine List.map_congr_left fun s hs => ?_
      show 2 ^ (16 - ls.getD (l'.findIdx (· == (s : Int))) 0) = 2 ^ (16 - (codeAt cs' l' (s : Int)).2)
      rw [hcl]
    rw [e2] at h2
    exact h2
  have h2 := hle (sy.map (fun (s : Nat) => ((T.getD s 0).toNat, (codeAt cs' l' (s : Int)).2)) ++ [(0, 16)]) (by
    rw [List.map_append, List.map_map]
    exact .refl _) (fun p hp => by
    rcases List.mem_append.1 hp with hp | hp
    · obtain ⟨s, _, rfl⟩ := List.mem_map.1 hp
      exact hl16 _
    · rw [List.mem_singleton] at hp
      rw [hp]; exact Nat.le_refl _) (by
    rw [List.map_append, List.map_map, kraft_app]
    have h3 : kraft 16 (sy.map (Prod.snd ∘ fun (s : Nat) => ((T.getD s 0).toNat, (codeAt cs' l' (s : Int)).2))) = kraft 16 (sy.map fun (s : Nat) => (codeAt cs' l' (s : Int)).2) := rfl
    rw [h3]
    have h4 : kraft 16 ([((0 : Nat), (16 : Nat))].map Prod.snd) = 1 := by simp [kraft]
    rw [h4]
    have h5 : (2 : Nat) ^ 16 = 65536 := by decide
    rw [h5]
    omega)
  refine Nat.le_trans h2 (Nat.le_of_eq ?_)
  rw [List.map_append, List.sum_append_nat, List.map_map]
  rfl
end
/-- None that may be costs less. -/
theorem build_best {t dp : List Int} (hc : cntB t = true) (h1 : 1 ≤ (posS (talS t) 256).length) (hD : Dp (lgW (talS t) (srtS (talS t))) dp) :
    mayB (incL (zeroL 16) (dsL dp (posS (talS t) 256).length)) (syI (srtS (talS t))) = true ∧ 0 < costB (incL (zeroL 16) (dsL dp (posS (talS t) 256).length)) (syI (srtS (talS t))) t ∧
    ∀ cs' l', costB cs' l' t < 0 ∨ costB (incL (zeroL 16) (dsL dp (posS (talS t) 256).length)) (syI (srtS (talS t))) t ≤ costB cs' l' t := by
  have hT : ∀ j, 0 ≤ (talS t).getD j 0 := fun j => (talS_in t j).1
  have hsl := srtS_len (talS t)
  rw [← hsl] at h1 ⊢
  have hm := may_of hD h1
  have hmb := mayB_true hm
  have hll := lens_length hm
  rw [List.length_map] at hll
  have hcode : ∀ k, (hk : k < (srtS (talS t)).length) → 0 < (codeAt (incL (zeroL 16) (dsL dp (srtS (talS t)).length)) (syI (srtS (talS t))) ((srtS (talS t))[k] : Nat)).2 := fun k hk => by
    rw [code_len hm, idx_own (srtS_nodup _) hk, List.getD_eq_getElem?_getD, List.getElem?_eq_getElem (by omega)]
    exact (lens_le _ 16 _ (List.getElem_mem _)).1
  have hin : ∀ s, s < 256 → 0 < (talS t).getD s 0 → s ∈ srtS (talS t) := fun s hs h0 => (srtS_perm (talS t)).symm.subset (List.mem_filter.2 ⟨List.mem_range.2 hs, decide_eq_true h0⟩)
  have hok : okN (incL (zeroL 16) (dsL dp (srtS (talS t)).length)) (syI (srtS (talS t))) (talS t) 256 := fun s hs => by
    by_cases h0 : 0 < (talS t).getD s 0
    · obtain ⟨k, hk, rfl⟩ := List.mem_iff_getElem.1 (hin s hs h0)
      exact .inr (hcode k hk)
    · exact .inl (by omega)
  have hco := costB_tal hmb hc hok
  rw [cost_sum hT] at hco
  refine ⟨hmb, ?_, fun cs' l' => ?_⟩
  · rw [hco]
    match hs : srtS (talS t) with
    | [] => rw [hs] at h1; simp at h1
    | s :: r =>
      have hk := hcode 0 (by rw [hs]; simp)
      have h0 := srtS_pos (T := talS t) (s := s) (by rw [hs]; simp)
      have hg : 0 < gN (talS t) (incL (zeroL 16) (dsL dp (srtS (talS t)).length)) (syI (srtS (talS t))) s := by
        unfold gN
        refine Nat.mul_pos (by omega) ?_
        have e : (srtS (talS t))[0]'(by rw [hs]; simp) = s := by simp [hs]
        rw [e] at hk
        exact hk
      rw [hs] at hg
      rw [List.map_cons, List.sum_cons]
      omega
  · by_cases h2 : mayB cs' l' = true ∧ okN cs' l' (talS t) 256
    · right
      rw [hco, costB_tal h2.1 hc h2.2, cost_sum hT]
      have a1 := own_le hD h1
      have a2 := least_le hD (mayB_iff.1 h2.1) fun s hs => by
        have h3 := srtS_pos hs
        rcases h2.2 s (srtS_lt _ s hs) with h4 | h4
        · omega
        · exact h4
      omega
    · left
      unfold costB
      have : (mayB cs' l' && (cntB t && okB cs' l' t t.length)) = false := by
        cases hb : mayB cs' l' with
        | false => rfl
        | true =>
          have h3 : okB cs' l' t t.length = false := okB_false fun h => h2 ⟨hb, (okN_tal hc).2 h⟩
          rw [h3]; simp
      rw [this]
      simp
end Go.Proofs.Ytanihbflgolciaa
/- Build that refuses: counts that are not valid, or none counted. -/
namespace Go.Proofs.Ytanihbflgolciaa
open Go.RowKit Go.Lib Go.Sort
set_option linter.unusedVariables false
set_option maxRecDepth 100000
theorem ins0_any (v : Value) (w : World) : Calls Try.prog 46 #[.slice none 0 0, .int .i64 0, .int .i64 0, v] w fun e w' => e = .returned (.tuple #[]) ∧ Below w.heap.size w w' := by
  have HB := Lib.hid (Below.refl w.heap.size w)
  go_enter Try.func46, Try.ntmps46
  go_wp2
  refine wp_loop_rounds 1 ?_
  rw [rounds_succ]
  go_wp2
  go_end0
  exact ⟨rfl, HB.out⟩
theorem stb0_any (v : Value) (w : World) : Calls Try.prog 34 #[.slice none 0 0, .int .i64 0, v] w fun e w' => e = .returned (.tuple #[]) ∧ Below w.heap.size w w' := by
  have HI := Lib.hid (ins0_any v)
  have HB := Lib.hid (Below.refl w.heap.size w)
  go_enter Try.func34, Try.ntmps34
  go_wp2
  refine wp_loop_rounds 1 ?_
  rw [rounds_succ]
  go_wp2_with (first
    | (go_at_call 46
       refine (HI.out _).mono ?_
       rintro e w2 ⟨rfl, hb⟩
       have HB2 := Lib.hid hb
       clear hb))
  refine wp_loop_rounds 1 ?_
  rw [rounds_succ]
  go_wp2
  go_end0
  exact ⟨rfl, HB2.out⟩
theorem ssf0_any (v : Value) (w : World) : Calls Try.prog 28 #[.slice none 0 0, v] w fun e w' => e = .returned (.tuple #[]) ∧ Below w.heap.size w w' := by
  have HI := Lib.hid (stb0_any v)
  go_enter Try.func28, Try.ntmps28
  go_wp2_with (first
    | (go_at_call 34
       refine (HI.out _).mono ?_
       rintro e w2 ⟨rfl, hb⟩
       have HB2 := Lib.hid hb
       clear hb))
  go_end0
  exact ⟨rfl, HB2.out⟩
set_option maxHeartbeats 4000000 in
theorem fCtd_none (w : World) (T : List Int) (hT : T.length = 256) (h1 : posS T 256 = []) :
    Calls Try.prog 26 #[.agg (ia T)] w fun e w' => e = .returned (.slice none 0 0) ∧ Below w.heap.size w w' := by
  obtain ⟨X, hX⟩ : ∃ X, X = ia T := ⟨_, rfl⟩
  rw [← hX]
  have HSZ : Hid ((Try.prog.info? 55).map (·.size) = some X.size) := by show _ = _; rw [hX]; exact size256 T hT
  have HX := Lib.hid hX
  have HBe := Lib.hid ((Below.refl w.heap.size w).alloc (Nat.le_refl _) (.cells X 55))
  have HBlk := Lib.hid (Blk.new w X 55)
  have HTL := Lib.hid hT
  have HZ : Hid (∀ j, j < 256 → ¬ 0 < T.getD j 0) := fun j hj h => by
    have : j ∈ posS T 256 := List.mem_filter.2 ⟨List.mem_range.2 hj, decide_eq_true h⟩
    rw [h1] at this
    cases this
  have HS0 := Lib.hid ssf0_any
  clear hX hT h1
  go_enter Try.func26, Try.ntmps26
  go_wp2_with (first
    | (with_reducible refine wpList_loadB _ rfl 55 (.tmp 1) rfl _ Try.underlying55 rfl w.heap.size rfl X HBlk.out HSZ.out ?_))
  generalize w.alloc (.cells X 55) = w1 at *
  go_loopg [3, 7] 256 (fun gm v3 v7 wr => ∃ (j : Nat), v7 = .int .i64 j ∧ j ≤ 256 ∧ 256 - j ≤ gm ∧ v3 = .slice none 0 0 ∧ Hid (Below w.heap.size w wr))
  case atStart => exact ⟨0, rfl, Nat.zero_le _, by omega, rfl, HBe⟩
  case round =>
    obtain ⟨j, rfl, hj, hgm, rfl, HB⟩ := hrel
    by_cases hlt : j < 256
    · have e1 : X[j]? = some (.int .i64 (T.getD j 0)) := by rw [HX.out]; exact ia_at (by rw [HTL.out]; exact hlt)
      have hz0 := HZ.out j hlt
      obtain ⟨z, hz⟩ : ∃ z, z = T.getD j 0 := ⟨_, rfl⟩
      rw [← hz] at e1 hz0
      have hlt' : (j : Int) < 256 := by omega
      clear hz
      go_wp2_with (first
        | (with_reducible refine wpList_indexA _ rfl 55 (.tmp 6) (.tmp 7) rfl 256 3 .i64 Try.underlying55 Try.underlying3 (by kernel_rfl) X rfl j rfl hlt _ e1 ?_))
      go_roundg (gk - 1)
      case measure => omega
      case rel => exact ⟨j + 1, by push_cast; rfl, by omega, by omega, rfl, HB⟩
    · have hje : j = 256 := by omega
      subst hje
      go_wp2_with (first
        | (go_at_call 28
           refine (HS0.out _ _).mono ?_
           rintro e w5 ⟨rfl, hb⟩
           have HB5 := Lib.hid (below_le HB.out hb HB.out.size)
           clear hb))
      go_ret
      exact ⟨rfl, HB5.out⟩
set_option maxHeartbeats 4000000 in
theorem fBuild_no (t : List Int) (A : Option Addr) (c : Nat) (w : World) (hr : Ri w A t) (hl : t.length ≤ 100000) (h0 : cntB t = false ∨ posS (talS t) 256 = []) :
    Calls Try.prog 18 #[.slice A t.length c] w fun e w' => e = .returned (.tuple #[.agg (hx (zeroL 16) (.slice none 0 0)), .int .i64 1]) ∧ Below w.heap.size w w' := by
  have HR := Lib.hid hr
  obtain ⟨Z, hZ⟩ : ∃ Z, Z = ia (zeroL 256) := ⟨_, rfl⟩
  have HZ : Hid ((Try.prog.info? 55).map (fun i => i.zero) = some (some (.agg Z))) := by show _ = _; rw [hZ]; exact info256
  have HZS : Hid (Z.size = 256) := by show _ = _; rw [hZ, ia_size]; simp [zeroL]
  obtain ⟨Y, hY⟩ : ∃ Y, Y = hx (zeroL 16) (.slice none 0 0) := ⟨_, rfl⟩
  have HY : Hid ((Try.prog.info? 25).map (fun i => i.zero) = some (some (.agg Y))) := by show _ = _; rw [hY]; exact infoH
  have HYE := Lib.hid hY
  have HYZ : Hid (Y.size = 17) := by show _ = _; rw [hY, hx_size]; rfl
  have HB1 := Lib.hid ((Below.refl w.heap.size w).alloc (Nat.le_refl _) (.cells Y 25))
  have HK1 := Lib.hid (Blk.new w Y 25)
  clear hZ hr
  clear hY
  have HTal := Lib.hid (fun w1 (h1 : Ri w1 A t) => fTal_any t A c w1 h1 hl)
  have hp : posS (talS t) 256 = [] := by
    rcases h0 with h | h
    · unfold talS
      rw [if_neg (by rw [h]; decide)]
      decide +kernel
    · exact h
  obtain ⟨T, hT⟩ : ∃ T, T = talS t := ⟨_, rfl⟩
  have hTl : T.length = 256 := by rw [hT]; exact talS_len t
  have HTS := Lib.hid (size256 T hTl)
  rw [← hT] at HTal hp
  have HTL := Lib.hid hTl
  have HC := Lib.hid (fun w1 => fCtd_none w1 T hTl hp)
  clear hT hp hTl h0
  generalize cntB t = ok at *
  go_enter Try.func18, Try.ntmps18
  go_wp2_with (first
    | (with_reducible refine wpList_allocZ _ rfl 25 rfl Y HY.out ?_)
    | (with_reducible refine wpList_allocZ _ rfl 55 rfl Z HZ.out ?_)
    | ((go_at_call 25; refine (HTal.out _ (HR.out.below HB1.out)).mono ?_)
       rintro e w3 ⟨rfl, hb3⟩
       have HB3 := Lib.hid (below_le HB1.out hb3 HB1.out.size)
       have HK3 := Lib.hid (HK1.out.below hb3)
       have HZ3 := Lib.hid (Blk.new w3 Z 55)
       have HZ4 := Lib.hid ((Below.refl w3.heap.size w3).alloc (Nat.le_refl _) (.cells Z 55))
       clear hb3)
    | ((with_reducible refine wpList_storeB _ rfl 55 (.tmp 4) (.tmp 13) rfl w3.heap.size rfl Z HZ3.out (ia T) rfl HTS.out (by rw [HZS.out, ia_size, HTL.out]) (ia_one _) ?_)
       intro w4 hb4 hc4 hs4
       have HB34 := Lib.hid (HZ4.out.trans (hc4.below (B := w3.heap.size) HZ4.out.size (fun i hi => Nat.le_of_eq hi.symm)))
       have HB4 := Lib.hid (below_le HB3.out HB34.out HB3.out.size)
       have HT4 := Lib.hid hb4
       have HK4 := Lib.hid (HK3.out.below HB34.out)
       clear hb4 hc4)
    | (with_reducible refine wpList_loadB _ rfl 55 (.tmp 4) rfl _ Try.underlying55 rfl w3.heap.size rfl (ia T) HT4.out HTS.out ?_)
    | ((go_at_call 26; refine (HC.out _).mono ?_)
       rintro e w5 ⟨rfl, hb5⟩
       have HB5 := Lib.hid (below_le HB4.out hb5 HB4.out.size)
       have HK5 := Lib.hid (HK4.out.below hb5)
       clear hb5)
    | ((with_reducible refine wpList_storeB _ rfl 25 (.tmp 2) (.tmp 24) rfl w.heap.size rfl Y HK5.out (litH none 0 0) rfl (sizeH (litH_size none 0 0)) (HYZ.out.trans (litH_size none 0 0).symm) (litH_one none 0 0) ?_)
       intro w6 hb6 hc6 hs6
       have HB6 := Lib.hid (HB5.out.trans (hc6.below HB5.out.size (fun i e => Nat.le_of_eq e.symm)))
       have HQ6 : Hid (Blk w6 w.heap.size (hx (zeroL 16) (.slice none 0 0))) := hb6
       clear hb6 hc6 hs6))
  all_goals
    (try simp only [Exit.inBlock, Exit.then])
    refine bodyPost_ret (results_cell_tmp rfl _ _ _ Try.underlying25 rfl w.heap.size (hx (zeroL 16) (.slice none 0 0)) (.int .i64 1) rfl rfl (fun j v hv => HQ6.out.cell hv) (sizeH (litH_size none 0 0))) rfl ?_
    exact ⟨rfl, HB6.out⟩
end Go.Proofs.Ytanihbflgolciaa
