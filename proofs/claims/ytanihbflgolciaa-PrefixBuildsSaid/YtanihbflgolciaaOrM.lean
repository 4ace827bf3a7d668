/- OrM: the texts OrdP, FLs, LstP, FLt, FLu, FLv, FLw, FLx, AppF, FOrd in one. -/
import Derived.Test.YtanihbflgolciaaLawP
import Derived.Test.YtanihbflgolciaaDrg
import Derived.Test.YtanihbflgolciaaAppE
import Derived.Test.YtanihbflgolciaaTelA
import Derived.Test.YtanihbflgolciaaFLN
import Derived.Test.YtanihbflgolciaaHufP0
import Derived.Test.YtanihbflgolciaaMkI
/- The document's Order in plain numbers; a prefix of own ints. -/
namespace Go.Proofs.Ytanihbflgolciaa
open Go.RowKit Go.Lib
set_option linter.unusedVariables false
set_option maxRecDepth 100000
/-- Where a count goes. -/
def bkAt (l out : List Int) (y : Int) : Nat → Nat
  | 0 => 0
  | a + 1 => if l.getD (out.getD a 0).toNat 0 < y then bkAt l out y a else a + 1
theorem bkAt_le (l out : List Int) (y : Int) : ∀ a, bkAt l out y a ≤ a
  | 0 => Nat.le_refl _
  | a + 1 => by
    unfold bkAt
    split
    · exact Nat.le_succ_of_le (bkAt_le l out y a)
    · exact Nat.le_refl _
/-- The document's order of the first symbols. -/
def ordL (l : List Int) : Nat → List Int
  | 0 => []
  | s + 1 => if l.getD s 0 < 1 then ordL l s else (ordL l s).take (bkAt l (ordL l s) (l.getD s 0) (ordL l s).length) ++ ((s : Int) :: (ordL l s).drop (bkAt l (ordL l s) (l.getD s 0) (ordL l s).length))
theorem ordL_in (l : List Int) : ∀ s, ∀ x ∈ ordL l s, 0 ≤ x ∧ x < (s : Int)
  | 0 => fun x hx => by cases hx
  | s + 1 => fun x hx => by
    have ih := ordL_in l s
    unfold ordL at hx
    split at hx
    · have := ih x hx; omega
    · rcases List.mem_append.1 hx with h | h
      · have := ih x (List.mem_of_mem_take h); omega
      · rcases List.mem_cons.1 h with h | h
        · omega
        · have := ih x (List.mem_of_mem_drop h); omega
theorem ordL_len (l : List Int) : ∀ s, (ordL l s).length ≤ s
  | 0 => Nat.le_refl _
  | s + 1 => by
    have ih := ordL_len l s
    unfold ordL
    split
    · omega
    · simp; omega
theorem Oi.take {w : World} {base : Nat} {A : Option Addr} {c : Nat} {l : List Int} (h : Oi w base (.slice A l.length c) l) {n : Nat} (hn : n ≤ l.length) : Oi w base (.slice A n c) (l.take n) := by
  obtain ⟨h1, h2⟩ := h
  have hl : (l.take n).length = n := by rw [List.length_take]; omega
  refine ⟨by rw [List.length_map, Nat.mul_one], ?_⟩
  rw [hl]
  rcases h2 with ⟨e, h0⟩ | ⟨g, cap, cur, e, hb, hh, h3, h4, h5, h6⟩
  · injection e with e1 e2 e3
    subst e1 e3
    have : n = 0 := by omega
    subst this
    exact .inl ⟨rfl, rfl⟩
  · injection e with e1 e2 e3
    subst e1 e3
    refine .inr ⟨g, c, cur, rfl, hb, hh, by omega, h4, h5, ?_⟩
    rw [Nat.mul_one] at h6 ⊢
    rw [List.map_take, ← h6, List.take_take, Nat.min_eq_left hn]
end Go.Proofs.Ytanihbflgolciaa
/- Pure: what Build leaves is the document's order. -/
namespace Go.Proofs.Ytanihbflgolciaa
open Go.RowKit Go.Lib Go.Sort
set_option linter.unusedVariables false
set_option maxRecDepth 100000
/-- a stands ahead of b. -/
def Rl (l : List Int) (a b : Int) : Prop := l.getD b.toNat 0 < l.getD a.toNat 0 ∨ (l.getD a.toNat 0 = l.getD b.toNat 0 ∧ a < b)
theorem Rl_no {l : List Int} {a b : Int} (h : Rl l a b) (k : Rl l b a) : False := by
  unfold Rl at h k
  omega
theorem pw_unique {α : Type} {R : α → α → Prop} (hR : ∀ a b, R a b → R b a → False) : ∀ l1 l2 : List α, l1.Perm l2 → l1.Pairwise R → l2.Pairwise R → l1 = l2
  | [], l2, h, _, _ => by rw [List.nil_perm.1 h]
  | a :: t, [], h, _, _ => by simp at h
  | a :: t, b :: s, h, h1, h2 => by
    rw [List.pairwise_cons] at h1 h2
    have hab : a = b := by
      have ha : a ∈ b :: s := h.subset (List.mem_cons_self ..)
      have hb : b ∈ a :: t := h.symm.subset (List.mem_cons_self ..)
      rcases List.mem_cons.1 ha with e | ha
      · exact e
      · rcases List.mem_cons.1 hb with e | hb
        · exact e.symm
        · exact (hR _ _ (h1.1 b hb) (h2.1 a ha)).elim
    subst hab
    rw [pw_unique hR t s ((List.perm_cons a).1 h) h1.2 h2.2]
theorem srtS_ahead (T : List Int) : (syI (srtS T)).Pairwise (Rl T) := by
  have hs := (ins_stable (idx := Fin.val) (cf_swo T) (Nat.zero_le _) (Nat.le_refl _) (fun p q _ hpq hq => dS_asc T p q hpq hq)).2
  have hz := (srt_perm T).1
  have hnd := srtS_nodup T
  unfold srtS at hnd
  unfold syI srtS
  generalize insertionSort (ltOf (cfT T)) (dS T) 0 (dS T).size = R at *
  rw [List.pairwise_map, List.pairwise_map, List.pairwise_iff_getElem]
  intro i j hi hj hij
  have h1 := rB_false.1 (hs i j (Nat.zero_le _) hij (by rw [← hz]; simpa using hj))
  have h2 : R.toList[i].val ≠ R.toList[j].val := by
    have := (List.pairwise_iff_getElem.1 hnd) i j (by simpa using hi) (by simpa using hj) hij
    simpa using this
  rw [ltOf_cf, ltOf_cf, decide_eq_false_iff_not, decide_eq_true_iff] at h1
  rw [getElem!_pos R i (by simpa using hi), getElem!_pos R j (by simpa using hj)] at h1
  simp only [Array.getElem_toList] at h2 ⊢
  unfold Rl
  simp only [Int.toNat_natCast]
  omega
theorem bk_hi {l out : List Int} {y : Int} : ∀ a k, bkAt l out y a ≤ k → k < a → l.getD (out.getD k 0).toNat 0 < y
  | 0, k, _, h => absurd h (Nat.not_lt_zero _)
  | a + 1, k, h1, h2 => by
    rw [bkAt] at h1
    by_cases h : l.getD (out.getD a 0).toNat 0 < y
    · rw [if_pos h] at h1
      by_cases e : k = a
      · rw [e]; exact h
      · exact bk_hi a k h1 (by omega)
    · rw [if_neg h] at h1
      omega
theorem bk_lo {l out : List Int} {y : Int} : ∀ a, bkAt l out y a = 0 ∨ ¬ l.getD (out.getD (bkAt l out y a - 1) 0).toNat 0 < y
  | 0 => .inl rfl
  | a + 1 => by
    rw [bkAt]
    by_cases h : l.getD (out.getD a 0).toNat 0 < y
    · rw [if_pos h]; exact bk_lo a
    · rw [if_neg h, Nat.add_sub_cancel]; exact .inr h
theorem ordL_ahead (l : List Int) : ∀ s, (ordL l s).Pairwise (Rl l) ∧ (ordL l s).Perm (posI l s)
  | 0 => ⟨.nil, .refl _⟩
  | s + 1 => by
    obtain ⟨i1, i2⟩ := ordL_ahead l s
    have hin := ordL_in l s
    by_cases h : l.getD s 0 < 1
    · rw [ordL, if_pos h]
      refine ⟨i1, ?_⟩
      unfold posI
      rw [posS_succ_no (by omega)]
      exact i2
    · rw [ordL, if_neg h]
      have hb := bkAt_le l (ordL l s) (l.getD s 0) (ordL l s).length
      have hhi := bk_hi (l := l) (out := ordL l s) (y := l.getD s 0) (ordL l s).length
      have hlo := bk_lo (l := l) (out := ordL l s) (y := l.getD s 0) (ordL l s).length
      generalize bkAt l (ordL l s) (l.getD s 0) (ordL l s).length = b at *
      generalize ordL l s = O at *
      have hgd : ∀ k, (hk : k < O.length) → O.getD k 0 = O[k] := fun k hk => by rw [List.getD_eq_getElem?_getD, List.getElem?_eq_getElem hk]; rfl
      have hsp : O = O.take b ++ O.drop b := (List.take_append_drop b O).symm
      have hpw := i1
      rw [hsp, List.pairwise_append] at hpw
      have hdrop : ∀ x ∈ O.drop b, Rl l (s : Int) x := fun x hx => by
        obtain ⟨k, hk, rfl⟩ := List.mem_iff_getElem.1 hx
        rw [List.getElem_drop]
        rw [List.length_drop] at hk
        have h1 := hhi (b + k) (Nat.le_add_right _ _) (by omega)
        rw [hgd (b + k) (by omega)] at h1
        left
        simpa using h1
      have htake : ∀ x ∈ O.take b, Rl l x (s : Int) := fun x hx => by
        obtain ⟨k, hk, rfl⟩ := List.mem_iff_getElem.1 hx
        rw [List.getElem_take]
        rw [List.length_take] at hk
        have hx2 := hin O[k] (List.getElem_mem _)
        have hle : l.getD s 0 ≤ l.getD (O[k]).toNat 0 := by
          rcases hlo with e | e
          · omega
          · rw [hgd (b - 1) (by omega)] at e
            by_cases ek : k = b - 1
            · subst ek; omega
            · have := (List.pairwise_iff_getElem.1 i1) k (b - 1) (by omega) (by omega) (by omega)
              unfold Rl at this
              omega
        unfold Rl
        simp only [Int.toNat_natCast]
        omega
      refine ⟨?_, ?_⟩
      · rw [List.pairwise_append, List.pairwise_cons]
        refine ⟨hpw.1, ⟨hdrop, hpw.2.1⟩, fun x hx y hy => ?_⟩
        rcases List.mem_cons.1 hy with e | hy
        · rw [e]; exact htake x hx
        · exact hpw.2.2 x hx y hy
      · have h1 : (O.take b ++ (s : Int) :: O.drop b).Perm ((s : Int) :: (O.take b ++ O.drop b)) := List.perm_middle
        rw [← hsp] at h1
        unfold posI
        rw [posS_succ_yes (by omega), List.map_append]
        exact h1.trans ((i2.cons _).trans (List.perm_append_singleton _ _).symm)
/-- The document's order of counts that are valid is what Build leaves. -/
theorem ord_srt {t : List Int} (h : cntB t = true) : ordL t t.length = syI (srtS (talS t)) := by
  have hl := cntB_len h
  have hat := talS_at h
  have e1 : ∀ s, t.length + s ≤ 256 → ordL t (t.length + s) = ordL t t.length := fun s => by
    induction s with
    | zero => intro _; rfl
    | succ s ih =>
      intro hs
      rw [← Nat.add_assoc, ordL, if_pos (by rw [List.getD_eq_getElem?_getD, List.getElem?_eq_none (by omega)]; decide), ih (by omega)]
  have e2 := e1 (256 - t.length) (by omega)
  rw [show t.length + (256 - t.length) = 256 by omega] at e2
  rw [← e2]
  obtain ⟨a1, a2⟩ := ordL_ahead t 256
  have a3 := srtS_ahead (talS t)
  have a4 : posI t 256 = posI (talS t) 256 := by
    unfold posI posS
    congr 1
    refine List.filter_congr fun x _ => ?_
    rw [hat]
  have a5 : (syI (srtS (talS t))).Perm (posI (talS t) 256) := (srtS_perm (talS t)).map _
  refine pw_unique (R := Rl t) (fun a b => Rl_no) _ _ (a2.trans (by rw [a4]; exact a5.symm)) a1 (a3.imp fun {a b} hab => ?_)
  unfold Rl at hab ⊢
  rw [hat, hat] at hab
  exact hab
end Go.Proofs.Ytanihbflgolciaa
/- Pure facts on the document's least cost: going down level by level it finds what the best rising lengths cost. -/
namespace Go.Proofs.Ytanihbflgolciaa

def omin : Option Nat → Option Nat → Option Nat
  | none, y => y
  | x, none => x
  | some a, some b => some (min a b)

theorem omin_le {x y : Option Nat} {c : Nat} (h : (∃ a, x = some a ∧ a ≤ c) ∨ ∃ b, y = some b ∧ b ≤ c) : ∃ e, omin x y = some e ∧ e ≤ c := by
  rcases h with ⟨a, rfl, h⟩ | ⟨b, rfl, h⟩
  · cases y with
    | none => exact ⟨a, rfl, h⟩
    | some b => exact ⟨min a b, rfl, by omega⟩
  · cases x with
    | none => exact ⟨b, rfl, h⟩
    | some a => exact ⟨min a b, rfl, by omega⟩
theorem omin_of {x y : Option Nat} {c : Nat} (h : omin x y = some c) : x = some c ∨ y = some c := by
  cases x with
  | none => exact Or.inr h
  | some a =>
    cases y with
    | none => exact Or.inl h
    | some b =>
      simp only [omin, Option.some.injEq] at h
      rcases Nat.le_total a b with g | g
      · exact Or.inl (by rw [← h, Nat.min_eq_left g])
      · exact Or.inr (by rw [← h, Nat.min_eq_right g])

/-- Least cost, with r levels below this one (of L), and so many places free. -/
def bst (L cap : Nat) : Nat → List Nat → Nat → Option Nat
  | _, [], F => if 1 ≤ F then some 0 else none
  | 0, w :: t, F => if 2 ≤ F then (bst L cap 0 t (F - 1)).map (· + w * (L - 0)) else none
  | r + 1, w :: t, F => omin (if 2 ≤ F then (bst L cap (r + 1) t (F - 1)).map (· + w * (L - (r + 1))) else none) (bst L cap r (w :: t) (min (2 * F) cap))
termination_by r ws _ => (r, ws.length)

/-- What a row of weights costs with a row of lengths. -/
def zipC (w d : List Nat) : Nat := ((w.zip d).map (fun p => p.1 * p.2)).sum
theorem zipC_cons (w x : Nat) (t d : List Nat) : zipC (w :: t) (x :: d) = w * x + zipC t d := by unfold zipC; rw [List.zip_cons_cons, List.map_cons, List.sum_cons]

theorem here_le {L cap r : Nat} {w : Nat} {t d : List Nat} {F : Nat} (hF : 2 ≤ F) (h : ∃ c, bst L cap r t (F - 1) = some c ∧ c ≤ zipC t d) : ∃ c, (if 2 ≤ F then (bst L cap r t (F - 1)).map (· + w * (L - r)) else none) = some c ∧ c ≤ zipC (w :: t) ((L - r) :: d) := by
  obtain ⟨c, h1, h2⟩ := h
  refine ⟨c + w * (L - r), by rw [if_pos hF, h1]; rfl, ?_⟩
  rw [zipC_cons]
  omega

theorem bst_lower {L cap : Nat} : ∀ (r : Nat) (ws ds : List Nat) (free F : Nat), r ≤ L → ws.length = ds.length → ds.Pairwise (fun a b => a ≤ b) → (∀ x ∈ ds, L - r ≤ x ∧ x ≤ L) → kraft L ds + 1 ≤ free * 2 ^ r → (free ≤ F ∨ ws.length + 1 ≤ F) → ws.length + 1 ≤ cap → ∃ c, bst L cap r ws F = some c ∧ c ≤ zipC ws ds
  | r, [], ds, free, F, _, _, _, _, hk, hF, _ => by
    have : free ≠ 0 := by rintro rfl; simp at hk
    have h1 : 1 ≤ F := by
      rcases hF with h | h
      · omega
      · simp at h; omega
    refine ⟨0, ?_, Nat.zero_le _⟩
    rw [bst, if_pos h1]
  | r, w :: t, [], _, _, _, h, _, _, _, _, _ => by simp at h
  | r, w :: t, x :: d, free, F, hr, hl, hs, hb, hk, hF, hcap => by
    rw [List.pairwise_cons] at hs
    have hx := hb x (List.mem_cons_self ..)
    simp only [List.length_cons] at hl hF hcap
    have here : x = L - r → ∃ c, (if 2 ≤ F then (bst L cap r t (F - 1)).map (· + w * (L - r)) else none) = some c ∧ c ≤ zipC (w :: t) (x :: d) := by
      intro hx
      subst hx
      rw [kraft_cons, show L - (L - r) = r by omega] at hk
      have hf : 2 ≤ free := by
        rcases Nat.lt_or_ge free 2 with h | h
        · have : free * 2 ^ r ≤ 1 * 2 ^ r := Nat.mul_le_mul_right _ (by omega)
          omega
        · exact h
      have hF2 : 2 ≤ F := by omega
      refine here_le hF2 (bst_lower r t d (free - 1) (F - 1) hr (by omega) hs.2 (fun y hy => hb y (List.mem_cons_of_mem _ hy)) ?_ (by omega) (by omega))
      rw [Nat.sub_mul]
      omega
    cases r with
    | zero =>
      rw [bst]
      exact here (by omega)
    | succ r =>
      rw [bst]
      refine omin_le ?_
      by_cases h : x = L - (r + 1)
      · exact Or.inl (here h)
      · refine Or.inr (bst_lower r (w :: t) (x :: d) (2 * free) (min (2 * F) cap) (by omega) (by simpa using hl) (List.pairwise_cons.2 hs) ?_ ?_ ?_ (by simpa using hcap))
        · intro y hy
          refine ⟨?_, (hb y hy).2⟩
          rcases List.mem_cons.1 hy with e | e
          · omega
          · have := hs.1 y e; omega
        · rw [Nat.pow_succ] at hk
          rw [Nat.mul_comm 2 free, Nat.mul_assoc, Nat.mul_comm 2]
          exact hk
        · simp only [List.length_cons]
          omega
termination_by r ws => (r, ws.length)

theorem bst_some {L cap : Nat} : ∀ (r : Nat) (ws : List Nat) (F c : Nat), r ≤ L → bst L cap r ws F = some c → ∃ ds : List Nat, ws.length = ds.length ∧ ds.Pairwise (fun a b => a ≤ b) ∧ (∀ x ∈ ds, L - r ≤ x ∧ x ≤ L) ∧ kraft L ds + 1 ≤ F * 2 ^ r ∧ c = zipC ws ds
  | r, [], F, c, _, h => by
    rw [bst] at h
    by_cases h1 : 1 ≤ F
    · rw [if_pos h1] at h
      have := Nat.mul_le_mul h1 (show 1 ≤ 2 ^ r from Nat.two_pow_pos r)
      exact ⟨[], rfl, .nil, by simp, by simpa [kraft] using this, by simpa [zipC] using h.symm⟩
    · rw [if_neg h1] at h
      cases h
  | r, w :: t, F, c, hr, h => by
    have here : (if 2 ≤ F then (bst L cap r t (F - 1)).map (· + w * (L - r)) else none) = some c → ∃ ds : List Nat, (w :: t).length = ds.length ∧ ds.Pairwise (fun a b => a ≤ b) ∧ (∀ x ∈ ds, L - r ≤ x ∧ x ≤ L) ∧ kraft L ds + 1 ≤ F * 2 ^ r ∧ c = zipC (w :: t) ds := by
      intro h
      by_cases h2 : 2 ≤ F
      · rw [if_pos h2, Option.map_eq_some_iff] at h
        obtain ⟨c', h3, h4⟩ := h
        obtain ⟨ds, e1, e2, e3, e4, e5⟩ := bst_some r t (F - 1) c' hr h3
        refine ⟨(L - r) :: ds, by simp [e1], List.pairwise_cons.2 ⟨fun y hy => (e3 y hy).1, e2⟩, ?_, ?_, ?_⟩
        · intro x hx
          rcases List.mem_cons.1 hx with e | e
          · rw [e]; omega
          · exact e3 x e
        · rw [kraft_cons, show L - (L - r) = r by omega]
          rw [Nat.sub_mul] at e4
          have : 2 * 2 ^ r ≤ F * 2 ^ r := Nat.mul_le_mul_right _ h2
          omega
        · rw [zipC_cons, ← e5]
          omega
      · rw [if_neg h2] at h
        cases h
    cases r with
    | zero =>
      rw [bst] at h
      exact here h
    | succ r =>
      rw [bst] at h
      rcases omin_of h with h | h
      · exact here h
      · obtain ⟨ds, e1, e2, e3, e4, e5⟩ := bst_some r (w :: t) (min (2 * F) cap) c (by omega) h
        refine ⟨ds, e1, e2, fun x hx => ⟨by have := (e3 x hx).1; omega, (e3 x hx).2⟩, ?_, e5⟩
        have : min (2 * F) cap * 2 ^ r ≤ 2 * F * 2 ^ r := Nat.mul_le_mul_right _ (by omega)
        rw [Nat.pow_succ, Nat.mul_comm (2 ^ r) 2, ← Nat.mul_assoc, Nat.mul_comm F 2]
        omega
termination_by r ws => (r, ws.length)

/-- The document's least cost is that of rising lengths which cost least, of those with a place left free. -/
theorem bst_best {L cap : Nat} (hL : 1 ≤ L) {ws : List Nat} (hcap : ws.length + 1 ≤ cap) {ds : List Nat} (hl : ws.length = ds.length) (hs : ds.Pairwise (fun a b => a ≤ b)) (hb : ∀ x ∈ ds, 1 ≤ x ∧ x ≤ L) (hk : kraft L ds < 2 ^ L) (hbest : ∀ es : List Nat, ws.length = es.length → es.Pairwise (fun a b => a ≤ b) → (∀ x ∈ es, 1 ≤ x ∧ x ≤ L) → kraft L es < 2 ^ L → zipC ws ds ≤ zipC ws es) : bst L cap (L - 1) ws 2 = some (zipC ws ds) := by
  have hp : 2 * 2 ^ (L - 1) = 2 ^ L := by
    obtain ⟨M, rfl⟩ : ∃ M, L = M + 1 := ⟨L - 1, by omega⟩
    rw [Nat.add_sub_cancel, Nat.pow_succ]
    omega
  obtain ⟨c, h1, h2⟩ := bst_lower (cap := cap) (L - 1) ws ds 2 2 (by omega) hl hs (fun x hx => ⟨by have := (hb x hx).1; omega, (hb x hx).2⟩) (by rw [hp]; omega) (Or.inl (Nat.le_refl _)) hcap
  obtain ⟨es, e1, e2, e3, e4, e5⟩ := bst_some (L - 1) ws 2 c (by omega) h1
  rw [hp] at e4
  have h3 := hbest es e1 e2 (fun x hx => ⟨by have := (e3 x hx).1; omega, (e3 x hx).2⟩) (by omega)
  rw [h1, show c = zipC ws ds by omega]
end Go.Proofs.Ytanihbflgolciaa
/- Pure: what Build makes costs what the document's Least finds. -/
namespace Go.Proofs.Ytanihbflgolciaa
open Go.RowKit Go.Lib Go.Sort
set_option linter.unusedVariables false
set_option maxRecDepth 100000
theorem own_bst {T dp : List Int} (hD : Dp (lgW T (srtS T)) dp) (h1 : 1 ≤ (srtS T).length) : bst 16 ((srtS T).length + 2) 15 (wL T) 2 = some (((srtS T).map (gN T (incL (zeroL 16) (dsL dp (srtS T).length)) (syI (srtS T)))).sum) := by
  have hm := may_of hD h1
  have hz := own_zip hm
  have hll := lens_length hm
  rw [List.length_map] at hll
  have hrise := lens_rise (incL (zeroL 16) (dsL dp (srtS T).length)) 16
  have hb := lens_le (incL (zeroL 16) (dsL dp (srtS T).length)) 16
  have hk : kraft 16 (lensOf (incL (zeroL 16) (dsL dp (srtS T).length)) 16) < 2 ^ 16 := by
    rw [kraft_perm (lens_perm (ds_lt hD))]
    exact ds_kraft hD
  have hole := own_le hD h1
  have hle := hD.least
  rw [hz] at hole ⊢
  have eW : lgW T (srtS T) = wL T ++ [0] := rfl
  have hwl := wL_len T
  generalize lensOf (incL (zeroL 16) (dsL dp (srtS T).length)) 16 = ls at *
  refine bst_best (L := 16) (by omega) (by omega) (by omega) hrise hb hk fun es h2 h3 h4 h5 => ?_
  refine Nat.le_trans hole ?_
  have h6 := hle ((wL T).zip es ++ [(0, 16)]) (by
    rw [List.map_append, zip_fst _ _ h2, eW]
    exact .refl _) (fun p hp => by
    rcases List.mem_append.1 hp with hp | hp
    · exact (h4 p.2 (by
        have : p.2 ∈ ((wL T).zip es).map Prod.snd := List.mem_map_of_mem hp
        rw [zip_snd _ _ h2] at this
        exact this)).2
    · rw [List.mem_singleton] at hp
      rw [hp]; exact Nat.le_refl _) (by
    rw [List.map_append, zip_snd _ _ h2, kraft_app]
    have h7 : kraft 16 ([((0 : Nat), (16 : Nat))].map Prod.snd) = 1 := by simp [kraft]
    rw [h7]
    omega)
  refine Nat.le_trans h6 (Nat.le_of_eq ?_)
  rw [List.map_append, List.sum_append_nat]
  rfl
/-- The cost of what is built. -/
theorem cost_bst {t dp : List Int} (hc : cntB t = true) (h1 : 1 ≤ (posS (talS t) 256).length) (hD : Dp (lgW (talS t) (srtS (talS t))) dp) :
    ∃ c : Nat, bst 16 ((posS (talS t) 256).length + 2) 15 (wL (talS t)) 2 = some c ∧ costB (incL (zeroL 16) (dsL dp (posS (talS t) 256).length)) (syI (srtS (talS t))) t = (c : Int) := by
  have hT : ∀ j, 0 ≤ (talS t).getD j 0 := fun j => (talS_in t j).1
  have hpos := (build_best hc h1 hD).2.1
  have hsl := srtS_len (talS t)
  rw [← hsl] at h1 hpos ⊢
  refine ⟨_, own_bst hD h1, ?_⟩
  rw [← cost_sum hT]
  unfold costB at hpos ⊢
  split
  · rename_i h
    have := costN_more (cs := incL (zeroL 16) (dsL dp (srtS (talS t)).length)) (l := syI (srtS (talS t))) (t := t) (256 - t.length)
    have hl := cntB_len hc
    rw [show t.length + (256 - t.length) = 256 by omega] at this
    rw [← this, costN_tal hc]
  · rename_i h
    rw [if_neg h] at hpos
    omega
end Go.Proofs.Ytanihbflgolciaa
/- Pure: what a cell of the document's Least holds, and how it is reckoned. -/
namespace Go.Proofs.Ytanihbflgolciaa
set_option linter.unusedVariables false
def oI : Option Nat → Int
  | some c => (c : Int)
  | none => -1
theorem oI_map (o : Option Nat) (k : Nat) : oI (o.map (· + k)) = if 0 ≤ oI o then oI o + (k : Int) else -1 := by
  cases o with
  | none => rfl
  | some c =>
    show ((c + k : Nat) : Int) = if (0 : Int) ≤ (c : Int) then (c : Int) + k else -1
    rw [if_pos (by omega)]
    omega
theorem oI_min (x y : Option Nat) : oI (omin x y) = if 0 ≤ oI y ∧ (oI x < 0 ∨ oI y < oI x) then oI y else oI x := by
  cases x with
  | none =>
    cases y with
    | none => rfl
    | some b =>
      show (b : Int) = if (0 : Int) ≤ (b : Int) ∧ ((-1 : Int) < 0 ∨ (b : Int) < -1) then (b : Int) else -1
      rw [if_pos ⟨by omega, .inl (by omega)⟩]
  | some a =>
    cases y with
    | none =>
      show (a : Int) = if (0 : Int) ≤ (-1 : Int) ∧ ((a : Int) < 0 ∨ (-1 : Int) < (a : Int)) then (-1 : Int) else (a : Int)
      rw [if_neg (by omega)]
    | some b =>
      show ((min a b : Nat) : Int) = if (0 : Int) ≤ (b : Int) ∧ ((a : Int) < 0 ∨ (b : Int) < (a : Int)) then (b : Int) else (a : Int)
      split <;> omega
/-- At level lv, from the symbol i on, with F places free. -/
def bI (ws : List Nat) (lv i F : Nat) : Int := oI (bst 16 (ws.length + 2) (16 - lv) (ws.drop i) F)
theorem bI_end (ws : List Nat) (lv F : Nat) : bI ws lv ws.length F = if 1 ≤ F then 0 else -1 := by
  unfold bI
  rw [List.drop_length]
  rw [bst]
  split <;> rfl
/-- A symbol at this level. -/
def hereI (ws : List Nat) (lv i F : Nat) : Int := if 2 ≤ F ∧ 0 ≤ bI ws lv (i + 1) (F - 1) then bI ws lv (i + 1) (F - 1) + ((ws.getD i 0 : Nat) : Int) * (lv : Int) else -1
theorem here_of {ws : List Nat} {lv i F : Nat} (hlv : lv ≤ 16) : oI (if 2 ≤ F then (bst 16 (ws.length + 2) (16 - lv) (ws.drop (i + 1)) (F - 1)).map (· + ws.getD i 0 * (16 - (16 - lv))) else none) = hereI ws lv i F := by
  unfold hereI
  rw [show 16 - (16 - lv) = lv by omega]
  by_cases h : 2 ≤ F
  · rw [if_pos h, oI_map]
    unfold bI
    by_cases h2 : 0 ≤ oI (bst 16 (ws.length + 2) (16 - lv) (ws.drop (i + 1)) (F - 1))
    · rw [if_pos h2, if_pos ⟨h, h2⟩]
      push_cast
      rfl
    · rw [if_neg h2, if_neg fun k => h2 k.2]
  · rw [if_neg h, if_neg fun k => h k.1]
    rfl
theorem drop_at {ws : List Nat} {i : Nat} (h : i < ws.length) : ws.drop i = ws.getD i 0 :: ws.drop (i + 1) := by
  rw [List.drop_eq_getElem_cons h, List.getD_eq_getElem?_getD, List.getElem?_eq_getElem h]
  rfl
theorem bI_last {ws : List Nat} {i : Nat} (F : Nat) (h : i < ws.length) : bI ws 16 i F = hereI ws 16 i F := by
  rw [← here_of (Nat.le_refl 16)]
  unfold bI
  rw [drop_at h, show 16 - 16 = 0 from rfl, bst]
theorem bI_step {ws : List Nat} {lv i : Nat} (F : Nat) (hlv : lv < 16) (h : i < ws.length) :
    bI ws lv i F = if 0 ≤ bI ws (lv + 1) i (min (2 * F) (ws.length + 2)) ∧ (hereI ws lv i F < 0 ∨ bI ws (lv + 1) i (min (2 * F) (ws.length + 2)) < hereI ws lv i F) then bI ws (lv + 1) i (min (2 * F) (ws.length + 2)) else hereI ws lv i F := by
  have e := here_of (ws := ws) (lv := lv) (i := i) (F := F) (by omega)
  have hr : 16 - lv = (16 - (lv + 1)) + 1 := by omega
  rw [← e]
  unfold bI
  rw [drop_at h, hr, bst, oI_min]
/-- Least, of counts that are valid, is what the table costs that is built. -/
theorem least_is {t dp : List Int} (hc : cntB t = true) (h1 : 1 ≤ (posS (talS t) 256).length) (hD : Dp (lgW (talS t) (srtS (talS t))) dp) :
    costB (incL (zeroL 16) (dsL dp (posS (talS t) 256).length)) (syI (srtS (talS t))) t = bI (wL (talS t)) 1 0 2 := by
  obtain ⟨c, e1, e2⟩ := cost_bst hc h1 hD
  rw [e2]
  unfold bI
  rw [wL_len, srtS_len, List.drop_zero, show 16 - 1 = 15 from rfl, e1]
  rfl
end Go.Proofs.Ytanihbflgolciaa
/- make([][]int, n): a row of empty rows. -/
namespace Go.Proofs.Ytanihbflgolciaa
open Go.RowKit Go.Lib
set_option linter.unusedVariables false
set_option maxRecDepth 100000
/-- Block g is the slices X, as [][]int's elements. -/
def BV (w : World) (g : Nat) (X : List Value) : Prop := w.heap[g]? = some (.cells X.toArray 23 (0, 0))
theorem BV.blk {w : World} {g : Nat} {X : List Value} (h : BV w g X) : Blk w g X.toArray := ⟨_, h⟩
theorem BV.chg {S : Nat → Prop} {w w' : World} {g : Nat} {X : List Value} (h : BV w g X) (hb : Chg S w w') (hn : ¬ S g) : BV w' g X := (hb.block g h.blk.lt hn).trans h
theorem BV.set {w : World} {g : Nat} {X : List Value} (h : BV w g X) (i : Nat) (v : Value) : BV (w.setCell ⟨g, i, none⟩ v) g (X.set i v) := by
  have := heap_setCell_same w g i X.toArray 23 v h
  rwa [List.setIfInBounds_toArray] at this
theorem infoS : (Try.prog.info? 23).map (fun i => (i.zero, i.size, i.bytes)) = some (some (.slice none 0 0), 1, 24) := by kernel_rfl
theorem wpList_makeS (w : World) {ops : Array Oper} {rest : List Oper} {o : Oper} {a : Act} {Q : Exit → Act → World → Prop} (hg : o.guard = none) (l c : Operand) (hop : o.op = Op.makeSlice 61 l c)
    (n : Nat) (x y : Int) (hl : a.eval l = .int .i64 x) (hc : a.eval c = .int .i64 y) (hx : x = (n : Int)) (hy : y = (n : Int)) (hn : n ≤ 1000000)
    (hK : ∀ w', BV w' w.heap.size (List.replicate n (.slice none 0 0)) → w.grownBy w' none → wpList Try.prog ops Q rest (a.put o.dst (.slice (some ⟨w.heap.size, 0, none⟩) n n)) w') : wpList Try.prog ops Q (o :: rest) a w := by
  obtain ⟨i0, hi, hz0, hz1, hz2⟩ := info_parts infoS
  refine wpList_make_full w hg l c 61 hop w.heap.size 23 i0 _ 1 Try.underlying61 hi hz0 hz1 .i64 .i64 x y n hl hc hx hy (by rw [hz2]; omega) (by unfold maxLen; omega) (Nat.le_refl _) fun w' ho hgr => hK w' ?_ hgr
  rcases ho.2 with ⟨h, _⟩ | ⟨g, cap, cur, hv, hb, hh, h1, h2, h3, h4⟩
  · cases h
  · injection hv with hv1 _ hv3
    injection hv1 with hv1
    injection hv1 with hv1
    subst hv1 hv3
    show w'.heap[w.heap.size]? = _
    rw [hh]
    congr 2
    apply Array.ext'
    rw [List.take_of_length_le (by rw [Array.length_toList, h3]; exact Nat.le_refl _)] at h4
    rw [h4]
    rw [Nat.mul_one, show (Value.slice none 0 0).cells = #[Value.slice none 0 0] from rfl, toList_madeCells_one]
end Go.Proofs.Ytanihbflgolciaa
/- Pure: ranges for the walk of Least; the order's symbols and their counts. -/
namespace Go.Proofs.Ytanihbflgolciaa
open Go.RowKit Go.Lib
set_option linter.unusedVariables false
set_option maxRecDepth 100000
theorem zipC_le {M : Nat} : ∀ (w d : List Nat), (∀ x ∈ w, x ≤ M) → (∀ x ∈ d, x ≤ 16) → zipC w d ≤ w.length * (M * 16)
  | [], d, _, _ => by simp [zipC]
  | a :: w, [], _, _ => by simp [zipC]
  | a :: w, x :: d, h1, h2 => by
    rw [zipC_cons, List.length_cons, Nat.add_mul, Nat.one_mul]
    have ih := zipC_le w d (fun y hy => h1 y (List.mem_cons_of_mem _ hy)) fun y hy => h2 y (List.mem_cons_of_mem _ hy)
    have h3 : a * x ≤ M * 16 := Nat.mul_le_mul (h1 a (List.mem_cons_self ..)) (h2 x (List.mem_cons_self ..))
    omega
theorem bI_rng {ws : List Nat} (h : ∀ x ∈ ws, x ≤ 1099511627776) (hn : ws.length ≤ 300) (lv i F : Nat) : -1 ≤ bI ws lv i F ∧ bI ws lv i F ≤ 5277655813324800 := by
  unfold bI
  cases hb : bst 16 (ws.length + 2) (16 - lv) (ws.drop i) F with
  | none => exact ⟨by decide, by decide⟩
  | some c =>
    obtain ⟨ds, e1, e2, e3, e4, e5⟩ := bst_some (16 - lv) (ws.drop i) F c (Nat.sub_le _ _) hb
    have h2 := zipC_le (M := 1099511627776) (ws.drop i) ds (fun x hx => h x (List.mem_of_mem_drop hx)) fun x hx => (e3 x hx).2
    have h3 : (ws.drop i).length ≤ 300 := by rw [List.length_drop]; omega
    have h4 : (ws.drop i).length * (1099511627776 * 16) ≤ 300 * (1099511627776 * 16) := Nat.mul_le_mul_right _ h3
    show -1 ≤ (c : Int) ∧ (c : Int) ≤ 5277655813324800
    omega
theorem wL_le (t : List Int) : ∀ x ∈ wL (talS t), x ≤ 1099511627776 := fun x hx => by
  obtain ⟨s, _, rfl⟩ := List.mem_map.1 hx
  have := (talS_in t s).2
  omega
/-- The i-th symbol of the order, and its count. -/
theorem ord_at {t : List Int} (hc : cntB t = true) {i : Nat} (hi : i < (srtS (talS t)).length) : ∃ s : Nat, (ordL t t.length).getD i 0 = (s : Int) ∧ s < t.length ∧ t.getD s 0 = (((wL (talS t)).getD i 0 : Nat) : Int) := by
  have hs : (srtS (talS t))[i] ∈ srtS (talS t) := List.getElem_mem hi
  have hpos := srtS_pos hs
  rw [talS_at hc] at hpos
  refine ⟨(srtS (talS t))[i], ?_, ?_, ?_⟩
  · rw [ord_srt hc]
    unfold syI
    rw [List.getD_eq_getElem?_getD, List.getElem?_map, List.getElem?_eq_getElem hi]
    rfl
  · rcases Nat.lt_or_ge ((srtS (talS t))[i]) t.length with h | h
    · exact h
    · rw [List.getD_eq_getElem?_getD, List.getElem?_eq_none h] at hpos
      exact absurd hpos (by decide)
  · unfold wL
    rw [List.getD_eq_getElem?_getD (l := List.map _ _), List.getElem?_map, List.getElem?_eq_getElem hi]
    simp only [Option.map_some, Option.getD_some]
    rw [talS_at hc]
    omega
theorem ord_len {t : List Int} (hc : cntB t = true) : (ordL t t.length).length = (wL (talS t)).length := by rw [ord_srt hc, wL_len, List.length_map]
/-- None counted: the order is empty. -/
theorem ord_none {t : List Int} (hc : cntB t = true) : ordL t t.length = [] ↔ posS (talS t) 256 = [] := by
  rw [ord_srt hc]
  have h := srtS_len (talS t)
  constructor
  · intro e
    have h1 := congrArg List.length e
    rw [List.length_map, h] at h1
    exact List.eq_nil_of_length_eq_zero h1
  · intro e
    rw [e] at h
    rw [List.eq_nil_of_length_eq_zero h]
    rfl
end Go.Proofs.Ytanihbflgolciaa
/- What Build leaves, as PrefixBuilds needs it. -/
namespace Go.Proofs.Ytanihbflgolciaa
open Go.RowKit Go.Lib
set_option linter.unusedVariables false
set_option maxRecDepth 100000
theorem fBuild_law (t : List Int) (B : Option Addr) (d : Nat) (hl : t.length ≤ 100000) (hc : cntB t = true) (h1 : ordL t t.length ≠ []) (W : World) (hr : Ri W B t) :
    Calls Try.prog 18 #[.slice B t.length d] W fun e w' => ∃ (A' : Option Addr) (c' : Nat) (cs : List Int), e = .returned (.tuple #[.agg (hx cs (.slice A' (ordL t t.length).length c')), .int .i64 0]) ∧ cs.length = 16 ∧ Ri w' A' (ordL t t.length) ∧ mayB cs (ordL t t.length) = true ∧ costB cs (ordL t t.length) t = bI (wL (talS t)) 1 0 2 ∧ Below W.heap.size W w' := by
  have hp : 1 ≤ (posS (talS t) 256).length := by
    cases h : posS (talS t) 256 with
    | nil => exact absurd ((ord_none hc).2 h) h1
    | cons a r => simp
  refine (fBuild_all t B d W hr hl hc hp).mono ?_
  rintro e w' ⟨A', c', dp, rfl, hri, hD, hb⟩
  have h2 := (build_best hc hp hD).1
  have h3 := least_is hc hp hD
  have hlen : (ordL t t.length).length = (srtS (talS t)).length := by rw [ord_srt hc, List.length_map]
  refine ⟨A', c', _, by rw [hlen], by rw [incL_len]; simp [zeroL], by rw [ord_srt hc]; exact hri, by rw [ord_srt hc]; exact h2, by rw [ord_srt hc]; exact h3, hb⟩
/-- It refuses. -/
theorem fBuild_law_no (t : List Int) (B : Option Addr) (d : Nat) (hl : t.length ≤ 100000) (h0 : cntB t = false ∨ ordL t t.length = []) (W : World) (hr : Ri W B t) :
    Calls Try.prog 18 #[.slice B t.length d] W fun e w' => e = .returned (.tuple #[.agg (hx (zeroL 16) (.slice none 0 0)), .int .i64 1]) ∧ Below W.heap.size W w' := by
  refine fBuild_no t B d W hr hl ?_
  cases h : cntB t with
  | false => exact .inl rfl
  | true =>
    rcases h0 with h0 | h0
    · rw [h] at h0; cases h0
    · exact .inr ((ord_none h).1 h0)
end Go.Proofs.Ytanihbflgolciaa
/- Windows of ints; append onto a full row of one. -/
namespace Go.Proofs.Ytanihbflgolciaa
open Go.RowKit Go.Lib
set_option linter.unusedVariables false
set_option maxRecDepth 100000
def winA (A : Option Addr) (c x : Nat) : Option Addr := if c = x then A else A.map (·.add x)
theorem run_winI_l (A : Option Addr) (n c x : Nat) (z : Int) (hz : z = (x : Int)) (hx : x ≤ n) (W : World) : (Instr.slice 23 (.slice A n c) (some (.int .i64 z)) none none).run Try.prog W = .ok (.slice (winA A c x) (n - x) (c - x)) W := by
  subst hz
  have ht' : Try.prog.underlying 23 = some (.slice (Try.prog.elem 23)) := by kernel_rfl
  have he : Try.prog.elem 23 = 3 := by kernel_rfl
  rw [run_slice_l W 23 _ _ _ ht' .i64 _ (by omega) (by omega), he, Go.sizeOf]
  obtain ⟨i0, hi, hz0, hz1, hz2⟩ := info_parts Try.info3
  simp [typeInfo, hi, hz1, Result.andThen, sliced, winA]
theorem run_winI_h (A : Option Addr) (n c y : Nat) (u : Int) (hu : u = (y : Int)) (hy : y ≤ c) (W : World) : (Instr.slice 23 (.slice A n c) none (some (.int .i64 u)) none).run Try.prog W = .ok (.slice (winA A c 0) y c) W := by
  subst hu
  have ht' : Try.prog.underlying 23 = some (.slice (Try.prog.elem 23)) := by kernel_rfl
  have he : Try.prog.elem 23 = 3 := by kernel_rfl
  rw [run_slice_h W 23 _ _ _ ht' .i64 _ (by omega) (by omega), he, Go.sizeOf]
  obtain ⟨i0, hi, hz0, hz1, hz2⟩ := info_parts Try.info3
  simp [typeInfo, hi, hz1, Result.andThen, sliced, winA]
theorem winA_zero (A : Option Addr) (c : Nat) (hA : ∀ b o s, A = some ⟨b, o, s⟩ → s = none) : winA A c 0 = A := by
  unfold winA
  split
  · rfl
  · rcases A with _ | ⟨b, o, s⟩
    · rfl
    · have := hA b o s rfl
      subst this
      simp [Addr.add]
theorem Ri.rest {w : World} {A : Option Addr} {l : List Int} (h : Ri w A l) (c x : Nat) (hc : l.length ≤ c) : Ri w (winA A c x) (l.drop x) := by
  by_cases h0 : l.drop x = []
  · exact .inl h0
  · have hx : x < l.length := by
      rcases Nat.lt_or_ge x l.length with k | k
      · exact k
      · exact absurd (List.drop_eq_nil_of_le k) h0
    obtain ⟨b, o, rfl, hcell⟩ := h.resolve_left (fun e => by rw [e] at hx; exact absurd hx (Nat.not_lt_zero _))
    refine .inr ⟨b, o + x, ?_, fun i hi => ?_⟩
    · unfold winA
      rw [if_neg (by omega)]
      show some (Addr.add _ _) = _
      rw [Addr.add_lit]
    · rw [List.length_drop] at hi
      rw [Nat.add_assoc, hcell (x + i) (by omega), List.getD_eq_getElem?_getD, List.getD_eq_getElem?_getD, List.getElem?_drop]
/-- append of ints onto a row of one, that is full: nothing that stood is written. -/
theorem run_appE1 (w : World) (g : Nat) (s : Int) (hg : w.cell? ⟨g, 0, none⟩ = some (.int .i64 s)) (A : Option Addr) (n c : Nat) (m : List Int) (hn : n = m.length) (hr : Ri w A m) (hlen : m.length ≤ 1000000) (ty : TypeId) :
    ∃ A' c' w', (Builtin.append_ #[23, 23] ty #[.slice (some ⟨g, 0, none⟩) 1 1, .slice A n c]).run Try.prog w = .ok (.slice A' (m.length + 1) c') w' ∧ Ri w' A' (s :: m) ∧ Below w.heap.size w w' := by
  subst hn
  obtain ⟨i0, hi, hz0, hz1, hz2⟩ := info_parts Try.info3
  have h1 : Ri w (some ⟨g, 0, none⟩) [s] := .inr ⟨g, 0, rfl, fun i hi => by obtain rfl : i = 0 := by simpa using hi
                                                                            simpa using hg⟩
  rcases A with _ | ad
  · have hm : m = [] := by
      rcases hr with h | ⟨b, o, h, _⟩
      · exact h
      · cases h
    subst hm
    refine ⟨some ⟨g, 0, none⟩, 1, w, ?_, h1, Below.refl _ _⟩
    simp [Builtin.append_, run_underlying Try.underlying23, sizeOf, typeInfo, hi, Builtin.lenOf, Builtin.firstCells, storeCells]
  · by_cases hm : m = []
    · subst hm
      have := run_append_room_cells (P := Try.prog) (w := w) 23 ty 3 i0 Try.underlying23 hi g 0 1 1 ad 0 c [] (by simp) (by simp) (by simp) (Nat.le_refl _) (by simp) (by simp)
      refine ⟨some ⟨g, 0, none⟩, 1, _, this, h1, ?_⟩
      exact Below.refl _ _
    · have hpos : 0 < m.length := List.length_pos_iff.2 hm
      have hnews : ∀ j u, (m.map iv)[j]? = some u → w.cell? (ad.add j) = some u := by
        intro j u hu
        rcases hr.v with h | ⟨b, o, h, hc⟩
        · rw [h] at hu; simp at hu
        · injection h with h
          subst h
          rw [Addr.add_lit]
          exact hc j u hu
      obtain ⟨v', w', hrun, h2, h3⟩ := run_append_arg_grows (P := Try.prog) (w := w) 23 ty 3 i0 (.int .i64 0) 1 8 Try.underlying23 hi hz0 hz1 hz2 rfl (by decide)
        ⟨g, 0, none⟩ 1 1 [.int .i64 s] (by simp) (by intro j u hu; rw [Addr.add_lit]; rcases j with _ | j <;> simp at hu; subst hu; simpa using hg) ad m.length c (m.map iv) (by simp) hnews (by omega) (by unfold maxLen; omega) (by omega)
      have ho : Oi w' w.heap.size v' (s :: m) := by
        unfold Oi
        rw [show (s :: m).length = 1 + m.length by simp; omega]
        simpa [iv] using h2
      obtain ⟨A', c', rfl, _, _, h5, h6, _⟩ := ho.open
      exact ⟨_, _, w', by simpa using hrun, h5, (Below.refl _ w).grown h3 (Nat.le_refl _) (fun k e => by cases e)⟩
end Go.Proofs.Ytanihbflgolciaa
/- Contract of the document's Order. -/
namespace Go.Proofs.Ytanihbflgolciaa
open Go.RowKit Go.Lib
set_option linter.unusedVariables false
set_option maxRecDepth 100000
/-- What the operations that put a symbol in are good for. -/
def hs9 (O : List Int) (Ao : Option Addr) (co t k : Nat) (U : Int) : Nat → List Value → Value → World → Prop
  | 0, _, v, _ => v = .slice Ao O.length co
  | 1, _, v, _ => v = .int .i64 U
  | 2, _, v, _ => v = .slice Ao t co
  | 3, _, v, _ => v = .int .i64 (k : Int)
  | 4, _, v, W => ∃ g, v = .slice (some ⟨g, 0, none⟩) 1 1 ∧ W.cell? ⟨g, 0, none⟩ = some (.int .i64 (k : Int))
  | 5, _, v, _ => v = .slice Ao O.length co
  | 6, _, v, _ => v = .int .i64 U
  | 7, _, v, _ => v = .slice (winA Ao co t) (O.length - t) (co - t)
  | 8, _, v, W => ∃ A' c', v = .slice A' (O.length - t + 1) c' ∧ Ri W A' ((k : Int) :: O.drop t)
  | _, _, _, _ => True
theorem hs9_st {O : List Int} {Ao : Option Addr} {co t k : Nat} {U : Int} (i : Nat) (vs : List Value) (v : Value) (W W' : World) (hT : Below W.heap.size W W') (h : hs9 O Ao co t k U i vs v W) : hs9 O Ao co t k U i vs v W' := by
  match i with
  | 0 => exact h
  | 1 => exact h
  | 2 => exact h
  | 3 => exact h
  | 4 => obtain ⟨g, h1, h2⟩ := h; exact ⟨g, h1, cell_later hT h2⟩
  | 5 => exact h
  | 6 => exact h
  | 7 => exact h
  | 8 => obtain ⟨A', c', h1, h2⟩ := h; exact ⟨A', c', h1, h2.below hT⟩
  | _ + 9 => exact trivial
set_option maxHeartbeats 2000000 in
theorem rOrd_any (l : List Int) (A : Option Addr) (c : Nat) (w : World) (hr : Ri w A l) (hl : l.length ≤ 300) :
    Calls Try.prog 19 #[.slice A l.length c] w fun e w' => ∃ v, e = .returned v ∧ Oi w' w.heap.size v (ordL l l.length) ∧ Below w.heap.size w w' := by
  have HR := Lib.hid hr
  clear hr
  go_enter Try.func19, Try.ntmps19
  go_wp2
  go_loopw [3, 4] (fun o i wr => ∃ (k : Nat) (u : Value), k ≤ l.length ∧ i = .int .i64 k ∧ u = o ∧ Hid (Oi wr w.heap.size u (ordL l k)) ∧ Hid (Below w.heap.size w wr)) (fun _ i _ => l.length - (RowKit.intOf i).toNat)
  case atStart => exact ⟨0, _, Nat.zero_le _, rfl, rfl, Oi.nil _ _, Below.refl _ _⟩
  case round =>
    obtain ⟨k, u, hk, rfl, rfl, HO, HB⟩ := hrel
    by_cases hlt : k < l.length
    · obtain ⟨b, o, hA, hc⟩ := (HR.out.below HB.out).resolve_left (fun e => by rw [e] at hlt; exact absurd hlt (Nat.not_lt_zero _))
      subst hA
      have c1 := hc k hlt
      obtain ⟨y, hy⟩ : ∃ y, l.getD k 0 = y := ⟨_, rfl⟩
      rw [hy] at c1
      by_cases h1 : y < 1
      · have ho : ordL l (k + 1) = ordL l k := by rw [ordL, if_pos (by rw [hy]; exact h1)]
        have HOO := Lib.hid ho
        clear ho hc hy
        go_wp2
        go_roundw
        case rel => exact ⟨k + 1, u, by omega, by go_num, rfl, (show Hid _ from by show Oi _ _ _ _; rw [HOO.out]; exact HO.out), HB⟩
        case measure => simp [RowKit.intOf]; omega
      · have hol := ordL_len l k
        have hin := ordL_in l k
        have ho : ordL l (k + 1) = (ordL l k).take (bkAt l (ordL l k) y (ordL l k).length) ++ ((k : Int) :: (ordL l k).drop (bkAt l (ordL l k) y (ordL l k).length)) := by rw [ordL, if_neg (by rw [hy]; exact h1), hy]
        generalize ordL l k = O at *
        have HOO := Lib.hid ho
        have HIN := Lib.hid hin
        have HC := Lib.hid hc
        clear ho hin hc hy
        obtain ⟨Ao, co, hu, hco, _, hro, hbo, _⟩ := HO.out.open
        subst hu
        have HRo := Lib.hid hro
        have HCo := Lib.hid hco
        have HAz : Hid (∀ b o s, Ao = some ⟨b, o, s⟩ → s = none) := fun b o s e => by
          rcases HO.out.form with ⟨e1, _⟩ | ⟨g', c', e1, _⟩
          · injection e1 with e1; rw [e1] at e; cases e
          · injection e1 with e1; rw [e1] at e; injection e with e; injection e with _ _ e; exact e.symm
        clear hro
        have d1 : decide (y < 1) = false := by rw [decide_eq_false_iff_not]; exact h1
        rename World => wo
        go_wp2
        go_loopw [5] (fun i wr => ∃ (a : Nat), a ≤ O.length ∧ i = .int .i64 a ∧ Hid (bkAt l O y O.length = bkAt l O y a) ∧ ∃ N, wr = wo.drewN N) (fun i _ => (RowKit.intOf i).toNat)
        case atStart => exact ⟨O.length, Nat.le_refl _, rfl, (show Hid _ from rfl), 0, rfl⟩
        case round =>
          obtain ⟨a, ha, rfl, HBk, N, rfl⟩ := hrel
          cases a with
          | zero =>
            have HB2 : Hid (bkAt l O y O.length = 0) := HBk.out
            go_wp2
            go_quiet (fail)
            go_wp2
            have hs1 : ∀ W, (Instr.slice 23 (.slice Ao O.length co) none (some (.int .i64 0)) none).run Try.prog W = .ok (.slice Ao 0 co) W := fun W => by
              have := run_winI_h Ao O.length co 0 0 (by omega) (by omega) W
              rw [winA_zero _ _ HAz.out] at this
              exact this
            have hs2 : ∀ W, (Instr.slice 23 (.slice Ao O.length co) (some (.int .i64 0)) none none).run Try.prog W = .ok (.slice (winA Ao co 0) (O.length - 0) (co - 0)) W := fun W => run_winI_l Ao O.length co 0 0 (by omega) (by omega) W
            refine wp_region_seqG 9 (Below wo.heap.size wo) (fun W W' => Below W.heap.size W W') (hs9 O Ao co 0 k 0) (by kernel_rfl) (by kernel_rfl) hs9_st (Below.drew (by first | exact dN (Below.refl _ _) _ | exact dN (dN (Below.refl _ _) _) _)) ?_
            simp only [List.take_succ_cons, List.take_zero, List.drop_succ_cons, List.drop_zero]
            refine seqG_cons (by rfl) (fun W hS hp => ⟨.slice Ao O.length co, W, by go_simp, Below.refl _ _, hS, rfl⟩) (fun v0 => ?_)
            simp only [Act.put, List.setIfInBounds_toArray, List.set_cons_zero, List.set_cons_succ]
            refine seqG_cons (by rfl) (fun W hS hp => ⟨.int .i64 0, W, by go_simp, Below.refl _ _, hS, rfl⟩) (fun v1 => ?_)
            simp only [Act.put, List.setIfInBounds_toArray, List.set_cons_zero, List.set_cons_succ]
            refine seqG_cons (by rfl) (fun W hS hp => ?_) (fun v2 => ?_)
            · have p0 : v0 = .slice Ao O.length co := hp { on := 0, ground := .data } (by simp) rfl
              have p1 : v1 = .int .i64 0 := hp { on := 1, ground := .data } (by simp) rfl
              subst p0 p1
              exact ⟨.slice Ao 0 co, W, by have h9 := hs1 W; go_simp, Below.refl _ _, hS, rfl⟩
            simp only [Act.put, List.setIfInBounds_toArray, List.set_cons_zero, List.set_cons_succ]
            refine seqG_cons (by rfl) (fun W hS hp => ⟨.int .i64 (k : Int), W, by go_simp, Below.refl _ _, hS, rfl⟩) (fun v3 => ?_)
            simp only [Act.put, List.setIfInBounds_toArray, List.set_cons_zero, List.set_cons_succ]
            refine seqG_cons (by rfl) (fun W hS hp => ?_) (fun v4 => ?_)
            · have p3 : v3 = .int .i64 (k : Int) := hp { on := 3, ground := .data } (by simp) rfl
              subst p3
              exact ⟨.slice (some ⟨W.heap.size, 0, none⟩) 1 1, W.alloc (.cells #[.int .i64 (k : Int)] 3), by go_simp, (Below.refl _ _).alloc (Nat.le_refl _) _, hS.alloc hS.size _, ⟨_, rfl, by go_cell⟩⟩
            simp only [Act.put, List.setIfInBounds_toArray, List.set_cons_zero, List.set_cons_succ]
            refine seqG_cons (by rfl) (fun W hS hp => ⟨.slice Ao O.length co, W, by go_simp, Below.refl _ _, hS, rfl⟩) (fun v5 => ?_)
            simp only [Act.put, List.setIfInBounds_toArray, List.set_cons_zero, List.set_cons_succ]
            refine seqG_cons (by rfl) (fun W hS hp => ⟨.int .i64 0, W, by go_simp, Below.refl _ _, hS, rfl⟩) (fun v6 => ?_)
            simp only [Act.put, List.setIfInBounds_toArray, List.set_cons_zero, List.set_cons_succ]
            refine seqG_cons (by rfl) (fun W hS hp => ?_) (fun v7 => ?_)
            · have p5 : v5 = .slice Ao O.length co := hp { on := 5, ground := .data } (by simp) rfl
              have p6 : v6 = .int .i64 0 := hp { on := 6, ground := .data } (by simp) rfl
              subst p5 p6
              exact ⟨.slice (winA Ao co 0) (O.length - 0) (co - 0), W, by have h9 := hs2 W; go_simp, Below.refl _ _, hS, rfl⟩
            simp only [Act.put, List.setIfInBounds_toArray, List.set_cons_zero, List.set_cons_succ]
            refine seqG_cons (by rfl) (fun W hS hp => ?_) (fun v8 => ?_)
            · have p4 : ∃ g, v4 = .slice (some ⟨g, 0, none⟩) 1 1 ∧ W.cell? ⟨g, 0, none⟩ = some (.int .i64 (k : Int)) := hp { on := 4, ground := .data } (by simp) rfl
              have p7 : v7 = .slice (winA Ao co 0) (O.length - 0) (co - 0) := hp { on := 7, ground := .data } (by simp) rfl
              obtain ⟨g, rfl, hgc⟩ := p4
              subst p7
              obtain ⟨A', c', W', h1, h2, h3⟩ := run_appE1 W g (k : Int) hgc (winA Ao co 0) (O.length - 0) (co - 0) (O.drop 0) (by rw [List.length_drop]) ((HRo.out.below hS).rest co 0 HCo.out) (by rw [List.length_drop]; omega) 23
              rw [List.length_drop] at h1
              exact ⟨.slice A' (O.length - 0 + 1) c', W', exec_app _ _ _ _ _ _ rfl rfl rfl h1, h3, hS.trans (h3.mono hS.size), ⟨A', c', rfl, h2⟩⟩
            simp only [Act.put, List.setIfInBounds_toArray, List.set_cons_zero, List.set_cons_succ]
            refine seqG_nil fun W hS hF => ?_
            have q2 : v2 = .slice Ao 0 co := hF 2 (by omega)
            have q8 : ∃ A' c', v8 = .slice A' (O.length - 0 + 1) c' ∧ Ri W A' ((k : Int) :: O.drop 0) := hF 8 (by omega)
            obtain ⟨A', c', rfl, hr8⟩ := q8
            subst q2
            clear hF hs1 hs2
            have HOt := Lib.hid ((HO.out.below hS).take (n := 0) (by omega))
            have HBW := Lib.hid (HB.out.trans (hS.mono HB.out.size))
            have hzW := HBW.out.size
            have hlt5 : (O.take 0).length ≤ 300 := by rw [List.length_take]; omega
            with_reducible refine wpList_appI _ rfl (.tmp 40) (.tmp 46) rfl w.heap.size (.slice Ao 0 co) (O.take 0) rfl HOt.out A' (O.length - 0 + 1) c' ((k : Int) :: O.drop 0) (by simp) rfl hr8 (by simp; omega) hzW ?_
            intro v9 w9 ho9 hg9 hv9
            have hb9 : Below w.heap.size w w9 := HBW.out.grown hg9 hzW (fun k' hk' => (HOt.out.at k' hk').1)
            have HO9 := Lib.hid ho9
            have HB9 := Lib.hid hb9
            clear ho9 hg9 hv9 hb9 hr8 hS
            go_wp2
            go_roundw
            case rel => exact ⟨k + 1, v9, by omega, by go_num, rfl, (show Hid _ from by show Oi _ _ _ _; rw [HOO.out, HB2.out]; exact HO9.out), HB9⟩
            case measure => simp [RowKit.intOf]; omega
          | succ a =>
            obtain ⟨z, hz⟩ : ∃ z, O.getD a 0 = z := ⟨_, rfl⟩
            obtain ⟨bo, oo, hAo, hco2⟩ := HRo.out.resolve_left (fun e => by rw [e] at ha; exact absurd ha (by simp))
            subst hAo
            have c2 := hco2 a (by omega)
            have hzO : z ∈ O := by rw [← hz, List.getD_eq_getElem?_getD, List.getElem?_eq_getElem (by omega)]; exact List.getElem_mem (by omega)
            obtain ⟨hz0, hz1⟩ := HIN.out z hzO
            rw [hz] at c2
            obtain ⟨n, rfl⟩ : ∃ n : Nat, z = (n : Int) := Int.eq_ofNat_of_zero_le hz0
            have c3 := HC.out n (by omega)
            have hd0 : decide ((0 : Int) < (a : Int) + 1) = true := by rw [decide_eq_true_iff]; omega
            have hst : bkAt l O y (a + 1) = if l.getD n 0 < y then bkAt l O y a else a + 1 := by
              show (if l.getD (O.getD a 0).toNat 0 < y then bkAt l O y a else a + 1) = _
              rw [hz]; rfl
            generalize l.getD n 0 = x at *
            have HST := Lib.hid hst
            clear hst hz hzO hco2
            by_cases hxy : x < y
            · have hd : decide (x < y) = true := decide_eq_true hxy
              have HB2 : Hid (bkAt l O y O.length = bkAt l O y a) := by show _ = _; rw [HBk.out, HST.out, if_pos hxy]
              clear hxy
              go_wp2
              go_quiet (fail)
              go_wp2
              go_roundw
              case rel => exact ⟨a, by omega, by first | rfl | go_num, HB2, _, rfl⟩
              case measure => simp [RowKit.intOf]
            · have hd : decide (x < y) = false := decide_eq_false hxy
              have HB2 : Hid (bkAt l O y O.length = a + 1) := by show _ = _; rw [HBk.out, HST.out, if_neg hxy]
              clear hxy
              go_wp2
              go_quiet (fail)
              go_wp2
              have hs1 : ∀ W, (Instr.slice 23 (.slice (some ⟨bo, oo, none⟩) O.length co) none (some (.int .i64 ((a : Int) + 1))) none).run Try.prog W = .ok (.slice (some ⟨bo, oo, none⟩) (a + 1) co) W := fun W => by
                have := run_winI_h (some ⟨bo, oo, none⟩) O.length co (a + 1) ((a : Int) + 1) (by omega) (by omega) W
                rw [winA_zero _ _ HAz.out] at this
                exact this
              have hs2 : ∀ W, (Instr.slice 23 (.slice (some ⟨bo, oo, none⟩) O.length co) (some (.int .i64 ((a : Int) + 1))) none none).run Try.prog W = .ok (.slice (winA (some ⟨bo, oo, none⟩) co (a + 1)) (O.length - (a + 1)) (co - (a + 1))) W := fun W => run_winI_l (some ⟨bo, oo, none⟩) O.length co (a + 1) ((a : Int) + 1) (by omega) (by omega) W
              refine wp_region_seqG 9 (Below wo.heap.size wo) (fun W W' => Below W.heap.size W W') (hs9 O (some ⟨bo, oo, none⟩) co (a + 1) k ((a : Int) + 1)) (by kernel_rfl) (by kernel_rfl) hs9_st (Below.drew (by first | exact dN (Below.refl _ _) _ | exact dN (dN (Below.refl _ _) _) _)) ?_
              simp only [List.take_succ_cons, List.take_zero, List.drop_succ_cons, List.drop_zero]
              refine seqG_cons (by rfl) (fun W hS hp => ⟨.slice (some ⟨bo, oo, none⟩) O.length co, W, by go_simp, Below.refl _ _, hS, rfl⟩) (fun v0 => ?_)
              simp only [Act.put, List.setIfInBounds_toArray, List.set_cons_zero, List.set_cons_succ]
              refine seqG_cons (by rfl) (fun W hS hp => ⟨.int .i64 ((a : Int) + 1), W, by go_simp, Below.refl _ _, hS, rfl⟩) (fun v1 => ?_)
              simp only [Act.put, List.setIfInBounds_toArray, List.set_cons_zero, List.set_cons_succ]
              refine seqG_cons (by rfl) (fun W hS hp => ?_) (fun v2 => ?_)
              · have p0 : v0 = .slice (some ⟨bo, oo, none⟩) O.length co := hp { on := 0, ground := .data } (by simp) rfl
                have p1 : v1 = .int .i64 ((a : Int) + 1) := hp { on := 1, ground := .data } (by simp) rfl
                subst p0 p1
                exact ⟨.slice (some ⟨bo, oo, none⟩) (a + 1) co, W, by have h9 := hs1 W; go_simp, Below.refl _ _, hS, rfl⟩
              simp only [Act.put, List.setIfInBounds_toArray, List.set_cons_zero, List.set_cons_succ]
              refine seqG_cons (by rfl) (fun W hS hp => ⟨.int .i64 (k : Int), W, by go_simp, Below.refl _ _, hS, rfl⟩) (fun v3 => ?_)
              simp only [Act.put, List.setIfInBounds_toArray, List.set_cons_zero, List.set_cons_succ]
              refine seqG_cons (by rfl) (fun W hS hp => ?_) (fun v4 => ?_)
              · have p3 : v3 = .int .i64 (k : Int) := hp { on := 3, ground := .data } (by simp) rfl
                subst p3
                exact ⟨.slice (some ⟨W.heap.size, 0, none⟩) 1 1, W.alloc (.cells #[.int .i64 (k : Int)] 3), by go_simp, (Below.refl _ _).alloc (Nat.le_refl _) _, hS.alloc hS.size _, ⟨_, rfl, by go_cell⟩⟩
              simp only [Act.put, List.setIfInBounds_toArray, List.set_cons_zero, List.set_cons_succ]
              refine seqG_cons (by rfl) (fun W hS hp => ⟨.slice (some ⟨bo, oo, none⟩) O.length co, W, by go_simp, Below.refl _ _, hS, rfl⟩) (fun v5 => ?_)
              simp only [Act.put, List.setIfInBounds_toArray, List.set_cons_zero, List.set_cons_succ]
              refine seqG_cons (by rfl) (fun W hS hp => ⟨.int .i64 ((a : Int) + 1), W, by go_simp, Below.refl _ _, hS, rfl⟩) (fun v6 => ?_)
              simp only [Act.put, List.setIfInBounds_toArray, List.set_cons_zero, List.set_cons_succ]
              refine seqG_cons (by rfl) (fun W hS hp => ?_) (fun v7 => ?_)
              · have p5 : v5 = .slice (some ⟨bo, oo, none⟩) O.length co := hp { on := 5, ground := .data } (by simp) rfl
                have p6 : v6 = .int .i64 ((a : Int) + 1) := hp { on := 6, ground := .data } (by simp) rfl
                subst p5 p6
                exact ⟨.slice (winA (some ⟨bo, oo, none⟩) co (a + 1)) (O.length - (a + 1)) (co - (a + 1)), W, by have h9 := hs2 W; go_simp, Below.refl _ _, hS, rfl⟩
              simp only [Act.put, List.setIfInBounds_toArray, List.set_cons_zero, List.set_cons_succ]
              refine seqG_cons (by rfl) (fun W hS hp => ?_) (fun v8 => ?_)
              · have p4 : ∃ g, v4 = .slice (some ⟨g, 0, none⟩) 1 1 ∧ W.cell? ⟨g, 0, none⟩ = some (.int .i64 (k : Int)) := hp { on := 4, ground := .data } (by simp) rfl
                have p7 : v7 = .slice (winA (some ⟨bo, oo, none⟩) co (a + 1)) (O.length - (a + 1)) (co - (a + 1)) := hp { on := 7, ground := .data } (by simp) rfl
                obtain ⟨g, rfl, hgc⟩ := p4
                subst p7
                obtain ⟨A', c', W', h1, h2, h3⟩ := run_appE1 W g (k : Int) hgc (winA (some ⟨bo, oo, none⟩) co (a + 1)) (O.length - (a + 1)) (co - (a + 1)) (O.drop (a + 1)) (by rw [List.length_drop]) ((HRo.out.below hS).rest co (a + 1) HCo.out) (by rw [List.length_drop]; omega) 23
                rw [List.length_drop] at h1
                exact ⟨.slice A' (O.length - (a + 1) + 1) c', W', exec_app _ _ _ _ _ _ rfl rfl rfl h1, h3, hS.trans (h3.mono hS.size), ⟨A', c', rfl, h2⟩⟩
              simp only [Act.put, List.setIfInBounds_toArray, List.set_cons_zero, List.set_cons_succ]
              refine seqG_nil fun W hS hF => ?_
              have q2 : v2 = .slice (some ⟨bo, oo, none⟩) (a + 1) co := hF 2 (by omega)
              have q8 : ∃ A' c', v8 = .slice A' (O.length - (a + 1) + 1) c' ∧ Ri W A' ((k : Int) :: O.drop (a + 1)) := hF 8 (by omega)
              obtain ⟨A', c', rfl, hr8⟩ := q8
              subst q2
              clear hF hs1 hs2
              have HOt := Lib.hid ((HO.out.below hS).take (n := (a + 1)) (by omega))
              have HBW := Lib.hid (HB.out.trans (hS.mono HB.out.size))
              have hzW := HBW.out.size
              have hlt5 : (O.take (a + 1)).length ≤ 300 := by rw [List.length_take]; omega
              with_reducible refine wpList_appI _ rfl (.tmp 40) (.tmp 46) rfl w.heap.size (.slice (some ⟨bo, oo, none⟩) (a + 1) co) (O.take (a + 1)) rfl HOt.out A' (O.length - (a + 1) + 1) c' ((k : Int) :: O.drop (a + 1)) (by simp) rfl hr8 (by simp; omega) hzW ?_
              intro v9 w9 ho9 hg9 hv9
              have hb9 : Below w.heap.size w w9 := HBW.out.grown hg9 hzW (fun k' hk' => (HOt.out.at k' hk').1)
              have HO9 := Lib.hid ho9
              have HB9 := Lib.hid hb9
              clear ho9 hg9 hv9 hb9 hr8 hS
              go_wp2
              go_roundw
              case rel => exact ⟨k + 1, v9, by omega, by go_num, rfl, (show Hid _ from by show Oi _ _ _ _; rw [HOO.out, HB2.out]; exact HO9.out), HB9⟩
              case measure => simp [RowKit.intOf]; omega
    · obtain rfl : k = l.length := by omega
      go_wp2
      go_ret
      exact ⟨u, rfl, HO.out, HB.out⟩
end Go.Proofs.Ytanihbflgolciaa
