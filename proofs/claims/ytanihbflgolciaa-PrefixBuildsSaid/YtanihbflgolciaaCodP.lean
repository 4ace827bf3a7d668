/- Pure facts on codes that are counted up: none is of 1s alone, none begins another one, so one at most stands at the beginning of any bits. -/
import Derived.Test.YtanihbflgolciaaBitP
import Derived.Test.YtanihbflgolciaaHufP0
namespace Go.Proofs.Ytanihbflgolciaa
set_option linter.unusedVariables false

/-- The codes of rising lengths behind a last one (value v, length n). -/
def cdN : Int → Nat → List Nat → List (Int × Nat)
  | _, _, [] => []
  | v, n, d :: t => ((v + 1) * 2 ^ (d - n), d) :: cdN ((v + 1) * 2 ^ (d - n)) d t
/-- The codes of rising lengths. -/
def cds : List Nat → List (Int × Nat)
  | [] => []
  | d :: t => (0, d) :: cdN 0 d t

theorem cdN_len : ∀ (v : Int) (n : Nat) (ds : List Nat), (cdN v n ds).length = ds.length
  | _, _, [] => rfl
  | v, n, d :: t => by rw [cdN, List.length_cons, List.length_cons, cdN_len]
theorem cds_len (ds : List Nat) : (cds ds).length = ds.length := by
  cases ds with
  | nil => rfl
  | cons d t => rw [cds, List.length_cons, List.length_cons, cdN_len]
theorem cdN_snd : ∀ (v : Int) (n : Nat) (ds : List Nat), (cdN v n ds).map Prod.snd = ds
  | _, _, [] => rfl
  | v, n, d :: t => by rw [cdN, List.map_cons, cdN_snd]
theorem cds_snd (ds : List Nat) : (cds ds).map Prod.snd = ds := by
  cases ds with
  | nil => rfl
  | cons d t => rw [cds, List.map_cons, cdN_snd]
theorem cdN_snoc (e : Nat) : ∀ (v : Int) (n : Nat) (ds : List Nat), cdN v n (ds ++ [e]) = cdN v n ds ++ [((((v, n) :: cdN v n ds).getLast (by simp)).1 + 1, 0)].map (fun p => (p.1 * 2 ^ (e - (((v, n) :: cdN v n ds).getLast (by simp)).2), e))
  | v, n, [] => by simp [cdN]
  | v, n, d :: t => by
    have ih := cdN_snoc e ((v + 1) * 2 ^ (d - n)) d t
    rw [List.cons_append, cdN, ih]
    simp only [cdN, List.cons_append, List.getLast_cons_cons]
/-- One more code: behind the last one. -/
theorem cds_snoc (ds : List Nat) (h : cds ds ≠ []) (e : Nat) : cds (ds ++ [e]) = cds ds ++ [((((cds ds).getLast h).1 + 1) * 2 ^ (e - ((cds ds).getLast h).2), e)] := by
  cases ds with
  | nil => exact absurd rfl h
  | cons d t =>
    simp only [List.cons_append, cds]
    rw [cdN_snoc]
    simp

/-- Each code lies behind those ahead of it. -/
theorem cdN_above : ∀ (ds : List Nat) (v : Int) (n : Nat), ds.Pairwise (fun a b => a ≤ b) → (∀ x ∈ ds, n ≤ x) → 0 ≤ v → ∀ p ∈ cdN v n ds, n ≤ p.2 ∧ (v + 1) * 2 ^ (p.2 - n) ≤ p.1
  | [], _, _, _, _, _, p, hp => by cases hp
  | d :: t, v, n, hs, hn, hv, p, hp => by
    rw [List.pairwise_cons] at hs
    have hd := hn d (List.mem_cons_self ..)
    have hp0 := pow2_pos (d - n)
    have hv1 : 0 ≤ (v + 1) * 2 ^ (d - n) := Int.mul_nonneg (by omega) (by omega)
    rw [cdN, List.mem_cons] at hp
    rcases hp with rfl | hp
    · exact ⟨hd, Int.le_refl _⟩
    · obtain ⟨h1, h2⟩ := cdN_above t _ d hs.2 hs.1 hv1 p hp
      refine ⟨by omega, Int.le_trans ?_ h2⟩
      rw [show p.2 - n = (d - n) + (p.2 - d) by omega, Int.pow_add, ← Int.mul_assoc]
      exact Int.mul_le_mul_of_nonneg_right (by omega) (by have := pow2_pos (p.2 - d); omega)
/-- Each code lies below what all of them take. -/
theorem cdN_below {L : Nat} : ∀ (ds : List Nat) (v : Int) (n : Nat), ds.Pairwise (fun a b => a ≤ b) → (∀ x ∈ ds, n ≤ x ∧ x ≤ L) → n ≤ L → ∀ p ∈ cdN v n ds, p.2 ≤ L ∧ (p.1 + 1) * 2 ^ (L - p.2) ≤ (v + 1) * 2 ^ (L - n) + (kraft L ds : Int)
  | [], _, _, _, _, _, p, hp => by cases hp
  | d :: t, v, n, hs, hn, hL, p, hp => by
    rw [List.pairwise_cons] at hs
    obtain ⟨hd, hdL⟩ := hn d (List.mem_cons_self ..)
    have e1 : ((v + 1) * 2 ^ (d - n) + 1) * 2 ^ (L - d) = (v + 1) * 2 ^ (L - n) + 2 ^ (L - d) := by
      rw [Int.add_mul, Int.one_mul, Int.mul_assoc, ← Int.pow_add, show d - n + (L - d) = L - n by omega]
    have e2 : ((kraft L (d :: t) : Nat) : Int) = 2 ^ (L - d) + (kraft L t : Int) := by
      rw [kraft_cons]
      simp
    rw [cdN, List.mem_cons] at hp
    rcases hp with rfl | hp
    · refine ⟨hdL, ?_⟩
      show ((v + 1) * 2 ^ (d - n) + 1) * 2 ^ (L - d) ≤ _
      rw [e1, e2]
      have : (0 : Int) ≤ (kraft L t : Int) := Int.natCast_nonneg _
      omega
    · obtain ⟨h1, h2⟩ := cdN_below t _ d hs.2 (fun x hx => ⟨hs.1 x hx, (hn x (List.mem_cons_of_mem _ hx)).2⟩) hdL p hp
      refine ⟨h1, Int.le_trans h2 ?_⟩
      rw [e1, e2]
      omega

/-- No code is of 1s alone; each fits its length. -/
theorem cds_fit {L : Nat} {ds : List Nat} (hs : ds.Pairwise (fun a b => a ≤ b)) (hb : ∀ x ∈ ds, x ≤ L) (hk : kraft L ds < 2 ^ L) : ∀ p ∈ cds ds, 0 ≤ p.1 ∧ p.1 + 1 < 2 ^ p.2 ∧ p.2 ∈ ds := by
  intro p hp
  have hm : p.2 ∈ ds := by
    rw [← cds_snd ds]
    exact List.mem_map_of_mem hp
  cases ds with
  | nil => cases hp
  | cons d t =>
    have hs' := List.pairwise_cons.1 hs
    have hd := hb d (List.mem_cons_self ..)
    have e2 : ((kraft L (d :: t) : Nat) : Int) = 2 ^ (L - d) + (kraft L t : Int) := by
      rw [kraft_cons]
      simp
    have hkI : ((kraft L (d :: t) : Nat) : Int) < 2 ^ L := by
      have : ((2 ^ L : Nat) : Int) = 2 ^ L := by simp
      rw [← this]
      exact Int.ofNat_lt.2 hk
    have key : 0 ≤ p.1 ∧ p.2 ≤ L ∧ (p.1 + 1) * 2 ^ (L - p.2) ≤ ((kraft L (d :: t) : Nat) : Int) := by
      rw [cds, List.mem_cons] at hp
      rcases hp with rfl | hp
      · refine ⟨Int.le_refl _, hd, ?_⟩
        show (0 + 1) * 2 ^ (L - d) ≤ _
        rw [e2]
        have : (0 : Int) ≤ (kraft L t : Int) := Int.natCast_nonneg _
        omega
      · obtain ⟨h1, h2⟩ := cdN_above t 0 d hs'.2 hs'.1 (Int.le_refl _) p hp
        obtain ⟨h3, h4⟩ := cdN_below (L := L) t 0 d hs'.2 (fun x hx => ⟨hs'.1 x hx, hb x (List.mem_cons_of_mem _ hx)⟩) hd p hp
        have := pow2_pos (p.2 - d)
        refine ⟨by omega, h3, ?_⟩
        rw [e2]
        omega
    obtain ⟨k1, k2, k3⟩ := key
    refine ⟨k1, ?_, hm⟩
    have hp2 : (2 : Int) ^ L = 2 ^ p.2 * 2 ^ (L - p.2) := by rw [← Int.pow_add, show p.2 + (L - p.2) = L by omega]
    have : (p.1 + 1) * 2 ^ (L - p.2) < 2 ^ p.2 * 2 ^ (L - p.2) := by rw [← hp2]; omega
    exact Int.lt_of_mul_lt_mul_right this (by have := pow2_pos (L - p.2); omega)

/-- No code begins a later one. -/
theorem cds_apart : ∀ {ds : List Nat}, ds.Pairwise (fun a b => a ≤ b) → (cds ds).Pairwise (fun a b => a.2 ≤ b.2 ∧ (a.1 + 1) * 2 ^ (b.2 - a.2) ≤ b.1)
  | [], _ => .nil
  | d :: t, hs => by
    have hs' := List.pairwise_cons.1 hs
    have go : ∀ (ds : List Nat) (v : Int) (n : Nat), ds.Pairwise (fun a b => a ≤ b) → (∀ x ∈ ds, n ≤ x) → 0 ≤ v → ((v, n) :: cdN v n ds).Pairwise (fun a b => a.2 ≤ b.2 ∧ (a.1 + 1) * 2 ^ (b.2 - a.2) ≤ b.1) := by
      intro ds
      induction ds with
      | nil => intro v n _ _ _; simp [cdN]
      | cons e u ih =>
        intro v n h1 h2 h3
        refine List.pairwise_cons.2 ⟨fun p hp => cdN_above _ v n h1 h2 h3 p hp, ?_⟩
        have h4 := List.pairwise_cons.1 h1
        rw [cdN]
        refine ih _ e h4.2 h4.1 (Int.mul_nonneg (by omega) ?_)
        have := pow2_pos (e - n)
        omega
    exact go t 0 d hs'.2 hs'.1 (Int.le_refl _)

/-- A code stands at the beginning of bits. -/
def Hits (c : Int × Nat) (l : List Int) : Prop := c.2 ≤ l.length ∧ val (l.take c.2) = c.1

theorem val_take_div {l : List Int} (hl : Bit l) {n m : Nat} (h : n ≤ m) (hm : m ≤ l.length) : val (l.take m) / 2 ^ (m - n) = val (l.take n) := by
  have e : l.take m = l.take n ++ (l.take m).drop n := by
    conv => lhs; rw [← List.take_append_drop n (l.take m)]
    rw [List.take_take, Nat.min_eq_left h]
  have hd : ((l.take m).drop n).length = m - n := by rw [List.length_drop, List.length_take]; omega
  rw [e, ← hd]
  exact val_div ((hl.take m).drop n)
/-- Two codes do not stand there both. -/
theorem not_both {a b : Int × Nat} (h1 : a.2 ≤ b.2) (h2 : (a.1 + 1) * 2 ^ (b.2 - a.2) ≤ b.1) {l : List Int} (hl : Bit l) (ha : Hits a l) (hb : Hits b l) : False := by
  have h3 := val_take_div hl h1 hb.1
  rw [ha.2, hb.2] at h3
  have h4 : a.1 + 1 ≤ b.1 / 2 ^ (b.2 - a.2) := (Int.le_ediv_iff_mul_le (pow2_pos _)).2 h2
  omega
theorem not_begin {a b : Int × Nat} (h2 : (a.1 + 1) * 2 ^ (b.2 - a.2) ≤ b.1) : b.1 / 2 ^ (b.2 - a.2) ≠ a.1 := by
  have h4 : a.1 + 1 ≤ b.1 / 2 ^ (b.2 - a.2) := (Int.le_ediv_iff_mul_le (pow2_pos _)).2 h2
  omega
/-- The bits of a code begin with it. -/
theorem hits_lo {c : Int × Nat} (h0 : 0 ≤ c.1) (h1 : c.1 < 2 ^ c.2) (l : List Int) : Hits c (lo c.1 c.2 ++ l) := by
  refine ⟨by rw [List.length_append, lo_len]; omega, ?_⟩
  rw [List.take_left' (lo_len ..), val_lo]
  exact Int.emod_eq_of_lt h0 h1
/-- Bit by bit. -/
theorem hits_bits {c : Int × Nat} (h0 : 0 ≤ c.1) (h1 : c.1 < 2 ^ c.2) {l : List Int} (hl : Bit l) (hn : c.2 ≤ l.length) : Hits c l ↔ ∀ k (hk : k < c.2), l[k]'(by omega) = c.1 / 2 ^ (c.2 - 1 - k) % 2 := by
  constructor
  · intro h k hk
    have h2 := val_bit (hl.take c.2) (r := k) (by rw [List.length_take]; omega)
    have e : (l.take c.2).length - 1 - k = c.2 - 1 - k := by rw [List.length_take, Nat.min_eq_left hn]
    rw [h.2, e, List.getElem_take] at h2
    exact h2.symm
  · intro h
    refine ⟨hn, ?_⟩
    have : l.take c.2 = lo c.1 c.2 := by
      refine List.ext_getElem? ?_
      intro k
      by_cases hk : k < c.2
      · rw [List.getElem?_take_of_lt hk, lo_get hk, List.getElem?_eq_getElem (by omega), h k hk]
      · rw [List.getElem?_eq_none (by rw [List.length_take]; omega), List.getElem?_eq_none (by rw [lo_len]; omega)]
    rw [this, val_lo]
    exact Int.emod_eq_of_lt h0 h1
end Go.Proofs.Ytanihbflgolciaa
