/- Pure facts on packages and trees of least weight: what any lengths cost at least, and that first packages cost just that. -/
namespace Go.Proofs.Ytanihbflgolciaa

/-- Sums of first ones of a row that rises are no more than those of any ones. -/
theorem take_le {α : Type} (f : α → Nat) : ∀ {l s r : List α}, l.Pairwise (fun a b => f a ≤ f b) → (s ++ r).Perm l → ((l.take s.length).map f).sum ≤ (s.map f).sum
  | l, [], _, _, _ => by simp
  | [], x :: s, r, _, hp => absurd hp.length_eq (by simp)
  | a :: t, x :: s, r, hs, hp => by
    rw [List.pairwise_cons] at hs
    have ha : a ∈ (x :: s) ++ r := hp.symm.subset (List.mem_cons_self ..)
    rw [List.mem_append] at ha
    rcases ha with ha | ha
    · obtain ⟨p, q, hq⟩ := List.append_of_mem ha
      have h1 : (x :: s).Perm (a :: (p ++ q)) := by rw [hq]; exact List.perm_middle
      have hl : s.length = (p ++ q).length := by have := h1.length_eq; simpa using this
      have h2 : ((p ++ q) ++ r).Perm t := by
        have h3 : (a :: (p ++ q) ++ r).Perm (a :: t) := (h1.symm.append_right r).trans hp
        exact (List.perm_cons a).1 h3
      have ih := take_le f hs.2 h2
      have h4 : ((x :: s).map f).sum = ((a :: (p ++ q)).map f).sum := (h1.map f).sum_nat
      rw [h4, List.length_cons, hl, List.take_succ_cons]
      simp only [List.map_cons, List.sum_cons]
      omega
    · obtain ⟨p, q, hq⟩ := List.append_of_mem ha
      have h1 : (s ++ (x :: (p ++ q))).Perm t := by
        have h3 : (a :: (s ++ (x :: (p ++ q)))).Perm (a :: t) := by
          refine List.Perm.trans ?_ hp
          rw [hq]
          have e1 : (a :: (s ++ x :: (p ++ q))).Perm (a :: x :: (s ++ (p ++ q))) := List.Perm.cons _ List.perm_middle
          have e2 : (a :: x :: (s ++ (p ++ q))).Perm (x :: a :: (s ++ (p ++ q))) := List.Perm.swap ..
          refine e1.trans (e2.trans ?_)
          rw [List.cons_append]
          refine List.Perm.cons _ ?_
          have e3 : (a :: (s ++ (p ++ q))) = a :: ((s ++ p) ++ q) := by rw [List.append_assoc]
          rw [e3, show s ++ (p ++ a :: q) = (s ++ p) ++ a :: q by rw [List.append_assoc]]
          exact List.perm_middle.symm
        exact (List.perm_cons a).1 h3
      have ih := take_le f hs.2 h1
      have hx : f a ≤ f x := by
        have : x ∈ a :: t := hp.subset (by simp)
        rcases List.mem_cons.1 this with e | e
        · rw [e]; exact Nat.le_refl _
        · exact hs.1 x e
      rw [List.length_cons, List.take_succ_cons]
      simp only [List.map_cons, List.sum_cons]
      omega
termination_by l _ _ _ _ => l.length

/-- Neighbours joined to packages. -/
def pairUp {α : Type} (j : α → α → α) : List α → List α
  | a :: b :: t => j a b :: pairUp j t
  | _ => []

theorem pairUp_length {α : Type} (j : α → α → α) : ∀ l : List α, (pairUp j l).length = l.length / 2
  | [] => by simp [pairUp]
  | [_] => by simp [pairUp]
  | a :: b :: t => by
    rw [pairUp, List.length_cons, pairUp_length j t]
    simp only [List.length_cons]
    omega

theorem pairUp_take {α : Type} (f : α → Nat) (j : α → α → α) (hj : ∀ a b, f (j a b) = f a + f b) : ∀ (l : List α) (h m : Nat), 2 * h ≤ m → (((pairUp j l).take h).map f).sum ≤ ((l.take m).map f).sum
  | [], h, m, _ => by simp [pairUp]
  | [a], h, m, _ => by simp [pairUp]
  | a :: b :: t, 0, m, _ => by simp
  | a :: b :: t, h + 1, 0, hm => by omega
  | a :: b :: t, h + 1, 1, hm => by omega
  | a :: b :: t, h + 1, m + 2, hm => by
    have ih := pairUp_take f j hj t h m (by omega)
    simp only [pairUp, List.take_succ_cons, List.map_cons, List.sum_cons, hj]
    omega

theorem take_mono {α : Type} (f : α → Nat) : ∀ (l : List α) {h m : Nat}, h ≤ m → ((l.take h).map f).sum ≤ ((l.take m).map f).sum
  | [], h, m, _ => by simp
  | a :: t, 0, m, _ => by simp
  | a :: t, h + 1, 0, hm => by omega
  | a :: t, h + 1, m + 1, hm => by
    have ih := take_mono f t (show h ≤ m by omega)
    simp only [List.take_succ_cons, List.map_cons, List.sum_cons]
    omega

/-- A level of packages, from below: the leaves and the packages of the level beneath, in a row that rises. -/
inductive Lev {α : Type} (f : α → Nat) (j : α → α → α) (lv : List α) : Nat → List α → Prop
  | nil : Lev f j lv 0 []
  | step {k : Nat} {l l' : List α} : Lev f j lv k l → l'.Pairwise (fun a b => f a ≤ f b) → l'.Perm (lv ++ pairUp j l) → Lev f j lv (k + 1) l'

/-- What lengths take of the k lowest levels. -/
def lowT {α : Type} (f : α → Nat) (L k : Nat) (q : List (α × Nat)) : Nat := (q.map (fun p => f p.1 * (p.2 - (L - k)))).sum
def lowU {α : Type} (L k : Nat) (q : List (α × Nat)) : Nat := (q.map (fun p => 2 ^ k - 2 ^ (k - (p.2 - (L - k))))).sum
def lowC {α : Type} (L k : Nat) (q : List (α × Nat)) : List (α × Nat) := q.filter (fun p => decide (L - k ≤ p.2))

theorem lowT_zero {α : Type} (f : α → Nat) (L : Nat) : ∀ q : List (α × Nat), (∀ p ∈ q, p.2 ≤ L) → lowT f L 0 q = 0
  | [], _ => rfl
  | p :: q, h => by
    have h1 := h p (List.mem_cons_self ..)
    have ih := lowT_zero f L q (fun x hx => h x (List.mem_cons_of_mem _ hx))
    unfold lowT at ih ⊢
    rw [List.map_cons, List.sum_cons, ih, show p.2 - (L - 0) = 0 by omega]
    rfl
theorem lowT_succ {α : Type} (f : α → Nat) (L k : Nat) (hk : k < L) : ∀ q : List (α × Nat), lowT f L (k + 1) q = ((lowC L k q).map (fun p => f p.1)).sum + lowT f L k q
  | [] => rfl
  | p :: q => by
    have ih := lowT_succ f L k hk q
    unfold lowT lowC at ih ⊢
    rw [List.map_cons, List.sum_cons, ih, List.map_cons, List.sum_cons, List.filter_cons]
    by_cases h : L - k ≤ p.2
    · rw [if_pos (decide_eq_true h), List.map_cons, List.sum_cons, show p.2 - (L - (k + 1)) = (p.2 - (L - k)) + 1 by omega, Nat.mul_succ]
      omega
    · rw [if_neg (by simpa using h), show p.2 - (L - (k + 1)) = 0 by omega, show p.2 - (L - k) = 0 by omega]
      omega
theorem lowU_zero {α : Type} (L : Nat) : ∀ q : List (α × Nat), lowU L 0 q = 0
  | [] => rfl
  | p :: q => by
    have ih := lowU_zero L q
    unfold lowU at ih ⊢
    rw [List.map_cons, List.sum_cons, ih]
    simp
theorem lowU_succ {α : Type} (L k : Nat) (hk : k < L) : ∀ q : List (α × Nat), (∀ p ∈ q, p.2 ≤ L) → lowU L (k + 1) q = 2 ^ k * (lowC L k q).length + lowU L k q
  | [], _ => by simp [lowU, lowC]
  | p :: q, hq => by
    have h0 := hq p (List.mem_cons_self ..)
    have ih := lowU_succ L k hk q (fun x hx => hq x (List.mem_cons_of_mem _ hx))
    unfold lowU lowC at ih ⊢
    rw [List.map_cons, List.sum_cons, ih, List.map_cons, List.sum_cons, List.filter_cons]
    by_cases h : L - k ≤ p.2
    · rw [if_pos (decide_eq_true h), List.length_cons, show k + 1 - (p.2 - (L - (k + 1))) = k - (p.2 - (L - k)) by omega]
      have h1 : 2 ^ (k - (p.2 - (L - k))) ≤ 2 ^ k := Nat.pow_le_pow_right (by omega) (by omega)
      generalize 2 ^ (k - (p.2 - (L - k))) = y at *
      rw [Nat.pow_succ, Nat.mul_add]
      omega
    · rw [if_neg (by simpa using h), show p.2 - (L - (k + 1)) = 0 by omega, show p.2 - (L - k) = 0 by omega]
      simp

theorem lev_low {α : Type} {f : α → Nat} {j : α → α → α} (hj : ∀ a b, f (j a b) = f a + f b) {lv : List α} {L : Nat} {q : List (α × Nat)} (hq : (q.map Prod.fst).Perm lv) (hL : ∀ p ∈ q, p.2 ≤ L) {k : Nat} {l : List α} (hl : Lev f j lv k l) : k ≤ L → 2 * lowU L k q / 2 ^ k ≤ l.length ∧ ((l.take (2 * lowU L k q / 2 ^ k)).map f).sum ≤ lowT f L k q := by
  induction hl with
  | nil =>
    intro _
    rw [lowU_zero, lowT_zero f L q hL]
    simp
  | @step k l l' _ hs hp ih =>
    intro hk
    obtain ⟨ih1, ih2⟩ := ih (by omega)
    rw [lowU_succ L k (by omega) q hL, lowT_succ f L k (by omega) q]
    have e : 2 * (2 ^ k * (lowC L k q).length + lowU L k q) / 2 ^ (k + 1) = (lowC L k q).length + 2 * lowU L k q / 2 ^ k / 2 := by
      rw [Nat.pow_succ, Nat.mul_comm (2 ^ k) 2, Nat.mul_div_mul_left _ _ (by omega), Nat.add_comm, Nat.add_mul_div_left _ _ (Nat.two_pow_pos k), Nat.add_comm, Nat.div_div_eq_div_mul, Nat.mul_comm (2 ^ k) 2, Nat.mul_div_mul_left _ _ (by omega)]
    rw [e]
    generalize 2 * lowU L k q / 2 ^ k = m at *
    have hc : ((lowC L k q).map Prod.fst ++ (q.filter (fun p => !decide (L - k ≤ p.2))).map Prod.fst).Perm lv := by
      refine List.Perm.trans ?_ hq
      rw [← List.map_append]
      exact (List.filter_append_perm _ _).map _
    have hsub : (((lowC L k q).map Prod.fst ++ (pairUp j l).take (m / 2)) ++ ((q.filter (fun p => !decide (L - k ≤ p.2))).map Prod.fst ++ (pairUp j l).drop (m / 2))).Perm l' := by
      refine List.Perm.trans ?_ hp.symm
      refine List.Perm.trans ?_ (hc.append_right _)
      rw [List.append_assoc, List.append_assoc]
      refine List.Perm.append_left _ ?_
      have h1 := List.take_append_drop (m / 2) (pairUp j l)
      generalize (pairUp j l).take (m / 2) = A at *
      generalize (pairUp j l).drop (m / 2) = B at *
      rw [← h1, ← List.append_assoc, ← List.append_assoc]
      exact List.perm_append_comm.append_right _
    have hlen : ((lowC L k q).map Prod.fst ++ (pairUp j l).take (m / 2)).length = (lowC L k q).length + m / 2 := by
      rw [List.length_append, List.length_map, List.length_take, pairUp_length]
      omega
    constructor
    · rw [← hlen, ← hsub.length_eq, List.length_append (as := _ ++ _)]
      omega
    · rw [← hlen]
      refine Nat.le_trans (take_le f hs hsub) ?_
      rw [List.map_append, List.sum_append_nat, List.map_map]
      have := pairUp_take f j hj l (m / 2) m (by omega)
      have e2 : (f ∘ Prod.fst : α × Nat → Nat) = fun p => f p.1 := rfl
      rw [e2]
      omega

/-- Kraft's sum of lengths up to L. -/
def kraft (L : Nat) (d : List Nat) : Nat := (d.map (fun x => 2 ^ (L - x))).sum

theorem lowU_kraft {α : Type} (L : Nat) : ∀ q : List (α × Nat), (∀ p ∈ q, p.2 ≤ L) → lowU L L q + kraft L (q.map Prod.snd) = q.length * 2 ^ L
  | [], _ => by simp [lowU, kraft]
  | p :: q, h => by
    have h0 := h p (List.mem_cons_self ..)
    have ih := lowU_kraft L q (fun x hx => h x (List.mem_cons_of_mem _ hx))
    unfold lowU kraft at ih ⊢
    rw [List.map_cons, List.sum_cons, List.map_cons, List.map_cons, List.sum_cons, List.length_cons, Nat.succ_mul, ← ih, show p.2 - (L - L) = p.2 by omega]
    have h1 : 2 ^ (L - p.2) ≤ 2 ^ L := Nat.pow_le_pow_right (by omega) (by omega)
    omega
theorem lowT_all {α : Type} (f : α → Nat) (L : Nat) : ∀ q : List (α × Nat), lowT f L L q = (q.map (fun p => f p.1 * p.2)).sum
  | [] => rfl
  | p :: q => by
    have ih := lowT_all f L q
    unfold lowT at ih ⊢
    rw [List.map_cons, List.sum_cons, ih, List.map_cons, List.sum_cons, show p.2 - (L - L) = p.2 by omega]

/-- No lengths of a sum that may be cost less than the first 2n-2 items of the highest level. -/
theorem lev_lower {α : Type} {f : α → Nat} {j : α → α → α} (hj : ∀ a b, f (j a b) = f a + f b) {lv l : List α} {L : Nat} (hl : Lev f j lv L l) {q : List (α × Nat)} (hq : (q.map Prod.fst).Perm lv) (hL : ∀ p ∈ q, p.2 ≤ L) (hk : kraft L (q.map Prod.snd) ≤ 2 ^ L) :
    2 * lv.length - 2 ≤ l.length ∧ ((l.take (2 * lv.length - 2)).map f).sum ≤ (q.map (fun p => f p.1 * p.2)).sum := by
  obtain ⟨h1, h2⟩ := lev_low hj hq hL hl (Nat.le_refl _)
  have h3 := lowU_kraft L q hL
  have h4 : q.length = lv.length := by have := hq.length_eq; rwa [List.length_map] at this
  rw [lowT_all] at h2
  have h5 : 2 * lv.length - 2 ≤ 2 * lowU L L q / 2 ^ L := by
    rw [Nat.le_div_iff_mul_le (Nat.two_pow_pos L), ← h4]
    have : (2 * q.length - 2) * 2 ^ L = 2 * (q.length * 2 ^ L) - 2 * 2 ^ L := by rw [Nat.sub_mul, Nat.mul_assoc]
    omega
  exact ⟨Nat.le_trans h5 h1, Nat.le_trans (take_mono f l h5) h2⟩

theorem split_perm {α : Type} : ∀ {s r a b : List α}, (s ++ r).Perm (a ++ b) → ∃ A A' B B', s.Perm (A ++ B) ∧ (A ++ A').Perm a ∧ (B ++ B').Perm b
  | [], r, a, b, _ => ⟨[], a, [], b, by simp, by simp, by simp⟩
  | x :: s, r, a, b, h => by
    have hx : x ∈ a ++ b := h.subset (by simp)
    rw [List.mem_append] at hx
    rcases hx with hx | hx
    · obtain ⟨p, t, hp⟩ := List.append_of_mem hx
      have h1 : (s ++ r).Perm ((p ++ t) ++ b) := by
        refine (List.perm_cons x).1 (List.Perm.trans h ?_)
        rw [hp, List.append_assoc, List.append_assoc]
        exact List.perm_middle
      obtain ⟨A, A', B, B', e1, e2, e3⟩ := split_perm h1
      refine ⟨x :: A, A', B, B', e1.cons x, ?_, e3⟩
      rw [hp]
      exact (e2.cons x).trans List.perm_middle.symm
    · obtain ⟨p, t, hp⟩ := List.append_of_mem hx
      have h1 : (s ++ r).Perm (a ++ (p ++ t)) := by
        refine (List.perm_cons x).1 (List.Perm.trans h ?_)
        rw [hp, ← List.append_assoc, ← List.append_assoc]
        exact List.perm_middle
      obtain ⟨A, A', B, B', e1, e2, e3⟩ := split_perm h1
      refine ⟨A, A', x :: B, B', (e1.cons x).trans List.perm_middle.symm, e2, ?_⟩
      rw [hp]
      exact (e3.cons x).trans List.perm_middle.symm

/-- Packages, opened: the items that are in them, one level down. -/
theorem pair_open {α β : Type} (j : α → α → α) (sy : α → List β) (hy : ∀ a b, (sy (j a b)).Perm (sy a ++ sy b)) : ∀ (l : List α) {B B' : List α}, (B ++ B').Perm (pairUp j l) → ∃ s r : List α, (s ++ r).Perm l ∧ s.length = 2 * B.length ∧ (s.flatMap sy).Perm (B.flatMap sy)
  | [], B, B', h => by
    have h1 := h.length_eq
    simp only [pairUp, List.length_append, List.length_nil] at h1
    obtain rfl := List.length_eq_zero_iff.1 (show B.length = 0 by omega)
    exact ⟨[], [], by simp, by simp, by simp⟩
  | [a], B, B', h => by
    have h1 := h.length_eq
    simp only [pairUp, List.length_append, List.length_nil] at h1
    obtain rfl := List.length_eq_zero_iff.1 (show B.length = 0 by omega)
    exact ⟨[], [a], by simp, by simp, by simp⟩
  | a :: b :: t, B, B', h => by
    rw [pairUp] at h
    have hx : j a b ∈ B ++ B' := h.symm.subset (List.mem_cons_self ..)
    rw [List.mem_append] at hx
    rcases hx with hx | hx
    · obtain ⟨p, q, hp⟩ := List.append_of_mem hx
      have e : B.Perm (j a b :: (p ++ q)) := by rw [hp]; exact List.perm_middle
      have h1 : ((p ++ q) ++ B').Perm (pairUp j t) := (List.perm_cons (j a b)).1 ((e.symm.append_right B').trans h)
      obtain ⟨s, r, e1, e2, e3⟩ := pair_open j sy hy t h1
      refine ⟨a :: b :: s, r, (e1.cons b).cons a, by have := e.length_eq; simp only [List.length_cons] at this ⊢; omega, ?_⟩
      rw [List.flatMap_cons, List.flatMap_cons]
      refine List.Perm.trans ?_ (e.flatMap_right sy).symm
      rw [List.flatMap_cons, ← List.append_assoc]
      exact ((hy a b).symm).append e3
    · obtain ⟨p, q, hp⟩ := List.append_of_mem hx
      have e : B'.Perm (j a b :: (p ++ q)) := by rw [hp]; exact List.perm_middle
      have h1 : (B ++ (p ++ q)).Perm (pairUp j t) := by
        refine (List.perm_cons (j a b)).1 (List.Perm.trans ?_ h)
        exact List.perm_middle.symm.trans (e.symm.append_left B)
      obtain ⟨s, r, e1, e2, e3⟩ := pair_open j sy hy t h1
      exact ⟨s, a :: b :: r, (List.perm_middle.trans ((List.perm_middle).cons a |>.trans ((e1.cons b).cons a))), e2, e3⟩

/-- Widths of what is chosen of a level: each occurrence of a symbol halves what is left of it. -/
def wide {β : Type} [BEq β] (k : Nat) (ids S : List β) : Nat := (ids.map (fun i => 2 ^ k - 2 ^ (k - S.count i))).sum

theorem wide_zero {β : Type} [BEq β] (S : List β) : ∀ ids : List β, wide 0 ids S = 0
  | [] => rfl
  | i :: t => by
    have ih := wide_zero S t
    unfold wide at ih ⊢
    rw [List.map_cons, List.sum_cons, ih]
    simp
theorem wide_step {k a n : Nat} (ha : a ≤ 1) (hn : n ≤ k) : 2 ^ k * a + (2 ^ k - 2 ^ (k - n)) ≤ 2 ^ (k + 1) - 2 ^ (k + 1 - (a + n)) := by
  have hp : 2 ^ (k - n) ≤ 2 ^ k := Nat.pow_le_pow_right (by omega) (by omega)
  by_cases h : a = 1
  · rw [h, show k + 1 - (1 + n) = k - n by omega, Nat.pow_succ]
    generalize 2 ^ (k - n) = y at *
    omega
  · rw [show a = 0 by omega, Nat.zero_add, show k + 1 - n = (k - n) + 1 by omega, Nat.pow_succ, Nat.pow_succ]
    generalize 2 ^ (k - n) = y at *
    omega
theorem wide_succ {β : Type} [BEq β] (k : Nat) (T S A : List β) : ∀ ids : List β, (∀ i ∈ ids, T.count i = A.count i + S.count i ∧ A.count i ≤ 1 ∧ S.count i ≤ k) → 2 ^ k * (ids.map (fun i => A.count i)).sum + wide k ids S ≤ wide (k + 1) ids T
  | [], _ => by simp [wide]
  | i :: t, h => by
    obtain ⟨h1, h2, h3⟩ := h i (List.mem_cons_self ..)
    have ih := wide_succ k T S A t (fun x hx => h x (List.mem_cons_of_mem _ hx))
    have key := wide_step h2 h3
    unfold wide at ih ⊢
    simp only [List.map_cons, List.sum_cons]
    rw [h1, Nat.mul_add]
    omega

/-- How often rows of symbols hold the symbols that there are. -/
theorem count_sum {β : Type} [BEq β] [LawfulBEq β] (w : β → Nat) : ∀ (ids : List β) (S : List β), ids.Nodup → (∀ x ∈ S, x ∈ ids) → (S.map w).sum = (ids.map (fun i => w i * S.count i)).sum
  | ids, [], _, _ => by
    have : ∀ l : List β, (l.map (fun i => w i * ([] : List β).count i)).sum = 0 := by
      intro l
      induction l with
      | nil => rfl
      | cons a t ih => rw [List.map_cons, List.sum_cons, ih]; simp
    rw [this]
    rfl
  | ids, x :: S, hn, hm => by
    have ih := count_sum w ids S hn (fun y hy => hm y (List.mem_cons_of_mem _ hy))
    have hx := hm x (List.mem_cons_self ..)
    rw [List.map_cons, List.sum_cons, ih]
    clear ih hm
    induction ids with
    | nil => cases hx
    | cons a t ih =>
      rw [List.nodup_cons] at hn
      simp only [List.map_cons, List.sum_cons]
      rcases List.mem_cons.1 hx with e | e
      · subst e
        have h0 : ∀ l : List β, x ∉ l → (l.map (fun i => w i * (x :: S).count i)).sum = (l.map (fun i => w i * S.count i)).sum := by
          intro l
          induction l with
          | nil => intro _; rfl
          | cons b u ih2 =>
            intro hb
            rw [List.mem_cons] at hb
            simp only [List.map_cons, List.sum_cons]
            rw [ih2 (fun h => hb (Or.inr h)), List.count_cons_of_ne (fun h => hb (Or.inl h))]
        rw [h0 t hn.1, List.count_cons_self, Nat.mul_add]
        omega
      · have hne : x ≠ a := fun h => hn.1 (h ▸ e)
        rw [List.count_cons_of_ne hne, ← ih hn.2 e]
        omega

theorem lev_wide {α β : Type} [BEq β] [LawfulBEq β] {f : α → Nat} {j : α → α → α} {sy : α → List β} (hy : ∀ a b, (sy (j a b)).Perm (sy a ++ sy b)) {lv : List α} {ids : List β} (hn : ids.Nodup) (hv : lv.map sy = ids.map (fun i => [i])) {k : Nat} {l : List α} (hl : Lev f j lv k l) : ∀ {s r : List α}, (s ++ r).Perm l → (∀ x ∈ s.flatMap sy, x ∈ ids) ∧ (∀ i ∈ ids, (s.flatMap sy).count i ≤ k) ∧ s.length * 2 ^ k ≤ 2 * wide k ids (s.flatMap sy) := by
  have hf : lv.flatMap sy = ids := by
    rw [List.flatMap_def, hv]
    clear hn hv
    induction ids with
    | nil => rfl
    | cons a t ih => rw [List.map_cons, List.flatten_cons, ih]; rfl
  have hlen : ∀ {A A' : List α}, (A ++ A').Perm lv → (A.flatMap sy).length = A.length := by
    intro A A' h
    have h1 : ∀ x ∈ A, (sy x).length = 1 := by
      intro x hx
      have h2 : x ∈ lv := h.subset (by simp [hx])
      have h3 : sy x ∈ lv.map sy := List.mem_map_of_mem h2
      rw [hv, List.mem_map] at h3
      obtain ⟨i, _, e⟩ := h3
      rw [← e]
      rfl
    clear h
    induction A with
    | nil => rfl
    | cons a t ih =>
      rw [List.flatMap_cons, List.length_append, ih (fun x hx => h1 x (List.mem_cons_of_mem _ hx)), h1 a (List.mem_cons_self ..), List.length_cons]
      omega
  induction hl with
  | nil =>
    intro s r h
    have h1 := h.length_eq
    simp only [List.length_append, List.length_nil] at h1
    obtain rfl := List.length_eq_zero_iff.1 (show s.length = 0 by omega)
    simp
  | @step k l l' _ _ hp ih =>
    intro s r h
    obtain ⟨A, A', B, B', e1, e2, e3⟩ := split_perm (h.trans hp)
    obtain ⟨s', r', e4, e5, e6⟩ := pair_open j sy hy l e3
    obtain ⟨i1, i2, i3⟩ := ih e4
    have hS : (s.flatMap sy).Perm (A.flatMap sy ++ s'.flatMap sy) := by
      refine (e1.flatMap_right sy).trans ?_
      rw [List.flatMap_append]
      exact e6.symm.append_left _
    have hA : (A.flatMap sy ++ A'.flatMap sy).Perm ids := by
      rw [← List.flatMap_append, ← hf]
      exact e2.flatMap_right sy
    have hc : ∀ i ∈ ids, (s.flatMap sy).count i = (A.flatMap sy).count i + (s'.flatMap sy).count i ∧ (A.flatMap sy).count i ≤ 1 ∧ (s'.flatMap sy).count i ≤ k := by
      intro i hi
      refine ⟨by rw [hS.count_eq, List.count_append], ?_, i2 i hi⟩
      have h1 := hA.count_eq i
      rw [List.count_append] at h1
      have h2 : ids.count i ≤ 1 := List.nodup_iff_count.1 hn i
      omega
    refine ⟨?_, ?_, ?_⟩
    · intro x hx
      rcases List.mem_append.1 (hS.subset hx) with h1 | h1
      · exact hA.subset (List.mem_append_left _ h1)
      · exact i1 x h1
    · intro i hi
      obtain ⟨h1, h2, h3⟩ := hc i hi
      omega
    · have h1 := wide_succ k (s.flatMap sy) (s'.flatMap sy) (A.flatMap sy) ids hc
      have h2 : (ids.map (fun i => (A.flatMap sy).count i)).sum = A.length := by
        have h3 := count_sum (fun _ : β => 1) ids (A.flatMap sy) hn (fun x hx => hA.subset (List.mem_append_left _ hx))
        rw [← hlen e2, ← List.length_map (f := fun _ : β => 1) (as := A.flatMap sy)]
        have h4 : ∀ S : List β, (S.map (fun _ : β => 1)).sum = S.length := by
          intro S
          induction S with
          | nil => rfl
          | cons a t ih => rw [List.map_cons, List.sum_cons, ih, List.length_cons]; omega
        rw [List.length_map, ← h4, h3]
        simp only [Nat.one_mul]
      rw [h2] at h1
      have h5 : s.length = A.length + B.length := by rw [e1.length_eq, List.length_append]
      rw [e5] at i3
      rw [h5, Nat.pow_succ, Nat.add_mul]
      have h6 : 2 * B.length * 2 ^ k = B.length * (2 ^ k * 2) := by rw [Nat.mul_comm 2, Nat.mul_assoc, Nat.mul_comm 2]
      have h7 : A.length * (2 ^ k * 2) = 2 * (2 ^ k * A.length) := by rw [Nat.mul_comm A.length, Nat.mul_comm (2 ^ k) 2, Nat.mul_assoc]
      omega

theorem wide_kraft {β : Type} [BEq β] (L : Nat) (S : List β) : ∀ ids : List β, wide L ids S + kraft L (ids.map (fun i => S.count i)) = ids.length * 2 ^ L
  | [] => by simp [wide, kraft]
  | i :: t => by
    have ih := wide_kraft L S t
    unfold wide kraft at ih ⊢
    rw [List.map_cons, List.sum_cons, List.map_cons, List.map_cons, List.sum_cons, List.length_cons, Nat.succ_mul, ← ih]
    have h1 : 2 ^ (L - S.count i) ≤ 2 ^ L := Nat.pow_le_pow_right (by omega) (by omega)
    omega

/-- 2n-2 items of the highest level are lengths of a sum that may be, which cost just what the items weigh. -/
theorem lev_upper {α β : Type} [BEq β] [LawfulBEq β] {f : α → Nat} {j : α → α → α} {sy : α → List β} (hy : ∀ a b, (sy (j a b)).Perm (sy a ++ sy b)) {lv : List α} {ids : List β} (hn : ids.Nodup) (hv : lv.map sy = ids.map (fun i => [i])) (h1 : 1 ≤ ids.length) {L : Nat} {l : List α} (hl : Lev f j lv L l) {s r : List α} (hs : (s ++ r).Perm l) (hlen : s.length = 2 * ids.length - 2) {w : β → Nat} (hw : ∀ x ∈ s, f x = ((sy x).map w).sum) :
    (∀ i ∈ ids, (s.flatMap sy).count i ≤ L) ∧ kraft L (ids.map (fun i => (s.flatMap sy).count i)) ≤ 2 ^ L ∧ (ids.map (fun i => w i * (s.flatMap sy).count i)).sum = (s.map f).sum := by
  obtain ⟨i1, i2, i3⟩ := lev_wide hy hn hv hl hs
  refine ⟨i2, ?_, ?_⟩
  · have h2 := wide_kraft L (s.flatMap sy) ids
    rw [hlen] at i3
    have h3 : (2 * ids.length - 2) * 2 ^ L = 2 * (ids.length * 2 ^ L) - 2 * 2 ^ L := by rw [Nat.sub_mul, Nat.mul_assoc]
    have h4 : 2 ^ L ≤ ids.length * 2 ^ L := Nat.le_mul_of_pos_left _ (by omega)
    omega
  · rw [← count_sum w ids _ hn i1]
    clear i1 i2 i3 hs hlen
    induction s with
    | nil => rfl
    | cons a t ih =>
      rw [List.flatMap_cons, List.map_append, List.sum_append_nat, List.map_cons, List.sum_cons, ih (fun x hx => hw x (List.mem_cons_of_mem _ hx)), hw a (List.mem_cons_self ..)]

/-- There are enough items, if not more symbols than codes of the greatest length. -/
theorem lev_room {α : Type} {f : α → Nat} {j : α → α → α} (hj : ∀ a b, f (j a b) = f a + f b) {lv l : List α} {L : Nat} (hl : Lev f j lv L l) (hn : lv.length ≤ 2 ^ L) : 2 * lv.length - 2 ≤ l.length := by
  refine (lev_lower hj hl (q := lv.map (fun a => (a, L))) ?_ ?_ ?_).1
  · rw [List.map_map]
    exact List.Perm.of_eq (List.map_id' _)
  · intro p hp
    rw [List.mem_map] at hp
    obtain ⟨a, _, rfl⟩ := hp
    exact Nat.le_refl _
  · rw [List.map_map]
    refine Nat.le_trans (Nat.le_of_eq ?_) hn
    have : ∀ t : List α, kraft L (t.map (Prod.snd ∘ fun a => (a, L))) = t.length := by
      intro t
      induction t with
      | nil => rfl
      | cons a u ih =>
        unfold kraft at ih ⊢
        rw [List.map_cons, List.map_cons, List.sum_cons, ih, List.length_cons]
        simp
        omega
    exact this lv
end Go.Proofs.Ytanihbflgolciaa
