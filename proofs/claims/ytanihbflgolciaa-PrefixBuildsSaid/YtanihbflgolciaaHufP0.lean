/- Pure facts on trees of least weight: no lengths of a sum that may be cost less than merging the two lightest ones, again and again. -/
import Derived.Test.YtanihbflgolciaaPkgP
namespace Go.Proofs.Ytanihbflgolciaa

/-- The two lightest ones are joined, until one is left. -/
inductive Huf {α : Type} (f : α → Nat) (j : α → α → α) : List α → α → Prop
  | one (a : α) : Huf f j [a] a
  | step {ws t : List α} {a b r : α} : ws.Perm (a :: b :: t) → (∀ x ∈ b :: t, f a ≤ f x) → (∀ x ∈ t, f b ≤ f x) → Huf f j (j a b :: t) r → Huf f j ws r

theorem kraft_perm {L : Nat} {d e : List Nat} (h : d.Perm e) : kraft L d = kraft L e := (h.map _).sum_nat
theorem kraft_cons (L x : Nat) (d : List Nat) : kraft L (x :: d) = 2 ^ (L - x) + kraft L d := by unfold kraft; rw [List.map_cons, List.sum_cons]

theorem max_of {α : Type} : ∀ (q : List (α × Nat)), q ≠ [] → ∃ p q0, q.Perm (p :: q0) ∧ ∀ x ∈ q0, x.2 ≤ p.2
  | [], h => absurd rfl h
  | [p], _ => ⟨p, [], .refl _, by simp⟩
  | p :: p2 :: t, _ => by
    obtain ⟨m, q0, h1, h2⟩ := max_of (p2 :: t) (by simp)
    by_cases h : p.2 ≤ m.2
    · refine ⟨m, p :: q0, ((h1.cons p).trans (.swap ..)), ?_⟩
      intro x hx
      rcases List.mem_cons.1 hx with e | e
      · exact e ▸ h
      · exact h2 x e
    · refine ⟨p, m :: q0, h1.cons p, ?_⟩
      intro x hx
      rcases List.mem_cons.1 hx with e | e
      · rw [e]; omega
      · have := h2 x e; omega

/-- What pairs of an item and a length cost. -/
def paid {α : Type} (f : α → Nat) (q : List (α × Nat)) : Nat := (q.map (fun p => f p.1 * p.2)).sum
theorem paid_perm {α : Type} {f : α → Nat} {p q : List (α × Nat)} (h : p.Perm q) : paid f p = paid f q := (h.map _).sum_nat
theorem paid_cons {α : Type} (f : α → Nat) (p : α × Nat) (q : List (α × Nat)) : paid f (p :: q) = f p.1 * p.2 + paid f q := by unfold paid; rw [List.map_cons, List.sum_cons]

theorem of_fst {α : Type} {q : List (α × Nat)} {a : α} {t : List α} (h : (q.map Prod.fst).Perm (a :: t)) : ∃ d q0, q.Perm ((a, d) :: q0) ∧ (q0.map Prod.fst).Perm t := by
  have ha : a ∈ q.map Prod.fst := h.symm.subset (List.mem_cons_self ..)
  rw [List.mem_map] at ha
  obtain ⟨⟨a', d⟩, hm, rfl⟩ := ha
  obtain ⟨u, v, e⟩ := List.append_of_mem hm
  have h1 : q.Perm ((a', d) :: (u ++ v)) := by rw [e]; exact List.perm_middle
  refine ⟨d, u ++ v, h1, (List.perm_cons a').1 ?_⟩
  exact (h1.map Prod.fst).symm.trans h

theorem swap_le {x y d e : Nat} (h : x ≤ y) (g : d ≤ e) : x * e + y * d ≤ x * d + y * e := by
  obtain ⟨u, rfl⟩ := Nat.exists_eq_add_of_le h
  obtain ⟨v, rfl⟩ := Nat.exists_eq_add_of_le g
  simp only [Nat.add_mul, Nat.mul_add]
  omega

/-- The lightest one may have the greatest length. -/
theorem lift_one {α : Type} {f : α → Nat} {q : List (α × Nat)} {a : α} {t : List α} (h : (q.map Prod.fst).Perm (a :: t)) (ha : ∀ x ∈ t, f a ≤ f x) : ∃ D q1, (q1.map Prod.fst).Perm t ∧ (∀ p ∈ q1, p.2 ≤ D) ∧ (D :: q1.map Prod.snd).Perm (q.map Prod.snd) ∧ f a * D + paid f q1 ≤ paid f q := by
  obtain ⟨d, q0, h1, h2⟩ := of_fst h
  by_cases hn : q0 = []
  · subst hn
    refine ⟨d, [], h2, by simp, (h1.map Prod.snd).symm, ?_⟩
    rw [paid_perm h1, paid_cons]
    exact Nat.le_refl _
  · obtain ⟨m, q2, e1, e2⟩ := max_of q0 hn
    by_cases hd : m.2 ≤ d
    · refine ⟨d, q0, h2, ?_, (h1.map Prod.snd).symm, ?_⟩
      · intro p hp
        rcases List.mem_cons.1 (e1.subset hp) with e | e
        · rw [e]; exact hd
        · have := e2 p e; omega
      · rw [paid_perm h1, paid_cons]
        exact Nat.le_refl _
    · refine ⟨m.2, (m.1, d) :: q2, ?_, ?_, ?_, ?_⟩
      · exact ((e1.map Prod.fst).symm.trans h2)
      · intro p hp
        rcases List.mem_cons.1 hp with e | e
        · rw [e]; show d ≤ m.2; omega
        · exact e2 p e
      · refine List.Perm.trans ?_ (h1.map Prod.snd).symm
        refine List.Perm.trans ?_ ((e1.map Prod.snd).symm.cons d)
        exact .swap ..
      · rw [paid_perm h1, paid_cons f (a, d), paid_perm e1, paid_cons, paid_cons]
        have hm : f a ≤ f m.1 := ha _ (((e1.map Prod.fst).symm.trans h2).subset (List.mem_cons_self ..))
        have := swap_le hm (show d ≤ m.2 by omega)
        show f a * m.2 + (f m.1 * d + paid f q2) ≤ f a * d + (f m.1 * m.2 + paid f q2)
        omega

theorem kraft_dvd (L D : Nat) : ∀ d : List Nat, (∀ x ∈ d, x ≤ D) → D ≤ L → 2 ^ (L - D) ∣ kraft L d
  | [], _, _ => ⟨0, rfl⟩
  | x :: t, h, hD => by
    rw [kraft_cons]
    refine Nat.dvd_add (Nat.pow_dvd_pow 2 ?_) (kraft_dvd L D t (fun y hy => h y (List.mem_cons_of_mem _ hy)) hD)
    have := h x (List.mem_cons_self ..)
    omega

/-- The two lightest ones may have one length, the greatest. -/
theorem lift_two {α : Type} {f : α → Nat} {q : List (α × Nat)} {a b : α} {t : List α} (h : (q.map Prod.fst).Perm (a :: b :: t)) (ha : ∀ x ∈ b :: t, f a ≤ f x) (hb : ∀ x ∈ t, f b ≤ f x) {L : Nat} (hL : ∀ p ∈ q, p.2 ≤ L) (hk : kraft L (q.map Prod.snd) ≤ 2 ^ L) :
    ∃ D q2, 1 ≤ D ∧ D ≤ L ∧ (q2.map Prod.fst).Perm t ∧ (∀ p ∈ q2, p.2 ≤ D) ∧ 2 ^ (L - D) + 2 ^ (L - D) + kraft L (q2.map Prod.snd) ≤ 2 ^ L ∧ f a * D + f b * D + paid f q2 ≤ paid f q := by
  obtain ⟨D1, q1, a1, a2, a3, a4⟩ := lift_one h ha
  obtain ⟨D2, q2, b1, b2, b3, b4⟩ := lift_one a1 hb
  have hD2 : D2 ≤ D1 := by
    have : D2 ∈ q1.map Prod.snd := b3.subset (List.mem_cons_self ..)
    rw [List.mem_map] at this
    obtain ⟨p, hp, rfl⟩ := this
    exact a2 p hp
  have hD1 : D1 ≤ L := by
    have : D1 ∈ q.map Prod.snd := a3.subset (List.mem_cons_self ..)
    rw [List.mem_map] at this
    obtain ⟨p, hp, rfl⟩ := this
    exact hL p hp
  have k1 : 2 ^ (L - D1) + (2 ^ (L - D2) + kraft L (q2.map Prod.snd)) ≤ 2 ^ L := by
    rw [← kraft_cons, kraft_perm b3, ← kraft_cons, kraft_perm a3]
    exact hk
  have k2 : 2 ^ (L - D2) + 2 ^ (L - D2) + kraft L (q2.map Prod.snd) ≤ 2 ^ L := by
    obtain ⟨u, hu⟩ := kraft_dvd L D2 (q2.map Prod.snd) (by intro x hx; rw [List.mem_map] at hx; obtain ⟨p, hp, rfl⟩ := hx; exact b2 p hp) (by omega)
    have hp : 2 ^ L = 2 ^ (L - D2) * 2 ^ D2 := by rw [← Nat.pow_add, Nat.sub_add_cancel (by omega)]
    have h0 : 0 < 2 ^ (L - D1) := Nat.two_pow_pos _
    rw [hu] at k1 ⊢
    rw [hp] at k1 ⊢
    generalize 2 ^ (L - D2) = g at *
    generalize 2 ^ D2 = z at *
    have h1 : g * (u + 1) < g * z := by rw [Nat.mul_add, Nat.mul_one]; omega
    have h2 : u + 1 < z := Nat.lt_of_mul_lt_mul_left h1
    have h3 : g * (u + 2) ≤ g * z := Nat.mul_le_mul_left _ h2
    rw [Nat.mul_add] at h3
    omega
  refine ⟨D2, q2, ?_, by omega, b1, b2, k2, ?_⟩
  · rcases Nat.eq_zero_or_pos D2 with e | e
    · subst e
      rw [Nat.sub_zero] at k2
      have := Nat.two_pow_pos L
      omega
    · exact e
  · have := Nat.mul_le_mul_left (f a) hD2
    omega

theorem huf_lower {α : Type} {f c : α → Nat} {j : α → α → α} (hj : ∀ a b, f (j a b) = f a + f b) (hc : ∀ a b, c (j a b) = c a + c b + (f a + f b)) {ws : List α} {r : α} (hr : Huf f j ws r) {L : Nat} : ∀ {q : List (α × Nat)}, (q.map Prod.fst).Perm ws → (∀ p ∈ q, p.2 ≤ L) → kraft L (q.map Prod.snd) ≤ 2 ^ L → c r ≤ (ws.map c).sum + paid f q := by
  induction hr with
  | one a =>
    intro q _ _ _
    rw [List.map_cons, List.sum_cons]
    omega
  | @step ws t a b r hp ha hb _ ih =>
    intro q hq hL hk
    obtain ⟨D, q2, h1, h2, h3, h4, h5, h6⟩ := lift_two (hq.trans hp) ha hb hL hk
    have h7 := ih (q := (j a b, D - 1) :: q2) (h3.cons _) (by
      intro p hp
      rcases List.mem_cons.1 hp with e | e
      · rw [e]; show D - 1 ≤ L; omega
      · have := h4 p e; omega) (by
      rw [List.map_cons, kraft_cons]
      show 2 ^ (L - (D - 1)) + _ ≤ _
      rw [show L - (D - 1) = (L - D) + 1 by omega, Nat.pow_succ]
      omega)
    rw [paid_cons, List.map_cons, List.sum_cons, hc] at h7
    have h8 : (ws.map c).sum = c a + (c b + (t.map c).sum) := by rw [(hp.map c).sum_nat, List.map_cons, List.sum_cons, List.map_cons, List.sum_cons]
    rw [h8]
    simp only [hj] at h7
    obtain ⟨E, rfl⟩ : ∃ E, D = E + 1 := ⟨D - 1, by omega⟩
    rw [Nat.add_sub_cancel, Nat.add_mul] at h7
    rw [Nat.mul_succ, Nat.mul_succ] at h6
    omega

/-- What is so of a tree: its weight and its cost are its leaves', and these fill what there is. -/
structure Grown {α β : Type} (f c : α → Nat) (lf : α → List (β × Nat)) (w : β → Nat) (x : α) : Prop where
  weight : f x = ((lf x).map (fun p => w p.1)).sum
  cost : c x = ((lf x).map (fun p => w p.1 * p.2)).sum
  full : ∀ M, (∀ p ∈ lf x, p.2 ≤ M) → kraft M ((lf x).map Prod.snd) = 2 ^ M

theorem deep_cost {β : Type} (w : β → Nat) : ∀ q : List (β × Nat), ((q.map (fun p => (p.1, p.2 + 1))).map (fun p => w p.1 * p.2)).sum = (q.map (fun p => w p.1 * p.2)).sum + (q.map (fun p => w p.1)).sum
  | [] => rfl
  | p :: q => by
    simp only [List.map_cons, List.sum_cons]
    rw [deep_cost w q, Nat.mul_succ]
    omega
theorem deep_weight {β : Type} (w : β → Nat) (q : List (β × Nat)) : ((q.map (fun p => (p.1, p.2 + 1))).map (fun p => w p.1)).sum = (q.map (fun p => w p.1)).sum := by
  rw [List.map_map]
  rfl
theorem deep_kraft {β : Type} (M : Nat) : ∀ q : List (β × Nat), (∀ p ∈ q, p.2 + 1 ≤ M) → 2 * kraft M ((q.map (fun p => (p.1, p.2 + 1))).map Prod.snd) = kraft M (q.map Prod.snd)
  | [], _ => rfl
  | p :: q, h => by
    have h0 := h p (List.mem_cons_self ..)
    have ih := deep_kraft M q (fun x hx => h x (List.mem_cons_of_mem _ hx))
    simp only [List.map_cons, kraft_cons]
    rw [Nat.mul_add, ih, show M - p.2 = (M - (p.2 + 1)) + 1 by omega, Nat.pow_succ]
    omega
theorem Grown.join {α β : Type} {f c : α → Nat} {j : α → α → α} {lf : α → List (β × Nat)} {w : β → Nat} (hj : ∀ a b, f (j a b) = f a + f b) (hc : ∀ a b, c (j a b) = c a + c b + (f a + f b)) (hl : ∀ a b, (lf (j a b)).Perm ((lf a ++ lf b).map (fun p => (p.1, p.2 + 1)))) {a b : α} (ha : Grown f c lf w a) (hb : Grown f c lf w b) : Grown f c lf w (j a b) where
  weight := by
    rw [hj, ((hl a b).map _).sum_nat, deep_weight, List.map_append, List.sum_append_nat, ha.weight, hb.weight]
  cost := by
    rw [hc, ((hl a b).map _).sum_nat, deep_cost, List.map_append, List.sum_append_nat, List.map_append, List.sum_append_nat, ha.weight, hb.weight, ha.cost, hb.cost]
  full := by
    intro M hM
    have h1 : ∀ p ∈ lf a ++ lf b, p.2 + 1 ≤ M := fun p hp => hM (p.1, p.2 + 1) ((hl a b).symm.subset (List.mem_map.2 ⟨p, hp, rfl⟩))
    have h2 := deep_kraft M (lf a ++ lf b) h1
    rw [← kraft_perm ((hl a b).map Prod.snd)] at h2
    have h3 : kraft M ((lf a ++ lf b).map Prod.snd) = kraft M ((lf a).map Prod.snd) + kraft M ((lf b).map Prod.snd) := by
      unfold kraft
      rw [List.map_append, List.map_append, List.sum_append_nat]
    rw [h3, ha.full M (fun p hp => by have := h1 p (List.mem_append_left _ hp); omega), hb.full M (fun p hp => by have := h1 p (List.mem_append_right _ hp); omega)] at h2
    omega

theorem huf_upper {α β : Type} {f c : α → Nat} {j : α → α → α} {lf : α → List (β × Nat)} {w : β → Nat} (hj : ∀ a b, f (j a b) = f a + f b) (hc : ∀ a b, c (j a b) = c a + c b + (f a + f b)) (hl : ∀ a b, (lf (j a b)).Perm ((lf a ++ lf b).map (fun p => (p.1, p.2 + 1)))) {ws : List α} {r : α} (hr : Huf f j ws r) : (∀ x ∈ ws, Grown f c lf w x) → Grown f c lf w r ∧ ((lf r).map Prod.fst).Perm (ws.flatMap (fun x => (lf x).map Prod.fst)) := by
  induction hr with
  | one a =>
    intro h
    exact ⟨h a (List.mem_cons_self ..), by simp⟩
  | @step ws t a b r hp ha hb _ ih =>
    intro h
    have h1 : ∀ x ∈ a :: b :: t, Grown f c lf w x := fun x hx => h x (hp.symm.subset hx)
    obtain ⟨i1, i2⟩ := ih (by
      intro x hx
      rcases List.mem_cons.1 hx with e | e
      · rw [e]
        exact (h1 a (by simp)).join hj hc hl (h1 b (by simp))
      · exact h1 x (by simp [e]))
    refine ⟨i1, i2.trans ?_⟩
    refine List.Perm.trans ?_ (hp.flatMap_right _).symm
    rw [List.flatMap_cons, List.flatMap_cons, List.flatMap_cons, ← List.append_assoc]
    refine List.Perm.append_right _ ?_
    refine ((hl a b).map Prod.fst).trans ?_
    rw [List.map_map, ← List.map_append]
    exact .refl _

/-- Heavy ones with short lengths: no other pairs of the same weights and lengths cost less. -/
theorem rearr : ∀ {w d : List Nat} {q : List (Nat × Nat)}, w.Pairwise (fun a b => b ≤ a) → d.Pairwise (fun a b => a ≤ b) → (q.map Prod.fst).Perm w → (q.map Prod.snd).Perm d → ((w.zip d).map (fun p => p.1 * p.2)).sum ≤ (q.map (fun p => p.1 * p.2)).sum
  | [], d, q, _, _, _, _ => by simp
  | a :: w, [], q, _, _, h1, h2 => by simp
  | a :: w, e :: d, q, hw, hd, h1, h2 => by
    rw [List.pairwise_cons] at hw hd
    obtain ⟨da, q0, p1, p2⟩ := of_fst h1
    have hs : (q.map (fun p => p.1 * p.2)).sum = a * da + (q0.map (fun p => p.1 * p.2)).sum := by rw [(p1.map (fun p : Nat × Nat => p.1 * p.2)).sum_nat, List.map_cons, List.sum_cons]
    have hq : (da :: q0.map Prod.snd).Perm (e :: d) := (p1.map Prod.snd).symm.trans h2
    rw [hs, List.zip_cons_cons, List.map_cons, List.sum_cons]
    by_cases hde : da = e
    · subst hde
      have ih := rearr hw.2 hd.2 p2 ((List.perm_cons da).1 hq)
      show a * da + _ ≤ _
      omega
    · have he : e ∈ q0.map Prod.snd := by
        rcases List.mem_cons.1 (hq.symm.subset (List.mem_cons_self ..)) with h | h
        · exact absurd h.symm hde
        · exact h
      rw [List.mem_map] at he
      obtain ⟨⟨x, e'⟩, hm, rfl⟩ := he
      obtain ⟨u, v, ev⟩ := List.append_of_mem hm
      have p3 : q0.Perm ((x, e') :: (u ++ v)) := by rw [ev]; exact List.perm_middle
      have p4 : (((x, da) :: (u ++ v)).map Prod.fst).Perm w := (p3.map Prod.fst).symm.trans p2
      have p5 : (((x, da) :: (u ++ v)).map Prod.snd).Perm d := by
        refine (List.perm_cons e').1 (List.Perm.trans ?_ hq)
        refine List.Perm.trans (List.Perm.swap ..) ?_
        exact ((p3.map Prod.snd).symm.cons da)
      have ih := rearr hw.2 hd.2 p4 p5
      have hx : x ≤ a := hw.1 x (p4.subset (List.mem_cons_self ..))
      have hda : e' ≤ da := by
        rcases List.mem_cons.1 (hq.subset (List.mem_cons_self ..)) with h | h
        · exact absurd h hde
        · exact hd.1 da h
      have := swap_le hx hda
      rw [(p3.map (fun p : Nat × Nat => p.1 * p.2)).sum_nat]
      rw [List.map_cons, List.sum_cons] at ih ⊢
      show a * e' + _ ≤ a * da + (x * e' + _)
      have ih' : ((w.zip d).map (fun p => p.1 * p.2)).sum ≤ x * da + ((u ++ v).map (fun p => p.1 * p.2)).sum := ih
      omega
termination_by w _ _ _ _ _ _ => w.length
end Go.Proofs.Ytanihbflgolciaa
