/- SymM: the texts SymP, SymQ, SymR, SymS, FSwp, FSym, FStb in one. -/
import Derived.Sort.LotA
import Derived.Test.YtanihbflgolciaaRows
import Derived.Test.YtanihbflgolciaaFSrt
/- The stable sort's merge in plain terms (slices and sort: symMerge, rotate, swapRange): which split is found, what a rotation leaves, when the whole is sorted. (No program: it builds in any seat.) -/
namespace Go.Proofs.Ytanihbflgolciaa
open Go.Sort
set_option linter.unusedVariables false
section
variable {α : Type} [Inhabited α] {R : α → α → Bool}

theorem so_sub {a b a' b' : Nat} {d : Array α} (h : SortedIn R a b d) (h1 : a ≤ a') (h2 : b' ≤ b) : SortedIn R a' b' d := fun i j x y z => h i j (by omega) y (by omega)
/-- Not less, and the same. -/
theorem so_le (hS : SWO R) {a b : Nat} {d : Array α} (h : SortedIn R a b d) {i j : Nat} (h1 : a ≤ i) (h2 : i ≤ j) (h3 : j < b) : R d[j]! d[i]! = false := by
  rcases Nat.lt_or_ge i j with h4 | h4
  · exact h i j h1 h4 h3
  · obtain rfl : i = j := by omega
    exact hS.irrefl _
theorem so_of_values {a b a' b' : Nat} {d d' : Array α} (h : SortedIn R a b d) (f : Nat → Nat) (hv : ∀ k, a' ≤ k → k < b' → d'[k]! = d[f k]!) (hf : ∀ k, a' ≤ k → k < b' → a ≤ f k ∧ f k < b) (hm : ∀ i j, a' ≤ i → i < j → j < b' → f i < f j) : SortedIn R a' b' d' := fun i j h1 h2 h3 => by
  rw [hv i h1 (by omega), hv j (by omega) h3]
  exact h _ _ (hf i h1 (by omega)).1 (hm i j h1 h2 h3) (hf j (by omega) h3).2
/-- Two sorted parts, of which no later one is less than an earlier one. -/
theorem so_join {a m b : Nat} {d : Array α} (h1 : SortedIn R a m d) (h2 : SortedIn R m b d) (hx : ∀ i j, a ≤ i → i < m → m ≤ j → j < b → R d[j]! d[i]! = false) : SortedIn R a b d := fun i j x y z => by
  rcases Nat.lt_or_ge j m with h | h
  · exact h1 i j x y h
  · rcases Nat.lt_or_ge i m with h' | h'
    · exact hx i j x h' h z
    · exact h2 i j h' y z
/-- The split. -/
theorem split_ok (hS : SWO R) {a m b s e lo r : Nat} {d : Array α} (h1 : SortedIn R a m d) (h2 : SortedIn R m b d) (hse : s + e = (a + b) / 2 + m) (hlo : (lo = a ∧ m ≤ (a + b) / 2) ∨ (lo + b = (a + b) / 2 + m ∧ (a + b) / 2 < m)) (hr : (r = m ∧ m ≤ (a + b) / 2) ∨ (r = (a + b) / 2 ∧ (a + b) / 2 < m))
    (ha : a ≤ s) (hls : lo ≤ s) (hsr : s ≤ r) (hme : m ≤ e) (heb : e ≤ b) (hL : lo < s → R d[e]! d[s - 1]! = false) (hR : s < r → R d[e - 1]! d[s]! = true) :
    ∀ i j, ((a ≤ i ∧ i < s) ∨ (m ≤ i ∧ i < e)) → ((s ≤ j ∧ j < m) ∨ (e ≤ j ∧ j < b)) → R d[j]! d[i]! = false := by
  intro i j hi hj
  rcases hi with ⟨i1, i2⟩ | ⟨i1, i2⟩
  · rcases hj with ⟨j1, j2⟩ | ⟨j1, j2⟩
    · exact h1 i j i1 (by omega) j2
    · have hlt : lo < s := by omega
      exact hS.ntrans _ _ _ (hS.ntrans _ _ _ (so_le hS h2 hme j1 j2) (hL hlt)) (so_le hS h1 i1 (show i ≤ s - 1 by omega) (by omega))
  · rcases hj with ⟨j1, j2⟩ | ⟨j1, j2⟩
    · have hlt : s < r := by omega
      exact hS.ntrans _ _ _ (hS.ntrans _ _ _ (so_le hS h1 ha j1 j2) (hS.asymmA (hR hlt))) (so_le hS h2 i1 (show i ≤ e - 1 by omega) (by omega))
    · exact h2 i j i1 (by omega) j2
/-- What a rotation of [s, m) and [m, e) leaves. -/
def Rot (s m e : Nat) (d d' : Array α) : Prop := PermIn s e d d' ∧ (∀ k, s ≤ k → k < s + (e - m) → d'[k]! = d[k + (m - s)]!) ∧ ∀ k, s + (e - m) ≤ k → k < e → d'[k]! = d[k - (e - m)]!
theorem Rot.none_left {m e : Nat} (d : Array α) (h : m ≤ e) : Rot m m e d d := ⟨permIn_refl _ _ _, fun k _ _ => by rw [Nat.sub_self, Nat.add_zero], fun k h1 h2 => by omega⟩
theorem Rot.none_right {s m : Nat} (d : Array α) (h : s ≤ m) : Rot s m m d d := ⟨permIn_refl _ _ _, fun k h1 h2 => by omega, fun k _ _ => by rw [Nat.sub_self, Nat.sub_zero]⟩
variable {idx : α → Nat}
/-- Each element of the left part came ahead of each one of the right part. -/
def LR (idx : α → Nat) (a m b : Nat) (d : Array α) : Prop := ∀ i j, a ≤ i → i < m → m ≤ j → j < b → idx d[i]! < idx d[j]!
/-- Behind the rotation: four sorted parts. -/
theorem rot_parts {a m b s e mid : Nat} {d d' : Array α} (h1 : SortedIn R a m d) (h2 : SortedIn R m b d) (hr : Rot s m e d d') (hmid : mid + m = s + e) (ha : a ≤ s) (hsm : s ≤ m) (hme : m ≤ e) (heb : e ≤ b) :
    SortedIn R a s d' ∧ SortedIn R s mid d' ∧ SortedIn R mid e d' ∧ SortedIn R e b d' := by
  obtain ⟨⟨_, hout, _⟩, hv1, hv2⟩ := hr
  refine ⟨?_, ?_, ?_, ?_⟩
  · exact so_of_values h1 (fun k => k) (fun k _ k2 => hout k (.inl k2)) (fun k k1 k2 => ⟨k1, by omega⟩) (fun i j _ h _ => h)
  · exact so_of_values h2 (fun k => k + (m - s)) (fun k k1 k2 => hv1 k k1 (by omega)) (fun k k1 k2 => by omega) (fun i j _ h _ => by omega)
  · exact so_of_values h1 (fun k => k - (e - m)) (fun k k1 k2 => hv2 k (by omega) k2) (fun k k1 k2 => by omega) (fun i j i1 h _ => by omega)
  · exact so_of_values h2 (fun k => k) (fun k k1 _ => hout k (.inr k1)) (fun k k1 k2 => ⟨by omega, k2⟩) (fun i j _ h _ => h)
theorem rot_lr {a m b s e mid : Nat} {d d' : Array α} (h : LR idx a m b d) (hr : Rot s m e d d') (hmid : mid + m = s + e) (ha : a ≤ s) (hsm : s ≤ m) (hme : m ≤ e) (heb : e ≤ b) : LR idx a s mid d' ∧ LR idx mid e b d' := by
  obtain ⟨⟨_, hout, _⟩, hv1, hv2⟩ := hr
  constructor
  · intro i j i1 i2 j1 j2
    rw [hout i (.inl i2), hv1 j j1 (by omega)]
    exact h _ _ i1 (by omega) (by omega) (by omega)
  · intro i j i1 i2 j1 j2
    rw [hv2 i (by omega) i2, hout j (.inr j1)]
    exact h _ _ (by omega) (by omega) (by omega) (by omega)
theorem rot_cross {a m b s e mid : Nat} {d d' : Array α} (hx : ∀ i j, ((a ≤ i ∧ i < s) ∨ (m ≤ i ∧ i < e)) → ((s ≤ j ∧ j < m) ∨ (e ≤ j ∧ j < b)) → R d[j]! d[i]! = false) (hr : Rot s m e d d') (hmid : mid + m = s + e) (ha : a ≤ s) (hsm : s ≤ m) (hme : m ≤ e) (heb : e ≤ b) :
    ∀ i j, a ≤ i → i < mid → mid ≤ j → j < b → R d'[j]! d'[i]! = false := by
  obtain ⟨⟨_, hout, _⟩, hv1, hv2⟩ := hr
  intro i j i1 i2 j1 j2
  have hi : ∃ x, d'[i]! = d[x]! ∧ ((a ≤ x ∧ x < s) ∨ (m ≤ x ∧ x < e)) := by
    rcases Nat.lt_or_ge i s with h | h
    · exact ⟨i, hout i (.inl h), .inl ⟨i1, h⟩⟩
    · exact ⟨i + (m - s), hv1 i h (by omega), .inr (by omega)⟩
  have hj : ∃ x, d'[j]! = d[x]! ∧ ((s ≤ x ∧ x < m) ∨ (e ≤ x ∧ x < b)) := by
    rcases Nat.lt_or_ge j e with h | h
    · exact ⟨j - (e - m), hv2 j (by omega) h, .inl (by omega)⟩
    · exact ⟨j, hout j (.inr h), .inr ⟨h, j2⟩⟩
  obtain ⟨x, hx1, hx2⟩ := hi
  obtain ⟨y, hy1, hy2⟩ := hj
  rw [hx1, hy1]
  exact hx x y hx2 hy2
/-- The two halves merged: the whole is sorted. -/
theorem halves {a mid b : Nat} {d d1 d2 : Array α} (ham : a ≤ mid) (hmb : mid ≤ b) (hb : b ≤ d.size) (hx : ∀ i j, a ≤ i → i < mid → mid ≤ j → j < b → R d[j]! d[i]! = false)
    (p1 : PermIn a mid d d1) (s1 : SortedIn R a mid d1) (p2 : PermIn mid b d1 d2) (s2 : SortedIn R mid b d2) : SortedIn R a b d2 := by
  refine so_join (m := mid) (fun i j x y z => ?_) s2 fun i j i1 i2 j1 j2 => ?_
  · rw [p2.2.1 i (.inl (by omega)), p2.2.1 j (.inl z)]
    exact s1 i j x y z
  · have e2 : d2[i]! = d1[i]! := p2.2.1 i (.inl i2)
    rw [e2]
    have q1 : ∀ j, mid ≤ j → j < b → R d1[j]! d1[i]! = false := fun j j1 j2 => by
      rw [p1.2.1 j (.inr j1)]
      exact permIn_all d d1 a mid (fun y => R d[j]! y = false) (by omega) p1 (fun i i1 i2 => hx i j i1 i2 j1 j2) i i1 i2
    exact permIn_all d1 d2 mid b (fun y => R y d1[i]! = false) (by rw [p1.1]; exact hb) p2 q1 j j1 j2
/-- One on the left, brought to its place. -/
theorem ins_left (hS : SWO R) {a b s : Nat} {d d' : Array α} (h2 : SortedIn R (a + 1) b d) (hs1 : a + 1 ≤ s) (hs2 : s ≤ b) (hL : a + 1 < s → R d[s - 1]! d[a]! = true) (hR : s < b → R d[s]! d[a]! = false)
    (hv1 : ∀ k, a ≤ k → k < s - 1 → d'[k]! = d[k + 1]!) (hv2 : d'[s - 1]! = d[a]!) (hv3 : ∀ k, s ≤ k → k < b → d'[k]! = d[k]!) : SortedIn R a b d' := by
  intro i j i1 i2 j2
  have low : ∀ k, a + 1 ≤ k → k < s → R d[a]! d[k]! = false := fun k k1 k2 => by
    have hlt : a + 1 < s ∨ s = a + 1 := by omega
    rcases hlt with hlt | hlt
    · exact hS.ntrans _ _ _ (hS.asymmA (hL hlt)) (so_le hS h2 k1 (show k ≤ s - 1 by omega) (by omega))
    · omega
  have high : ∀ k, s ≤ k → k < b → R d[k]! d[a]! = false := fun k k1 k2 => hS.ntrans _ _ _ (so_le hS h2 (by omega) k1 k2) (hR (by omega))
  have hi : (i < s - 1 ∧ d'[i]! = d[i + 1]!) ∨ (i = s - 1 ∧ d'[i]! = d[a]!) ∨ (s ≤ i ∧ d'[i]! = d[i]!) := by
    rcases Nat.lt_trichotomy i (s - 1) with h | h | h
    · exact .inl ⟨h, hv1 i i1 h⟩
    · exact .inr (.inl ⟨h, by rw [h]; exact hv2⟩)
    · exact .inr (.inr ⟨by omega, hv3 i (by omega) (by omega)⟩)
  have hj : (j < s - 1 ∧ d'[j]! = d[j + 1]!) ∨ (j = s - 1 ∧ d'[j]! = d[a]!) ∨ (s ≤ j ∧ d'[j]! = d[j]!) := by
    rcases Nat.lt_trichotomy j (s - 1) with h | h | h
    · exact .inl ⟨h, hv1 j (by omega) h⟩
    · exact .inr (.inl ⟨h, by rw [h]; exact hv2⟩)
    · exact .inr (.inr ⟨by omega, hv3 j (by omega) (by omega)⟩)
  rcases hi with ⟨hi, ei⟩ | ⟨hi, ei⟩ | ⟨hi, ei⟩ <;> rcases hj with ⟨hj, ej⟩ | ⟨hj, ej⟩ | ⟨hj, ej⟩ <;> rw [ei, ej]
  · exact h2 _ _ (by omega) (by omega) (by omega)
  · exact low _ (by omega) (by omega)
  · exact h2 _ _ (by omega) (by omega) (by omega)
  · omega
  · omega
  · exact high _ hj j2
  · omega
  · omega
  · exact h2 _ _ (by omega) (by omega) (by omega)
/-- One on the right, brought to its place. -/
theorem ins_right (hS : SWO R) {a m s : Nat} {d d' : Array α} (h1 : SortedIn R a m d) (hs1 : a ≤ s) (hs2 : s ≤ m) (hL : a < s → R d[m]! d[s - 1]! = false) (hR : s < m → R d[m]! d[s]! = true)
    (hv1 : ∀ k, a ≤ k → k < s → d'[k]! = d[k]!) (hv2 : d'[s]! = d[m]!) (hv3 : ∀ k, s < k → k < m + 1 → d'[k]! = d[k - 1]!) : SortedIn R a (m + 1) d' := by
  intro i j i1 i2 j2
  have low : ∀ k, a ≤ k → k < s → R d[m]! d[k]! = false := fun k k1 k2 => hS.ntrans _ _ _ (hL (by omega)) (so_le hS h1 k1 (show k ≤ s - 1 by omega) (by omega))
  have high : ∀ k, s ≤ k → k < m → R d[k]! d[m]! = false := fun k k1 k2 => hS.ntrans _ _ _ (so_le hS h1 (by omega) k1 k2) (hS.asymmA (hR (by omega)))
  have hi : (i < s ∧ d'[i]! = d[i]!) ∨ (i = s ∧ d'[i]! = d[m]!) ∨ (s < i ∧ d'[i]! = d[i - 1]!) := by
    rcases Nat.lt_trichotomy i s with h | h | h
    · exact .inl ⟨h, hv1 i i1 h⟩
    · exact .inr (.inl ⟨h, by rw [h]; exact hv2⟩)
    · exact .inr (.inr ⟨h, hv3 i h (by omega)⟩)
  have hj : (j < s ∧ d'[j]! = d[j]!) ∨ (j = s ∧ d'[j]! = d[m]!) ∨ (s < j ∧ d'[j]! = d[j - 1]!) := by
    rcases Nat.lt_trichotomy j s with h | h | h
    · exact .inl ⟨h, hv1 j (by omega) h⟩
    · exact .inr (.inl ⟨h, by rw [h]; exact hv2⟩)
    · exact .inr (.inr ⟨h, hv3 j h (by omega)⟩)
  rcases hi with ⟨hi, ei⟩ | ⟨hi, ei⟩ | ⟨hi, ei⟩ <;> rcases hj with ⟨hj, ej⟩ | ⟨hj, ej⟩ | ⟨hj, ej⟩ <;> rw [ei, ej]
  · exact h1 _ _ i1 i2 (by omega)
  · exact low _ i1 hi
  · exact h1 _ _ i1 (by omega) (by omega)
  · omega
  · omega
  · exact high _ (by omega) (by omega)
  · omega
  · omega
  · exact h1 _ _ (by omega) (by omega) (by omega)
end
end Go.Proofs.Ytanihbflgolciaa
/- The stable sort in plain terms, second part: ranges swapped, a rotation by them; the order in which equal ones stand as they came; the insertion sort by it. (No program.) -/
namespace Go.Proofs.Ytanihbflgolciaa
open Go.Sort
set_option linter.unusedVariables false
set_option linter.unusedSectionVars false
section
variable {α : Type} [Inhabited α]
/-- swapRange: n places from a, and from b. -/
def swR (a b : Nat) : Nat → Array α → Array α
  | 0, d => d
  | n + 1, d => swp (swR a b n d) (a + n) (b + n)
theorem swR_size (a b : Nat) : ∀ (n : Nat) (d : Array α), (swR a b n d).size = d.size
  | 0, _ => rfl
  | n + 1, d => by rw [swR, swp_size, swR_size a b n d]
theorem swR_perm {a b lo hi : Nat} {d : Array α} (hh : hi ≤ d.size) : ∀ n, lo ≤ a → a + n ≤ hi → lo ≤ b → b + n ≤ hi → PermIn lo hi d (swR a b n d)
  | 0, _, _, _, _ => permIn_refl _ _ _
  | n + 1, h1, h2, h3, h4 => permIn_trans _ _ _ _ _ (swR_perm hh n h1 (by omega) h3 (by omega)) (swp_permIn _ lo hi (a + n) (b + n) (by omega) (by omega) (by omega) (by omega) (by rw [swR_size]; exact hh))
theorem swR_get {a b : Nat} {d : Array α} : ∀ n, (a + n ≤ b ∨ b + n ≤ a) → a + n ≤ d.size → b + n ≤ d.size → ∀ k,
    (swR a b n d)[k]! = if a ≤ k ∧ k < a + n then d[k - a + b]! else if b ≤ k ∧ k < b + n then d[k - b + a]! else d[k]!
  | 0, _, _, _, k => by rw [swR, if_neg (by omega), if_neg (by omega)]
  | n + 1, h, h1, h2, k => by
    have ih := swR_get (a := a) (b := b) (d := d) n (by omega) (by omega) (by omega)
    rw [swR, swp_get _ (by rw [swR_size]; omega) (by rw [swR_size]; omega)]
    by_cases e1 : k = b + n
    · subst e1
      rw [if_pos rfl, ih, if_neg (by omega), if_neg (by omega), if_neg (by omega), if_pos (by omega)]
      congr 1; omega
    · rw [if_neg e1]
      by_cases e2 : k = a + n
      · subst e2
        rw [if_pos rfl, ih, if_neg (by omega), if_neg (by omega), if_pos (by omega)]
        congr 1; omega
      · rw [if_neg e2, ih]
        by_cases e3 : a ≤ k ∧ k < a + n
        · rw [if_pos e3, if_pos (show a ≤ k ∧ k < a + (n + 1) by omega)]
        · by_cases e4 : b ≤ k ∧ k < b + n
          · rw [if_neg e3, if_pos e4, if_neg (show ¬ (a ≤ k ∧ k < a + (n + 1)) by omega), if_pos (show b ≤ k ∧ k < b + (n + 1) by omega)]
          · rw [if_neg e3, if_neg e4, if_neg (show ¬ (a ≤ k ∧ k < a + (n + 1)) by omega), if_neg (show ¬ (b ≤ k ∧ k < b + (n + 1)) by omega)]
/-- A rotation's last step. -/
theorem rot_end {m i : Nat} {d : Array α} (hi : i ≤ m) (hs : m + i ≤ d.size) : Rot (m - i) m (m + i) d (swR (m - i) m i d) := by
  have g := swR_get (a := m - i) (b := m) (d := d) i (by omega) (by omega) (by omega)
  refine ⟨swR_perm hs i (by omega) (by omega) (by omega) (by omega), fun k h1 h2 => ?_, fun k h1 h2 => ?_⟩
  · rw [g, if_pos (by omega)]; congr 1; omega
  · rw [g, if_neg (by omega), if_pos (by omega)]; congr 1; omega
/-- A step where the left part is longer. -/
theorem rot_left {m i j : Nat} {d d' : Array α} (hi : i ≤ m) (hji : j < i) (hs : m + j ≤ d.size) (h : Rot (m - (i - j)) m (m + j) (swR (m - i) m j d) d') : Rot (m - i) m (m + j) d d' := by
  have g := swR_get (a := m - i) (b := m) (d := d) j (by omega) (by omega) (by omega)
  obtain ⟨hp, v1, v2⟩ := h
  have hsz : (swR (m - i) m j d).size = d.size := swR_size _ _ _ _
  have hp' : PermIn (m - i) (m + j) (swR (m - i) m j d) d' := permIn_mono _ _ _ _ _ _ (by omega) (Nat.le_refl _) (by rw [hsz]; exact hs) hp
  refine ⟨permIn_trans _ _ _ _ _ (swR_perm hs j (by omega) (by omega) (by omega) (by omega)) hp', fun k h1 h2 => ?_, fun k h1 h2 => ?_⟩
  · rcases Nat.lt_or_ge k (m - (i - j)) with h | h
    · rw [hp.2.1 k (.inl h), g, if_pos (by omega)]; congr 1; omega
    · omega
  · rcases Nat.lt_or_ge k (m - (i - j) + (m + j - m)) with h | h
    · rw [v1 k (by omega) h, g]
      by_cases e : m ≤ k + (m - (m - (i - j)))
      · rw [if_neg (by omega), if_pos (by omega)]; congr 1; omega
      · omega
    · rw [v2 k h h2, g, if_neg (by omega), if_neg (by omega)]
/-- A step where the right part is longer. -/
theorem rot_right {m i j : Nat} {d d' : Array α} (hi : i ≤ m) (hij : i < j) (hs : m + j ≤ d.size) (h : Rot (m - i) m (m + (j - i)) (swR (m - i) (m + j - i) i d) d') : Rot (m - i) m (m + j) d d' := by
  have g := swR_get (a := m - i) (b := m + j - i) (d := d) i (by omega) (by omega) (by omega)
  obtain ⟨hp, v1, v2⟩ := h
  have hsz : (swR (m - i) (m + j - i) i d).size = d.size := swR_size _ _ _ _
  have hp' : PermIn (m - i) (m + j) (swR (m - i) (m + j - i) i d) d' := permIn_mono _ _ _ _ _ _ (Nat.le_refl _) (by omega) (by rw [hsz]; exact hs) hp
  refine ⟨permIn_trans _ _ _ _ _ (swR_perm hs i (by omega) (by omega) (by omega) (by omega)) hp', fun k h1 h2 => ?_, fun k h1 h2 => ?_⟩
  · rcases Nat.lt_or_ge k (m - i + (m + (j - i) - m)) with h | h
    · rw [v1 k h1 h, g, if_neg (by omega), if_neg (by omega)]
    · rw [v2 k h (by omega), g, if_pos (by omega)]; congr 1; omega
  · rw [hp.2.1 k (.inr (by omega)), g, if_neg (by omega), if_pos (by omega)]; congr 1; omega
/-- The order: by lt, equal ones as they came. -/
def rB (lt : α → α → Bool) (idx : α → Nat) (x y : α) : Bool := lt x y || (!lt y x && decide (idx x < idx y))
theorem rB_true {lt : α → α → Bool} {idx : α → Nat} {x y : α} : rB lt idx x y = true ↔ lt x y = true ∨ (lt y x = false ∧ idx x < idx y) := by simp [rB]
theorem rB_false {lt : α → α → Bool} {idx : α → Nat} {x y : α} : rB lt idx x y = false ↔ lt x y = false ∧ (lt y x = true ∨ idx y ≤ idx x) := by
  unfold rB
  cases lt x y <;> cases lt y x <;> simp
/-- Of one that came later: less just if it is by lt. -/
theorem rB_later {lt : α → α → Bool} {idx : α → Nat} {x y : α} (h : idx x < idx y) : rB lt idx y x = lt y x := by
  unfold rB
  rw [decide_eq_false (by omega), Bool.and_false, Bool.or_false]
theorem rB_swo {lt : α → α → Bool} (hS : SWO lt) (idx : α → Nat) : SWO (rB lt idx) where
  irrefl := fun x => rB_false.2 ⟨hS.irrefl x, .inr (Nat.le_refl _)⟩
  trans := fun x y z h1 h2 => by
    rw [rB_true] at h1 h2 ⊢
    rcases h1 with h1 | ⟨h1, i1⟩
    · refine .inl ?_
      rcases h2 with h2 | ⟨h2, i2⟩
      · exact hS.trans _ _ _ h1 h2
      · cases hxz : lt x z with
        | true => rfl
        | false => have := hS.ntrans _ _ _ hxz h2; rw [h1] at this; cases this
    · rcases h2 with h2 | ⟨h2, i2⟩
      · refine .inl ?_
        cases hxz : lt x z with
        | true => rfl
        | false => have := hS.ntrans _ _ _ h1 hxz; rw [h2] at this; cases this
      · exact .inr ⟨hS.ntrans _ _ _ h2 h1, by omega⟩
  ntrans := fun x y z h1 h2 => by
    rw [rB_false] at h1 h2 ⊢
    obtain ⟨h1, c1⟩ := h1
    obtain ⟨h2, c2⟩ := h2
    refine ⟨hS.ntrans _ _ _ h1 h2, ?_⟩
    cases hzx : lt z x with
    | true => exact .inl rfl
    | false =>
      right
      rcases c1 with c1 | c1
      · have := hS.ntrans _ _ _ h2 hzx
        rw [c1] at this; cases this
      · rcases c2 with c2 | c2
        · have := hS.ntrans _ _ _ hzx h1
          rw [c2] at this; cases this
        · omega
theorem insInner_perm (lt : α → α → Bool) (a : Nat) {b : Nat} : ∀ (j : Nat) (d : Array α), j < b → b ≤ d.size → PermIn a b d (insInner lt a j d)
  | 0, d, _, _ => permIn_refl _ _ _
  | j + 1, d, h1, h2 => by
    rw [insInner]
    split
    · rename_i hc
      have : a ≤ j := by
        simp only [Bool.and_eq_true, decide_eq_true_eq] at hc
        omega
      exact permIn_trans _ _ _ _ _ (swp_permIn d a b (j + 1) j (by omega) h1 this (by omega) h2) (insInner_perm lt a j _ (by omega) (by rw [swp_size]; exact h2))
    · exact permIn_refl _ _ _
theorem insInner_eq {lt : α → α → Bool} {idx : α → Nat} {a : Nat} : ∀ (j : Nat) (d : Array α), j < d.size → (∀ p, a ≤ p → p < j → idx d[p]! < idx d[j]!) → insInner lt a j d = insInner (rB lt idx) a j d
  | 0, _, _, _ => rfl
  | j + 1, d, hj, h => by
    rw [insInner, insInner]
    by_cases haj : a ≤ j
    · rw [rB_later (h j haj (by omega))]
      by_cases hc : (decide (j + 1 > a) && lt d[j + 1]! d[j]!) = true
      · rw [if_pos hc, if_pos hc]
        refine insInner_eq j _ (by rw [swp_size]; omega) fun p hp1 hp2 => ?_
        rw [swp_other _ _ _ _ (by omega) (by omega), swp_right _ _ _ (by omega)]
        exact h p hp1 (by omega)
      · rw [if_neg hc, if_neg hc]
    · have : decide (j + 1 > a) = false := decide_eq_false (by omega)
      rw [this, Bool.false_and, Bool.false_and]
      rfl
theorem insOuter_eq {lt : α → α → Bool} {idx : α → Nat} {a b : Nat} : ∀ (n i : Nat) (d : Array α), n = b - i → a ≤ i → b ≤ d.size → (∀ q, i ≤ q → q < b → ∀ p, a ≤ p → p < q → idx d[p]! < idx d[q]!) → insOuter lt a b i d = insOuter (rB lt idx) a b i d
  | 0, i, d, hn, _, _, _ => by
    have e : ∀ l : α → α → Bool, insOuter l a b i d = d := fun l => by rw [insOuter, if_neg (by omega)]
    rw [e, e]
  | n + 1, i, d, hn, hai, hb, h => by
    have e : ∀ l : α → α → Bool, insOuter l a b i d = insOuter l a b (i + 1) (insInner l a i d) := fun l => by rw [insOuter, if_pos (by omega)]
    rw [e, e, insInner_eq i d (by omega) (h i (Nat.le_refl _) (by omega))]
    have hp := insInner_perm (rB lt idx) a (b := i + 1) i d (by omega) (by omega)
    refine insOuter_eq n (i + 1) _ (by omega) (by omega) (by rw [hp.1]; exact hb) fun q q1 q2 p p1 p2 => ?_
    rw [hp.2.1 q (.inr (by omega))]
    rcases Nat.lt_or_ge p (i + 1) with hpi | hpi
    · exact permIn_all _ _ a (i + 1) (fun y => idx y < idx d[q]!) (by omega) hp (fun k k1 k2 => h q (by omega) q2 k k1 (by omega)) p p1 hpi
    · rw [hp.2.1 p (.inr hpi)]
      exact h q (by omega) q2 p p1 p2
/-- The insertion sort of elements in the order in which they came: sorted, equal ones as they came. -/
theorem ins_stable {lt : α → α → Bool} (hS : SWO lt) {idx : α → Nat} {a b : Nat} {d : Array α} (hab : a ≤ b) (hb : b ≤ d.size) (h : ∀ p q, a ≤ p → p < q → q < b → idx d[p]! < idx d[q]!) :
    PermIn a b d (insertionSort lt d a b) ∧ SortedIn (rB lt idx) a b (insertionSort lt d a b) := by
  have e : insertionSort lt d a b = insertionSort (rB lt idx) d a b := by
    unfold insertionSort
    exact insOuter_eq (b - (a + 1)) (a + 1) d rfl (by omega) hb fun q q1 q2 p p1 p2 => h p q p1 p2 q2
  rw [e]
  exact insertionSort_holds (rB_swo hS idx) d a b hab hb
end
end Go.Proofs.Ytanihbflgolciaa
/- The stable sort in plain terms, third part: its blocks, and how they grow. (No program.) -/
namespace Go.Proofs.Ytanihbflgolciaa
open Go.Sort
set_option linter.unusedVariables false
set_option linter.unusedSectionVars false
section
variable {α : Type} [Inhabited α] {R : α → α → Bool} {idx : α → Nat}
/-- At each multiple of c: what stands ahead of it came ahead of what stands from it on. -/
def Ord (idx : α → Nat) (c n : Nat) (d : Array α) : Prop := ∀ t p q, p < t * c → t * c ≤ q → q < n → idx d[p]! < idx d[q]!
/-- Each block of c is sorted. -/
def BlkS (R : α → α → Bool) (c n : Nat) (d : Array α) : Prop := ∀ t, SortedIn R (t * c) (min ((t + 1) * c) n) d
theorem ord_asc {c n : Nat} {d : Array α} (h : ∀ p q, p < q → q < n → idx d[p]! < idx d[q]!) : Ord idx c n d := fun t p q h1 h2 h3 => h p q (by omega) h3
theorem ord_twice {c n : Nat} {d : Array α} (h : Ord idx c n d) : Ord idx (2 * c) n d := fun t p q h1 h2 h3 => by
  rw [Nat.mul_left_comm, ← Nat.mul_assoc] at h1 h2
  exact h (2 * t) p q h1 h2 h3
theorem ord_perm {c n t a b : Nat} {d d' : Array α} (h : Ord idx c n d) (ha : t * c ≤ a) (hb : b ≤ (t + 1) * c) (hbn : b ≤ n) (hn : n ≤ d.size) (hp : PermIn a b d d') : Ord idx c n d' := by
  intro u p q h1 h2 h3
  have hcase : u * c ≤ a ∨ b ≤ u * c := by
    rcases Nat.lt_or_ge t u with h4 | h4
    · right
      exact Nat.le_trans hb (Nat.mul_le_mul_right c h4)
    · left
      exact Nat.le_trans (Nat.mul_le_mul_right c h4) ha
  rcases hcase with hc | hc
  · rw [hp.2.1 p (.inl (by omega))]
    rcases Nat.lt_or_ge q a with hq | hq
    · rw [hp.2.1 q (.inl hq)]
      exact h u p q h1 h2 h3
    · rcases Nat.lt_or_ge q b with hq2 | hq2
      · exact permIn_all d d' a b (fun y => idx d[p]! < idx y) (by omega) hp (fun k k1 k2 => h u p k h1 (by omega) (by omega)) q hq hq2
      · rw [hp.2.1 q (.inr hq2)]
        exact h u p q h1 h2 h3
  · rw [hp.2.1 q (.inr (by omega))]
    rcases Nat.lt_or_ge p a with hq | hq
    · rw [hp.2.1 p (.inl hq)]
      exact h u p q h1 h2 h3
    · rcases Nat.lt_or_ge p b with hq2 | hq2
      · exact permIn_all d d' a b (fun y => idx y < idx d[q]!) (by omega) hp (fun k k1 k2 => h u k q (by omega) h2 h3) p hq hq2
      · rw [hp.2.1 p (.inr hq2)]
        exact h u p q h1 h2 h3
/-- What a stage's loop keeps: t double blocks are merged. -/
structure Stg (R : α → α → Bool) (idx : α → Nat) (c n t : Nat) (d0 d : Array α) : Prop where
  sorted : ∀ u, u < t → SortedIn R (u * (2 * c)) ((u + 1) * (2 * c)) d
  rest : ∀ k, t * (2 * c) ≤ k → d[k]! = d0[k]!
  ord : Ord idx (2 * c) n d
  perm : PermIn 0 n d0 d
theorem Stg.start {c n : Nat} {d : Array α} (h : Ord idx c n d) : Stg R idx c n 0 d d := ⟨fun u h => absurd h (Nat.not_lt_zero _), fun _ _ => rfl, ord_twice h, permIn_refl _ _ _⟩
theorem so_rest {a b : Nat} {d d0 : Array α} (h : SortedIn R a b d0) (hr : ∀ k, a ≤ k → d[k]! = d0[k]!) : SortedIn R a b d := fun i j h1 h2 h3 => by
  rw [hr i h1, hr j (by omega)]
  exact h i j h1 h2 h3
/-- The two blocks that come next are good for a merge. -/
theorem Stg.next {c n t b : Nat} {d0 d : Array α} (h : Stg R idx c n t d0 d) (hB : BlkS R c n d0) (hO : Ord idx c n d0) (hb1 : b ≤ n) (hb2 : b ≤ t * (2 * c) + 2 * c) (hb3 : t * (2 * c) + c ≤ b) :
    SortedIn R (t * (2 * c)) (t * (2 * c) + c) d ∧ SortedIn R (t * (2 * c) + c) b d ∧ LR idx (t * (2 * c)) (t * (2 * c) + c) b d := by
  have e0 : 2 * t * c = t * (2 * c) := by rw [Nat.mul_left_comm, ← Nat.mul_assoc]
  have e1 : (2 * t + 1) * c = t * (2 * c) + c := by rw [Nat.add_mul, Nat.one_mul, e0]
  have e2 : (2 * t + 1 + 1) * c = t * (2 * c) + 2 * c := by rw [Nat.add_mul, e1]; omega
  refine ⟨?_, ?_, ?_⟩
  · have := hB (2 * t)
    rw [e0, e1] at this
    exact so_rest (so_sub this (Nat.le_refl _) (by omega)) h.rest
  · have := hB (2 * t + 1)
    rw [e1, e2] at this
    exact so_rest (so_sub this (Nat.le_refl _) (by omega)) fun k hk => h.rest k (by omega)
  · intro i j i1 i2 j1 j2
    rw [h.rest i i1, h.rest j (by omega)]
    exact hO (2 * t + 1) i j (by rw [e1]; exact i2) (by rw [e1]; exact j1) (by omega)
theorem Stg.step {c n t : Nat} {d0 d d' : Array α} (h : Stg R idx c n t d0 d) (hb : t * (2 * c) + 2 * c ≤ n) (hn : n ≤ d.size) (hp : PermIn (t * (2 * c)) (t * (2 * c) + 2 * c) d d') (hs : SortedIn R (t * (2 * c)) (t * (2 * c) + 2 * c) d') : Stg R idx c n (t + 1) d0 d' := by
  have e : (t + 1) * (2 * c) = t * (2 * c) + 2 * c := by rw [Nat.add_mul, Nat.one_mul]
  refine ⟨fun u hu => ?_, fun k hk => ?_, ord_perm (t := t) h.ord (Nat.le_refl _) (by omega) hb hn hp, permIn_trans _ _ _ _ _ h.perm (permIn_mono _ _ _ _ _ _ (Nat.zero_le _) hb hn hp)⟩
  · rcases Nat.lt_or_ge u t with hut | hut
    · have e2 : (u + 1) * (2 * c) ≤ t * (2 * c) := Nat.mul_le_mul_right _ hut
      intro i j h1 h2 h3
      rw [hp.2.1 i (.inl (by omega)), hp.2.1 j (.inl (by omega))]
      exact h.sorted u hut i j h1 h2 h3
    · obtain rfl : u = t := by omega
      rw [e]; exact hs
  · rw [hp.2.1 k (.inr (by omega)), h.rest k (by omega)]
/-- A stage's end: where what is left is sorted. -/
theorem Stg.done {c n t : Nat} {d0 d d' : Array α} (hc : 0 < c) (h : Stg R idx c n t d0 d) (ha : t * (2 * c) ≤ n) (hb : n < t * (2 * c) + 2 * c) (hn : n ≤ d.size) (hp : PermIn (t * (2 * c)) n d d') (hs : SortedIn R (t * (2 * c)) n d') : BlkS R (2 * c) n d' ∧ Ord idx (2 * c) n d' ∧ PermIn 0 n d0 d' := by
  have e : (t + 1) * (2 * c) = t * (2 * c) + 2 * c := by rw [Nat.add_mul, Nat.one_mul]
  refine ⟨fun u => ?_, ord_perm (t := t) h.ord (Nat.le_refl _) (by omega) (Nat.le_refl _) hn hp, permIn_trans _ _ _ _ _ h.perm (permIn_mono _ _ _ _ _ _ (Nat.zero_le _) (Nat.le_refl _) hn hp)⟩
  rcases Nat.lt_trichotomy u t with hut | hut | hut
  · have e2 : (u + 1) * (2 * c) ≤ t * (2 * c) := Nat.mul_le_mul_right _ hut
    intro i j h1 h2 h3
    rw [hp.2.1 i (.inl (by omega)), hp.2.1 j (.inl (by omega))]
    exact h.sorted u hut i j h1 h2 (by omega)
  · subst hut
    rw [e, Nat.min_eq_right (by omega)]
    exact hs
  · have e2 : (t + 1) * (2 * c) ≤ u * (2 * c) := Nat.mul_le_mul_right _ hut
    intro i j h1 h2 h3
    omega
/-- Where less than a block and a half is left it is sorted already. -/
theorem Stg.tail {c n t : Nat} {d0 d : Array α} (h : Stg R idx c n t d0 d) (hB : BlkS R c n d0) (hb : n ≤ t * (2 * c) + c) : SortedIn R (t * (2 * c)) n d := by
  have e0 : 2 * t * c = t * (2 * c) := by rw [Nat.mul_left_comm, ← Nat.mul_assoc]
  have e1 : (2 * t + 1) * c = t * (2 * c) + c := by rw [Nat.add_mul, Nat.one_mul, e0]
  have := hB (2 * t)
  rw [e0, e1] at this
  exact so_rest (so_sub this (Nat.le_refl _) (by omega)) h.rest
/-- What the first loop keeps: t blocks are sorted. -/
structure Fst (R : α → α → Bool) (idx : α → Nat) (c n t : Nat) (d0 d : Array α) : Prop where
  sorted : ∀ u, u < t → SortedIn R (u * c) ((u + 1) * c) d
  rest : ∀ k, t * c ≤ k → d[k]! = d0[k]!
  ord : Ord idx c n d
  perm : PermIn 0 n d0 d
theorem Fst.start {c n : Nat} {d : Array α} (h : Ord idx c n d) : Fst R idx c n 0 d d := ⟨fun u h => absurd h (Nat.not_lt_zero _), fun _ _ => rfl, h, permIn_refl _ _ _⟩
theorem Fst.step {c n t : Nat} {d0 d d' : Array α} (h : Fst R idx c n t d0 d) (hb : t * c + c ≤ n) (hn : n ≤ d.size) (hp : PermIn (t * c) (t * c + c) d d') (hs : SortedIn R (t * c) (t * c + c) d') : Fst R idx c n (t + 1) d0 d' := by
  have e : (t + 1) * c = t * c + c := by rw [Nat.add_mul, Nat.one_mul]
  refine ⟨fun u hu => ?_, fun k hk => ?_, ord_perm (t := t) h.ord (Nat.le_refl _) (by omega) hb hn hp, permIn_trans _ _ _ _ _ h.perm (permIn_mono _ _ _ _ _ _ (Nat.zero_le _) hb hn hp)⟩
  · rcases Nat.lt_or_ge u t with hut | hut
    · have e2 : (u + 1) * c ≤ t * c := Nat.mul_le_mul_right _ hut
      intro i j h1 h2 h3
      rw [hp.2.1 i (.inl (by omega)), hp.2.1 j (.inl (by omega))]
      exact h.sorted u hut i j h1 h2 h3
    · obtain rfl : u = t := by omega
      rw [e]; exact hs
  · rw [hp.2.1 k (.inr (by omega)), h.rest k (by omega)]
theorem Fst.done {c n t : Nat} {d0 d d' : Array α} (h : Fst R idx c n t d0 d) (ha : t * c ≤ n) (hb : n < t * c + c) (hn : n ≤ d.size) (hp : PermIn (t * c) n d d') (hs : SortedIn R (t * c) n d') : BlkS R c n d' ∧ Ord idx c n d' ∧ PermIn 0 n d0 d' := by
  have e : (t + 1) * c = t * c + c := by rw [Nat.add_mul, Nat.one_mul]
  refine ⟨fun u => ?_, ord_perm (t := t) h.ord (Nat.le_refl _) (by omega) (Nat.le_refl _) hn hp, permIn_trans _ _ _ _ _ h.perm (permIn_mono _ _ _ _ _ _ (Nat.zero_le _) (Nat.le_refl _) hn hp)⟩
  rcases Nat.lt_trichotomy u t with hut | hut | hut
  · have e2 : (u + 1) * c ≤ t * c := Nat.mul_le_mul_right _ hut
    intro i j h1 h2 h3
    rw [hp.2.1 i (.inl (by omega)), hp.2.1 j (.inl (by omega))]
    exact h.sorted u hut i j h1 h2 (by omega)
  · subst hut
    rw [e, Nat.min_eq_right (by omega)]
    exact hs
  · have e2 : (t + 1) * c ≤ u * c := Nat.mul_le_mul_right _ hut
    intro i j h1 h2 h3
    omega
/-- One block: all is sorted. -/
theorem BlkS.all {c n : Nat} {d : Array α} (h : BlkS R c n d) (hc : n ≤ c) : SortedIn R 0 n d := by
  have := h 0
  rw [Nat.zero_mul, Nat.zero_add, Nat.one_mul, Nat.min_eq_right hc] at this
  exact this
end
end Go.Proofs.Ytanihbflgolciaa
/- The stable sort in plain terms, fourth part: one element brought to its place by swaps with its neighbour; one merge, whole. (No program.) -/
namespace Go.Proofs.Ytanihbflgolciaa
open Go.Sort
set_option linter.unusedVariables false
set_option linter.unusedSectionVars false
section
variable {α : Type} [Inhabited α] {R : α → α → Bool} {idx : α → Nat}
/-- From a up, n places. -/
def shU (a : Nat) : Nat → Array α → Array α
  | 0, d => d
  | n + 1, d => swp (shU a n d) (a + n) (a + n + 1)
theorem shU_size (a : Nat) : ∀ (n : Nat) (d : Array α), (shU a n d).size = d.size
  | 0, _ => rfl
  | n + 1, d => by rw [shU, swp_size, shU_size a n d]
theorem shU_perm {a lo hi : Nat} {d : Array α} (hh : hi ≤ d.size) (h1 : lo ≤ a) : ∀ n, a + n < hi → PermIn lo hi d (shU a n d)
  | 0, _ => permIn_refl _ _ _
  | n + 1, h => permIn_trans _ _ _ _ _ (shU_perm hh h1 n (by omega)) (swp_permIn _ lo hi (a + n) (a + n + 1) (by omega) (by omega) (by omega) (by omega) (by rw [shU_size]; exact hh))
theorem shU_get {a : Nat} {d : Array α} : ∀ n, a + n < d.size → ∀ k, (shU a n d)[k]! = if a ≤ k ∧ k < a + n then d[k + 1]! else if k = a + n then d[a]! else d[k]!
  | 0, h, k => by
    rw [shU, if_neg (show ¬ (a ≤ k ∧ k < a + 0) by omega)]
    by_cases e : k = a + 0
    · rw [if_pos e]; subst e; rfl
    · rw [if_neg e]
  | n + 1, h, k => by
    have ih := shU_get (a := a) (d := d) n (by omega)
    rw [shU, swp_get _ (by rw [shU_size]; omega) (by rw [shU_size]; omega)]
    by_cases e1 : k = a + n + 1
    · rw [if_pos e1, ih, if_neg (show ¬ (a ≤ a + n ∧ a + n < a + n) by omega), if_pos rfl, if_neg (show ¬ (a ≤ k ∧ k < a + (n + 1)) by omega), if_pos (show k = a + (n + 1) by omega)]
    · rw [if_neg e1]
      by_cases e2 : k = a + n
      · rw [if_pos e2, ih, if_neg (show ¬ (a ≤ a + n + 1 ∧ a + n + 1 < a + n) by omega), if_neg (show ¬ a + n + 1 = a + n by omega), if_pos (show a ≤ k ∧ k < a + (n + 1) by omega), e2]
      · rw [if_neg e2, ih]
        by_cases e3 : a ≤ k ∧ k < a + n
        · rw [if_pos e3, if_pos (show a ≤ k ∧ k < a + (n + 1) by omega)]
        · rw [if_neg e3, if_neg e2, if_neg (show ¬ (a ≤ k ∧ k < a + (n + 1)) by omega), if_neg (show ¬ k = a + (n + 1) by omega)]
/-- From m down, n places. -/
def shD (m : Nat) : Nat → Array α → Array α
  | 0, d => d
  | n + 1, d => swp (shD m n d) (m - n) (m - n - 1)
theorem shD_size (m : Nat) : ∀ (n : Nat) (d : Array α), (shD m n d).size = d.size
  | 0, _ => rfl
  | n + 1, d => by rw [shD, swp_size, shD_size m n d]
theorem shD_perm {m lo hi : Nat} {d : Array α} (hh : hi ≤ d.size) (h1 : m < hi) : ∀ n, lo + n ≤ m → PermIn lo hi d (shD m n d)
  | 0, _ => permIn_refl _ _ _
  | n + 1, h => permIn_trans _ _ _ _ _ (shD_perm hh h1 n (by omega)) (swp_permIn _ lo hi (m - n) (m - n - 1) (by omega) (by omega) (by omega) (by omega) (by rw [shD_size]; exact hh))
theorem shD_get {m : Nat} {d : Array α} (hm : m < d.size) : ∀ n, n ≤ m → ∀ k, (shD m n d)[k]! = if m - n < k ∧ k ≤ m then d[k - 1]! else if k = m - n then d[m]! else d[k]!
  | 0, h, k => by
    rw [shD, if_neg (show ¬ (m - 0 < k ∧ k ≤ m) by omega)]
    by_cases e : k = m - 0
    · rw [if_pos e, show k = m by omega]
    · rw [if_neg e]
  | n + 1, h, k => by
    have ih := shD_get hm n (by omega)
    rw [shD, swp_get _ (by rw [shD_size]; omega) (by rw [shD_size]; omega)]
    by_cases e1 : k = m - n - 1
    · rw [if_pos e1, ih, if_neg (show ¬ (m - n < m - n ∧ m - n ≤ m) by omega), if_pos rfl, if_neg (show ¬ (m - (n + 1) < k ∧ k ≤ m) by omega), if_pos (show k = m - (n + 1) by omega)]
    · rw [if_neg e1]
      by_cases e2 : k = m - n
      · rw [if_pos e2, ih, if_neg (show ¬ (m - n < m - n - 1 ∧ m - n - 1 ≤ m) by omega), if_neg (show ¬ m - n - 1 = m - n by omega), if_pos (show m - (n + 1) < k ∧ k ≤ m by omega), e2]
      · rw [if_neg e2, ih]
        by_cases e3 : m - n < k ∧ k ≤ m
        · rw [if_pos e3, if_pos (show m - (n + 1) < k ∧ k ≤ m by omega)]
        · rw [if_neg e3, if_neg e2, if_neg (show ¬ (m - (n + 1) < k ∧ k ≤ m) by omega), if_neg (show ¬ k = m - (n + 1) by omega)]
/-- What a merge leaves. -/
def Mrg (R : α → α → Bool) (a b : Nat) (d d' : Array α) : Prop := PermIn a b d d' ∧ SortedIn R a b d'
theorem mrg_left (hS : SWO R) {a b s : Nat} {d : Array α} (hb : b ≤ d.size) (h2 : SortedIn R (a + 1) b d) (hs1 : a + 1 ≤ s) (hs2 : s ≤ b) (hL : a + 1 < s → R d[s - 1]! d[a]! = true) (hR : s < b → R d[s]! d[a]! = false) : Mrg R a b d (shU a (s - 1 - a) d) := by
  have g := shU_get (a := a) (d := d) (s - 1 - a) (by omega)
  refine ⟨shU_perm hb (Nat.le_refl _) _ (by omega), ins_left hS h2 hs1 hs2 hL hR (fun k k1 k2 => ?_) ?_ fun k k1 k2 => ?_⟩
  · rw [g, if_pos (by omega)]
  · rw [g, if_neg (by omega), if_pos (by omega)]
  · rw [g, if_neg (show ¬ (a ≤ k ∧ k < a + (s - 1 - a)) by omega), if_neg (show ¬ k = a + (s - 1 - a) by omega)]
theorem mrg_right (hS : SWO R) {a m s : Nat} {d : Array α} (hb : m + 1 ≤ d.size) (h1 : SortedIn R a m d) (hs1 : a ≤ s) (hs2 : s ≤ m) (hL : a < s → R d[m]! d[s - 1]! = false) (hR : s < m → R d[m]! d[s]! = true) : Mrg R a (m + 1) d (shD m (m - s) d) := by
  have g := shD_get (m := m) (d := d) (by omega) (m - s) (by omega)
  refine ⟨shD_perm hb (by omega) _ (by omega), ins_right hS h1 hs1 hs2 hL hR (fun k k1 k2 => ?_) ?_ fun k k1 k2 => ?_⟩
  · rw [g, if_neg (show ¬ (m - (m - s) < k ∧ k ≤ m) by omega), if_neg (show ¬ k = m - (m - s) by omega)]
  · rw [g, if_neg (show ¬ (m - (m - s) < s ∧ s ≤ m) by omega), if_pos (by omega)]
  · rw [g, if_pos (by omega)]
/-- What is known behind the rotation. -/
structure Cut (R : α → α → Bool) (idx : α → Nat) (a s mid e b : Nat) (d : Array α) : Prop where
  p1 : SortedIn R a s d
  p2 : SortedIn R s mid d
  p3 : SortedIn R mid e d
  p4 : SortedIn R e b d
  l1 : LR idx a s mid d
  l2 : LR idx mid e b d
  cross : ∀ i j, a ≤ i → i < mid → mid ≤ j → j < b → R d[j]! d[i]! = false
theorem cut_of (hS : SWO R) {a m b s e lo r : Nat} {d d' : Array α} (h1 : SortedIn R a m d) (h2 : SortedIn R m b d) (hLR : LR idx a m b d) (hse : s + e = (a + b) / 2 + m) (hlo : (lo = a ∧ m ≤ (a + b) / 2) ∨ (lo + b = (a + b) / 2 + m ∧ (a + b) / 2 < m)) (hr : (r = m ∧ m ≤ (a + b) / 2) ∨ (r = (a + b) / 2 ∧ (a + b) / 2 < m))
    (ha : a ≤ s) (hls : lo ≤ s) (hsr : s ≤ r) (hme : m ≤ e) (heb : e ≤ b) (hL : lo < s → R d[e]! d[s - 1]! = false) (hR : s < r → R d[e - 1]! d[s]! = true) (hrot : Rot s m e d d') : Cut R idx a s ((a + b) / 2) e b d' := by
  have hsm : s ≤ m := by omega
  have hx := split_ok hS h1 h2 hse hlo hr ha hls hsr hme heb hL hR
  obtain ⟨q1, q2, q3, q4⟩ := rot_parts (mid := (a + b) / 2) h1 h2 hrot (by omega) ha hsm hme heb
  obtain ⟨q5, q6⟩ := rot_lr (mid := (a + b) / 2) hLR hrot (by omega) ha hsm hme heb
  exact ⟨q1, q2, q3, q4, q5, q6, rot_cross (mid := (a + b) / 2) hx hrot (by omega) ha hsm hme heb⟩
/-- Behind the left half's merge the right half is as it was. -/
theorem Cut.right {a s mid e b : Nat} {d d' : Array α} (h : Cut R idx a s mid e b d) (hp : PermIn a mid d d') : SortedIn R mid e d' ∧ SortedIn R e b d' ∧ LR idx mid e b d' ∨ e < mid := by
  rcases Nat.lt_or_ge e mid with he | he
  · exact .inr he
  · refine .inl ⟨?_, ?_, ?_⟩
    · exact so_rest h.p3 fun k hk => hp.2.1 k (.inr hk)
    · exact so_rest h.p4 fun k hk => hp.2.1 k (.inr (by omega))
    · intro i j i1 i2 j1 j2
      rw [hp.2.1 i (.inr i1), hp.2.1 j (.inr (by omega))]
      exact h.l2 i j i1 i2 j1 j2
/-- The left half: merged by a call, or sorted already. -/
theorem Cut.left_none {a s mid e b : Nat} {d : Array α} (h : Cut R idx a s mid e b d) (hc : s ≤ a ∨ mid ≤ s) : Mrg R a mid d d := by
  refine ⟨permIn_refl _ _ _, ?_⟩
  rcases hc with hc | hc
  · exact so_sub h.p2 hc (Nat.le_refl _)
  · exact so_sub h.p1 (Nat.le_refl _) hc
theorem right_none {mid e b : Nat} {d : Array α} (h3 : SortedIn R mid e d) (h4 : SortedIn R e b d) (hc : e ≤ mid ∨ b ≤ e) : Mrg R mid b d d := by
  refine ⟨permIn_refl _ _ _, ?_⟩
  rcases hc with hc | hc
  · exact so_sub h4 hc (Nat.le_refl _)
  · exact so_sub h3 (Nat.le_refl _) hc
theorem Cut.done {a s mid e b : Nat} {d0 d d1 d2 : Array α} (h : Cut R idx a s mid e b d) (ham : a ≤ mid) (hmb : mid ≤ b) (hb : b ≤ d.size) (h0 : PermIn a b d0 d) (m1 : Mrg R a mid d d1) (m2 : Mrg R mid b d1 d2) : Mrg R a b d0 d2 := by
  have hb1 : b ≤ d1.size := by rw [m1.1.1]; exact hb
  refine ⟨permIn_trans _ _ _ _ _ h0 (permIn_trans _ _ _ _ _ (permIn_mono _ _ _ _ _ _ (Nat.le_refl _) hmb hb m1.1) (permIn_mono _ _ _ _ _ _ ham (Nat.le_refl _) hb1 m2.1)), halves ham hmb hb h.cross m1.1 m1.2 m2.1 m2.2⟩
end
end Go.Proofs.Ytanihbflgolciaa
/- slices' swapRange and rotate at ints (a stable sort by counted's closure): contracts. -/
namespace Go.Proofs.Ytanihbflgolciaa
open Go.RowKit Go.Lib Go.Sort
set_option linter.unusedVariables false
set_option maxRecDepth 100000
set_option maxHeartbeats 4000000 in
theorem fSwR_any (blk c : Nat) (f : Value) (d0 dk : Array (Fin 256)) (w0 w : World) (R : Row1 encF w0 blk 0 d0) (hs : dk.size = d0.size) (S : SW encF w0 blk 0 dk w) (a b n N : Nat) (hN : dk.size = N) (ha : a + n ≤ N) (hb : b + n ≤ N) (hN2 : N ≤ 1000) :
    Calls Try.prog 69 #[.slice (some ⟨blk, 0, none⟩) N c, .int .i64 a, .int .i64 b, .int .i64 n, f] w fun e w' => e = .returned (.tuple #[]) ∧ SW encF w0 blk 0 (swR a b n dk) w' := by
  have mixed : Try.prog.follows .mixedOrders = true := by kernel_rfl
  have hcl0 := R.hO.cells
  simp only [Value.cells] at hcl0
  have hst := R.hO.store Try.prog
  have HS0 : Hid (SW encF w0 blk 0 (swR a b 0 dk) w) := S
  have HN := Lib.hid hN
  have HR := Lib.hid R
  have Hs := Lib.hid hs
  clear S hN R hs
  go_enter Try.func69, Try.ntmps69
  go_wp2
  go_loopw [10] (fun vi wr => ∃ (i : Nat), i ≤ n ∧ vi = .int .i64 i ∧ Hid (SW encF w0 blk 0 (swR a b i dk) wr)) (fun vi _ => n - (RowKit.intOf vi).toNat)
  case atStart => exact ⟨0, Nat.zero_le _, rfl, HS0⟩
  case round =>
    clear HS0
    obtain ⟨i, hi, rfl, HS⟩ := hrel
    by_cases hlt : i < n
    · obtain ⟨iN, hiN⟩ : ∃ q, q = a + i := ⟨_, rfl⟩
      obtain ⟨jN, hjN⟩ : ∃ q, q = b + i := ⟨_, rfl⟩
      have HSZ : Hid ((swR a b i dk).size = N) := by show _ = _; rw [swR_size]; exact HN.out
      have ea : ((a : Int) + (i : Int)).toNat = iN := by omega
      have pa : (0 : Int) ≤ (a : Int) + (i : Int) := by omega
      have ba : (a : Int) + (i : Int) < (N : Int) := by omega
      have ra : IntKind.i64.wrap ((a : Int) + (i : Int)) = (a : Int) + (i : Int) := by rw [IntKind.wrap_i64]; omega
      have eb : ((b : Int) + (i : Int)).toNat = jN := by omega
      have pb : (0 : Int) ≤ (b : Int) + (i : Int) := by omega
      have bb : (b : Int) + (i : Int) < (N : Int) := by omega
      have rb : IntKind.i64.wrap ((b : Int) + (i : Int)) = (b : Int) + (i : Int) := by rw [IntKind.wrap_i64]; omega
      have HNX : Hid (swR a b (i + 1) dk = swp (swR a b i dk) iN jN) := by show _ = _; rw [hiN, hjN]; rfl
      have hd0 : (swR a b i dk).size = d0.size := by rw [swR_size]; exact Hs.out
      have l1 : iN < (swR a b i dk).size := by have := HSZ.out; omega
      have l2 : jN < (swR a b i dk).size := by have := HSZ.out; omega
      have c1 := HS.out.c1 HR.out hd0 iN l1
      have c2 := HS.out.c1 HR.out hd0 jN l2
      have f1 := HS.out.f1 HR.out hd0 iN l1
      have f2 := HS.out.f1 HR.out hd0 jN l2
      obtain ⟨x, hx⟩ : ∃ x, x = (swR a b i dk)[iN]! := ⟨_, rfl⟩
      obtain ⟨y, hy⟩ : ∃ y, y = (swR a b i dk)[jN]! := ⟨_, rfl⟩
      obtain ⟨u, c3⟩ := HS.out.c2 HR.out hd0 iN jN l1 l2 (encF y)
      have H3 : Hid (SW encF w0 blk 0 (swp (swR a b i dk) iN jN) ((wr.setCell ⟨blk, 0 + iN, none⟩ (encF y)).setCell ⟨blk, 0 + jN, none⟩ (encF x)).drew) := by rw [hx, hy]; exact HS.out.swapped HR.out iN jN l1 l2
      rw [← hx] at c1
      rw [← hy] at c2
      simp only [Nat.zero_add] at c1 c2 f1 f2 c3 H3
      clear HS hx hy hiN hjN HSZ hd0 l1 l2
      go_wp2_with fail
      go_big_region_o
      generalize ((wr.setCell ⟨blk, iN, none⟩ (encF y)).setCell ⟨blk, jN, none⟩ (encF x)).drew = w3 at H3 ⊢
      clear c1 c2 c3 f1 f2 ea eb
      go_wp2
      go_roundw
      case rel => exact ⟨i + 1, by omega, by go_num, by show Hid (SW _ _ _ _ _ _); rw [HNX.out]; exact H3⟩
      case measure => simp [RowKit.intOf]; omega
    · obtain rfl : i = n := by omega
      go_wp2
      go_end0
      exact ⟨rfl, HS.out⟩
set_option maxHeartbeats 4000000 in
theorem fRot_any (blk c : Nat) (f : Value) (d0 dk : Array (Fin 256)) (w0 w : World) (R : Row1 encF w0 blk 0 d0) (hs : dk.size = d0.size) (S : SW encF w0 blk 0 dk w) (a m b N : Nat) (hN : dk.size = N) (ham : a < m) (hmb : m < b) (hb : b ≤ N) (hN2 : N ≤ 1000) :
    Calls Try.prog 56 #[.slice (some ⟨blk, 0, none⟩) N c, .int .i64 a, .int .i64 m, .int .i64 b, f] w fun e w' => e = .returned (.tuple #[]) ∧ ∃ d', Rot a m b dk d' ∧ SW encF w0 blk 0 d' w' := by
  have HS0 := Lib.hid S
  have HN := Lib.hid hN
  have HR := Lib.hid R
  have Hs := Lib.hid hs
  clear S hN R hs
  go_enter Try.func56, Try.ntmps56
  go_wp2
  go_loopw [10, 11] (fun vi vj wr => ∃ (i j : Nat) (dj : Array (Fin 256)), 0 < i ∧ 0 < j ∧ i ≤ m - a ∧ j ≤ b - m ∧ vi = .int .i64 i ∧ vj = .int .i64 j ∧ Hid (dj.size = N) ∧ Hid (SW encF w0 blk 0 dj wr) ∧ Hid (∀ d', Rot (m - i) m (m + j) dj d' → Rot a m b dk d')) (fun vi vj _ => (RowKit.intOf vi).toNat + (RowKit.intOf vj).toNat)
  case atStart => exact ⟨m - a, b - m, dk, by omega, by omega, Nat.le_refl _, Nat.le_refl _, by go_num, by go_num, HN, HS0, (show Hid _ from fun d' h => by rw [show m - (m - a) = a by omega, show m + (b - m) = b by omega] at h; exact h)⟩
  case round =>
    clear HS0
    obtain ⟨i, j, dj, hi0, hj0, hi, hj, rfl, rfl, HZ, HS, HT⟩ := hrel
    have HD : Hid (dj.size = d0.size) := by show _ = _; rw [HZ.out, ← HN.out]; exact Hs.out
    have e1 : (m : Int) - (i : Int) = ((m - i : Nat) : Int) := by omega
    rcases Nat.lt_trichotomy i j with hij | hij | hij
    · have hne : ((i : Int) != (j : Int)) = true := by simp; omega
      have hgt : ¬ (j : Int) < (i : Int) := by omega
      have e2 : (m : Int) + (j : Int) - (i : Int) = ((m + j - i : Nat) : Int) := by omega
      have HC := Lib.hid (fSwR_any blk c f d0 dj w0 wr HR.out HD.out HS.out (m - i) (m + j - i) i N HZ.out (by omega) (by omega) hN2)
      have HNX : Hid (∀ d', Rot (m - i) m (m + (j - i)) (swR (m - i) (m + j - i) i dj) d' → Rot a m b dk d') := fun d' h => HT.out d' (rot_right (by omega) hij (by rw [HZ.out]; omega) h)
      have HZ2 : Hid ((swR (m - i) (m + j - i) i dj).size = N) := by show _ = _; rw [swR_size]; exact HZ.out

      go_wp2_with (go_at_call 69; (with_reducible refine HC.out.mono ?_); rintro e w2 ⟨rfl, hS2⟩; have HS2 := Lib.hid hS2; clear hS2)
      go_roundw
      case rel => exact ⟨i, j - i, _, hi0, by omega, hi, by omega, rfl, by go_num, HZ2, HS2, HNX⟩
      case measure => simp [RowKit.intOf]; omega
    · subst hij
      have HC := Lib.hid (fSwR_any blk c f d0 dj w0 wr HR.out HD.out HS.out (m - i) m i N HZ.out (by omega) (by omega) hN2)

      have HF : Hid (Rot a m b dk (swR (m - i) m i dj)) := HT.out _ (rot_end (by omega) (by rw [HZ.out]; omega))
      go_wp2_with (go_at_call 69; (with_reducible refine HC.out.mono ?_); rintro e w2 ⟨rfl, hS2⟩; have HS2 := Lib.hid hS2; clear hS2)
      go_end0
      exact ⟨rfl, _, HF.out, HS2.out⟩
    · have hne : ((i : Int) != (j : Int)) = true := by simp; omega
      have hgt : (j : Int) < (i : Int) := by omega
      have HC := Lib.hid (fSwR_any blk c f d0 dj w0 wr HR.out HD.out HS.out (m - i) m j N HZ.out (by omega) (by omega) hN2)

      have HNX : Hid (∀ d', Rot (m - (i - j)) m (m + j) (swR (m - i) m j dj) d' → Rot a m b dk d') := fun d' h => HT.out d' (rot_left (by omega) hij (by rw [HZ.out]; omega) h)
      have HZ2 : Hid ((swR (m - i) m j dj).size = N) := by show _ = _; rw [swR_size]; exact HZ.out
      go_wp2_with (go_at_call 69; (with_reducible refine HC.out.mono ?_); rintro e w2 ⟨rfl, hS2⟩; have HS2 := Lib.hid hS2; clear hS2)
      go_roundw
      case rel => exact ⟨i - j, j, _, by omega, hj0, by omega, hj, by go_num, rfl, HZ2, HS2, HNX⟩
      case measure => simp [RowKit.intOf]; omega
end Go.Proofs.Ytanihbflgolciaa
/- slices' symMerge at ints: its contract. -/
namespace Go.Proofs.Ytanihbflgolciaa
open Go.RowKit Go.Lib Go.Sort
set_option linter.unusedVariables false
set_option maxRecDepth 100000
abbrev rF (cf : Fin 256 → Fin 256 → Int) : Fin 256 → Fin 256 → Bool := rB (ltOf cf) Fin.val
set_option maxHeartbeats 16000000 in
theorem fSymA_any (cf : Fin 256 → Fin 256 → Int) (hSW : SWO (ltOf cf)) (g : Nat) (cb : Array Value) (eg : ∀ args w, (callFunc g args).run Try.prog w = .ok (.enter g args) w) (blk c : Nat) (d0 dk : Array (Fin 256)) (w0 w : World) (hcmp : CmpLays1 Try.prog g cb encF cf blk 0 d0.size w0)
    (R : Row1 encF w0 blk 0 d0) (hs : dk.size = d0.size) (S : SW encF w0 blk 0 dk w) (a b N : Nat) (hN : dk.size = N) (hab : a + 1 < b) (hb : b ≤ N) (hN2 : N ≤ 1000) (h2 : SortedIn (rF cf) (a + 1) b dk) (hLR : LR Fin.val a (a + 1) b dk) :
    Calls Try.prog 47 #[.slice (some ⟨blk, 0, none⟩) N c, .int .i64 a, .int .i64 ((a + 1 : Nat) : Int), .int .i64 b, .func (.func g) #[] cb] w fun e w' => e = .returned (.tuple #[]) ∧ ∃ d', Mrg (rF cf) a b dk d' ∧ SW encF w0 blk 0 d' w' := by
  have mixed : Try.prog.follows .mixedOrders = true := by kernel_rfl
  have hcl0 := R.hO.cells
  simp only [Value.cells] at hcl0
  have hst := R.hO.store Try.prog
  have HS0 := Lib.hid S
  have HN := Lib.hid hN
  have HR := Lib.hid R
  have Hs := Lib.hid hs
  have HC := Lib.hid hcmp
  have H2 := Lib.hid h2
  have HLR := Lib.hid hLR
  have HSW := Lib.hid (rB_swo hSW Fin.val)
  clear S hN R hs hcmp h2 hLR hSW
  obtain ⟨m, hm⟩ : ∃ m, m = a + 1 := ⟨_, rfl⟩
  rw [← hm]
  have HM := Lib.hid hm
  have hma : (m : Int) - (a : Int) = 1 := by omega
  have hmb : m < b := by omega
  have ham : a < m := by omega
  clear hm
  go_enter Try.func47, Try.ntmps47
  go_wp2
  go_loopw [10, 11] (fun vi vj wr => ∃ (lo hi : Nat), vi = .int .i64 lo ∧ vj = .int .i64 hi ∧ m ≤ lo ∧ lo ≤ hi ∧ hi ≤ b ∧ Hid (SW encF w0 blk 0 dk wr) ∧ Hid ((m < lo → rF cf dk[lo - 1]! dk[a]! = true) ∧ (hi < b → rF cf dk[hi]! dk[a]! = false))) (fun vi vj _ => (RowKit.intOf vj).toNat - (RowKit.intOf vi).toNat)
  case atStart => exact ⟨m, b, rfl, rfl, Nat.le_refl _, by omega, Nat.le_refl _, HS0, (show Hid _ from ⟨fun h => absurd h (Nat.lt_irrefl _), fun h => absurd h (Nat.lt_irrefl _)⟩)⟩
  case round =>
    clear HS0
    obtain ⟨lo, hi, rfl, rfl, hml, hlh, hhb, HS, HB⟩ := hrel
    by_cases hlt : lo < hi
    · obtain ⟨h, hh⟩ : ∃ h, h = (lo + hi) / 2 := ⟨_, rfl⟩
      have zh : ((lo : Int) + (hi : Int)) / 2 = (h : Int) := by omega
      have hh1 : lo ≤ h := by omega
      have hh2 : h < hi := by omega
      clear hh
      have bh : (h : Int) < (N : Int) := by omega
      have ba : (a : Int) < (N : Int) := by omega
      have hd0 : Hid (dk.size = d0.size) := Hs
      have l1 := HS.out.cl HR.out Hs.out h (by rw [HN.out]; omega)
      have l2 := HS.out.cl HR.out Hs.out a (by rw [HN.out]; omega)
      have hc := HS.out.cmp HC.out Hs.out dk[h]! dk[a]!
      have HRB : Hid (rF cf dk[h]! dk[a]! = decide (cf dk[h]! dk[a]! < 0)) := rB_later (HLR.out a h (Nat.le_refl _) (by omega) (by have := HM.out; omega) (by omega))
      simp only [Nat.zero_add] at l1 l2
      obtain ⟨x, hx⟩ : ∃ x, x = dk[h]! := ⟨_, rfl⟩
      obtain ⟨y, hy⟩ : ∃ y, y = dk[a]! := ⟨_, rfl⟩
      rw [← hx] at l1
      rw [← hy] at l2
      rw [← hx, ← hy] at hc
      have HX := Lib.hid hx
      have HY := Lib.hid hy
      clear hx hy
      by_cases hv : cf x y < 0
      · have hd : decide (cf x y < 0) = true := decide_eq_true hv
        have HV : Hid (rF cf dk[h]! dk[a]! = true) := by show _ = _; rw [HRB.out, ← HX.out, ← HY.out]; exact hd
        go_wp2_with fail
        go_quiet_grown (first | (go_at_fn g; refine Calls.grown_of (hc _ _)))
        have S2 : Hid (SW encF w0 blk 0 dk (grow (wr.drewN nq) osq)) := HS.out.grown nq osq
        clear l1 l2 hc HS
        generalize grow (wr.drewN nq) osq = w2 at S2 ⊢
        clear nq osq
        go_wp2
        go_roundw
        case rel => exact ⟨h + 1, hi, by go_num, rfl, by omega, by omega, hhb, S2, (show Hid _ from ⟨fun _ => by rw [Nat.add_sub_cancel]; exact HV.out, HB.out.2⟩)⟩
        case measure => simp [RowKit.intOf]; omega
      · have hd : decide (cf x y < 0) = false := decide_eq_false hv
        have HV : Hid (rF cf dk[h]! dk[a]! = false) := by show _ = _; rw [HRB.out, ← HX.out, ← HY.out]; exact hd
        go_wp2_with fail
        go_quiet_grown (first | (go_at_fn g; refine Calls.grown_of (hc _ _)))
        have S2 : Hid (SW encF w0 blk 0 dk (grow (wr.drewN nq) osq)) := HS.out.grown nq osq
        clear l1 l2 hc HS
        generalize grow (wr.drewN nq) osq = w2 at S2 ⊢
        clear nq osq
        go_wp2
        go_roundw
        case rel => exact ⟨lo, h, rfl, by go_num, hml, hh1, by omega, S2, (show Hid _ from ⟨HB.out.1, fun _ => HV.out⟩)⟩
        case measure => simp [RowKit.intOf]; omega
    · obtain rfl : lo = hi := by omega
      have HF : Hid (Mrg (rF cf) a b dk (shU a (lo - 1 - a) dk)) := mrg_left HSW.out (by rw [HN.out]; exact hb) H2.out (by have := HM.out; omega) hhb (fun h => HB.out.1 (by have := HM.out; omega)) HB.out.2
      have HS1 : Hid (SW encF w0 blk 0 (shU a 0 dk) wr) := HS
      clear HS HB
      have HMM : Hid (m = a + 1) := HM
      obtain ⟨n, hn⟩ : ∃ n, n = lo - 1 - a := ⟨_, rfl⟩
      have hnl : (lo : Int) - 1 = (a : Int) + (n : Int) := by have := HM.out; omega
      have hnb : a + n + 1 ≤ b := by have := HM.out; omega
      rw [← hn] at HF
      clear hn
      go_wp2
      go_loopw [13] (fun vi wr => ∃ (i k : Nat), k = a + i ∧ i ≤ n ∧ vi = .int .i64 k ∧ Hid (SW encF w0 blk 0 (shU a i dk) wr)) (fun vi _ => a + n - (RowKit.intOf vi).toNat)
      case atStart => exact ⟨0, a, rfl, Nat.zero_le _, rfl, HS1⟩
      case round =>
        clear HS1
        obtain ⟨i, k, hk, hi, rfl, HS⟩ := hrel
        have HK := Lib.hid hk
        by_cases hlt2 : i < n
        · have hltz : (k : Int) < (a : Int) + (n : Int) := by omega
          obtain ⟨k1, hk1⟩ : ∃ q, q = k + 1 := ⟨_, rfl⟩
          have ea : ((k : Int) + 1).toNat = k1 := by omega
          have pa : (0 : Int) ≤ (k : Int) + 1 := by omega
          have ba : (k : Int) + 1 < (N : Int) := by omega
          have ra : IntKind.i64.wrap ((k : Int) + 1) = (k : Int) + 1 := by rw [IntKind.wrap_i64]; omega
          have bk : (k : Int) < (N : Int) := by omega
          have HNX : Hid (shU a (i + 1) dk = swp (shU a i dk) k k1) := by show _ = _; rw [hk1, hk]; rfl
          have hd0 : (shU a i dk).size = d0.size := by rw [shU_size]; exact Hs.out
          have l1 : k < (shU a i dk).size := by rw [shU_size, HN.out]; omega
          have l2 : k1 < (shU a i dk).size := by rw [shU_size, HN.out]; omega
          have c1 := HS.out.c1 HR.out hd0 k l1
          have c2 := HS.out.c1 HR.out hd0 k1 l2
          have f1 := HS.out.f1 HR.out hd0 k l1
          have f2 := HS.out.f1 HR.out hd0 k1 l2
          obtain ⟨x, hx⟩ : ∃ x, x = (shU a i dk)[k]! := ⟨_, rfl⟩
          obtain ⟨y, hy⟩ : ∃ y, y = (shU a i dk)[k1]! := ⟨_, rfl⟩
          obtain ⟨u, c3⟩ := HS.out.c2 HR.out hd0 k k1 l1 l2 (encF y)
          have H3 : Hid (SW encF w0 blk 0 (swp (shU a i dk) k k1) ((wr.setCell ⟨blk, 0 + k, none⟩ (encF y)).setCell ⟨blk, 0 + k1, none⟩ (encF x)).drew) := by rw [hx, hy]; exact HS.out.swapped HR.out k k1 l1 l2
          rw [← hx] at c1
          rw [← hy] at c2
          simp only [Nat.zero_add] at c1 c2 f1 f2 c3 H3
          have HK1 := Lib.hid hk1
          clear HS hx hy hk1 hk hd0 l1 l2
          go_wp2_with fail
          go_big_region_o
          generalize ((wr.setCell ⟨blk, k, none⟩ (encF y)).setCell ⟨blk, k1, none⟩ (encF x)).drew = w3 at H3 ⊢
          clear c1 c2 c3 f1 f2 ea
          go_wp2
          go_roundw
          case rel => exact ⟨i + 1, k + 1, by rw [HK.out]; rfl, by omega, by go_num, by show Hid (SW _ _ _ _ _ _); rw [HNX.out]; exact H3⟩
          case measure => have := HK.out; simp [RowKit.intOf]; omega
        · obtain rfl : i = n := by omega
          have hltz : ¬ (k : Int) < (a : Int) + (i : Int) := by omega
          clear hk
          go_wp2
          refine bodyPost_ret (results_none rfl _ _ _) rfl ?_
          exact ⟨rfl, _, HF.out, HS.out⟩
set_option maxHeartbeats 16000000 in
theorem fSymB_any (cf : Fin 256 → Fin 256 → Int) (hSW : SWO (ltOf cf)) (g : Nat) (cb : Array Value) (eg : ∀ args w, (callFunc g args).run Try.prog w = .ok (.enter g args) w) (blk c : Nat) (d0 dk : Array (Fin 256)) (w0 w : World) (hcmp : CmpLays1 Try.prog g cb encF cf blk 0 d0.size w0)
    (R : Row1 encF w0 blk 0 d0) (hs : dk.size = d0.size) (S : SW encF w0 blk 0 dk w) (a m N : Nat) (hN : dk.size = N) (ham : a + 1 < m) (hb : m + 1 ≤ N) (hN2 : N ≤ 1000) (h1 : SortedIn (rF cf) a m dk) (hLR : LR Fin.val a m (m + 1) dk) :
    Calls Try.prog 47 #[.slice (some ⟨blk, 0, none⟩) N c, .int .i64 a, .int .i64 m, .int .i64 ((m + 1 : Nat) : Int), .func (.func g) #[] cb] w fun e w' => e = .returned (.tuple #[]) ∧ ∃ d', Mrg (rF cf) a (m + 1) dk d' ∧ SW encF w0 blk 0 d' w' := by
  have mixed : Try.prog.follows .mixedOrders = true := by kernel_rfl
  have hcl0 := R.hO.cells
  simp only [Value.cells] at hcl0
  have hst := R.hO.store Try.prog
  have HS0 := Lib.hid S
  have HN := Lib.hid hN
  have HR := Lib.hid R
  have Hs := Lib.hid hs
  have HC := Lib.hid hcmp
  have H1 := Lib.hid h1
  have HLR := Lib.hid hLR
  have HSW := Lib.hid (rB_swo hSW Fin.val)
  clear S hN R hs hcmp h1 hLR hSW
  obtain ⟨b, hbm⟩ : ∃ b, b = m + 1 := ⟨_, rfl⟩
  rw [← hbm]
  have HM := Lib.hid hbm
  have zb : (b : Int) - (m : Int) = 1 := by omega
  have zm : ((m : Int) - (a : Int) == 1) = false := by simp; omega
  have hmb : m < b := by omega
  have hbN : b ≤ N := by omega
  clear hbm
  go_enter Try.func47, Try.ntmps47
  go_wp2
  go_loopw [14, 15] (fun vi vj wr => ∃ (lo hi : Nat), vi = .int .i64 lo ∧ vj = .int .i64 hi ∧ a ≤ lo ∧ lo ≤ hi ∧ hi ≤ m ∧ Hid (SW encF w0 blk 0 dk wr) ∧ Hid ((a < lo → rF cf dk[m]! dk[lo - 1]! = false) ∧ (hi < m → rF cf dk[m]! dk[hi]! = true))) (fun vi vj _ => (RowKit.intOf vj).toNat - (RowKit.intOf vi).toNat)
  case atStart => exact ⟨a, m, rfl, rfl, Nat.le_refl _, by omega, Nat.le_refl _, HS0, (show Hid _ from ⟨fun h => absurd h (Nat.lt_irrefl _), fun h => absurd h (Nat.lt_irrefl _)⟩)⟩
  case round =>
    clear HS0
    obtain ⟨lo, hi, rfl, rfl, hal, hlh, hhm, HS, HB⟩ := hrel
    by_cases hlt : lo < hi
    · obtain ⟨h, hh⟩ : ∃ h, h = (lo + hi) / 2 := ⟨_, rfl⟩
      have zh : ((lo : Int) + (hi : Int)) / 2 = (h : Int) := by omega
      have hh1 : lo ≤ h := by omega
      have hh2 : h < hi := by omega
      clear hh
      have bh : (h : Int) < (N : Int) := by omega
      have bm : (m : Int) < (N : Int) := by omega
      have l1 := HS.out.cl HR.out Hs.out m (by rw [HN.out]; omega)
      have l2 := HS.out.cl HR.out Hs.out h (by rw [HN.out]; omega)
      have hc := HS.out.cmp HC.out Hs.out dk[m]! dk[h]!
      have HRB : Hid (rF cf dk[m]! dk[h]! = decide (cf dk[m]! dk[h]! < 0)) := rB_later (HLR.out h m (by omega) (by omega) (Nat.le_refl _) (by omega))
      simp only [Nat.zero_add] at l1 l2
      obtain ⟨x, hx⟩ : ∃ x, x = dk[m]! := ⟨_, rfl⟩
      obtain ⟨y, hy⟩ : ∃ y, y = dk[h]! := ⟨_, rfl⟩
      rw [← hx] at l1
      rw [← hy] at l2
      rw [← hx, ← hy] at hc
      have HX := Lib.hid hx
      have HY := Lib.hid hy
      clear hx hy
      by_cases hv : cf x y < 0
      · have hd : decide (cf x y < 0) = true := decide_eq_true hv
        have HV : Hid (rF cf dk[m]! dk[h]! = true) := by show _ = _; rw [HRB.out, ← HX.out, ← HY.out]; exact hd
        go_wp2_with fail
        go_quiet_grown (first | (go_at_fn g; refine Calls.grown_of (hc _ _)))
        have S2 : Hid (SW encF w0 blk 0 dk (grow (wr.drewN nq) osq)) := HS.out.grown nq osq
        clear l1 l2 hc HS
        generalize grow (wr.drewN nq) osq = w2 at S2 ⊢
        clear nq osq
        go_wp2
        go_roundw
        case rel => exact ⟨lo, h, rfl, by go_num, hal, hh1, by omega, S2, (show Hid _ from ⟨HB.out.1, fun _ => HV.out⟩)⟩
        case measure => simp [RowKit.intOf]; omega
      · have hd : decide (cf x y < 0) = false := decide_eq_false hv
        have HV : Hid (rF cf dk[m]! dk[h]! = false) := by show _ = _; rw [HRB.out, ← HX.out, ← HY.out]; exact hd
        go_wp2_with fail
        go_quiet_grown (first | (go_at_fn g; refine Calls.grown_of (hc _ _)))
        have S2 : Hid (SW encF w0 blk 0 dk (grow (wr.drewN nq) osq)) := HS.out.grown nq osq
        clear l1 l2 hc HS
        generalize grow (wr.drewN nq) osq = w2 at S2 ⊢
        clear nq osq
        go_wp2
        go_roundw
        case rel => exact ⟨h + 1, hi, by go_num, rfl, by omega, by omega, hhm, S2, (show Hid _ from ⟨fun _ => by rw [Nat.add_sub_cancel]; exact HV.out, HB.out.2⟩)⟩
        case measure => simp [RowKit.intOf]; omega
    · obtain rfl : lo = hi := by omega
      have HF : Hid (Mrg (rF cf) a b dk (shD m (m - lo) dk)) := by
        show Mrg _ _ _ _ _
        rw [HM.out]
        exact mrg_right HSW.out (by rw [HN.out]; omega) H1.out hal hhm HB.out.1 HB.out.2
      have HS1 : Hid (SW encF w0 blk 0 (shD m 0 dk) wr) := HS
      clear HS HB
      obtain ⟨n, hn⟩ : ∃ n, n = m - lo := ⟨_, rfl⟩
      rw [← hn] at HF
      have hn2 : n + lo = m := by omega
      clear hn
      go_wp2
      go_loopw [17] (fun vi wr => ∃ (i k : Nat), k + i = m ∧ i ≤ n ∧ vi = .int .i64 k ∧ Hid (SW encF w0 blk 0 (shD m i dk) wr)) (fun vi _ => (RowKit.intOf vi).toNat)
      case atStart => exact ⟨0, m, by omega, Nat.zero_le _, rfl, HS1⟩
      case round =>
        clear HS1
        obtain ⟨i, k, hk, hi, rfl, HS⟩ := hrel
        have HK := Lib.hid hk
        by_cases hlt2 : i < n
        · have hltz : (lo : Int) < (k : Int) := by omega
          obtain ⟨k1, hk1⟩ : ∃ q, q + 1 = k := ⟨k - 1, by omega⟩
          have ea : ((k : Int) - 1).toNat = k1 := by omega
          have pa : (0 : Int) ≤ (k : Int) - 1 := by omega
          have ba : (k : Int) - 1 < (N : Int) := by omega
          have ra : IntKind.i64.wrap ((k : Int) - 1) = (k : Int) - 1 := by rw [IntKind.wrap_i64]; omega
          have bk : (k : Int) < (N : Int) := by omega
          have HNX : Hid (shD m (i + 1) dk = swp (shD m i dk) k k1) := by
            show _ = _
            rw [shD, show m - i = k by omega, show k - 1 = k1 by omega]
          have hd0 : (shD m i dk).size = d0.size := by rw [shD_size]; exact Hs.out
          have l1 : k < (shD m i dk).size := by rw [shD_size, HN.out]; omega
          have l2 : k1 < (shD m i dk).size := by rw [shD_size, HN.out]; omega
          have c1 := HS.out.c1 HR.out hd0 k l1
          have c2 := HS.out.c1 HR.out hd0 k1 l2
          have f1 := HS.out.f1 HR.out hd0 k l1
          have f2 := HS.out.f1 HR.out hd0 k1 l2
          obtain ⟨x, hx⟩ : ∃ x, x = (shD m i dk)[k]! := ⟨_, rfl⟩
          obtain ⟨y, hy⟩ : ∃ y, y = (shD m i dk)[k1]! := ⟨_, rfl⟩
          obtain ⟨u, c3⟩ := HS.out.c2 HR.out hd0 k k1 l1 l2 (encF y)
          have H3 : Hid (SW encF w0 blk 0 (swp (shD m i dk) k k1) ((wr.setCell ⟨blk, 0 + k, none⟩ (encF y)).setCell ⟨blk, 0 + k1, none⟩ (encF x)).drew) := by rw [hx, hy]; exact HS.out.swapped HR.out k k1 l1 l2
          rw [← hx] at c1
          rw [← hy] at c2
          simp only [Nat.zero_add] at c1 c2 f1 f2 c3 H3
          have HK1 := Lib.hid hk1
          clear HS hx hy hk1 hk hd0 l1 l2
          go_wp2_with fail
          go_big_region_o
          generalize ((wr.setCell ⟨blk, k, none⟩ (encF y)).setCell ⟨blk, k1, none⟩ (encF x)).drew = w3 at H3 ⊢
          clear c1 c2 c3 f1 f2 ea
          go_wp2
          go_roundw
          case rel => exact ⟨i + 1, k1, by have := HK.out; have := HK1.out; omega, by omega, by have := HK1.out; go_num, by show Hid (SW _ _ _ _ _ _); rw [HNX.out]; exact H3⟩
          case measure => have := HK1.out; simp [RowKit.intOf]; omega
        · obtain rfl : i = n := by omega
          have hltz : ¬ (lo : Int) < (k : Int) := by omega
          clear hk
          go_wp2
          refine bodyPost_ret (results_none rfl _ _ _) rfl ?_
          exact ⟨rfl, _, HF.out, HS.out⟩
end Go.Proofs.Ytanihbflgolciaa
/- slices.SortStableFunc at ints, however many: sorted, equal ones as they came. -/
namespace Go.Proofs.Ytanihbflgolciaa
open Go.RowKit Go.Lib Go.Sort
set_option linter.unusedVariables false
set_option maxRecDepth 100000
/-- What is known all the while. -/
structure Sk (d0 : Array (Fin 256)) (w0 : World) (blk N : Nat) (dk : Array (Fin 256)) (w : World) : Prop where
  sz : dk.size = N
  sw : SW encF w0 blk 0 dk w
set_option maxHeartbeats 32000000 in
theorem fStbG_any (cf : Fin 256 → Fin 256 → Int) (hSW : SWO (ltOf cf)) (g : Nat) (cb : Array Value) (eg : ∀ args w, (callFunc g args).run Try.prog w = .ok (.enter g args) w) (blk c : Nat) (d : Array (Fin 256)) (w : World) (hcmp : CmpLays1 Try.prog g cb encF cf blk 0 d.size w)
    (R : Row1 encF w blk 0 d) (N : Nat) (hN : d.size = N) (hN2 : N ≤ 1000) (hasc : ∀ p q, p < q → q < N → (d[p]!).val < (d[q]!).val)
    (hsy : ∀ (dk : Array (Fin 256)) (W : World) (a m b : Nat), Sk d w blk N dk W → a < m → m < b → b ≤ N → SortedIn (rF cf) a m dk → SortedIn (rF cf) m b dk → LR Fin.val a m b dk → Calls Try.prog 47 #[.slice (some ⟨blk, 0, none⟩) N c, .int .i64 a, .int .i64 m, .int .i64 b, .func (.func g) #[] cb] W fun e w' => e = .returned (.tuple #[]) ∧ ∃ d', Mrg (rF cf) a b dk d' ∧ SW encF w blk 0 d' w') :
    Calls Try.prog 34 #[.slice (some ⟨blk, 0, none⟩) N c, .int .i64 N, .func (.func g) #[] cb] w fun e w' => e = .returned (.tuple #[]) ∧ ∃ d', PermIn 0 N d d' ∧ SortedIn (rF cf) 0 N d' ∧ SW encF w blk 0 d' w' := by
  have HIN : Hid (∀ (dk : Array (Fin 256)) (W : World) (a b : Nat), Sk d w blk N dk W → a ≤ b → b ≤ N → Calls Try.prog 46 #[.slice (some ⟨blk, 0, none⟩) N c, .int .i64 a, .int .i64 b, .func (.func g) #[] cb] W fun e w' => e = .returned (.tuple #[]) ∧ SW encF w blk 0 (insertionSort (ltOf cf) dk a b) w') := fun dk W a b hk hab hb => by
    have := Any.insertionSortCmpFunc_s Try.ins encF cf g cb blk 0 c a b d dk w W eg hcmp R (by rw [hk.sz]; exact hN) hk.sw hab (by rw [hk.sz]; exact hb) (by rw [hk.sz]; omega)
    rw [hk.sz] at this
    exact this
  have HSY := Lib.hid hsy
  have HIS : Hid (∀ (t : Nat) (dk : Array (Fin 256)) (b : Nat), Fst (rF cf) Fin.val 20 N t d dk → dk.size = N → t * 20 ≤ b → b ≤ N → PermIn (t * 20) b dk (insertionSort (ltOf cf) dk (t * 20) b) ∧ SortedIn (rF cf) (t * 20) b (insertionSort (ltOf cf) dk (t * 20) b)) := fun t dk b hF hz h1 h2 =>
    ins_stable hSW h1 (by rw [hz]; exact h2) fun p q hp hpq hq => by
      rw [hF.rest p hp, hF.rest q (by omega)]
      exact hasc p q hpq (by omega)
  have HF0 : Hid (Fst (rF cf) Fin.val 20 N 0 d d) := Fst.start (ord_asc hasc)
  have HK0 : Hid (Sk d w blk N d w) := ⟨hN, SW.start R.hH⟩
  clear hcmp R hN hasc hSW hsy
  obtain ⟨f, hf⟩ : ∃ f, f = Value.func (.func g) #[] cb := ⟨_, rfl⟩
  rw [← hf] at HIN HSY ⊢
  clear hf eg
  go_enter Try.func34, Try.ntmps34
  go_wp2
  go_loopw [7, 8] (fun va vb wr => ∃ (t a : Nat) (dk : Array (Fin 256)), Hid (a = t * 20) ∧ a ≤ N ∧ va = .int .i64 a ∧ vb = .int .i64 ((a : Int) + 20) ∧ Hid (Fst (rF cf) Fin.val 20 N t d dk) ∧ Hid (Sk d w blk N dk wr)) (fun va _ _ => N - (RowKit.intOf va).toNat)
  case atStart => exact ⟨0, 0, d, (show Hid _ from rfl), Nat.zero_le _, rfl, rfl, HF0, HK0⟩
  case round =>
    clear HF0 HK0
    obtain ⟨t, a, dk, HA, haN, rfl, rfl, HF, HK⟩ := hrel
    by_cases hlt : a + 20 ≤ N
    · have z1 : (a : Int) + 20 ≤ (N : Int) := by omega
      have HC := Lib.hid (HIN.out dk wr a (a + 20) HK.out (by omega) hlt)
      have HP : Hid (PermIn a (a + 20) dk (insertionSort (ltOf cf) dk a (a + 20)) ∧ SortedIn (rF cf) a (a + 20) (insertionSort (ltOf cf) dk a (a + 20))) := by
        have := HIS.out t dk (a + 20) HF.out HK.out.sz (by have := HA.out; omega) hlt
        rw [← HA.out] at this
        exact this
      have HF2 : Hid (Fst (rF cf) Fin.val 20 N (t + 1) d (insertionSort (ltOf cf) dk a (a + 20))) := by
        have h1 := HP.out
        rw [HA.out] at h1 ⊢
        exact HF.out.step (by have := HA.out; omega) (by rw [HK.out.sz]; exact Nat.le_refl _) h1.1 h1.2
      have HZ2 : Hid ((insertionSort (ltOf cf) dk a (a + 20)).size = N) := by show _ = _; rw [HP.out.1.1]; exact HK.out.sz
      clear HP
      generalize insertionSort (ltOf cf) dk a (a + 20) = dn at *
      rw [show (((a + 20 : Nat) : Int)) = (a : Int) + 20 by omega] at HC
      go_wp2_with (go_at_call 46; (with_reducible refine HC.out.mono ?_); rintro e w2 ⟨rfl, hs2⟩; have HS2 := Lib.hid hs2; clear hs2)
      go_roundw
      case rel => exact ⟨t + 1, a + 20, dn, (show Hid _ from by show _ = _; rw [HA.out]; omega), hlt, by go_num, by go_num, HF2, ⟨HZ2.out, HS2.out⟩⟩
      case measure => simp [RowKit.intOf]; omega
    · have z1 : ¬ (a : Int) + 20 ≤ (N : Int) := by omega
      have HC := Lib.hid (HIN.out dk wr a N HK.out haN (Nat.le_refl _))
      have HP : Hid (PermIn a N dk (insertionSort (ltOf cf) dk a N) ∧ SortedIn (rF cf) a N (insertionSort (ltOf cf) dk a N)) := by
        have := HIS.out t dk N HF.out HK.out.sz (by have := HA.out; omega) (Nat.le_refl _)
        rw [← HA.out] at this
        exact this
      have HD : Hid (BlkS (rF cf) 20 N (insertionSort (ltOf cf) dk a N) ∧ Ord Fin.val 20 N (insertionSort (ltOf cf) dk a N) ∧ PermIn 0 N d (insertionSort (ltOf cf) dk a N)) := by
        have h1 := HP.out
        rw [HA.out] at h1 ⊢
        exact HF.out.done (by have := HA.out; omega) (by have := HA.out; omega) (by rw [HK.out.sz]; exact Nat.le_refl _) h1.1 h1.2
      have HZ2 : Hid ((insertionSort (ltOf cf) dk a N).size = N) := by show _ = _; rw [HP.out.1.1]; exact HK.out.sz
      clear HP
      generalize insertionSort (ltOf cf) dk a N = dn at *
      go_wp2_with (go_at_call 46; (with_reducible refine HC.out.mono ?_); rintro e w2 ⟨rfl, hs2⟩; have HS2 := Lib.hid hs2; clear hs2)
      have HK2 : Hid (Sk d w blk N dn w2) := ⟨HZ2.out, HS2.out⟩
      clear HC HF HK HZ2 HS2 HIN HIS HA
      obtain ⟨HB, HO, HPM⟩ : Hid (BlkS (rF cf) 20 N dn) ∧ Hid (Ord Fin.val 20 N dn) ∧ Hid (PermIn 0 N d dn) := ⟨HD.out.1, HD.out.2.1, HD.out.2.2⟩
      clear HD z1 hlt haN
      go_loopw [6] (fun vz wr => ∃ (z : Nat) (dk : Array (Fin 256)), 20 ≤ z ∧ z ≤ 2000 ∧ vz = .int .i64 z ∧ Hid (BlkS (rF cf) z N dk) ∧ Hid (Ord Fin.val z N dk) ∧ Hid (PermIn 0 N d dk) ∧ Hid (Sk d w blk N dk wr)) (fun vz _ => N - (RowKit.intOf vz).toNat)
      case atStart => exact ⟨20, dn, Nat.le_refl _, by omega, rfl, HB, HO, HPM, HK2⟩
      case round =>
        clear HB HO HPM HK2
        obtain ⟨z, dz, hz20, hz2, rfl, HB, HO, HPM, HK⟩ := hrel
        by_cases hzn : z < N
        · have zz : (z : Int) < (N : Int) := by omega
          have HG0 : Hid (Stg (rF cf) Fin.val z N 0 dz dz) := Stg.start HO.out
          go_wp2
          go_loopw [7, 8] (fun va vb wr => ∃ (t a : Nat) (dk : Array (Fin 256)), Hid (a = t * (2 * z)) ∧ a ≤ N ∧ va = .int .i64 a ∧ vb = .int .i64 ((a : Int) + 2 * (z : Int)) ∧ Hid (Stg (rF cf) Fin.val z N t dz dk) ∧ Hid (Sk d w blk N dk wr)) (fun va _ _ => N - (RowKit.intOf va).toNat)
          case atStart => exact ⟨0, 0, dz, (show Hid _ from (by show 0 = 0 * (2 * z); omega)), Nat.zero_le _, rfl, by go_num, HG0, HK⟩
          case round =>
            clear HG0 HK
            obtain ⟨t, a, dk, HA, haN, rfl, rfl, HG, HK⟩ := hrel
            by_cases hlt : a + 2 * z ≤ N
            · have z1 : (a : Int) + 2 * (z : Int) ≤ (N : Int) := by omega
              have HN3 : Hid (SortedIn (rF cf) a (a + z) dk ∧ SortedIn (rF cf) (a + z) (a + 2 * z) dk ∧ LR Fin.val a (a + z) (a + 2 * z) dk) := by
                have h1 := HG.out.next (b := a + 2 * z) HB.out HO.out hlt (by have := HA.out; omega) (by have := HA.out; omega)
                rw [← HA.out] at h1
                exact h1
              have HC := Lib.hid (HSY.out dk wr a (a + z) (a + 2 * z) HK.out (by omega) (by omega) hlt HN3.out.1 HN3.out.2.1 HN3.out.2.2)
              have HST : Hid (∀ d', Mrg (rF cf) a (a + 2 * z) dk d' → Stg (rF cf) Fin.val z N (t + 1) dz d' ∧ d'.size = N) := fun d' hm => by
                refine ⟨?_, by rw [hm.1.1]; exact HK.out.sz⟩
                have hm1 := hm.1
                have hm2 := hm.2
                rw [HA.out] at hm1 hm2
                exact HG.out.step (by have := HA.out; omega) (by rw [HK.out.sz]; exact Nat.le_refl _) hm1 hm2
              clear HN3
              rw [show (((a + z : Nat) : Int)) = (a : Int) + (z : Int) by omega, show (((a + 2 * z : Nat) : Int)) = (a : Int) + 2 * (z : Int) by omega] at HC
              go_wp2_with (go_at_call 47; (with_reducible refine HC.out.mono ?_); rintro e w4 ⟨rfl, d2, hm2, hs2⟩; have HM2 := Lib.hid hm2; have HS2 := Lib.hid hs2; clear hm2 hs2)
              go_roundw
              case rel => exact ⟨t + 1, a + 2 * z, d2, (show Hid _ from by show _ = _; rw [Nat.add_mul, Nat.one_mul, ← HA.out]), hlt, by go_num, by go_num, (HST.out d2 HM2.out).1, ⟨(HST.out d2 HM2.out).2, HS2.out⟩⟩
              case measure => simp [RowKit.intOf]; omega
            · have z1 : ¬ (a : Int) + 2 * (z : Int) ≤ (N : Int) := by omega
              have HDN : Hid (∀ d', Mrg (rF cf) a N dk d' → (BlkS (rF cf) (2 * z) N d' ∧ Ord Fin.val (2 * z) N d' ∧ PermIn 0 N dz d') ∧ d'.size = N) := fun d' hm => by
                refine ⟨?_, by rw [hm.1.1]; exact HK.out.sz⟩
                have hm1 := hm.1
                have hm2 := hm.2
                rw [HA.out] at hm1 hm2
                exact HG.out.done (by omega) (by have := HA.out; omega) (by have := HA.out; omega) (by rw [HK.out.sz]; exact Nat.le_refl _) hm1 hm2
              by_cases hm : a + z < N
              · have z3 : (a : Int) + (z : Int) < (N : Int) := by omega
                have HN3 : Hid (SortedIn (rF cf) a (a + z) dk ∧ SortedIn (rF cf) (a + z) N dk ∧ LR Fin.val a (a + z) N dk) := by
                  have h1 := HG.out.next (b := N) HB.out HO.out (Nat.le_refl _) (by have := HA.out; omega) (by have := HA.out; omega)
                  rw [← HA.out] at h1
                  exact h1
                have HC := Lib.hid (HSY.out dk wr a (a + z) N HK.out (by omega) hm (Nat.le_refl _) HN3.out.1 HN3.out.2.1 HN3.out.2.2)
                clear HN3
                rw [show (((a + z : Nat) : Int)) = (a : Int) + (z : Int) by omega] at HC
                go_wp2_with (go_at_call 47; (with_reducible refine HC.out.mono ?_); rintro e w4 ⟨rfl, d2, hm2, hs2⟩; have HM2 := Lib.hid hm2; have HS2 := Lib.hid hs2; clear hm2 hs2)
                go_roundw
                case rel => exact ⟨2 * z, d2, by omega, by omega, by go_num, (HDN.out d2 HM2.out).1.1, (HDN.out d2 HM2.out).1.2.1, permIn_trans _ _ _ _ _ HPM.out (HDN.out d2 HM2.out).1.2.2, ⟨(HDN.out d2 HM2.out).2, HS2.out⟩⟩
                case measure => simp [RowKit.intOf]; omega
              · have z3 : ¬ (a : Int) + (z : Int) < (N : Int) := by omega
                have HM2 : Hid (Mrg (rF cf) a N dk dk) := ⟨permIn_refl _ _ _, by
                  have := HG.out.tail HB.out (by have := HA.out; omega)
                  rw [← HA.out] at this
                  exact this⟩
                go_wp2
                go_roundw
                case rel => exact ⟨2 * z, dk, by omega, by omega, by go_num, (HDN.out dk HM2.out).1.1, (HDN.out dk HM2.out).1.2.1, permIn_trans _ _ _ _ _ HPM.out (HDN.out dk HM2.out).1.2.2, HK⟩
                case measure => simp [RowKit.intOf]; omega
        · have zz : ¬ (z : Int) < (N : Int) := by omega
          go_wp2
          go_end0
          exact ⟨rfl, dz, HPM.out, HB.out.all (by omega), HK.out.sw⟩
end Go.Proofs.Ytanihbflgolciaa
