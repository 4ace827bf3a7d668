/- Pure facts on container/heap: a heap stays one behind Push and Pop, and Pop takes a least one. The ways down are the library's siftDown with the order turned. -/
import Derived.Sort.LotB
namespace Go.Proofs.Ytanihbflgolciaa
open Go.Sort
set_option linter.unusedVariables false

section
variable {α : Type} [Inhabited α] {lt : α → α → Bool}

/-- The order turned. -/
def gt' (lt : α → α → Bool) : α → α → Bool := fun a b => lt b a
omit [Inhabited α] in
theorem gt_swo (h : SWO lt) : SWO (gt' lt) := ⟨h.irrefl, fun x y z a b => h.trans z y x b a, fun x y z a b => h.ntrans z y x b a⟩

/-- The first n are a heap with a least one first. -/
def Heap (lt : α → α → Bool) (n : Nat) (d : Array α) : Prop := ∀ i, i < n → Ok (gt' lt) 0 n d i

theorem heap_init (h : SWO lt) {n : Nat} {d : Array α} (hs : n ≤ d.size) : Heap lt n (heapBuild (gt' lt) n 0 (n / 2) d) ∧ PermIn 0 n d (heapBuild (gt' lt) n 0 (n / 2) d) := by
  obtain ⟨h1, h2⟩ := build (gt_swo h) n 0 (n / 2) d (by omega) (fun i h1 h2 k hk hkn => by omega)
  rw [Nat.zero_add] at h2
  exact ⟨h1, h2⟩
theorem heap_min (h : SWO lt) {n : Nat} {d : Array α} (hh : Heap lt n d) {i : Nat} (hi : i < n) : lt d[i]! d[0]! = false := by
  have := root_max (gt_swo h) hh i i (Nat.le_refl _) hi
  simpa [gt'] using this

/-- Pop: the first one and the last one change places, and the first one goes down. -/
def popped (lt : α → α → Bool) (n : Nat) (d : Array α) : Array α := siftDown (gt' lt) n 0 0 (swp d 0 n)
theorem heap_pop (h : SWO lt) {n : Nat} {d : Array α} (hs : d.size = n + 1) (hh : Heap lt (n + 1) d) : Heap lt n (popped lt n d) ∧ (popped lt n d).size = n + 1 ∧ (popped lt n d)[n]! = d[0]! ∧ (popped lt n d).toList.Perm d.toList := by
  have go : ∀ j, j ≠ 0 → j ≠ n → (swp d 0 n)[j]! = d[j]! := fun j h1 h2 => swp_other d _ _ _ h1 h2
  obtain ⟨R1, R2⟩ := sift (gt_swo h) n 0 0 n 0 (swp d 0 n) (by omega) (by rw [size_swp]; omega) (Nat.le_refl _)
    (fun i _ h2 h3 k hk hkn => by
      rw [Nat.zero_add, Nat.zero_add, go i h3 (by omega), go k (by omega) (by omega)]
      have := hh i (by omega) k hk (by omega)
      rwa [Nat.zero_add, Nat.zero_add] at this)
    (fun p _ hp => by omega)
  rw [Nat.zero_add] at R2
  have hz : (popped lt n d).size = n + 1 := by unfold popped; rw [R2.1, size_swp, hs]
  refine ⟨fun i hi => R1 i (Nat.zero_le _) hi, hz, ?_, ?_⟩
  · unfold popped
    rw [R2.2.1 n (Or.inr (Nat.le_refl _))]
    exact swp_right d _ _ (by omega)
  · have e1 := (permIn_mono _ _ 0 n 0 (n + 1) (Nat.le_refl _) (by omega) (by rw [size_swp]; omega) R2)
    have e2 := swp_permIn d 0 (n + 1) 0 n (Nat.le_refl _) (by omega) (by omega) (by omega) (by omega)
    have e3 := (permIn_trans _ _ _ _ _ e2 e1).2.2
    have all : ∀ x : Array α, x.size = n + 1 → (x.extract 0 (n + 1)).toList = x.toList := by
      intro x hx
      rw [← hx, Array.extract_size]
    rw [all _ (by rw [R2.1, size_swp, hs]), all d hs] at e3
    exact e3

/-- Push: the last one goes up. -/
def siftUp (lt : α → α → Bool) (j : Nat) (d : Array α) : Array α :=
  if h : j = 0 then d else if lt d[j]! d[(j - 1) / 2]! then siftUp lt ((j - 1) / 2) (swp d ((j - 1) / 2) j) else d
termination_by j
decreasing_by omega

theorem up_heap (h : SWO lt) {n : Nat} : ∀ (m j : Nat) (d : Array α), j ≤ m → j < n → d.size = n →
    (∀ i k, i < n → (k = 2 * i + 1 ∨ k = 2 * i + 2) → k < n → k ≠ j → lt d[k]! d[i]! = false) →
    (∀ c, (c = 2 * j + 1 ∨ c = 2 * j + 2) → c < n → j ≠ 0 → lt d[c]! d[(j - 1) / 2]! = false) →
    Heap lt n (siftUp lt j d) ∧ (siftUp lt j d).toList.Perm d.toList ∧ (siftUp lt j d).size = n := by
  intro m
  induction m with
  | zero =>
    intro j d hj hjn hs P1 P2
    obtain rfl : j = 0 := by omega
    rw [siftUp, dif_pos rfl]
    refine ⟨fun i hi k hk hkn => ?_, .refl _, hs⟩
    rw [Nat.zero_add, Nat.zero_add]
    exact P1 i k hi hk hkn (by omega)
  | succ m ih =>
    intro j d hj hjn hs P1 P2
    rw [siftUp]
    by_cases h0 : j = 0
    · rw [dif_pos h0]
      refine ⟨fun i hi k hk hkn => ?_, .refl _, hs⟩
      rw [Nat.zero_add, Nat.zero_add]
      exact P1 i k hi hk hkn (by omega)
    · rw [dif_neg h0]
      cases hl : lt d[j]! d[(j - 1) / 2]! with
      | false =>
        rw [if_neg (by decide)]
        refine ⟨fun i hi k hk hkn => ?_, .refl _, hs⟩
        rw [Nat.zero_add, Nat.zero_add]
        by_cases hkj : k = j
        · subst hkj
          rw [show (k - 1) / 2 = i by omega] at hl
          exact hl
        · exact P1 i k hi hk hkn hkj
      | true =>
        rw [if_pos rfl]
        have hp : (j - 1) / 2 < j := by omega
        have hch : j = 2 * ((j - 1) / 2) + 1 ∨ j = 2 * ((j - 1) / 2) + 2 := by omega
        generalize hpp : (j - 1) / 2 = p at *
        have gp : (swp d p j)[p]! = d[j]! := swp_left d _ _ (by omega) (by omega)
        have gj : (swp d p j)[j]! = d[p]! := swp_right d _ _ (by omega)
        have go : ∀ k, k ≠ p → k ≠ j → (swp d p j)[k]! = d[k]! := fun k h1 h2 => swp_other d _ _ _ h1 h2
        obtain ⟨R1, R2, R3⟩ := ih p (swp d p j) (by omega) (by omega) (by rw [size_swp, hs]) (by
          intro i k hi hk hkn hkp
          by_cases hij : i = j
          · subst hij
            rw [gj, go k hkp (by omega)]
            exact P2 k hk hkn h0
          · by_cases hip : i = p
            · subst hip
              rw [gp]
              by_cases hkj : k = j
              · subst hkj
                rw [gj]
                exact h.asym hl
              · rw [go k hkp hkj]
                have e := P1 i k hi hk hkn hkj
                cases hc : lt d[k]! d[j]! with
                | false => rfl
                | true => have := h.trans _ _ _ hc hl; rw [e] at this; cases this
            · have hkj : k ≠ j := by omega
              rw [go i hip hij, go k hkp hkj]
              exact P1 i k hi hk hkn hkj) (by
          intro c hc hcn hp0
          have hpg : p = 2 * ((p - 1) / 2) + 1 ∨ p = 2 * ((p - 1) / 2) + 2 := by omega
          have e1 := P1 ((p - 1) / 2) p (by omega) hpg (by omega) (by omega)
          rw [go ((p - 1) / 2) (by omega) (by omega)]
          by_cases hcj : c = j
          · subst hcj
            rw [gj]
            exact e1
          · rw [go c (by omega) hcj]
            have e2 := P1 p c (by omega) hc hcn hcj
            exact h.ntrans _ _ _ e2 e1)
        have e2 := swp_permIn d 0 n p j (Nat.zero_le _) (by omega) (Nat.zero_le _) hjn (by omega)
        have all : ∀ x : Array α, x.size = n → (x.extract 0 n).toList = x.toList := by
          intro x hx
          rw [← hx, Array.extract_size]
        have e3 := e2.2.2
        rw [all _ (by rw [size_swp, hs]), all d hs] at e3
        exact ⟨R1, R2.trans e3, R3⟩

theorem heap_push (h : SWO lt) {n : Nat} {d : Array α} {x : α} (hs : d.size = n) (hh : Heap lt n d) : Heap lt (n + 1) (siftUp lt n (d.push x)) ∧ (siftUp lt n (d.push x)).toList.Perm (d.toList ++ [x]) ∧ (siftUp lt n (d.push x)).size = n + 1 := by
  have old : ∀ k, k < n → (d.push x)[k]! = d[k]! := by
    intro k hk
    rw [getElem!_pos _ k (by rw [Array.size_push]; omega), getElem!_pos d k (by omega), Array.getElem_push_lt (by omega)]
  have key := up_heap h (n := n + 1) n n (d.push x) (Nat.le_refl _) (by omega) (by rw [Array.size_push, hs]) (by
    intro i k hi hk hkn hne
    rw [old i (by omega), old k (by omega)]
    have := hh i (by omega) k hk (by omega)
    rwa [Nat.zero_add, Nat.zero_add] at this) (by
    intro c hc hcn _
    omega)
  rw [Array.toList_push] at key
  exact key
end
end Go.Proofs.Ytanihbflgolciaa
