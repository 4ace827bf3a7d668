/- Plain facts on stuffed bytes: what the code's and the document's calls say; replacing is stuffing. -/
import Derived.Test.YtkkkonmbbdhdhaaGreatDoorBitP
namespace Go.Proofs.YtkkkonmbbdhdhaaGreatDoor
open Go Go.Lib
set_option linter.unusedVariables false

theorem rk_skip {old new : List UInt8} {c : UInt8} {l : List UInt8} (ho : occAt (c :: l) old 0 = false) (k : Nat) : replaceK old new k (c :: l) = c :: replaceK old new k l := by
  have hp : old.isPrefixOf (c :: l) = false := by simpa [occAt] using ho
  cases k with
  | zero => rfl
  | succ k =>
    have hge := index_ge l old
    by_cases hm : index l old = -1
    · have h1 : index (c :: l) old = -1 := by unfold index; rw [hp, hm]; rfl
      rw [replaceK, replaceK, if_pos (by rw [h1]; rfl), if_pos (by rw [hm]; rfl)]
    · obtain ⟨i, hi⟩ : ∃ i : Nat, index l old = i := ⟨(index l old).toNat, by omega⟩
      have h1 : index (c :: l) old = (i + 1 : Nat) := by
        unfold index
        rw [hp, hi]
        have : ((i : Int) == -1) = false := by rw [beq_eq_false_iff_ne]; omega
        simp [this]
      rw [replaceK_hit _ _ k _ _ h1, replaceK_hit _ _ k _ _ hi]
      simp [Nat.add_right_comm]
theorem ct_skip {old : List UInt8} (hne : old ≠ []) {c : UInt8} {l : List UInt8} (ho : occAt (c :: l) old 0 = false) : count (c :: l) old = count l old := by
  have hp : old.isPrefixOf (c :: l) = false := by simpa [occAt] using ho
  have hge := index_ge l old
  by_cases hm : index l old = -1
  · have h1 : index (c :: l) old = -1 := by unfold index; rw [hp, hm]; rfl
    rw [count_miss h1, count_miss hm]
  · obtain ⟨i, hi⟩ : ∃ i : Nat, index l old = i := ⟨(index l old).toNat, by omega⟩
    have h1 : index (c :: l) old = (i + 1 : Nat) := by
      unfold index
      rw [hp, hi]
      have : ((i : Int) == -1) = false := by rw [beq_eq_false_iff_ne]; omega
      simp [this]
    rw [count_hit hne h1, count_hit hne hi, Nat.add_right_comm i 1, List.drop_succ_cons]
theorem ix_hit {old s : List UInt8} (ho : occAt s old 0 = true) : index s old = (0 : Nat) := index_first (Nat.zero_le _) ho (fun j hj => absurd hj (Nat.not_lt_zero _))
theorem rk_hit {old new s : List UInt8} (ho : occAt s old 0 = true) (k : Nat) : replaceK old new (k + 1) s = new ++ replaceK old new k (s.drop old.length) := by
  rw [replaceK_hit _ _ k _ _ (ix_hit ho)]
  simp
theorem ct_hit {old s : List UInt8} (hne : old ≠ []) (ho : occAt s old 0 = true) : count s old = 1 + count (s.drop old.length) old := by
  rw [count_hit hne (ix_hit ho)]
  simp
theorem ct_nil {old : List UInt8} (hne : old ≠ []) : count [] old = 0 := by
  apply count_miss
  unfold index
  cases old with
  | nil => exact absurd rfl hne
  | cons a t => rfl
/-- How long it is when the first k are replaced. -/
theorem rk_len {old : List UInt8} (hne : old ≠ []) (new : List UInt8) : ∀ (k : Nat) (s : List UInt8), k ≤ count s old → (replaceK old new k s).length + k * old.length = s.length + k * new.length
  | 0, s, _ => by simp [replaceK]
  | k + 1, s, h => by
    obtain ⟨i, hi⟩ := index_of_count (s := s) (old := old) (by omega)
    have hr := index_room s old (by rw [hi]; omega)
    rw [hi] at hr
    have hc := count_hit hne hi
    have ih := rk_len hne new k (s.drop (i + old.length)) (by omega)
    rw [replaceK_hit _ _ k _ _ hi, List.length_append, List.length_append, List.length_take, Nat.min_eq_left (by omega), Nat.add_mul, Nat.add_mul]
    rw [List.length_drop] at ih
    omega
theorem ct_room {old : List UInt8} (hne : old ≠ []) (s : List UInt8) : count s old * old.length ≤ s.length := by
  have := rk_len hne [] (count s old) s (Nat.le_refl _)
  simp at this
  omega

/-- With 00 behind each FF. -/
def stf : List UInt8 → List UInt8
  | [] => []
  | c :: l => if c = 255 then 255 :: 0 :: stf l else c :: stf l
/-- Without 00 behind FF; f: FF stood right ahead. -/
def ustF (f : Bool) : List UInt8 → List UInt8
  | [] => []
  | c :: l => if f = true ∧ c = 0 then ustF false l else c :: ustF (decide (c = 255)) l
/-- Without whatever stands behind FF. -/
def bareF (f : Bool) : List UInt8 → List UInt8
  | [] => []
  | c :: l => if f = true then bareF false l else c :: bareF (decide (c = 255)) l
/-- How many bytes are data at the beginning. -/
def dat : List UInt8 → Nat
  | [] => 0
  | c :: l => if c = 255 ∧ l.head? ≠ some 0 then 0 else 1 + dat l
theorem dat_no {c : UInt8} {l : List UInt8} (h : c = 255 ∧ l.head? ≠ some 0) : dat (c :: l) = 0 := by rw [dat, if_pos h]
theorem dat_yes {c : UInt8} {l : List UInt8} (h : ¬ (c = 255 ∧ l.head? ≠ some 0)) : dat (c :: l) = 1 + dat l := by rw [dat, if_neg h]
theorem dat_le (l : List UInt8) : dat l ≤ l.length := by
  induction l with
  | nil => exact Nat.le_refl _
  | cons c l ih => unfold dat; split <;> simp <;> omega

theorem occ1 (c : UInt8) (l : List UInt8) : occAt (c :: l) [255] 0 = decide (c = 255) := by
  rw [Bool.eq_iff_iff]
  simp only [occAt, List.drop_zero, List.isPrefixOf_iff_prefix, List.cons_prefix_cons, List.nil_prefix, and_true, decide_eq_true_eq]
  exact eq_comm
theorem stf_rk (l : List UInt8) : replaceK [255] [255, 0] (count l [255]) l = stf l := by
  induction l with
  | nil => rw [ct_nil (by simp)]; rfl
  | cons c l ih =>
    by_cases h : c = 255
    · have ho : occAt (c :: l) [255] 0 = true := by rw [occ1, decide_eq_true h]
      rw [ct_hit (by simp) ho, Nat.add_comm 1, rk_hit ho, stf, if_pos h]
      simp [ih]
    · have ho : occAt (c :: l) [255] 0 = false := by rw [occ1, decide_eq_false h]
      rw [ct_skip (by simp) ho, rk_skip ho, ih, stf, if_neg h]
theorem occ2 (c d : UInt8) (l : List UInt8) : occAt (c :: d :: l) [255, 0] 0 = decide (c = 255 ∧ d = 0) := by
  by_cases h : c = 255 ∧ d = 0
  · obtain ⟨rfl, rfl⟩ := h; simp [occAt]
  · rw [decide_eq_false h]
    simp only [occAt, List.drop_zero]
    rw [Bool.eq_false_iff]
    intro hp
    have := List.isPrefixOf_iff_prefix.1 hp
    rw [List.cons_prefix_cons, List.cons_prefix_cons] at this
    exact h ⟨this.1.symm, this.2.1.symm⟩
theorem ust_ne {c : UInt8} {l : List UInt8} (h : ¬ c = 0) : ustF true (c :: l) = ustF false (c :: l) := by
  rw [ustF, ustF, if_neg (by simp [h]), if_neg (by simp)]
theorem ust_rk : ∀ (n : Nat) (l : List UInt8), l.length ≤ n → replaceK [255, 0] [255] (count l [255, 0]) l = ustF false l
  | _, [], _ => by rw [ct_nil (by simp)]; rfl
  | 0, _ :: _, h => by simp at h
  | n + 1, [c], _ => by
    have ho : occAt [c] [255, 0] 0 = false := by simp [occAt, List.isPrefixOf]
    rw [ct_skip (by simp) ho, rk_skip ho, ct_nil (by simp)]
    simp [replaceK, ustF]
  | n + 1, c :: d :: l, h => by
    by_cases hc : c = 255 ∧ d = 0
    · have ho : occAt (c :: d :: l) [255, 0] 0 = true := by rw [occ2, decide_eq_true hc]
      obtain ⟨rfl, rfl⟩ := hc
      have ih := ust_rk n l (by simp at h; omega)
      rw [ct_hit (by simp) ho, Nat.add_comm 1, rk_hit ho]
      simp [ustF, ih]
    · have ho : occAt (c :: d :: l) [255, 0] 0 = false := by rw [occ2, decide_eq_false hc]
      have ih := ust_rk n (d :: l) (by simp at h ⊢; omega)
      rw [ct_skip (by simp) ho, rk_skip ho, ih]
      conv => rhs; rw [ustF, if_neg (by simp)]
      by_cases h5 : c = 255
      · rw [decide_eq_true h5, ust_ne (fun e => hc ⟨h5, e⟩)]
      · rw [decide_eq_false h5]
theorem dat_cons {c : UInt8} {l : List UInt8} (h : dat (c :: l) = (c :: l).length) : dat l = l.length ∧ (c = 255 → l.head? = some 0) := by
  unfold dat at h
  split at h
  · simp at h
  · rename_i hn
    simp at h
    refine ⟨by omega, fun e => ?_⟩
    exact Classical.byContradiction fun hh => hn ⟨e, hh⟩
/-- Of data both are the same. -/
theorem ust_bare : ∀ (n : Nat) (l : List UInt8), l.length ≤ n → dat l = l.length → ustF false l = bareF false l
  | _, [], _, _ => rfl
  | 0, _ :: _, h, _ => by simp at h
  | n + 1, c :: l, h, hd => by
    obtain ⟨h1, h2⟩ := dat_cons hd
    rw [ustF, bareF, if_neg (by simp), if_neg (by simp)]
    congr 1
    by_cases hc : c = 255
    · have hh := h2 hc
      match l, hh with
      | d :: m, hh =>
        simp at hh
        subst hh
        obtain ⟨h3, _⟩ := dat_cons h1
        rw [decide_eq_true hc, ustF, bareF, if_pos (by simp), if_pos rfl]
        exact ust_bare n m (by simp at h; omega) h3
    · rw [decide_eq_false hc]
      exact ust_bare n l (by simp at h; omega) h1
theorem head_take {l : List UInt8} (k : Nat) (h : l.head? = some 0) (hk : 0 < k) : (l.take k).head? = some 0 := by
  cases l with
  | nil => simp at h
  | cons a l => cases k with
    | zero => omega
    | succ k => simpa using h
theorem dat_zero_cons (l : List UInt8) : dat (0 :: l) = 1 + dat l := dat_yes (by simp)
theorem dat_take (l : List UInt8) : dat (l.take (dat l)) = dat l := by
  induction l with
  | nil => rfl
  | cons c l ih =>
    by_cases h : c = 255 ∧ l.head? ≠ some 0
    · rw [dat_no h]; rfl
    · rw [dat_yes h, Nat.add_comm, List.take_succ_cons]
      have hn : ¬ (c = 255 ∧ (l.take (dat l)).head? ≠ some 0) := by
        rintro ⟨h1, h2⟩
        have h3 : l.head? = some 0 := Classical.byContradiction fun hh => h ⟨h1, hh⟩
        apply h2
        apply head_take _ h3
        match l, h3 with
        | d :: m, h3 =>
          simp at h3
          subst h3
          rw [dat_zero_cons]; omega
      rw [dat_yes hn, ih, Nat.add_comm]
theorem ust_data (l : List UInt8) : ustF false (l.take (dat l)) = bareF false (l.take (dat l)) := by
  apply ust_bare _ _ (Nat.le_refl _)
  rw [dat_take, List.length_take, Nat.min_eq_left (dat_le l)]

/-- Stuffed bytes are data, and unstuffed as they were. -/
theorem stf_head (l : List UInt8) : dat (stf l) = (stf l).length := by
  induction l with
  | nil => rfl
  | cons c l ih =>
    rw [stf]
    by_cases h : c = 255
    · rw [if_pos h]
      rw [dat_yes (by simp), dat_zero_cons, ih]
      simp
      omega
    · rw [if_neg h]
      rw [dat_yes (by simp [h]), ih]
      simp
      omega
theorem ust_stf (l : List UInt8) : ustF false (stf l) = l := by
  induction l with
  | nil => rfl
  | cons c l ih =>
    rw [stf]
    by_cases h : c = 255
    · rw [if_pos h, ustF, if_neg (by simp), show decide ((255 : UInt8) = 255) = true from rfl, ustF, if_pos (by simp), ih, h]
    · rw [if_neg h, ustF, if_neg (by simp), decide_eq_false h, ih]
theorem stf_append (a b : List UInt8) : stf (a ++ b) = stf a ++ stf b := by
  induction a with
  | nil => rfl
  | cons c a ih =>
    rw [List.cons_append, stf, stf, ih]
    split <;> simp
theorem stf_len (l : List UInt8) : l.length ≤ (stf l).length ∧ (stf l).length ≤ 2 * l.length := by
  induction l with
  | nil => exact ⟨Nat.le_refl _, Nat.le_refl _⟩
  | cons c l ih => rw [stf]; split <;> simp <;> omega
/-- An FF of stuffed bytes stands ahead of 00. -/
theorem stf_ff (l : List UInt8) : ∀ i : Nat, (stf l)[i]? = some 255 → (stf l)[i + 1]? = some 0 := by
  induction l with
  | nil => intro i h; simp [stf] at h
  | cons c l ih =>
    intro i h
    rw [stf] at h ⊢
    by_cases hc : c = 255
    · rw [if_pos hc] at h ⊢
      match i, h with
      | 0, _ => rfl
      | 1, h => simp at h
      | i + 2, h => simpa using ih i (by simpa using h)
    · rw [if_neg hc] at h ⊢
      match i, h with
      | 0, h => simp at h; exact absurd h hc
      | i + 1, h => simpa using ih i (by simpa using h)
end Go.Proofs.YtkkkonmbbdhdhaaGreatDoor
