/- Plain facts on the texts of layer 2 (ratio): numerals, ratios; without any program. -/
import Derived.Test.YtnhophjahjphiaaDoorRatP
import Derived.Lib.ItoaMem
import Derived.Lib.AtoiAllCases
import Derived.Lib.IndexBytes
import Derived.Lib.IndexMore
namespace Go.Proofs.YtnhophjahjphiaaDoor
open Go
open Go.Lib (itoa decDigits nDigits parseUint10 parseMag atoiAll index indexByte)

def isDig (c : UInt8) : Bool := decide (48 ≤ c.toNat ∧ c.toNat ≤ 57)
def digB (l : List UInt8) : Bool := l.all isDig
def dstep (n : Nat) (c : UInt8) : Nat := 10 * n + (c.toNat - 48)
def valD (l : List UInt8) : Nat := l.foldl dstep 0
theorem valD_snoc (l : List UInt8) (c : UInt8) : valD (l ++ [c]) = 10 * valD l + (c.toNat - 48) := by unfold valD; rw [List.foldl_append]; rfl
theorem digB_snoc (l : List UInt8) (c : UInt8) : digB (l ++ [c]) = (digB l && isDig c) := by unfold digB; simp

theorem dig_nat {k : Nat} (h : k < 10) : (UInt8.ofNat (48 + k)).toNat = 48 + k := by rw [UInt8.toNat_ofNat']; omega
theorem dec_small {u : Nat} (h : u < 10) : decDigits u = [UInt8.ofNat (48 + u)] := Lib.decDigits_one h
theorem dec_big {u : Nat} (h : ¬ u < 10) : decDigits u = decDigits (u / 10) ++ [UInt8.ofNat (48 + u % 10)] := by rw [decDigits, dif_neg h]
theorem dec_ne (u : Nat) : decDigits u ≠ [] := by
  by_cases h : u < 10
  · rw [dec_small h]; exact List.cons_ne_nil _ _
  · rw [dec_big h]; simp
theorem dec_dig (u : Nat) : digB (decDigits u) = true := by
  induction u using Nat.strongRecOn with
  | _ u ih =>
    by_cases h : u < 10
    · rw [dec_small h]
      have := dig_nat h
      simp [digB, isDig]; omega
    · rw [dec_big h, digB_snoc, ih (u / 10) (by omega)]
      have := dig_nat (Nat.mod_lt u (show 0 < 10 by decide))
      simp [isDig]; omega
theorem dec_val (u : Nat) : valD (decDigits u) = u := by
  induction u using Nat.strongRecOn with
  | _ u ih =>
    by_cases h : u < 10
    · rw [dec_small h]
      simp [valD, dstep]; omega
    · rw [dec_big h, valD_snoc, ih (u / 10) (by omega)]
      have := dig_nat (Nat.mod_lt u (show 0 < 10 by decide))
      omega
theorem byte_dig {c : UInt8} (h : isDig c = true) : UInt8.ofNat (48 + (c.toNat - 48)) = c := by
  unfold isDig at h
  rw [decide_eq_true_eq] at h
  rw [show 48 + (c.toNat - 48) = c.toNat from by omega]
  exact UInt8.ofNat_toNat
theorem head_app {l : List UInt8} (r : List UInt8) (h : l ≠ []) : (l ++ r).head? = l.head? := by
  cases l with
  | nil => exact absurd rfl h
  | cons a t => rfl
theorem dec_head (u : Nat) (h : 1 ≤ u) : (decDigits u).head? ≠ some 48 := by
  induction u using Nat.strongRecOn with
  | _ u ih =>
    by_cases hu : u < 10
    · rw [dec_small hu]
      intro e
      have e' : UInt8.ofNat (48 + u) = 48 := by simpa using e
      have := dig_nat hu
      rw [e'] at this
      have k : (48 : UInt8).toNat = 48 := rfl
      omega
    · rw [dec_big hu, head_app _ (dec_ne _)]
      exact ih (u / 10) (by omega) (by omega)
theorem dec_of_val : ∀ (k : Nat) (l : List UInt8), l.length = k → l ≠ [] → digB l = true → (l.head? ≠ some 48 ∨ l.length = 1) → decDigits (valD l) = l := by
  intro k
  induction k with
  | zero => intro l hl hn; exact absurd (List.length_eq_zero_iff.1 hl) hn
  | succ k ih =>
    intro l hl hn hd hh
    obtain ⟨l', c, rfl⟩ : ∃ l' c, l = l' ++ [c] := ⟨l.dropLast, l.getLast hn, (List.dropLast_concat_getLast hn).symm⟩
    rw [digB_snoc, Bool.and_eq_true] at hd
    rw [valD_snoc]
    have hc : c.toNat - 48 < 10 := by
      have := hd.2
      unfold isDig at this
      rw [decide_eq_true_eq] at this
      omega
    by_cases h' : l' = []
    · subst h'
      have e : valD [] = 0 := rfl
      rw [e, dec_small (by omega), Nat.mul_zero, Nat.zero_add, byte_dig hd.2]
      rfl
    · have hlen : 1 ≤ l'.length := List.length_pos_iff.2 h'
      have hl' : (l' ++ [c]).length = l'.length + 1 := by simp
      have hh' : l'.head? ≠ some 48 := by
        rcases hh with h | h
        · rwa [head_app _ h'] at h
        · omega
      have e := ih l' (by omega) h' hd.1 (.inl hh')
      have hv : 1 ≤ valD l' := by
        rcases Nat.eq_zero_or_pos (valD l') with h0 | h0
        · rw [h0, dec_small (by omega)] at e
          exfalso
          apply hh'
          rw [← e]
          rfl
        · exact h0
      rw [dec_big (by omega), show (10 * valD l' + (c.toNat - 48)) / 10 = valD l' from by omega, show (10 * valD l' + (c.toNat - 48)) % 10 = c.toNat - 48 from by omega, e, byte_dig hd.2]
theorem dec_len (u : Nat) : (decDigits u).length = nDigits u := Lib.decDigits_length u
theorem nDigits_le : ∀ (k u : Nat), u < 10 ^ (k + 1) → nDigits u ≤ k + 1
  | 0, u, h => by rw [Lib.nDigits_small (by simpa using h)]; exact Nat.le_refl _
  | k + 1, u, h => by
    by_cases hu : u < 10
    · rw [Lib.nDigits_small hu]; omega
    · rw [Lib.nDigits_big hu]
      have := nDigits_le k (u / 10) (by rw [Nat.pow_succ] at h; omega)
      omega

/-- The numerals that strconv takes and writes. -/
def numC (l : List UInt8) : Option Int := match atoiAll l with
  | .ok v => if itoa v = l then some v else none
  | _ => none
theorem parse_dec (u : Nat) (hu : u < 18446744073709551616) (r : List UInt8) : parseUint10 0 (decDigits u ++ r) = parseUint10 u r := by
  induction u using Nat.strongRecOn generalizing r with
  | _ u ih =>
    by_cases h : u < 10
    · rw [dec_small h]
      have := dig_nat h
      simp only [List.cons_append, List.nil_append, parseUint10, this]
      rw [if_pos (by omega), if_neg (by omega), if_neg (by omega)]
      congr 1
      omega
    · rw [dec_big h, List.append_assoc, ih (u / 10) (by omega) (by omega)]
      have := dig_nat (Nat.mod_lt u (show 0 < 10 by decide))
      simp only [List.cons_append, List.nil_append, parseUint10, this]
      rw [if_pos (by omega), if_neg (by omega), if_neg (by omega)]
      congr 1
      omega
theorem mag_dec (u : Nat) (hu : u < 18446744073709551616) : parseMag (decDigits u) = .ok u := by
  unfold parseMag
  rw [if_neg (dec_ne u)]
  have := parse_dec u hu []
  rw [List.append_nil] at this
  rw [this]
  rfl
theorem dec_first (u : Nat) : ∃ c r, decDigits u = c :: r ∧ c.toNat ≠ 43 ∧ c.toNat ≠ 45 ∧ c ≠ 45 := by
  have h := dec_dig u
  match hd : decDigits u, h with
  | [], _ => exact absurd hd (dec_ne u)
  | c :: r, h =>
    have h1 : isDig c = true := by unfold digB at h; rw [List.all_cons, Bool.and_eq_true] at h; exact h.1
    unfold isDig at h1
    rw [decide_eq_true_eq] at h1
    refine ⟨c, r, rfl, by omega, by omega, fun e => ?_⟩
    subst e
    have k : (45 : UInt8).toNat = 45 := rfl
    omega
theorem atoi_itoa (v : Int) (h1 : -9223372036854775808 ≤ v) (h2 : v ≤ 9223372036854775807) : atoiAll (itoa v) = .ok v := by
  unfold itoa
  by_cases h : v < 0
  · rw [if_pos h, Lib.atoiAll_minus, mag_dec _ (by omega)]
    show (if 9223372036854775808 < v.natAbs then _ else _) = _
    rw [if_neg (by omega)]
    congr 1
    omega
  · rw [if_neg h]
    obtain ⟨c, r, e, h43, h45, _⟩ := dec_first v.toNat
    rw [e, Lib.atoiAll_plain c r h43 h45, ← e, mag_dec _ (by omega)]
    show (if 9223372036854775808 ≤ v.toNat then _ else _) = _
    rw [if_neg (by omega)]
    congr 1
    omega
theorem numC_itoa (v : Int) (h1 : -9223372036854775808 ≤ v) (h2 : v ≤ 9223372036854775807) : numC (itoa v) = some v := by
  unfold numC
  rw [atoi_itoa v h1 h2]
  simp
theorem numC_some {l : List UInt8} {v : Int} (h : numC l = some v) : itoa v = l ∧ -9223372036854775808 ≤ v ∧ v ≤ 9223372036854775807 := by
  unfold numC at h
  split at h
  · rename_i u hu
    split at h
    · rename_i hi
      injection h with h
      subst h
      exact ⟨hi, Lib.atoiAll_bounds hu⟩
    · cases h
  · cases h
theorem numC_nil : numC [] = none := rfl

/-- The numerals that the document's answer takes: ten digits at most. -/
def negL (l : List UInt8) : Bool := l.head? == some 45
def magL (l : List UInt8) : List UInt8 := if negL l then l.tail else l
def badL (l : List UInt8) : Bool := (magL l).isEmpty || decide (10 < (magL l).length) || ((magL l).head? == some 48 && (decide (1 < (magL l).length) || negL l))
def numR (l : List UInt8) : Option Int := if badL l then none else if digB (magL l) then some (if negL l then -(valD (magL l) : Int) else valD (magL l)) else none

theorem numR_some {l : List UInt8} {v : Int} (h : numR l = some v) : itoa v = l ∧ -10000000000 < v ∧ v < 10000000000 := by
  unfold numR at h
  split at h
  · cases h
  rename_i hb
  split at h
  · rename_i hd
    injection h with h
    unfold badL at hb
    simp only [Bool.or_eq_true, Bool.and_eq_true, decide_eq_true_eq, not_or, not_and, beq_iff_eq, List.isEmpty_iff] at hb
    obtain ⟨⟨hb1, hb2⟩, hb3⟩ := hb
    have hh : (magL l).head? ≠ some 48 ∨ (magL l).length = 1 := by
      by_cases k : (magL l).head? = some 48
      · right
        have := (hb3 k).1
        have := List.length_pos_iff.2 hb1
        omega
      · exact .inl k
    have e := dec_of_val _ (magL l) rfl hb1 hd hh
    have hlen : nDigits (valD (magL l)) ≤ 10 := by rw [← dec_len, e]; omega
    have hlt := Lib.lt_pow_nDigits (valD (magL l))
    have hlt2 : valD (magL l) < 10000000000 := Nat.lt_of_lt_of_le hlt (Nat.pow_le_pow_right (by decide) hlen)
    by_cases hn : negL l = true
    · rw [if_pos hn] at h
      have hm : l = 45 :: magL l := by
        unfold magL
        rw [if_pos hn]
        unfold negL at hn
        cases l with
        | nil => simp at hn
        | cons a t => simp at hn; subst hn; rfl
      have hv : 1 ≤ valD (magL l) := by
        rcases Nat.eq_zero_or_pos (valD (magL l)) with h0 | h0
        · exfalso
          rw [h0, dec_small (by omega)] at e
          exact (hb3 (by rw [← e]; rfl)).2 hn
        · exact h0
      subst h
      refine ⟨?_, by omega, by omega⟩
      rw [Lib.itoa_neg _ hv, e, ← hm]
    · rw [if_neg hn] at h
      have hm : magL l = l := by unfold magL; rw [if_neg hn]
      subst h
      refine ⟨?_, by omega, by omega⟩
      rw [Lib.itoa_nonneg, e, hm]
  · cases h
theorem numR_itoa (v : Int) (h1 : -10000000000 < v) (h2 : v < 10000000000) : numR (itoa v) = some v := by
  have hlen : ∀ u : Nat, u < 10000000000 → (decDigits u).length ≤ 10 := fun u hu => by rw [dec_len]; exact nDigits_le 9 u (by simpa using hu)
  unfold itoa
  by_cases h : v < 0
  · rw [if_pos h]
    have e1 : negL (45 :: decDigits v.natAbs) = true := rfl
    have e2 : magL (45 :: decDigits v.natAbs) = decDigits v.natAbs := rfl
    have e3 : badL (45 :: decDigits v.natAbs) = false := by
      unfold badL
      rw [e2]
      have k1 : (decDigits v.natAbs).isEmpty = false := by rw [List.isEmpty_eq_false_iff]; exact dec_ne _
      have k2 := hlen v.natAbs (by omega)
      have k3 : ((decDigits v.natAbs).head? == some 48) = false := beq_eq_false_iff_ne.2 (dec_head _ (by omega))
      rw [k1, k3]
      simp; omega
    unfold numR
    rw [e3, e1, e2, dec_dig, dec_val]
    simp; omega
  · rw [if_neg h]
    obtain ⟨c, r, e, _, _, h45⟩ := dec_first v.toNat
    have e1 : negL (decDigits v.toNat) = false := by rw [e]; unfold negL; simpa using h45
    have e2 : magL (decDigits v.toNat) = decDigits v.toNat := by unfold magL; rw [e1]; rfl
    have e3 : badL (decDigits v.toNat) = false := by
      unfold badL
      rw [e2, e1]
      have k1 : (decDigits v.toNat).isEmpty = false := by rw [List.isEmpty_eq_false_iff]; exact dec_ne _
      have k2 := hlen v.toNat (by omega)
      have k3 : ((decDigits v.toNat).head? == some 48 && (decide (1 < (decDigits v.toNat).length) || false)) = false := by
        by_cases h0 : v.toNat = 0
        · rw [h0]; decide +kernel
        · have : ((decDigits v.toNat).head? == some 48) = false := beq_eq_false_iff_ne.2 (dec_head _ (by omega))
          rw [this]; rfl
      rw [k1, k3]
      simp; omega
    unfold numR
    rw [e3, e1, e2, dec_dig, dec_val]
    simp; omega
/-- Both take the same, but for more than ten digits. -/
theorem numR_iff (l : List UInt8) (v : Int) : numR l = some v ↔ numC l = some v ∧ -10000000000 < v ∧ v < 10000000000 := by
  constructor
  · intro h
    obtain ⟨e, h1, h2⟩ := numR_some h
    subst e
    exact ⟨numC_itoa v (by omega) (by omega), h1, h2⟩
  · rintro ⟨h, h1, h2⟩
    obtain ⟨e, _, _⟩ := numC_some h
    subst e
    exact numR_itoa v h1 h2

/-! Ratios. -/
def befS (l : List UInt8) : List UInt8 := l.takeWhile (· != 47)
def aftS (l : List UInt8) : List UInt8 := (l.dropWhile (· != 47)).drop 1
def both (x y : Option Int) : Option (Int × Int) := match x, y with
  | some n, some d => if validB n d then some (n, d) else none
  | _, _ => none
def parseP (l : List UInt8) : Option (Int × Int) := both (numC (befS l)) (numC (aftS l))
theorem both_same {l r : List UInt8} : both (numR l) (numR r) = both (numC l) (numC r) := by
  cases hl : numC l with
  | none =>
    have : numR l = none := by
      cases k : numR l with
      | none => rfl
      | some v => exact absurd ((numR_iff l v).1 k).1 (by rw [hl]; exact fun e => by cases e)
    rw [this]; rfl
  | some n =>
    cases hr : numC r with
    | none =>
      have : numR r = none := by
        cases k : numR r with
        | none => rfl
        | some v => exact absurd ((numR_iff r v).1 k).1 (by rw [hr]; exact fun e => by cases e)
      rw [this]
      cases numR l <;> rfl
    | some d =>
      by_cases hv : validB n d = true
      · have hg := validB_rng hv
        rw [(numR_iff l n).2 ⟨hl, by omega, by omega⟩, (numR_iff r d).2 ⟨hr, by omega, by omega⟩]
      · have e : both (some n) (some d) = none := by simp only [both]; rw [if_neg hv]
        rw [e]
        cases kl : numR l with
        | none => rfl
        | some n' =>
          cases kr : numR r with
          | none => rfl
          | some d' =>
            have a1 := ((numR_iff l n').1 kl).1
            have a2 := ((numR_iff r d').1 kr).1
            rw [hl] at a1
            rw [hr] at a2
            injection a1 with a1
            injection a2 with a2
            subst a1 a2
            exact e
theorem cut_slash : ∀ (l : List UInt8), (Lib.cut l [47]).1 = befS l ∧ (Lib.cut l [47]).2.1 = aftS l := by
  have key : ∀ l : List UInt8, (indexByte l 47 = -1 ∧ befS l = l ∧ aftS l = []) ∨ (∃ k : Nat, indexByte l 47 = k ∧ befS l = l.take k ∧ aftS l = l.drop (k + 1)) := by
    intro l
    induction l with
    | nil => exact .inl ⟨rfl, rfl, rfl⟩
    | cons b l ih =>
      by_cases hb : b = 47
      · subst hb
        right
        refine ⟨0, by simp [indexByte], by simp [befS], by simp [aftS]⟩
      · have hb' : (b == 47) = false := beq_eq_false_iff_ne.2 hb
        have hb2 : (b != 47) = true := by simp [bne, hb']
        have e1 : befS (b :: l) = b :: befS l := by unfold befS; rw [List.takeWhile_cons, if_pos hb2]
        have e2 : aftS (b :: l) = aftS l := by unfold aftS; rw [List.dropWhile_cons, if_pos hb2]
        rcases ih with ⟨h1, h2, h3⟩ | ⟨k, h1, h2, h3⟩
        · left
          refine ⟨by simp [indexByte, hb', h1], by rw [e1, h2], by rw [e2, h3]⟩
        · right
          refine ⟨k + 1, ?_, by rw [e1, h2]; rfl, by rw [e2, h3]; rfl⟩
          simp only [indexByte, hb', h1]
          have : ((k : Int) == -1) = false := beq_eq_false_iff_ne.2 (by omega)
          rw [this]
          simp
  intro l
  unfold Lib.cut
  rw [Lib.index_one]
  rcases key l with ⟨h1, h2, h3⟩ | ⟨k, h1, h2, h3⟩
  · rw [h1, if_neg (by decide), h2, h3]; exact ⟨rfl, rfl⟩
  · rw [h1, if_pos (by omega), h2, h3]; exact ⟨by simp, by simp⟩
theorem parse_none (l : List UInt8) (h : ∀ k, k < l.length → l.getD k 0 ≠ 47) : parseP l = none := by
  have : aftS l = [] := by
    have nil : ∀ r : List UInt8, (∀ x ∈ r, (x != 47) = true) → r.dropWhile (· != 47) = [] := by
      intro r
      induction r with
      | nil => intro _; rfl
      | cons b r ih => intro hr; rw [List.dropWhile_cons, if_pos (hr b (List.mem_cons_self ..)), ih fun x hx => hr x (List.mem_cons_of_mem _ hx)]
    have e : l.dropWhile (· != 47) = [] := by
      apply nil
      intro x hx
      obtain ⟨k, hk, rfl⟩ := List.mem_iff_getElem.1 hx
      have := h k hk
      simp [hk] at this
      simpa using this
    unfold aftS; rw [e]; rfl
  unfold parseP
  rw [this, numC_nil]
  cases numC (befS l) <;> rfl
theorem parse_at (l : List UInt8) (i : Nat) (hi : i < l.length) (h47 : l.getD i 0 = 47) (h : ∀ k, k < i → l.getD k 0 ≠ 47) : befS l = l.take i ∧ aftS l = l.drop (i + 1) := by
  induction l generalizing i with
  | nil => simp at hi
  | cons b l ih =>
    cases i with
    | zero =>
      have : b = 47 := by simpa using h47
      subst this
      exact ⟨by simp [befS], by simp [aftS]⟩
    | succ i =>
      have hb : b ≠ 47 := by simpa using h 0 (by omega)
      have hb2 : (b != 47) = true := by simpa using hb
      obtain ⟨h1, h2⟩ := ih i (by simpa using hi) (by simpa using h47) (fun k hk => by simpa using h (k + 1) (by omega))
      refine ⟨?_, ?_⟩
      · unfold befS at h1 ⊢
        rw [List.takeWhile_cons, if_pos hb2, h1]; rfl
      · unfold aftS at h2 ⊢
        rw [List.dropWhile_cons, if_pos hb2, h2]; rfl
def textL (n d : Int) : List UInt8 := if validB n d then itoa n ++ 47 :: itoa d else []
theorem itoa_no_slash (v : Int) : ∀ c ∈ itoa v, (c != 47) = true := by
  have hd : ∀ u, ∀ c ∈ decDigits u, (c != 47) = true := by
    intro u c hc
    have := List.all_eq_true.1 (dec_dig u) c hc
    unfold isDig at this
    rw [decide_eq_true_eq] at this
    rw [bne_iff_ne]
    intro e
    subst e
    have k : (47 : UInt8).toNat = 47 := rfl
    omega
  intro c hc
  unfold itoa at hc
  split at hc
  · rcases List.mem_cons.1 hc with rfl | hc
    · decide
    · exact hd _ c hc
  · exact hd _ c hc
theorem parse_text {n d : Int} (h : validB n d = true) : parseP (textL n d) = some (n, d) := by
  have hg := validB_rng h
  have tw : ∀ (l r : List UInt8), (∀ c ∈ l, (c != 47) = true) → befS (l ++ 47 :: r) = l ∧ aftS (l ++ 47 :: r) = r := by
    intro l r
    induction l with
    | nil => intro _; exact ⟨by simp [befS], by simp [aftS]⟩
    | cons b l ih =>
      intro hl
      have hb := hl b (List.mem_cons_self ..)
      obtain ⟨h1, h2⟩ := ih fun c hc => hl c (List.mem_cons_of_mem _ hc)
      refine ⟨?_, ?_⟩
      · unfold befS at h1 ⊢
        rw [List.cons_append, List.takeWhile_cons, if_pos hb, h1]
      · unfold aftS at h2 ⊢
        rw [List.cons_append, List.dropWhile_cons, if_pos hb, h2]
  have e : textL n d = itoa n ++ 47 :: itoa d := by unfold textL; rw [if_pos h]
  obtain ⟨h1, h2⟩ := tw (itoa n) (itoa d) (itoa_no_slash n)
  rw [e]
  unfold parseP
  rw [h1, h2, numC_itoa n (by omega) (by omega), numC_itoa d (by omega) (by omega)]
  simp only [both]
  rw [if_pos h]
theorem text_empty {n d : Int} : textL n d = [] ↔ validB n d = false := by
  unfold textL
  by_cases h : validB n d = true
  · rw [if_pos h, h]; simp
  · rw [if_neg h]; simp at h; simp [h]
theorem text_inj {n d m e : Int} (h : validB n d = true) (k : textL n d = textL m e) : n = m ∧ d = e := by
  have hv : validB m e = true := by
    cases j : validB m e with
    | true => rfl
    | false =>
      rw [text_empty.2 j] at k
      rw [text_empty.1 k] at h
      cases h
  have := parse_text h
  rw [k, parse_text hv] at this
  injection this with this
  injection this with h1 h2
  exact ⟨h1.symm, h2.symm⟩
theorem itoa_len (v : Int) (h1 : -10000000000 < v) (h2 : v < 10000000000) : (itoa v).length ≤ 11 := by
  have hlen : ∀ u : Nat, u < 10000000000 → (decDigits u).length ≤ 10 := fun u hu => by rw [dec_len]; exact nDigits_le 9 u (by simpa using hu)
  unfold itoa
  split
  · have := hlen v.natAbs (by omega); simp; omega
  · have := hlen v.toNat (by omega); omega
theorem text_len (n d : Int) : (textL n d).length ≤ 23 := by
  unfold textL
  split
  · rename_i h
    have hg := validB_rng h
    have := itoa_len n (by omega) (by omega)
    have := itoa_len d (by omega) (by omega)
    simp; omega
  · simp
end Go.Proofs.YtnhophjahjphiaaDoor
