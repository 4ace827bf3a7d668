/- Plain facts on bits, bytes made of bits, and stuffed bytes: no program. -/
import Derived.Test.YtanihbflgolciaaRows
import Derived.Lib.ReplaceLaws
namespace Go.Proofs.Ytanihbflgolciaa
open Go Go.Lib
set_option linter.unusedVariables false

/-- The n lowest bits of v, the most significant one first. -/
def lo (v : Int) : Nat → List Int
  | 0 => []
  | n + 1 => (v / 2 ^ n % 2) :: lo v n
@[simp] theorem lo_len (v : Int) (n : Nat) : (lo v n).length = n := by
  induction n with
  | zero => rfl
  | succ n ih => simp [lo, ih]
def Bit (l : List Int) : Prop := ∀ x ∈ l, x = 0 ∨ x = 1
theorem Bit.nil : Bit [] := fun _ h => by cases h
theorem Bit.append {a b : List Int} (ha : Bit a) (hb : Bit b) : Bit (a ++ b) := fun x hx => by
  rcases List.mem_append.1 hx with h | h
  · exact ha x h
  · exact hb x h
theorem Bit.of {a b : List Int} (h : Bit (a ++ b)) : Bit a ∧ Bit b := ⟨fun x hx => h x (List.mem_append_left _ hx), fun x hx => h x (List.mem_append_right _ hx)⟩
theorem Bit.take {a : List Int} (h : Bit a) (n : Nat) : Bit (a.take n) := fun x hx => h x (List.mem_of_mem_take hx)
theorem Bit.drop {a : List Int} (h : Bit a) (n : Nat) : Bit (a.drop n) := fun x hx => h x (List.mem_of_mem_drop hx)
theorem lo_bit (v : Int) (n : Nat) : Bit (lo v n) := by
  induction n with
  | zero => exact Bit.nil
  | succ n ih =>
    intro x hx
    simp only [lo, List.mem_cons] at hx
    rcases hx with rfl | hx
    · omega
    · exact ih x hx
theorem lo_snoc (v : Int) (n : Nat) : lo v (n + 1) = lo (v / 2) n ++ [v % 2] := by
  induction n generalizing v with
  | zero => simp [lo]
  | succ n ih =>
    rw [lo, ih v, lo, List.cons_append]
    congr 2
    rw [Int.ediv_ediv_of_nonneg (by decide), Int.pow_succ, Int.mul_comm]

/-- The number of bits. -/
def valF (c : Int) (l : List Int) : Int := l.foldl (fun c b => 2 * c + b) c
def val (l : List Int) : Int := valF 0 l
theorem valF_from (c : Int) (l : List Int) : valF c l = c * 2 ^ l.length + val l := by
  unfold val
  induction l generalizing c with
  | nil => simp [valF]
  | cons x l ih =>
    have h1 : valF c (x :: l) = valF (2 * c + x) l := rfl
    have h2 : valF 0 (x :: l) = valF (2 * 0 + x) l := rfl
    rw [h1, h2, ih (2 * c + x), ih (2 * 0 + x), List.length_cons, Int.pow_succ]
    generalize (2 : Int) ^ l.length = p
    have e1 : (2 * c + x) * p = 2 * c * p + x * p := Int.add_mul ..
    have e2 : c * (p * 2) = 2 * c * p := by rw [Int.mul_comm p 2, ← Int.mul_assoc, Int.mul_comm c 2]
    rw [e1, e2]
    simp
    omega
theorem val_nil : val [] = 0 := rfl
theorem val_one (x : Int) : val [x] = x := by simp [val, valF]
theorem val_append (a b : List Int) : val (a ++ b) = val a * 2 ^ b.length + val b := by
  unfold val
  have : valF 0 (a ++ b) = valF (valF 0 a) b := by unfold valF; rw [List.foldl_append]
  rw [this, valF_from]
  rfl
theorem val_snoc (a : List Int) (x : Int) : val (a ++ [x]) = 2 * val a + x := by
  rw [val_append, val_one]
  simp
  omega
theorem pow2_pos (n : Nat) : (0 : Int) < 2 ^ n := Int.pow_pos (by decide)
theorem val_rng {l : List Int} (h : Bit l) : 0 ≤ val l ∧ val l < 2 ^ l.length := by
  induction l with
  | nil => simp [val_nil]
  | cons x l ih =>
    have e : x :: l = [x] ++ l := rfl
    have hx := h x (List.mem_cons_self ..)
    have hl := ih (fun y hy => h y (List.mem_cons_of_mem _ hy))
    rw [e, val_append, val_one, List.length_append, Nat.add_comm, Int.pow_add]
    have hp := pow2_pos l.length
    simp only [List.length_cons, List.length_nil]
    have : (2 : Int) ^ (0 + 1) = 2 := rfl
    rw [this]
    generalize (2 : Int) ^ l.length = p at *
    rcases hx with rfl | rfl <;> omega
theorem mod_step (v p : Int) (hp : 0 < p) : v % (p * 2) = (v / p % 2) * p + v % p := by
  have h1 : v / (p * 2) = v / p / 2 := by rw [Int.ediv_ediv_of_nonneg (by omega)]
  rw [Int.emod_def v (p * 2), h1, Int.emod_def v p, Int.emod_def (v / p) 2]
  generalize v / p = q
  generalize q / 2 = t
  rw [Int.sub_mul, Int.mul_assoc p 2 t, Int.mul_comm q p, Int.mul_assoc 2 t p, Int.mul_comm t p, ← Int.mul_assoc 2 p t, ← Int.mul_assoc p 2 t, Int.mul_comm p 2]
  omega
theorem val_lo (v : Int) (n : Nat) : val (lo v n) = v % 2 ^ n := by
  induction n with
  | zero => simp [lo, val_nil]
  | succ n ih =>
    have e : lo v (n + 1) = [v / 2 ^ n % 2] ++ lo v n := rfl
    rw [e, val_append, val_one, ih, lo_len, Int.pow_succ]
    exact (mod_step v (2 ^ n) (pow2_pos n)).symm
/-- What lies ahead of b, behind a shift. -/
theorem val_div {a b : List Int} (hb : Bit b) : val (a ++ b) / 2 ^ b.length = val a := by
  have hr := val_rng hb
  rw [val_append, Int.add_comm, Int.add_mul_ediv_right _ _ (by have := pow2_pos b.length; omega), Int.ediv_eq_zero_of_lt hr.1 hr.2, Int.zero_add]
theorem val_mod {a b : List Int} (hb : Bit b) : val (a ++ b) % 2 ^ b.length = val b := by
  have hr := val_rng hb
  rw [val_append, Int.add_comm, Int.add_mul_emod_self_right, Int.emod_eq_of_lt hr.1 hr.2]
theorem split_at {l : List Int} {r : Nat} (h : r < l.length) : l = (l.take r ++ [l[r]]) ++ l.drop (r + 1) := by
  rw [List.append_assoc, List.singleton_append, List.getElem_cons_drop, List.take_append_drop]
/-- A bit of a number of bits. -/
theorem val_bit {l : List Int} (hl : Bit l) {r : Nat} (h : r < l.length) : val l / 2 ^ (l.length - 1 - r) % 2 = l[r] := by
  have e := split_at h
  have hd : (l.drop (r + 1)).length = l.length - 1 - r := by rw [List.length_drop]; omega
  have hv : val l / 2 ^ (l.length - 1 - r) = val (l.take r ++ [l[r]]) := by
    rw [← hd]
    conv => lhs; rw [e]
    rw [← e]
    exact (congrArg (fun z => val z / 2 ^ (l.drop (r + 1)).length) e).trans (val_div (hl.drop _))
  rw [hv, val_snoc]
  have := hl l[r] (List.getElem_mem h)
  omega
theorem lo_val {l : List Int} (hl : Bit l) : lo (val l) l.length = l := by
  induction l with
  | nil => rfl
  | cons x l ih =>
    have hx := hl x (List.mem_cons_self ..)
    have hb : Bit l := fun y hy => hl y (List.mem_cons_of_mem _ hy)
    have hr := val_rng hb
    have e : val (x :: l) = x * 2 ^ l.length + val l := by rw [show x :: l = [x] ++ l from rfl, val_append, val_one]
    have hlow : ∀ n, n ≤ l.length → lo (x * 2 ^ l.length + val l) n = lo (val l) n := by
      intro n
      induction n with
      | zero => intro _; rfl
      | succ n ih2 =>
        intro hn
        rw [lo, lo, ih2 (by omega)]
        congr 1
        have e2 : x * 2 ^ l.length = (x * 2 ^ (l.length - n - 1) * 2) * 2 ^ n := by
          rw [Int.mul_assoc, Int.mul_assoc]
          congr 1
          rw [← Int.pow_succ', ← Int.pow_add]
          congr 1
          omega
        rw [e2, Int.add_comm, Int.add_mul_ediv_right _ _ (by have := pow2_pos n; omega)]
        omega
    rw [List.length_cons, lo, e, hlow _ (Nat.le_refl _), ih hb]
    congr 1
    rw [Int.add_comm, Int.add_mul_ediv_right _ _ (by have := pow2_pos l.length; omega), Int.ediv_eq_zero_of_lt hr.1 hr.2]
    omega

/-- The byte of eight bits from 8 i on; whole bytes of bits. -/
def oct (l : List Int) (i : Nat) : Int := val ((l.drop (8 * i)).take 8)
def pack (l : List Int) : List UInt8 := (List.range (l.length / 8)).map fun i => UInt8.ofNat (oct l i).toNat
@[simp] theorem pack_len (l : List Int) : (pack l).length = l.length / 8 := by simp [pack]
theorem oct_rng {l : List Int} (h : Bit l) (i : Nat) : 0 ≤ oct l i ∧ oct l i < 256 := by
  have h1 := val_rng ((h.drop (8 * i)).take 8)
  have h2 : ((l.drop (8 * i)).take 8).length ≤ 8 := List.length_take_le ..
  have h3 : (2 : Int) ^ ((l.drop (8 * i)).take 8).length ≤ 2 ^ 8 := by
    exact_mod_cast Nat.pow_le_pow_right (by decide : 0 < 2) h2
  unfold oct
  omega
theorem ofNat_num {x : Int} (h0 : 0 ≤ x) (h1 : x < 256) : ((UInt8.ofNat x.toNat).toNat : Int) = x := by
  rw [UInt8.toNat_ofNat']
  omega
theorem pack_get {l : List Int} {i : Nat} (hi : i < l.length / 8) : (pack l)[i]? = some (UInt8.ofNat (oct l i).toNat) := by
  simp [pack, hi]
theorem oct_append {a : List Int} (b : List Int) {i : Nat} (hi : 8 * i + 8 ≤ a.length) : oct (a ++ b) i = oct a i := by
  unfold oct
  rw [List.drop_append_of_le_length (by omega), List.take_append_of_le_length (by rw [List.length_drop]; omega)]
theorem pack_append (a b : List Int) : (pack (a ++ b)).take (a.length / 8) = pack a := by
  apply List.ext_getElem?
  intro i
  rw [List.getElem?_take]
  by_cases h : i < a.length / 8
  · rw [if_pos h, pack_get (by rw [List.length_append]; omega), pack_get h, oct_append b (by omega)]
  · rw [if_neg h, List.getElem?_eq_none (by rw [pack_len]; omega)]
theorem pack_take_succ {l : List Int} {k : Nat} (h : k < l.length / 8) : (pack l).take (k + 1) = (pack l).take k ++ [UInt8.ofNat (oct l k).toNat] := by
  rw [List.take_add_one, pack_get h]
  rfl
/-- The byte that a shift of the number of all bits shows. -/
theorem oct_val {l : List Int} (h : Bit l) {k : Nat} (hk : 8 * k + 8 ≤ l.length) : val l / 2 ^ (l.length - (8 * k + 8)) % 256 = oct l k := by
  have e : l = (l.take (8 * k) ++ (l.drop (8 * k)).take 8) ++ l.drop (8 * k + 8) := by
    rw [List.append_assoc]
    have : l.drop (8 * k) = (l.drop (8 * k)).take 8 ++ l.drop (8 * k + 8) := by
      rw [← List.drop_drop, List.take_append_drop]
    conv => rhs; rw [← this]
    rw [List.take_append_drop]
  have hd : (l.drop (8 * k + 8)).length = l.length - (8 * k + 8) := by rw [List.length_drop]
  have hv : val l / 2 ^ (l.length - (8 * k + 8)) = val (l.take (8 * k) ++ (l.drop (8 * k)).take 8) := by
    rw [← hd]
    exact (congrArg (fun z => val z / 2 ^ (l.drop (8 * k + 8)).length) e).trans (val_div (h.drop _))
  rw [hv]
  have h8 : ((l.drop (8 * k)).take 8).length = 8 := by rw [List.length_take, List.length_drop]; omega
  have := val_mod (a := l.take (8 * k)) ((h.drop (8 * k)).take 8)
  rw [h8] at this
  exact this

/-- The bits of bytes. -/
def bitsOf : List UInt8 → List Int
  | [] => []
  | c :: d => lo (c.toNat : Int) 8 ++ bitsOf d
@[simp] theorem bitsOf_len (d : List UInt8) : (bitsOf d).length = 8 * d.length := by
  induction d with
  | nil => rfl
  | cons c d ih => simp [bitsOf, ih]; omega
theorem bitsOf_bit (d : List UInt8) : Bit (bitsOf d) := by
  induction d with
  | nil => exact Bit.nil
  | cons c d ih => exact (lo_bit _ _).append ih
theorem bitsOf_append (a b : List UInt8) : bitsOf (a ++ b) = bitsOf a ++ bitsOf b := by
  induction a with
  | nil => rfl
  | cons c d ih => simp [bitsOf, ih]
theorem lo_get {v : Int} {n r : Nat} (h : r < n) : (lo v n)[r]? = some (v / 2 ^ (n - 1 - r) % 2) := by
  induction n generalizing r with
  | zero => omega
  | succ n ih =>
    cases r with
    | zero => simp [lo]
    | succ r =>
      rw [lo, List.getElem?_cons_succ, ih (by omega)]
      congr 4
      omega
theorem bitsOf_get {d : List UInt8} {j : Nat} (h : j < 8 * d.length) : (bitsOf d)[j]? = some (((d.getD (j / 8) 0).toNat : Int) / 2 ^ (7 - j % 8) % 2) := by
  induction d generalizing j with
  | nil => simp at h
  | cons c d ih =>
    rw [bitsOf]
    by_cases hj : j < 8
    · rw [List.getElem?_append_left (by rw [lo_len]; exact hj), lo_get hj]
      have e1 : j / 8 = 0 := by omega
      have e2 : j % 8 = j := by omega
      rw [e1, e2]
      rfl
    · rw [List.getElem?_append_right (by rw [lo_len]; omega), lo_len, ih (by simp at h; omega)]
      have e1 : j / 8 = (j - 8) / 8 + 1 := by omega
      have e2 : j % 8 = (j - 8) % 8 := by omega
      rw [e1, e2, List.getD_cons_succ]
theorem val_bit8 {m : List Int} (hm : Bit m) (h8 : m.length = 8) {r : Nat} (hr : r < 8) : some (val m / 2 ^ (7 - r) % 2) = m[r]? := by
  have h := val_bit hm (r := r) (by omega)
  rw [List.getElem?_eq_getElem (by omega), ← h, show m.length - 1 - r = 7 - r by omega]
theorem bitsOf_pack {l : List Int} (h : Bit l) {k : Nat} (h8 : l.length = 8 * k) : bitsOf (pack l) = l := by
  apply List.ext_getElem?
  intro j
  by_cases hj : j < l.length
  · have hk : j / 8 < l.length / 8 := by omega
    rw [bitsOf_get (by rw [pack_len]; omega), List.getD_eq_getElem?_getD, pack_get hk]
    have hr := oct_rng h (j / 8)
    rw [Option.getD_some, ofNat_num hr.1 hr.2]
    have h8' : ((l.drop (8 * (j / 8))).take 8).length = 8 := by rw [List.length_take, List.length_drop]; omega
    unfold oct
    rw [val_bit8 ((h.drop (8 * (j / 8))).take 8) h8' (show j % 8 < 8 by omega), List.getElem?_take_of_lt (by omega), List.getElem?_drop]
    congr 1
    omega
  · rw [List.getElem?_eq_none (by rw [bitsOf_len, pack_len]; omega), List.getElem?_eq_none (by omega)]

/-- Filled with 1s. -/
def padN (n : Nat) : Nat := (8 - n % 8) % 8
def pad (l : List Int) : List Int := l ++ List.replicate (padN l.length) 1
theorem pad_bit {l : List Int} (h : Bit l) : Bit (pad l) := h.append fun x hx => .inr (List.eq_of_mem_replicate hx)
theorem pad_len (l : List Int) : (pad l).length = l.length + padN l.length := by simp [pad]
theorem pad_8 (l : List Int) : (pad l).length = 8 * ((l.length + 7) / 8) := by rw [pad_len]; unfold padN; omega
theorem val_ones (n : Nat) : val (List.replicate n 1) = 2 ^ n - 1 := by
  induction n with
  | zero => rfl
  | succ n ih =>
    rw [List.replicate_succ', val_snoc, ih, Int.pow_succ]
    omega
theorem pack_pad (l : List Int) : pack (pad l) = pack l ++ if l.length % 8 = 0 then [] else [UInt8.ofNat (oct (pad l) (l.length / 8)).toNat] := by
  have h1 := pack_append l (List.replicate (padN l.length) 1)
  have hl := pad_8 l
  have e : (pack (pad l)).length = (l.length + 7) / 8 := by rw [pack_len, hl]; omega
  by_cases h : l.length % 8 = 0
  · rw [if_pos h, List.append_nil]
    have : padN l.length = 0 := by unfold padN; omega
    unfold pad
    rw [this]
    simp
  · rw [if_neg h, ← h1]
    have hk : l.length / 8 < (pad l).length / 8 := by rw [hl]; omega
    have := pack_take_succ hk
    rw [List.take_of_length_le (by rw [e]; omega)] at this
    exact this
theorem oct_pad {l : List Int} (h : Bit l) (h8 : ¬ l.length % 8 = 0) : oct (pad l) (l.length / 8) = (val l * 2 ^ (8 - l.length % 8)) % 256 + (2 ^ (8 - l.length % 8) - 1) := by
  have hl := pad_8 l
  have hp : padN l.length = 8 - l.length % 8 := by unfold padN; omega
  have h1 := oct_val (pad_bit h) (k := l.length / 8) (by rw [hl]; omega)
  rw [show (pad l).length - (8 * (l.length / 8) + 8) = 0 by rw [hl]; omega] at h1
  rw [← h1]
  unfold pad
  rw [val_append, List.length_replicate, val_ones, hp, Int.pow_zero, Int.ediv_one]
  obtain ⟨r, hr, h0, h7⟩ : ∃ r, l.length % 8 = r ∧ 1 ≤ r ∧ r ≤ 7 := ⟨_, rfl, by omega, by omega⟩
  rw [hr]
  generalize val l = V
  clear h1 hl hp h h8 hr
  have : r = 1 ∨ r = 2 ∨ r = 3 ∨ r = 4 ∨ r = 5 ∨ r = 6 ∨ r = 7 := by omega
  rcases this with rfl | rfl | rfl | rfl | rfl | rfl | rfl <;> simp <;> omega
end Go.Proofs.Ytanihbflgolciaa
