/- Blocks turned: in plain numbers. -/
import Derived.Test.YtlchdelhhnlgbaaDoorZPl
namespace Go.Proofs.YtlchdelhhnlgbaaDoor
set_option maxRecDepth 100000
set_option linter.unusedVariables false
def zeros : List Int := List.replicate 64 0
/-- The list whose number at p is that of l at f p; of these, only where f p is below k; of these, only the first k. -/
def perm (f : Nat → Nat) (l : List Int) : List Int := (List.range 64).map fun p => l.getD (f p) 0
def partF (f : Nat → Nat) (l : List Int) (k : Nat) : List Int := (List.range 64).map fun p => if f p < k then l.getD (f p) 0 else 0
def partD (f : Nat → Nat) (l : List Int) (k : Nat) : List Int := (List.range 64).map fun p => if p < k then l.getD (f p) 0 else 0
theorem map64_len (g : Nat → Int) : ((List.range 64).map g).length = 64 := by rw [List.length_map, List.length_range]
theorem perm_len (f : Nat → Nat) (l : List Int) : (perm f l).length = 64 := map64_len _
theorem partF_len (f : Nat → Nat) (l : List Int) (k : Nat) : (partF f l k).length = 64 := map64_len _
theorem partD_len (f : Nat → Nat) (l : List Int) (k : Nat) : (partD f l k).length = 64 := map64_len _
theorem map64_at (g : Nat → Int) {p : Nat} (h : p < 64) : ((List.range 64).map g)[p]? = some (g p) := by
  rw [List.getElem?_map, List.getElem?_range h]; rfl
theorem map64_getD (g : Nat → Int) {p : Nat} (h : p < 64) : ((List.range 64).map g).getD p 0 = g p := by
  rw [List.getD_eq_getElem?_getD, map64_at g h]; rfl
theorem perm_at (f : Nat → Nat) (l : List Int) {p : Nat} (h : p < 64) : (perm f l).getD p 0 = l.getD (f p) 0 := map64_getD _ h
theorem map64_ext {g g' : Nat → Int} (h : ∀ p, p < 64 → g p = g' p) : (List.range 64).map g = (List.range 64).map g' :=
  List.map_congr_left fun p hp => h p (List.mem_range.1 hp)
theorem map64_set {g g' : Nat → Int} {q : Nat} {x : Int} (hq : q < 64) (hx : g' q = x) (h : ∀ p, p < 64 → p ≠ q → g p = g' p) : ((List.range 64).map g).set q x = (List.range 64).map g' := by
  apply List.ext_getElem?
  intro i
  rw [List.getElem?_set]
  by_cases hi : i < 64
  · by_cases hqi : q = i
    · subst hqi
      rw [if_pos rfl, map64_len, if_pos hq, map64_at g' hq, hx]
    · rw [if_neg hqi, map64_at g hi, map64_at g' hi, h i hi (fun e => hqi e.symm)]
  · rw [if_neg (by omega), List.getElem?_eq_none (by rw [map64_len]; omega), List.getElem?_eq_none (by rw [map64_len]; omega)]
theorem partF_zero (f : Nat → Nat) (l : List Int) : partF f l 0 = zeros := by
  unfold partF
  rw [map64_ext (g' := fun _ => 0) fun p _ => if_neg (Nat.not_lt_zero _)]
  decide +kernel
theorem partD_zero (f : Nat → Nat) (l : List Int) : partD f l 0 = zeros := by
  unfold partD
  rw [map64_ext (g' := fun _ => 0) fun p _ => if_neg (Nat.not_lt_zero _)]
  decide +kernel
theorem partF_all {f : Nat → Nat} (hf : ∀ p, p < 64 → f p < 64) (l : List Int) : partF f l 64 = perm f l := map64_ext fun p hp => if_pos (hf p hp)
theorem partD_all (f : Nat → Nat) (l : List Int) : partD f l 64 = perm f l := map64_ext fun p hp => if_pos hp
theorem partF_next {f g : Nat → Nat} (hg : ∀ k, k < 64 → g k < 64) (hfg : ∀ k, k < 64 → f (g k) = k) (hgf : ∀ p, p < 64 → g (f p) = p) (l : List Int) {k : Nat} (hk : k < 64) : (partF f l k).set (g k) (l.getD k 0) = partF f l (k + 1) := by
  refine map64_set (hg k hk) ?_ fun p hp hne => ?_
  · simp only [hfg k hk]
    rw [if_pos (by omega)]
  · have h1 : f p ≠ k := fun e => hne (by rw [← e, hgf p hp])
    by_cases h2 : f p < k
    · rw [if_pos h2, if_pos (by omega)]
    · rw [if_neg h2, if_neg (by omega)]
theorem partD_next (f : Nat → Nat) (l : List Int) {k : Nat} (hk : k < 64) : (partD f l k).set k (l.getD (f k) 0) = partD f l (k + 1) := by
  refine map64_set hk (if_pos (by omega)) fun p hp hne => ?_
  by_cases h2 : p < k
  · rw [if_pos h2, if_pos (by omega)]
  · rw [if_neg h2, if_neg (by omega)]
theorem perm_perm {f g : Nat → Nat} (hf : ∀ p, p < 64 → f p < 64) (hgf : ∀ p, p < 64 → g (f p) = p) {l : List Int} (hl : l.length = 64) : perm f (perm g l) = l := by
  apply List.ext_getElem?
  intro i
  by_cases hi : i < 64
  · rw [perm, map64_at _ hi, perm_at _ _ (hf i hi), hgf i hi, List.getD_eq_getElem?_getD, List.getElem?_eq_getElem (by omega)]
    rfl
  · rw [List.getElem?_eq_none (by rw [perm_len]; omega), List.getElem?_eq_none (by omega)]
/-- The last step below k at which the number is not 0. -/
def lastN (l : List Int) : Nat → Int
  | 0 => -1
  | k + 1 => if l.getD k 0 = 0 then lastN l k else (k : Int)
/-- The document's order of places. -/
def befB (a b : Nat) : Bool := if a / 8 + a % 8 ≠ b / 8 + b % 8 then decide (a / 8 + a % 8 < b / 8 + b % 8) else if (a / 8 + a % 8) % 2 = 1 then decide (a / 8 < b / 8) else decide (b / 8 < a / 8)
def befN (a : Nat) : Nat → Nat
  | 0 => 0
  | k + 1 => if befB k a then befN a k + 1 else befN a k
theorem befN_all : ∀ a, a < 64 → befN a 64 = zq a := by decide +kernel
theorem befN_le (a : Nat) : ∀ k, befN a k ≤ k
  | 0 => Nat.le_refl _
  | k + 1 => by
    have := befN_le a k
    unfold befN
    split <;> omega
end Go.Proofs.YtlchdelhhnlgbaaDoor
