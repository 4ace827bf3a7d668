/- Bytes turned, plainly. -/
import Derived.Test.YtdjpdpdaaahmiaaApp
namespace Go.Proofs.Ytdjpdpdaaahmiaa
open Go.RowKit

def okTurn (s o : Int) : Prop := (okSize s ∨ s = 8) ∧ (o = 1 ∨ o = 2)
instance (s o : Int) : Decidable (okTurn s o) := inferInstanceAs (Decidable ((okSize s ∨ s = 8) ∧ (o = 1 ∨ o = 2)))
/-- Which byte stands at i behind the turning. -/
def tix (n s : Nat) (o : Int) (i : Nat) : Nat := if o = 1 ∧ i < n - n % s then i - i % s + s - 1 - i % s else i
def tpre (l : List UInt8) (s : Nat) (o : Int) (k : Nat) : List UInt8 := (List.range k).map fun i => l.getD (tix l.length s o i) 0
def turnL (l : List UInt8) (s o : Int) : List UInt8 := if okTurn s o then tpre l s.toNat o l.length else []
theorem turnL_no {l : List UInt8} {s o : Int} (h : ¬ okTurn s o) : turnL l s o = [] := by unfold turnL; rw [if_neg h]
theorem turnL_yes {l : List UInt8} {s o : Int} (h : okTurn s o) : turnL l s o = tpre l s.toNat o l.length := by unfold turnL; rw [if_pos h]
theorem tpre_len (l : List UInt8) (s : Nat) (o : Int) (k : Nat) : (tpre l s o k).length = k := by simp [tpre]
theorem tpre_succ (l : List UInt8) (s : Nat) (o : Int) (k : Nat) : tpre l s o (k + 1) = tpre l s o k ++ [l.getD (tix l.length s o k) 0] := by
  simp [tpre, List.range_succ]
theorem bt_tpre (l : List UInt8) (s : Nat) (o : Int) (k i : Nat) (h : i < k) : bt (tpre l s o k) i = bt l (tix l.length s o i) := by
  unfold bt tpre
  rw [List.getD_eq_getElem?_getD, List.getElem?_map, List.getElem?_range h]
  rfl
theorem tix_lt {n s : Nat} (o : Int) {i : Nat} (hs : 0 < s) (h : i < n) : tix n s o i < n := by
  unfold tix
  split
  · rename_i hc
    have h1 := Nat.mod_lt i hs
    have h2 := Nat.mod_le i s
    have h3 := Nat.div_add_mod i s
    have h4 := Nat.div_add_mod n s
    have h5 : i / s < n / s := by
      apply Nat.lt_of_mul_lt_mul_left (a := s)
      omega
    have h6 : s * (i / s) + s ≤ s * (n / s) := by
      rw [← Nat.mul_succ]
      exact Nat.mul_le_mul_left s h5
    omega
  · exact h
theorem tpre_two (l : List UInt8) (s : Nat) : tpre l s 2 l.length = l := by
  apply eq_of_bt (tpre_len l s 2 _)
  intro i hi
  rw [tpre_len] at hi
  rw [bt_tpre l s 2 _ i hi]
  rfl
end Go.Proofs.Ytdjpdpdaaahmiaa
