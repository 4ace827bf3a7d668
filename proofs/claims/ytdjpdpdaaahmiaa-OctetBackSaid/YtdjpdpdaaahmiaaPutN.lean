/- The bytes of a number, plainly. -/
import Derived.Test.YtdjpdpdaaahmiaaNum
namespace Go.Proofs.Ytdjpdpdaaahmiaa
open Go.RowKit

def byI (n : Int) (j : Nat) : UInt8 := UInt8.ofNat (n / 256 ^ j % 256).toNat
theorem byI_val (n : Int) (j : Nat) : ((byI n j).toNat : Int) = n / 256 ^ j % 256 := by
  unfold byI
  have h0 := Int.emod_nonneg (n / 256 ^ j) (show (256 : Int) ≠ 0 by decide)
  have h1 := Int.emod_lt_of_pos (n / 256 ^ j) (show (0 : Int) < 256 by decide)
  rw [UInt8.toNat_ofNat']
  omega
theorem bv_by (n : Int) (j : Nat) : bv (byI n j) = .int .u8 (n / 256 ^ j % 256) := by
  unfold bv
  rw [byI_val]
def leL (n : Int) : Nat → List UInt8
  | 0 => []
  | k + 1 => leL n k ++ [byI n k]
theorem leL_len (n : Int) (k : Nat) : (leL n k).length = k := by
  induction k with
  | zero => rfl
  | succ k ih => simp [leL, ih]
def putOk (n s o : Int) : Bool := decide (okSize s ∧ (o = 1 ∨ o = 2) ∧ 0 ≤ n ∧ n < topI s)
def putL (n s o : Int) : List UInt8 := if putOk n s o then (if o = 1 then leL n s.toNat else (leL n s.toNat).reverse) else []
theorem putL_no {n s o : Int} (h : putOk n s o = false) : putL n s o = [] := by unfold putL; rw [h]; rfl
theorem putOk_yes {n s o : Int} (h1 : okSize s) (h2 : o = 1 ∨ o = 2) (h3 : 0 ≤ n) (h4 : n < topI s) : putOk n s o = true := by
  unfold putOk; rw [decide_eq_true_eq]; exact ⟨h1, h2, h3, h4⟩
theorem putOk_no {n s o : Int} (h : ¬ (okSize s ∧ (o = 1 ∨ o = 2) ∧ 0 ≤ n ∧ n < topI s)) : putOk n s o = false := by
  unfold putOk; rw [decide_eq_false_iff_not]; exact h
theorem putL_yes1 {n s : Int} (h : putOk n s 1 = true) : putL n s 1 = leL n s.toNat := by unfold putL; rw [h]; rfl
theorem putL_yes2 {n s : Int} (h : putOk n s 2 = true) : putL n s 2 = (leL n s.toNat).reverse := by unfold putL; rw [h]; rfl

theorem cells1 {n : Int} (h0 : 0 ≤ n) (h1 : n < 256) : #[Value.int .u8 n] = ((leL n 1).map bv).toArray := by
  have e : n / 256 ^ 0 % 256 = n := by omega
  simp [leL, bv_by]; omega
theorem cells2 {n : Int} (h0 : 0 ≤ n) (h1 : n < 65536) : #[Value.int .u8 (n % 256), .int .u8 (n / 256)] = ((leL n 2).map bv).toArray := by
  simp [leL, bv_by]; omega
theorem cells4 {n : Int} (h0 : 0 ≤ n) (h1 : n < 4294967296) : #[Value.int .u8 (n % 256), .int .u8 (n / 256 % 256), .int .u8 (n / 65536 % 256), .int .u8 (n / 16777216)] = ((leL n 4).map bv).toArray := by
  simp [leL, bv_by]; omega
theorem cellsr1 {n : Int} (h0 : 0 ≤ n) (h1 : n < 256) : #[Value.int .u8 n] = ((leL n 1).reverse.map bv).toArray := by
  simp [leL, bv_by]; omega
theorem cellsr2 {n : Int} (h0 : 0 ≤ n) (h1 : n < 65536) : #[Value.int .u8 (n / 256), .int .u8 (n % 256)] = ((leL n 2).reverse.map bv).toArray := by
  simp [leL, bv_by]; omega
theorem cellsr4 {n : Int} (h0 : 0 ≤ n) (h1 : n < 4294967296) : #[Value.int .u8 (n / 16777216), .int .u8 (n / 65536 % 256), .int .u8 (n / 256 % 256), .int .u8 (n % 256)] = ((leL n 4).reverse.map bv).toArray := by
  simp [leL, bv_by]; omega

theorem Ob.lits {w : World} {base : Nat} {cs : Array Value} {l : List UInt8} {n : Nat} (hb : base ≤ w.heap.size) (h : cs = (l.map bv).toArray) (hn : n = l.length) (hm : l.length ≤ maxLen) :
    Ob (w.alloc (.cells cs 5)) base (.slice (some ⟨w.heap.size, 0, none⟩) n n) l := by
  subst h hn
  unfold Ob
  have hk := World.ownsRow_lit (base := base) (e := 5) (size := 1) w (l.map bv).toArray l.length hb hm (by simp)
  simpa using hk
end Go.Proofs.Ytdjpdpdaaahmiaa
