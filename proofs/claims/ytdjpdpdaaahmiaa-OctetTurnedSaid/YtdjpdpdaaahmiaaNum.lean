/- Numbers of one, two, four bytes: how the shifted bytes add up. -/
import Derived.Test.YtdjpdpdaaahmiaaApp
namespace Go.Proofs.Ytdjpdpdaaahmiaa
open Go.RowKit

theorem wraps62 (n : Int) (h₀ : 0 ≤ n) (h₁ : n < 2 ^ 62) : IntKind.i64.wrap n = n := by rw [IntKind.wrap_i64]; omega
theorem or_hi (i : Nat) (x y : Int) (h0 : 0 ≤ x) (h1 : x % 2 ^ i = 0) (h2 : x < 4611686018427387904) (h3 : 0 ≤ y) (h4 : y < 2 ^ i) (h5 : y < 4611686018427387904) : bits .or .i64 x y = x + y :=
  bits_join .i64 62 (by decide) wraps62 i x y h0 h1 (by omega) h3 h4 (by omega)
theorem or_lo (i : Nat) (x y : Int) (h0 : 0 ≤ y) (h1 : y % 2 ^ i = 0) (h2 : y < 4611686018427387904) (h3 : 0 ≤ x) (h4 : x < 2 ^ i) (h5 : x < 4611686018427387904) : bits .or .i64 x y = x + y := by
  have hc : bits .or .i64 x y = bits .or .i64 y x := by simp only [bits, BitVec.or_comm]
  rw [hc, or_hi i y x h0 h1 h2 h3 h4 h5]
  omega
theorem or0 (x : Int) (h0 : 0 ≤ x) (h1 : x < 4611686018427387904) : bits .or .i64 0 x = x := by
  rw [or_lo 0 0 x h0 (by omega) h1 (by omega) (by decide) (by omega)]
  omega

/-- The number that the s bytes from k on say. -/
def gV (l : List UInt8) (k : Nat) (s o : Int) : Int :=
  if s = 1 then bt l k
  else if s = 2 then (if o = 1 then bt l k + 256 * bt l (k + 1) else 256 * bt l k + bt l (k + 1))
  else if o = 1 then bt l k + 256 * bt l (k + 1) + 65536 * bt l (k + 2) + 16777216 * bt l (k + 3)
  else 16777216 * bt l k + 65536 * bt l (k + 1) + 256 * bt l (k + 2) + bt l (k + 3)
def getP (l : List UInt8) (a s o : Int) : Int × Bool :=
  if ¬ okSize s ∨ o < 1 ∨ 2 < o ∨ a < 0 ∨ (l.length : Int) < a ∨ (l.length : Int) - a < s then (0, false) else (gV l a.toNat s o, true)
theorem getP_no {l : List UInt8} {a s o : Int} (h : ¬ okSize s ∨ o < 1 ∨ 2 < o ∨ a < 0 ∨ (l.length : Int) < a ∨ (l.length : Int) - a < s) : getP l a s o = (0, false) := by
  unfold getP; rw [if_pos h]
theorem getP_yes {l : List UInt8} {k : Nat} {s o : Int} (h1 : okSize s) (h2 : o = 1 ∨ o = 2) (h3 : (k : Int) + s ≤ l.length) : getP l k s o = (gV l k s o, true) := by
  have : 0 < s := by unfold okSize at h1; omega
  unfold getP
  rw [if_neg (by simp only [not_or, Classical.not_not]; exact ⟨h1, by omega, by omega, by omega, by omega, by omega⟩), Int.toNat_natCast]

theorem le2 {a b : Int} (a0 : 0 ≤ a) (a1 : a < 256) (b0 : 0 ≤ b) (b1 : b < 256) : bits .or .i64 (bits .or .i64 0 a) (b * 256) = a + 256 * b := by
  rw [or0 a a0 (by omega), or_lo 8 a (b * 256) (by omega) (by omega) (by omega) a0 (by omega) (by omega)]; omega
theorem le4 {a b c d : Int} (a0 : 0 ≤ a) (a1 : a < 256) (b0 : 0 ≤ b) (b1 : b < 256) (c0 : 0 ≤ c) (c1 : c < 256) (d0 : 0 ≤ d) (d1 : d < 256) :
    bits .or .i64 (bits .or .i64 (bits .or .i64 (bits .or .i64 0 a) (b * 256)) (c * 65536)) (d * 16777216) = a + 256 * b + 65536 * c + 16777216 * d := by
  rw [le2 a0 a1 b0 b1, or_lo 16 _ (c * 65536) (by omega) (by omega) (by omega) (by omega) (by omega) (by omega), or_lo 24 _ (d * 16777216) (by omega) (by omega) (by omega) (by omega) (by omega) (by omega)]; omega
theorem be2 {a b : Int} (a0 : 0 ≤ a) (a1 : a < 256) (b0 : 0 ≤ b) (b1 : b < 256) : bits .or .i64 (bits .or .i64 0 (a * 256)) b = 256 * a + b := by
  rw [or0 (a * 256) (by omega) (by omega), or_hi 8 (a * 256) b (by omega) (by omega) (by omega) b0 (by omega) (by omega)]; omega
theorem be4 {a b c d : Int} (a0 : 0 ≤ a) (a1 : a < 256) (b0 : 0 ≤ b) (b1 : b < 256) (c0 : 0 ≤ c) (c1 : c < 256) (d0 : 0 ≤ d) (d1 : d < 256) :
    bits .or .i64 (bits .or .i64 (bits .or .i64 (bits .or .i64 0 (a * 16777216)) (b * 65536)) (c * 256)) d = 16777216 * a + 65536 * b + 256 * c + d := by
  rw [or0 (a * 16777216) (by omega) (by omega), or_hi 24 _ (b * 65536) (by omega) (by omega) (by omega) (by omega) (by omega) (by omega), or_hi 16 _ (c * 256) (by omega) (by omega) (by omega) (by omega) (by omega) (by omega),
    or_hi 8 _ d (by omega) (by omega) (by omega) (by omega) (by omega) (by omega)]; omega
end Go.Proofs.Ytdjpdpdaaahmiaa
