/- Plain facts of layer 9 (raster): pictures as rows of bytes, box averages, padded and cut pictures, the size that fits. -/
import Derived.WalkKit
namespace Go.Proofs.Ytogpnpcdghabmaa
open Go
set_option linter.unusedVariables false

/-- The byte at i, as a number (as Mem's bt; a name of its own, so that this text needs no seat's). -/
def pb (l : List UInt8) (i : Nat) : Int := ((l.getD i 0).toNat : Int)
theorem pb_rng (l : List UInt8) (i : Nat) : 0 ≤ pb l i ∧ pb l i ≤ 255 := by
  unfold pb
  have := (l.getD i 0).toNat_lt
  omega
/-- The place of a byte. -/
def at3 (w x y c : Nat) : Nat := 3 * w * y + 3 * x + c
theorem at3_lt {w h x y c : Nat} (hx : x < w) (hy : y < h) (hc : c < 3) : at3 w x y c < 3 * w * h := by
  unfold at3
  have h1 : 3 * w * y + 3 * w ≤ 3 * w * h := by
    rw [← Nat.mul_succ]
    exact Nat.mul_le_mul_left _ hy
  omega
theorem at3_y {w x y c : Nat} (hx : x < w) (hc : c < 3) : at3 w x y c / (3 * w) = y := by
  unfold at3
  rw [Nat.add_assoc, Nat.mul_add_div (by omega), Nat.div_eq_of_lt (by omega)]
  rfl
theorem at3_r {w x y c : Nat} (hx : x < w) (hc : c < 3) : at3 w x y c % (3 * w) = 3 * x + c := by
  unfold at3
  rw [Nat.add_assoc, Nat.mul_add_mod, Nat.mod_eq_of_lt (by omega)]
theorem at3_x {w x y c : Nat} (hx : x < w) (hc : c < 3) : at3 w x y c % (3 * w) / 3 = x := by rw [at3_r hx hc]; omega
theorem at3_c {w x y c : Nat} (hx : x < w) (hc : c < 3) : at3 w x y c % 3 = c := by
  unfold at3
  rw [Nat.mul_assoc]
  omega
/-- Each index is a place's. -/
theorem at3_of {w h j : Nat} (hj : j < 3 * w * h) : j % (3 * w) / 3 < w ∧ j / (3 * w) < h ∧ j % 3 < 3 ∧ at3 w (j % (3 * w) / 3) (j / (3 * w)) (j % 3) = j := by
  have hw : 0 < w := by
    rcases Nat.eq_zero_or_pos w with e | e
    · rw [e] at hj; simp at hj
    · exact e
  have h1 : j % (3 * w) < 3 * w := Nat.mod_lt _ (by omega)
  have h2 : j / (3 * w) < h := Nat.div_lt_of_lt_mul hj
  have h3 := Nat.div_add_mod j (3 * w)
  have h4 : j % (3 * w) % 3 = j % 3 := Nat.mod_mod_of_dvd j ⟨w, rfl⟩
  refine ⟨by omega, h2, Nat.mod_lt _ (by omega), ?_⟩
  unfold at3
  omega
/-- A picture of a function of places. -/
def picL (f : Nat → Nat → Nat → Int) (w h : Nat) : List UInt8 := (List.range (3 * w * h)).map fun j => UInt8.ofNat (f (j % (3 * w) / 3) (j / (3 * w)) (j % 3)).toNat
theorem pic_len (f : Nat → Nat → Nat → Int) (w h : Nat) : (picL f w h).length = 3 * w * h := by simp [picL]
theorem pb_pic {f : Nat → Nat → Nat → Int} {w h x y c : Nat} (hx : x < w) (hy : y < h) (hc : c < 3) (hf : 0 ≤ f x y c ∧ f x y c ≤ 255) : pb (picL f w h) (at3 w x y c) = f x y c := by
  have hl := at3_lt hx hy hc
  unfold pb picL
  rw [List.getD_eq_getElem?_getD]
  simp only [List.getElem?_map, List.getElem?_range hl, Option.map_some, Option.getD_some, UInt8.toNat_ofNat']
  rw [at3_x hx hc, at3_y hx hc, at3_c hx hc]
  omega
theorem pb_ext {l m : List UInt8} (h : l.length = m.length) (hb : ∀ i, i < l.length → pb l i = pb m i) : l = m := by
  apply List.ext_getElem h
  intro i h1 h2
  have := hb i h1
  unfold pb at this
  rw [List.getD_eq_getElem?_getD, List.getElem?_eq_getElem h1, List.getD_eq_getElem?_getD, List.getElem?_eq_getElem h2] at this
  have h3 : ((l[i]).toNat : Int) = ((m[i]).toNat : Int) := by simpa using this
  exact UInt8.toNat_inj.1 (by omega)
/-- A row of bytes is the picture of a function. -/
theorem pic_is {l : List UInt8} {f : Nat → Nat → Nat → Int} {w h : Nat} (hl : l.length = 3 * w * h) (hf : ∀ x y c, x < w → y < h → c < 3 → f x y c = pb l (at3 w x y c)) : picL f w h = l := by
  apply pb_ext
  · rw [pic_len, hl]
  · intro i hi
    rw [pic_len] at hi
    obtain ⟨a1, a2, a3, a4⟩ := at3_of hi
    have h1 := hf _ _ _ a1 a2 a3
    rw [← a4, pb_pic a1 a2 a3 (by rw [h1]; exact pb_rng _ _), h1]
theorem pic_congr {f g : Nat → Nat → Nat → Int} {w h : Nat} (hf : ∀ x y c, x < w → y < h → c < 3 → f x y c = g x y c) : picL f w h = picL g w h := by
  unfold picL
  apply List.map_congr_left
  intro j hj
  obtain ⟨a1, a2, a3, a4⟩ := at3_of (w := w) (h := h) (by simpa using hj)
  rw [hf _ _ _ a1 a2 a3]
/-- Padded, or cut. -/
def padF (l : List UInt8) (W H : Nat) (x y c : Nat) : Int := pb l (at3 W (min x (W - 1)) (min y (H - 1)) c)
theorem padF_rng (l : List UInt8) (W H x y c : Nat) : 0 ≤ padF l W H x y c ∧ padF l W H x y c ≤ 255 := pb_rng _ _
theorem padF_in {l : List UInt8} {W H x y c : Nat} (hx : x < W) (hy : y < H) : padF l W H x y c = pb l (at3 W x y c) := by
  unfold padF
  rw [Nat.min_eq_left (by omega), Nat.min_eq_left (by omega)]
/-- P9.5: to its own size a picture is itself. -/
theorem pad_own {l : List UInt8} {W H : Nat} (hl : l.length = 3 * W * H) : picL (padF l W H) W H = l := pic_is hl fun x y c hx hy _ => padF_in hx hy
/-- P9.5: padded, and cut again. -/
theorem pad_back {l : List UInt8} {W H w h : Nat} (hl : l.length = 3 * W * H) (hw : W ≤ w) (hh : H ≤ h) : picL (padF (picL (padF l W H) w h) w h) W H = l :=
  pic_is hl fun x y c hx hy hc => by
    rw [padF_in (by omega) (by omega), pb_pic (by omega) (by omega) hc (padF_rng _ _ _ _ _ _), padF_in hx hy]
/-- Cut twice. -/
theorem cut_cut {l : List UInt8} {W H w h a b : Nat} (hw : w ≤ W) (hh : h ≤ H) (ha : a ≤ w) (hb : b ≤ h) : picL (padF (picL (padF l W H) w h) w h) a b = picL (padF l W H) a b :=
  pic_congr fun x y c hx hy hc => by
    rw [padF_in (by omega) (by omega), pb_pic (by omega) (by omega) hc (padF_rng _ _ _ _ _ _)]
/-- The first n of f, summed up. -/
def smF (f : Nat → Int) : Nat → Int
  | 0 => 0
  | n + 1 => smF f n + f n
theorem smF_lo {f : Nat → Int} {m : Int} : ∀ n, (∀ k, k < n → m ≤ f k) → m * (n : Int) ≤ smF f n
  | 0, _ => by simp [smF]
  | n + 1, h => by
    have ih := smF_lo n fun k hk => h k (by omega)
    have h1 := h n (by omega)
    show m * ((n + 1 : Nat) : Int) ≤ smF f n + f n
    have e : m * ((n + 1 : Nat) : Int) = m * (n : Int) + m := by push_cast; rw [Int.mul_add, Int.mul_one]
    omega
theorem smF_hi {f : Nat → Int} {m : Int} : ∀ n, (∀ k, k < n → f k ≤ m) → smF f n ≤ m * (n : Int)
  | 0, _ => by simp [smF]
  | n + 1, h => by
    have ih := smF_hi n fun k hk => h k (by omega)
    have h1 := h n (by omega)
    show smF f n + f n ≤ m * ((n + 1 : Nat) : Int)
    have e : m * ((n + 1 : Nat) : Int) = m * (n : Int) + m := by push_cast; rw [Int.mul_add, Int.mul_one]
    omega
theorem smF_congr {f g : Nat → Int} : ∀ n, (∀ k, k < n → f k = g k) → smF f n = smF g n
  | 0, _ => rfl
  | n + 1, h => by
    show smF f n + f n = smF g n + g n
    rw [smF_congr n fun k hk => h k (by omega), h n (by omega)]
/-- Where a box begins. -/
def lo9 (x W w : Nat) : Nat := x * W / w
theorem lo9_mono {x W w : Nat} : lo9 x W w ≤ lo9 (x + 1) W w := Nat.div_le_div_right (Nat.mul_le_mul_right _ (by omega))
theorem lo9_lt {x W w : Nat} (hw : 0 < w) (hle : w ≤ W) : lo9 x W w < lo9 (x + 1) W w := by
  unfold lo9
  have h1 : (x + 1) * W = x * W + W := by rw [Nat.add_mul, Nat.one_mul]
  have h2 : x * W / w + 1 ≤ (x * W + W) / w := by
    rw [Nat.le_div_iff_mul_le hw, Nat.add_mul, Nat.one_mul]
    have := Nat.div_mul_le_self (x * W) w
    omega
  rw [h1]
  omega
theorem lo9_le {x W w : Nat} (hw : 0 < w) (hx : x < w) : lo9 (x + 1) W w ≤ W := by
  unfold lo9
  apply Nat.div_le_of_le_mul
  exact Nat.mul_le_mul_right _ hx
theorem lo9_own {x W : Nat} (hW : 0 < W) : lo9 x W W = x := Nat.mul_div_cancel _ hW
/-- The sum of a box's bytes; how many there are. -/
def bxS (l : List UInt8) (W H w h x y c : Nat) : Int := smF (fun i => smF (fun k => pb l (at3 W (lo9 x W w + k) (lo9 y H h + i) c)) (lo9 (x + 1) W w - lo9 x W w)) (lo9 (y + 1) H h - lo9 y H h)
def bxN (W H w h x y : Nat) : Nat := (lo9 (x + 1) W w - lo9 x W w) * (lo9 (y + 1) H h - lo9 y H h)
def boxF (l : List UInt8) (W H w h : Nat) (x y c : Nat) : Int := (2 * bxS l W H w h x y c + (bxN W H w h x y : Int)) / (2 * (bxN W H w h x y : Int))
theorem bxN_pos {W H w h x y : Nat} (hw : 0 < w) (hh : 0 < h) (hwW : w ≤ W) (hhH : h ≤ H) : 0 < bxN W H w h x y := Nat.mul_pos (by have := lo9_lt (x := x) hw hwW; omega) (by have := lo9_lt (x := y) hh hhH; omega)
theorem bxS_lo {l : List UInt8} {W H w h x y c : Nat} {m : Int} (hm : ∀ i k, lo9 y H h ≤ i → i < lo9 (y + 1) H h → lo9 x W w ≤ k → k < lo9 (x + 1) W w → m ≤ pb l (at3 W k i c)) : m * (bxN W H w h x y : Int) ≤ bxS l W H w h x y c := by
  have h1 := smF_lo (f := fun i => smF (fun k => pb l (at3 W (lo9 x W w + k) (lo9 y H h + i) c)) (lo9 (x + 1) W w - lo9 x W w)) (m := m * ((lo9 (x + 1) W w - lo9 x W w : Nat) : Int)) (lo9 (y + 1) H h - lo9 y H h) fun i hi => smF_lo _ fun k hk => hm _ _ (by omega) (by omega) (by omega) (by omega)
  unfold bxN
  push_cast
  rw [← Int.mul_assoc]
  exact h1
theorem bxS_hi {l : List UInt8} {W H w h x y c : Nat} {m : Int} (hm : ∀ i k, lo9 y H h ≤ i → i < lo9 (y + 1) H h → lo9 x W w ≤ k → k < lo9 (x + 1) W w → pb l (at3 W k i c) ≤ m) : bxS l W H w h x y c ≤ m * (bxN W H w h x y : Int) := by
  have h1 := smF_hi (f := fun i => smF (fun k => pb l (at3 W (lo9 x W w + k) (lo9 y H h + i) c)) (lo9 (x + 1) W w - lo9 x W w)) (m := m * ((lo9 (x + 1) W w - lo9 x W w : Nat) : Int)) (lo9 (y + 1) H h - lo9 y H h) fun i hi => smF_hi _ fun k hk => hm _ _ (by omega) (by omega) (by omega) (by omega)
  unfold bxN
  push_cast
  rw [← Int.mul_assoc]
  exact h1
/-- P9.6: the mean lies between the least and the greatest. -/
theorem boxF_mid {l : List UInt8} {W H w h x y c : Nat} {a b : Int} (hn : 0 < bxN W H w h x y) (h1 : ∀ i k, lo9 y H h ≤ i → i < lo9 (y + 1) H h → lo9 x W w ≤ k → k < lo9 (x + 1) W w → a ≤ pb l (at3 W k i c) ∧ pb l (at3 W k i c) ≤ b) : a ≤ boxF l W H w h x y c ∧ boxF l W H w h x y c ≤ b := by
  have e1 := bxS_lo (m := a) fun i k q1 q2 q3 q4 => (h1 i k q1 q2 q3 q4).1
  have e2 := bxS_hi (m := b) fun i k q1 q2 q3 q4 => (h1 i k q1 q2 q3 q4).2
  unfold boxF
  generalize bxS l W H w h x y c = s at *
  generalize bxN W H w h x y = n at *
  have hn2 : (0 : Int) < 2 * (n : Int) := by omega
  have m1 : a * (2 * (n : Int)) = 2 * (a * (n : Int)) := by rw [Int.mul_left_comm]
  have m2 : b * (2 * (n : Int)) = 2 * (b * (n : Int)) := by rw [Int.mul_left_comm]
  constructor
  · rw [Int.le_ediv_iff_mul_le hn2]
    omega
  · have : (2 * s + (n : Int)) / (2 * (n : Int)) < b + 1 := by
      rw [Int.ediv_lt_iff_lt_mul hn2, Int.add_mul, Int.one_mul]
      omega
    omega
theorem boxF_rng {l : List UInt8} {W H w h x y c : Nat} (hn : 0 < bxN W H w h x y) : 0 ≤ boxF l W H w h x y c ∧ boxF l W H w h x y c ≤ 255 := boxF_mid hn fun i k _ _ _ _ => pb_rng _ _
/-- P9.5: to its own size. -/
theorem box_own {l : List UInt8} {W H : Nat} (hl : l.length = 3 * W * H) : picL (boxF l W H W H) W H = l :=
  pic_is hl fun x y c hx hy hc => by
    have hW : 0 < W := by omega
    have hH : 0 < H := by omega
    unfold boxF bxS bxN
    rw [lo9_own hW, lo9_own hW, lo9_own hH, lo9_own hH, show x + 1 - x = 1 by omega, show y + 1 - y = 1 by omega]
    show (2 * (0 + (0 + pb l (at3 W (x + 0) (y + 0) c))) + ((1 * 1 : Nat) : Int)) / (2 * ((1 * 1 : Nat) : Int)) = _
    rw [Nat.add_zero, Nat.add_zero]
    omega
/-- The size that fits. -/
def fitN (w h wide high : Nat) : Nat × Nat := if w ≤ wide ∧ h ≤ high then (w, h) else if h * wide ≤ w * high then (wide, max 1 (h * wide / w)) else (max 1 (w * high / h), high)
/-- P9.7. -/
theorem fitN_ok {w h wide high : Nat} (hw : 1 ≤ w) (hh : 1 ≤ h) (hW : 1 ≤ wide) (hH : 1 ≤ high) :
    1 ≤ (fitN w h wide high).1 ∧ 1 ≤ (fitN w h wide high).2 ∧ (fitN w h wide high).1 ≤ min wide w ∧ (fitN w h wide high).2 ≤ min high h ∧ ((fitN w h wide high).1 = min wide w ∨ (fitN w h wide high).2 = min high h) := by
  unfold fitN
  by_cases h1 : w ≤ wide ∧ h ≤ high
  · rw [if_pos h1]
    refine ⟨hw, hh, ?_, ?_, .inl ?_⟩
    · show w ≤ min wide w; omega
    · show h ≤ min high h; omega
    · show w = min wide w; omega
  rw [if_neg h1]
  by_cases h2 : h * wide ≤ w * high
  · rw [if_pos h2]
    have h3 : wide ≤ w := by
      rcases Nat.lt_or_ge w wide with hlt | hge
      · have h4 : high < h := by omega
        have e1 : w * high < wide * high := Nat.mul_lt_mul_of_pos_right hlt (by omega)
        have e2 : wide * high ≤ wide * h := Nat.mul_le_mul_left _ (by omega)
        have e3 : wide * h = h * wide := Nat.mul_comm _ _
        omega
      · exact hge
    have q1 : h * wide / w ≤ high := Nat.div_le_of_le_mul h2
    have q2 : h * wide / w ≤ h := Nat.div_le_of_le_mul (by rw [Nat.mul_comm w h]; exact Nat.mul_le_mul_left _ h3)
    refine ⟨hW, ?_, ?_, ?_, .inl ?_⟩
    · show 1 ≤ max 1 (h * wide / w); omega
    · show wide ≤ min wide w; omega
    · show max 1 (h * wide / w) ≤ min high h; omega
    · show wide = min wide w; omega
  · rw [if_neg h2]
    have h3 : high ≤ h := by
      rcases Nat.lt_or_ge h high with hlt | hge
      · have e1 : h * wide ≤ high * wide := Nat.mul_le_mul_right _ (by omega)
        have h4 : wide < w := by omega
        have e2 : high * wide ≤ high * w := Nat.mul_le_mul_left _ (by omega)
        have e3 : high * w = w * high := Nat.mul_comm _ _
        omega
      · exact hge
    have q1 : w * high / h ≤ wide := Nat.div_le_of_le_mul (by omega)
    have q2 : w * high / h ≤ w := Nat.div_le_of_le_mul (by rw [Nat.mul_comm h w]; exact Nat.mul_le_mul_left _ h3)
    refine ⟨?_, hH, ?_, ?_, .inr ?_⟩
    · show 1 ≤ max 1 (w * high / h); omega
    · show max 1 (w * high / h) ≤ min wide w; omega
    · show high ≤ min high h; omega
    · show high = min high h; omega
theorem fitN_le {w h wide high : Nat} (hw : 1 ≤ w) (hh : 1 ≤ h) (hW : 1 ≤ wide) (hH : 1 ≤ high) (m : Nat) (h1 : wide ≤ m) (h2 : high ≤ m) : (fitN w h wide high).1 ≤ m ∧ (fitN w h wide high).2 ≤ m := by
  obtain ⟨_, _, a, b, _⟩ := fitN_ok hw hh hW hH
  omega
end Go.Proofs.Ytogpnpcdghabmaa
