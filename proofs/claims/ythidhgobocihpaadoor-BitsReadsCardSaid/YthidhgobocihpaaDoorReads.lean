/- Parts of rows of ints; what the law BitsReads asks of its calls. -/
import Derived.Test.YthidhgobocihpaaDoorWrites
namespace Go.Proofs.YthidhgobocihpaaDoor
open Go.RowKit Go.Lib
set_option linter.unusedVariables false

theorem run_winI_l (A : Option Addr) (n c x : Nat) (z : Int) (hz : z = (x : Int)) (hx : x ≤ n) (W : World) : (Instr.slice 28 (.slice A n c) (some (.int .i64 z)) none none).run Tryd.prog W = .ok (.slice (winA A c x) (n - x) (c - x)) W := by
  subst hz
  have ht' : Tryd.prog.underlying 28 = some (.slice (Tryd.prog.elem 28)) := by kernel_rfl
  have he : Tryd.prog.elem 28 = 3 := by kernel_rfl
  rw [run_slice_l W 28 _ _ _ ht' .i64 _ (by omega) (by omega), he, Go.sizeOf]
  obtain ⟨i0, hi, hz0, hz1, hz2⟩ := info_parts Tryd.info3
  simp [typeInfo, hi, hz1, Result.andThen, sliced, winA]
theorem run_winI_h (A : Option Addr) (n c y : Nat) (u : Int) (hu : u = (y : Int)) (hy : y ≤ c) (W : World) : (Instr.slice 28 (.slice A n c) none (some (.int .i64 u)) none).run Tryd.prog W = .ok (.slice (winA A c 0) y c) W := by
  subst hu
  have ht' : Tryd.prog.underlying 28 = some (.slice (Tryd.prog.elem 28)) := by kernel_rfl
  have he : Tryd.prog.elem 28 = 3 := by kernel_rfl
  rw [run_slice_h W 28 _ _ _ ht' .i64 _ (by omega) (by omega), he, Go.sizeOf]
  obtain ⟨i0, hi, hz0, hz1, hz2⟩ := info_parts Tryd.info3
  simp [typeInfo, hi, hz1, Result.andThen, sliced, winA]
theorem Ri.win {w : World} {A : Option Addr} {l : List Int} (h : Ri w A l) (c x n : Nat) (hc : l.length ≤ c) : Ri w (winA A c x) ((l.drop x).take n) := by
  by_cases h0 : (l.drop x).take n = []
  · exact .inl h0
  · have hx : x < l.length := by
      rcases Nat.lt_or_ge x l.length with k | k
      · exact k
      · exact absurd (by rw [List.drop_eq_nil_of_le k]; simp) h0
    obtain ⟨b, o, rfl, hcell⟩ := h.at (by omega)
    refine .inr ⟨b, o + x, ?_, fun i hi => ?_⟩
    · unfold winA
      rw [if_neg (by omega)]
      show some (Addr.add _ _) = _
      rw [Addr.add_lit]
    · have hi2 : i < n ∧ x + i < l.length := by rw [List.length_take, List.length_drop] at hi; omega
      rw [Nat.add_assoc, hcell (x + i) hi2.2]
      congr 2
      rw [List.getD_eq_getElem?_getD, List.getD_eq_getElem?_getD, List.getElem?_take_of_lt hi2.1, List.getElem?_drop]
theorem Ri.rest {w : World} {A : Option Addr} {l : List Int} (h : Ri w A l) (c x : Nat) (hc : l.length ≤ c) : Ri w (winA A c x) (l.drop x) := by
  have := h.win c x (l.drop x).length hc
  rwa [List.take_length] at this
theorem Ri.head {w : World} {A : Option Addr} {l : List Int} (h : Ri w A l) (c x : Nat) (hc : l.length ≤ c) : Ri w (winA A c 0) (l.take x) := by
  have := h.win c 0 x hc
  rwa [List.drop_zero] at this
/-- An address away from block q. -/
def Off (A : Option Addr) (q : Nat) : Prop := ∀ b o s, A = some ⟨b, o, s⟩ → b ≠ q
theorem Off.win {A : Option Addr} {q : Nat} (h : Off A q) (c x : Nat) : Off (winA A c x) q := by
  intro b o s e
  unfold winA at e
  split at e
  · exact h b o s e
  · cases A with
    | none => cases e
    | some a =>
      obtain ⟨b', o', s'⟩ := a
      have hb := h b' o' s' rfl
      simp only [Option.map_some, Option.some.injEq, Addr.add] at e
      split at e
      · cases e; exact hb
      · cases e; exact hb
theorem take_any (q : Nat) (d : List UInt8) (j : Nat) (n : Int) (w : World) (h : Rdr w q d j) (hd : d.length ≤ 100000000) (hj : j ≤ 8 * d.length) (hbad : n < 0 ∨ 16 < n ∨ (8 * d.length : Int) - j < n) :
    Calls Tryd.prog 21 #[.pointer (some ⟨q, 0, none⟩), .int .i64 n] w fun e w' => e = .returned (.tuple #[.int .i64 0, .bool false]) ∧ Hid (Rdr w' q d j) ∧ Below w.heap.size w w' := by
  by_cases hn : 0 ≤ n ∧ n ≤ 16
  · obtain ⟨m, rfl⟩ := Int.eq_ofNat_of_zero_le hn.1
    refine (take_few q d j m w h hd (by omega) hj (by omega)).mono ?_
    rintro e w' ⟨rfl, i, rfl⟩
    exact ⟨rfl, h.drewN i, below_drewN w i⟩
  · refine (take_bad q n w (by omega)).mono ?_
    rintro e w' ⟨rfl, rfl⟩
    exact ⟨rfl, h, Below.refl _ _⟩
theorem filled_at (q : Nat) (d : List UInt8) (k : Nat) (B : Bool) (w : World) (h : Rdr w q d k) (hd : d.length ≤ 100000000) (hk : k ≤ 8 * d.length) (hB : Hid (fillB ((bitsOf d).drop k) = B)) :
    Calls Tryd.prog 24 #[.pointer (some ⟨q, 0, none⟩)] w fun e w' => e = .returned (.bool B) ∧ Hid (Rdr w' q d k) ∧ Below w.heap.size w w' := by
  rw [← hB.out]
  refine (filled_any q d k w h hd hk).mono ?_
  rintro e w' ⟨rfl, hb⟩
  exact ⟨rfl, h.below hb, hb⟩
theorem own_any {w : World} (l : List UInt8) (T : TypeId) : Ob (w.alloc (.cells #[] 5)) w.heap.size (.slice (some ⟨w.heap.size, 0, none⟩) 0 0) [] := World.ownsRow_made w #[] 0 (Nat.le_refl _) (Nat.zero_le _) rfl
end Go.Proofs.YthidhgobocihpaaDoor
