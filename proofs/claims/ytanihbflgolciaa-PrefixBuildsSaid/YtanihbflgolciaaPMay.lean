/- Contract of the document's May. -/
import Derived.Test.YtanihbflgolciaaMemI
namespace Go.Proofs.Ytanihbflgolciaa
open Go.RowKit Go.Lib
set_option linter.unusedVariables false
set_option maxRecDepth 100000

/-- A code specification as a value: sixteen counts and a slice. -/
structure Hv (X : Array Value) (cs : List Int) (s : Value) : Prop where
  cnt : ∀ k, k < 16 → X[k]? = some (.int .i64 (cs.getD k 0))
  syms : X[16]? = some s
/-- One that stands in a block. -/
structure Hb (w : World) (b : Nat) (cs : List Int) (s : Value) : Prop where
  cnt : ∀ k, k < 16 → w.cell? ⟨b, k, none⟩ = some (.int .i64 (cs.getD k 0))
  syms : w.cell? ⟨b, 16, none⟩ = some s
  size : b < w.heap.size
theorem Hv.box {X : Array Value} {cs : List Int} {s : Value} (h : Hv X cs s) (w : World) (T : TypeId) : Hb (w.alloc (.cells X T)) w.heap.size cs s :=
  ⟨fun k hk => by rw [World.cell?_alloc_at _ _ _ _ rfl]; exact h.cnt k hk, by rw [World.cell?_alloc_at _ _ _ _ rfl]; exact h.syms, by simp⟩
theorem Hb.below {w w' : World} {b : Nat} {cs : List Int} {s : Value} (h : Hb w b cs s) (hb : Below w.heap.size w w') : Hb w' b cs s :=
  ⟨fun k hk => cell_later hb (h.cnt k hk), cell_later hb h.syms, Nat.lt_of_lt_of_le h.size hb.size⟩

def manyS (cs : List Int) : Nat → Int
  | 0 => 0
  | k + 1 => manyS cs k + cs.getD k 0
def sumS (cs : List Int) : Nat → Int
  | 0 => 0
  | k + 1 => sumS cs k + cs.getD k 0 * 2 ^ (15 - k)
/-- The document's May. -/
structure MayP (cs l : List Int) : Prop where
  cnt : ∀ k, k < 16 → 0 ≤ cs.getD k 0 ∧ cs.getD k 0 ≤ 256
  sym : ∀ i, i < l.length → 0 ≤ l.getD i 0 ∧ l.getD i 0 ≤ 255
  dif : ∀ i k, i < l.length → k < i → l.getD k 0 ≠ l.getD i 0
  many : manyS cs 16 = l.length
  some : 1 ≤ l.length
  sum : sumS cs 16 < 65536

/-- The document's May, as a bool. -/
noncomputable def mayB (cs l : List Int) : Bool := @decide (MayP cs l) (Classical.propDecidable _)
theorem mayB_true {cs l : List Int} (h : MayP cs l) : mayB cs l = true := by unfold mayB; exact @decide_eq_true _ (Classical.propDecidable _) h
theorem mayB_false {cs l : List Int} (h : ¬ MayP cs l) : mayB cs l = false := by unfold mayB; exact @decide_eq_false _ (Classical.propDecidable _) h
theorem mayB_iff {cs l : List Int} : mayB cs l = true ↔ MayP cs l := by unfold mayB; exact @decide_eq_true_iff _ (Classical.propDecidable _)
theorem pow_case {k : Nat} (hk : k < 16) {x : Int} (h0 : 0 ≤ x) (h1 : x ≤ 256) : ∃ P G : Int, (2 : Int) ^ (15 - k) = P ∧ 1 ≤ P ∧ P ≤ 32768 ∧ x * P = G ∧ 0 ≤ G ∧ G ≤ 8388608 ∧ Hid (G = x * 2 ^ (15 - k)) := by
  have h3 : (2 : Int) ^ (15 - k) ≤ 2 ^ 15 := by
    have : (2 : Nat) ^ (15 - k) ≤ 2 ^ 15 := Nat.pow_le_pow_right (by omega) (by omega)
    exact_mod_cast this
  have h4 : (0 : Int) < 2 ^ (15 - k) := Int.pow_pos (by decide)
  have h6 : x * 2 ^ (15 - k) ≤ 256 * 2 ^ 15 := Int.mul_le_mul h1 h3 (by omega) (by omega)
  exact ⟨_, _, rfl, by omega, by simpa using h3, rfl, Int.mul_nonneg h0 (by omega), by simpa using h6, Lib.hid rfl⟩
theorem many_rng {cs : List Int} : ∀ k, (∀ j, j < k → 0 ≤ cs.getD j 0 ∧ cs.getD j 0 ≤ 256) → 0 ≤ manyS cs k ∧ manyS cs k ≤ 256 * k
  | 0, _ => by simp [manyS]
  | k + 1, h => by
    have h1 := h k (by omega)
    have ih := many_rng k (fun j hj => h j (by omega))
    rw [manyS]
    omega
theorem sum_rng {cs : List Int} : ∀ k, k ≤ 16 → (∀ j, j < k → 0 ≤ cs.getD j 0 ∧ cs.getD j 0 ≤ 256) → 0 ≤ sumS cs k ∧ sumS cs k ≤ 8388608 * k
  | 0, _, _ => by simp [sumS]
  | k + 1, hk, h => by
    obtain ⟨h1, h2⟩ := h k (by omega)
    have ih := sum_rng k (by omega) (fun j hj => h j (by omega))
    rw [sumS]
    have h3 : (2 : Int) ^ (15 - k) ≤ 2 ^ 15 := by
      have : (2 : Nat) ^ (15 - k) ≤ 2 ^ 15 := Nat.pow_le_pow_right (by omega) (by omega)
      exact_mod_cast this
    have h4 : (0 : Int) < 2 ^ (15 - k) := Int.pow_pos (by decide)
    have h5 : (0 : Int) ≤ cs.getD k 0 * 2 ^ (15 - k) := Int.mul_nonneg h1 (by omega)
    have h6 : cs.getD k 0 * 2 ^ (15 - k) ≤ 256 * 2 ^ 15 := Int.mul_le_mul h2 h3 (by omega) (by omega)
    have e : (256 : Int) * 2 ^ 15 = 8388608 := by decide
    omega

theorem rMay_any (X : Array Value) (cs : List Int) (l : List Int) (A : Option Addr) (c : Nat) (w : World) (hX : Hv X cs (.slice A l.length c)) (hr : Ri w A l) (hl : l.length ≤ 300) :
    Calls Try.prog 8 #[.agg X] w fun e w' => e = .returned (.bool (mayB cs l)) ∧ Below w.heap.size w w' := by
  have HX := Lib.hid hX
  clear hX
  go_enter Try.func8, Try.ntmps8
  go_wp2
  have HB := Lib.hid (HX.out.box w 25)
  have HW := Lib.hid ((Below.refl w.heap.size w).alloc (Nat.le_refl _) (.cells X 25))
  generalize w.alloc (.cells X 25) = w1 at *
  go_loopw [3, 4, 5] (fun many sum i wr => ∃ (k : Nat), k ≤ 16 ∧ i = .int .i64 k ∧ many = .int .i64 (manyS cs k) ∧ sum = .int .i64 (sumS cs k) ∧ Hid (∀ j, j < k → 0 ≤ cs.getD j 0 ∧ cs.getD j 0 ≤ 256) ∧ ∃ N, wr = w1.drewN N) (fun _ _ i _ => 16 - (RowKit.intOf i).toNat)
  case atStart => exact ⟨0, Nat.zero_le _, rfl, rfl, rfl, (show Hid _ from fun j hj => absurd hj (Nat.not_lt_zero _)), 0, rfl⟩
  case round =>
    obtain ⟨k, hk, rfl, rfl, rfl, HC, N, rfl⟩ := hrel
    by_cases hlt : k < 16
    · have e1 := HB.out.cnt k hlt
      generalize hx : cs.getD k 0 = x at *
      have HX := Lib.hid hx
      clear hx
      have hb1 := many_rng k HC.out
      have hb2 := sum_rng k hk HC.out
      by_cases h0 : x < 0
      · have hf := Lib.hid (mayB_false (cs := cs) (l := l) fun h => by
          have := (h.cnt k hlt).1
          rw [HX.out] at this
          omega)
        go_wp2
        go_ret
        rw [hf.out]
        exact ⟨rfl, dN HW.out N⟩
      · by_cases h1 : 256 < x
        · have hf := Lib.hid (mayB_false (cs := cs) (l := l) fun h => by
            have := (h.cnt k hlt).2
            rw [HX.out] at this
            omega)
          go_wp2
          go_ret
          rw [hf.out]
          exact ⟨rfl, dN HW.out N⟩
        · obtain ⟨P, G, hP, hP1, hP2, hG, hG1, hG2, HG⟩ := pow_case hlt (by omega : 0 ≤ x) (by omega)
          go_wp2
          go_quiet (fail)
          go_wp2
          go_roundw
          case rel =>
            refine ⟨k + 1, by omega, by go_num, ?_, ?_, (show Hid _ from fun j hj => ?_), _, rfl⟩
            · rw [manyS, HX.out]
            · rw [sumS, HX.out, HG.out]
            · by_cases hjk : j = k
              · subst hjk
                rw [HX.out]
                omega
              · exact HC.out j (by omega)
          case measure => simp [RowKit.intOf]; omega
    · go_wp2
      generalize Value.int IntKind.i64 (k : Int) = v5
      generalize decide ((k : Int) < 16) = b9
      obtain rfl : k = 16 := by omega
      have hb1 := many_rng 16 HC.out
      have hb2 := sum_rng 16 (Nat.le_refl _) HC.out
      have e16 := HB.out.syms
      generalize hm : manyS cs 16 = mm at *
      generalize hsm : sumS cs 16 = ss at *
      have HM := Lib.hid hm
      have HS := Lib.hid hsm
      clear hm hsm
      go_loopw [6, 7] (fun i q wr => ∃ (k : Nat), k ≤ l.length ∧ i = .int .i64 k ∧ Hid (∀ j, j < k → 0 ≤ l.getD j 0 ∧ l.getD j 0 ≤ 255) ∧ Hid (∀ i j, i < k → j < i → l.getD j 0 ≠ l.getD i 0) ∧ ∃ N, wr = w1.drewN N) (fun i _ _ => l.length - (RowKit.intOf i).toNat)
      case atStart => exact ⟨0, Nat.zero_le _, rfl, (show Hid _ from fun j hj => absurd hj (Nat.not_lt_zero _)), (show Hid _ from fun i j hi _ => absurd hi (Nat.not_lt_zero _)), N, rfl⟩
      case round =>
        obtain ⟨k, hk, rfl, HA, HD, M, rfl⟩ := hrel
        by_cases hlt : k < l.length
        · obtain ⟨b, o, hAb, hc⟩ : ∃ b o, A = some ⟨b, o, none⟩ ∧ ∀ i, i < l.length → w.cell? ⟨b, o + i, none⟩ = some (.int .i64 (l.getD i 0)) := by
            rcases hr with h | h
            · rw [h] at hlt; simp at hlt
            · exact h
          subst hAb
          have e1 := cell_later HW.out (hc k hlt)
          generalize hx : l.getD k 0 = x at *
          have HX := Lib.hid hx
          clear hx
          by_cases h0 : x < 0
          · have hf := Lib.hid (mayB_false (cs := cs) (l := l) fun h => by
              have := (h.sym k hlt).1
              rw [HX.out] at this
              omega)
            go_wp2
            go_ret
            rw [hf.out]
            exact ⟨rfl, dN HW.out M⟩
          · by_cases h1 : 255 < x
            · have hf := Lib.hid (mayB_false (cs := cs) (l := l) fun h => by
                have := (h.sym k hlt).2
                rw [HX.out] at this
                omega)
              go_wp2
              go_ret
              rw [hf.out]
              exact ⟨rfl, dN HW.out M⟩
            · have HCc := Lib.hid hc
              clear hc
              go_wp2
              go_loopw [7] (fun q wr => ∃ (m : Nat), m ≤ k ∧ q = .int .i64 m ∧ Hid (∀ j, j < m → l.getD j 0 ≠ x) ∧ ∃ N, wr = w1.drewN N) (fun q _ => k - (RowKit.intOf q).toNat)
              case atStart => exact ⟨0, Nat.zero_le _, rfl, (show Hid _ from fun j hj => absurd hj (Nat.not_lt_zero _)), M, rfl⟩
              case round =>
                obtain ⟨m, hm, rfl, HE, M2, rfl⟩ := hrel
                by_cases hmk : m < k
                · have e2 := cell_later HW.out (HCc.out m (by omega))
                  generalize hy : l.getD m 0 = y at *
                  have HY := Lib.hid hy
                  clear hy
                  by_cases hxy : y = x
                  · have hf := Lib.hid (mayB_false (cs := cs) (l := l) fun h => by
                      have := h.dif k m hlt hmk
                      rw [HX.out, HY.out] at this
                      exact this hxy)
                    subst hxy
                    go_wp2
                    go_quiet (fail)
                    go_wp2
                    go_ret
                    rw [hf.out]
                    exact ⟨rfl, dN (dN HW.out _) _⟩
                  · have hq : (y == x) = false := by rw [beq_eq_false_iff_ne]; exact hxy
                    have HN := Lib.hid hxy
                    clear hxy
                    go_wp2
                    go_quiet (fail)
                    go_wp2
                    go_roundw
                    case rel =>
                      refine ⟨m + 1, by omega, by go_num, (show Hid _ from fun j hj => ?_), _, rfl⟩
                      by_cases hjm : j = m
                      · subst hjm
                        rw [HY.out]
                        exact HN.out
                      · exact HE.out j (by omega)
                    case measure => simp [RowKit.intOf]; omega
                · go_wp2
                  go_roundw
                  case rel =>
                    obtain rfl : m = k := by omega
                    refine ⟨m + 1, by omega, by go_num, (show Hid _ from fun j hj => ?_), (show Hid _ from fun i j hi hj => ?_), _, rfl⟩
                    · by_cases hjm : j = m
                      · subst hjm
                        rw [HX.out]
                        omega
                      · exact HA.out j (by omega)
                    · by_cases him : i = m
                      · subst him
                        rw [HX.out]
                        exact HE.out j hj
                      · exact HD.out i j (by omega) hj
                  case measure => simp [RowKit.intOf]; omega
        · obtain rfl : k = l.length := by omega
          by_cases hmm : mm = l.length
          · by_cases hl1 : 1 ≤ l.length
            · have hf : Hid (mayB cs l = decide (ss < 65536)) := by
                show mayB cs l = decide (ss < 65536)
                by_cases hs : ss < 65536
                · rw [decide_eq_true hs]
                  exact mayB_true ⟨HC.out, HA.out, HD.out, by rw [HM.out]; exact hmm, hl1, by rw [HS.out]; exact hs⟩
                · rw [decide_eq_false hs]
                  exact mayB_false fun h => hs (by have := h.sum; rwa [HS.out] at this)
              go_wp2
              go_ret
              rw [hf.out]
              exact ⟨rfl, dN HW.out M⟩
            · have hf := Lib.hid (mayB_false (cs := cs) (l := l) fun h => hl1 h.some)
              go_wp2
              go_ret
              rw [hf.out]
              exact ⟨rfl, dN HW.out M⟩
          · have hf := Lib.hid (mayB_false (cs := cs) (l := l) fun h => hmm (by have := h.many; rwa [HM.out] at this))
            go_wp2
            go_ret
            rw [hf.out]
            exact ⟨rfl, dN HW.out M⟩
end Go.Proofs.Ytanihbflgolciaa
