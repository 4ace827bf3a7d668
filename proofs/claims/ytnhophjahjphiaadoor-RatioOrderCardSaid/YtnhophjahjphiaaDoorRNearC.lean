/- Contract of ratio.Near. -/
import Derived.Test.YtnhophjahjphiaaDoorRNear
namespace Go.Proofs.YtnhophjahjphiaaDoor
open Go.RowKit
set_option linter.unusedVariables false

def nearOk (A D m : Int) : Bool := plainB A D && (decide (D ≠ 0) && (decide (1 ≤ m) && decide (m ≤ 4096)))
theorem nearOk_iff {A D m : Int} : nearOk A D m = true ↔ ((0 ≤ A ∧ A ≤ 4294967295) ∧ (1 ≤ D ∧ D ≤ 4294967295) ∧ 1 ≤ m ∧ m ≤ 4096) := by
  unfold nearOk
  rw [Bool.and_eq_true, Bool.and_eq_true, Bool.and_eq_true, plainB_iff, decide_eq_true_eq, decide_eq_true_eq, decide_eq_true_eq]
  omega
def nearS (A D m : Int) : Int × Int × Int := nearF A D (m - 1).toNat
theorem nearF_next (A D : Int) {j : Int} (hj : 2 ≤ j) : nearF A D (j + 1 - 2).toNat = nearStep A D (nearF A D (j - 2).toNat) j := by
  obtain ⟨k, rfl⟩ : ∃ k : Nat, j = k + 2 := ⟨(j - 2).toNat, by omega⟩
  rw [show ((k : Int) + 2 + 1 - 2).toNat = k + 1 from by omega, show ((k : Int) + 2 - 2).toNat = k from by omega]
  rfl
theorem nearF_rng (A : Int) {D j : Int} (d0 : 1 ≤ D) (hj : 2 ≤ j) (j1 : j ≤ 4097) :
    1 ≤ (nearF A D (j - 2).toNat).2.1 ∧ (nearF A D (j - 2).toNat).2.1 ≤ 4096 ∧ 0 ≤ (nearF A D (j - 2).toNat).2.2 ∧ (nearF A D (j - 2).toNat).2.2 ≤ D := by
  have I := nearI_all A (show 0 < D by omega) (j - 2).toNat
  have h1 := I.lo
  have h2 := I.hi
  have h3 := candO_rng A (nearF A D (j - 2).toNat).2.1 (show 0 < D by omega)
  rw [← I.off] at h3
  omega
theorem prod_rng {x y : Int} (x0 : 0 ≤ x) (x1 : x ≤ 4294967295) (y0 : 0 ≤ y) (y1 : y ≤ 4096) : 0 ≤ x * y ∧ x * y ≤ 17592186040320 := by
  have h1 : 0 ≤ x * y := Int.mul_nonneg x0 y0
  have h2 : x * y ≤ 4294967295 * y := Int.mul_le_mul_of_nonneg_right x1 y0
  omega

/-- What is kept while ratio.Near goes on: the ratio, the result's place, the best one so far (in block g). -/
structure NR (w0 : World) (g : Nat) (A D n d : Int) (w : World) : Prop where
  a : w.cell? ⟨w0.heap.size, 0, none⟩ = some (.int .i64 A)
  b : w.cell? ⟨w0.heap.size, 1, none⟩ = some (.int .i64 D)
  r0 : w.cell? ⟨w0.heap.size + 1, 0, none⟩ = some (.int .i64 0)
  r1 : w.cell? ⟨w0.heap.size + 1, 1, none⟩ = some (.int .i64 0)
  g0 : w.cell? ⟨g, 0, none⟩ = some (.int .i64 n)
  g1 : w.cell? ⟨g, 1, none⟩ = some (.int .i64 d)
  f0 : w.frozen? ⟨w0.heap.size + 1, 0, none⟩ = false
  f1 : w.frozen? ⟨w0.heap.size + 1, 1, none⟩ = false
  h0 : w.frozen? ⟨g, 0, none⟩ = false
  h1 : w.frozen? ⟨g, 1, none⟩ = false
  s : w0.heap.size + 1 < g
  t : g < w.heap.size
  u : Below w0.heap.size w0 w
theorem NR.call {w0 w w' : World} {g : Nat} {A D n d : Int} (h : NR w0 g A D n d w) (hb : Below w.heap.size w w') : NR w0 g A D n d w' := by
  have hs := h.s
  have ht := h.t
  have c : ∀ b o : Nat, b < w.heap.size → w'.cell? ⟨b, o, none⟩ = w.cell? ⟨b, o, none⟩ := fun b o h => hb.cell (p := ⟨b, o, none⟩) h
  have f : ∀ b o : Nat, b < w.heap.size → w'.frozen? ⟨b, o, none⟩ = w.frozen? ⟨b, o, none⟩ := fun b o h => hb.frozen (p := ⟨b, o, none⟩) h
  exact ⟨(c _ _ (by omega)).trans h.a, (c _ _ (by omega)).trans h.b, (c _ _ (by omega)).trans h.r0, (c _ _ (by omega)).trans h.r1, (c _ _ ht).trans h.g0, (c _ _ ht).trans h.g1,
    (f _ _ (by omega)).trans h.f0, (f _ _ (by omega)).trans h.f1, (f _ _ ht).trans h.h0, (f _ _ ht).trans h.h1, hs, Nat.lt_of_lt_of_le ht hb.size, bstep h.u hb⟩
theorem NR.alloc {w0 w : World} {g : Nat} {A D n d : Int} (h : NR w0 g A D n d w) (o : Obj) : NR w0 g A D n d (w.alloc o) := h.call ((Below.refl _ _).alloc (Nat.le_refl _) o)
theorem NR.put {w0 w : World} {g : Nat} {A D n d : Int} (h : NR w0 g A D n d w) (x y : Int) : NR w0 g A D x y ((w.setCell ⟨g, 0, none⟩ (.int .i64 x)).setCell ⟨g, 1, none⟩ (.int .i64 y)) := by
  have hs := h.s
  have z := two_set (w := w) (g := g) (.int .i64 x) (.int .i64 y) (by rw [h.g0]; rfl) (by rw [h.g1]; rfl)
  have far : ∀ (b o : Nat), b ≠ g → ((w.setCell ⟨g, 0, none⟩ (.int .i64 x)).setCell ⟨g, 1, none⟩ (.int .i64 y)).cell? ⟨b, o, none⟩ = w.cell? ⟨b, o, none⟩ := fun b o hb =>
    (World.cell?_setCell_other _ _ _ _ (fun e => by injection e with e _; exact hb e.symm)).trans (World.cell?_setCell_other _ _ _ _ (fun e => by injection e with e _; exact hb e.symm))
  have fz : ∀ (W : World) (p q : Addr) (v : Value), (W.setCell p v).frozen? q = W.frozen? q := fun W p q v => by simp
  exact ⟨(far _ _ (by omega)).trans h.a, (far _ _ (by omega)).trans h.b, (far _ _ (by omega)).trans h.r0, (far _ _ (by omega)).trans h.r1, z.1, z.2,
    by rw [fz, fz]; exact h.f0, by rw [fz, fz]; exact h.f1, by rw [fz, fz]; exact h.h0, by rw [fz, fz]; exact h.h1, hs, by simpa [World.setCell] using h.t, below_two h.u (by omega) _ _⟩

theorem near_no (A D m : Int) (w : World) (h : nearOk A D m = false) :
    Calls Tryd.prog 20 #[.agg #[.int .i64 A, .int .i64 D], .int .i64 m] w fun e w' => e = .returned (.tuple #[.agg #[.int .i64 0, .int .i64 0], .bool false]) ∧ Below w.heap.size w w' := by
  have fin : ∀ (w1 : World), Kp w A D 0 0 w1 → Below w.heap.size w w1 := fun w1 K => K.2.2.2.2.2
  cases hp : plainB A D with
  | false =>
    have H := Lib.hid hp
    clear h hp
    go_enter Tryd.func20, Tryd.ntmps20
    go_wp2_with fail
    (with_reducible refine (cPlain_any A D _).mono ?_); rintro e w1 ⟨rfl, h1⟩
    rw [H.out]
    have K1 := Lib.hid (Kp.new h1)
    have z := Lib.hid (K1.out.two 0 0)
    obtain ⟨hc, hf, hz⟩ := bcell h1
    clear h1
    go_wp2
    have z0 := z.out.1
    have z1 := z.out.2
    exact bodyPost_ret (v := .tuple #[.agg #[.int .i64 0, .int .i64 0], .bool false]) (by simp [results, Tryd.results20, go_sem, z0, z1]) rfl ⟨rfl, below_two K1.out.2.2.2.2.2 (by omega) _ _⟩
  | true =>
    have H := Lib.hid hp
    by_cases hd : D = 0
    · have t0 : (D == 0) = true := by rw [beq_iff_eq]; exact hd
      clear h hp hd
      go_enter Tryd.func20, Tryd.ntmps20
      go_wp2_with fail
      (with_reducible refine (cPlain_any A D _).mono ?_); rintro e w1 ⟨rfl, h1⟩
      rw [H.out]
      have K1 := Lib.hid (Kp.new h1)
      have z := Lib.hid (K1.out.two 0 0)
      obtain ⟨hc, hf, hz⟩ := bcell h1
      clear h1
      go_wp2
      have z0 := z.out.1
      have z1 := z.out.2
      exact bodyPost_ret (v := .tuple #[.agg #[.int .i64 0, .int .i64 0], .bool false]) (by simp [results, Tryd.results20, go_sem, z0, z1]) rfl ⟨rfl, below_two K1.out.2.2.2.2.2 (by omega) _ _⟩
    · have t0 : (D == 0) = false := by rw [beq_eq_false_iff_ne]; exact hd
      have hm : m < 1 ∨ 4096 < m := by
        rcases Int.lt_or_le m 1 with k | k
        · exact .inl k
        · right
          have : ¬ (nearOk A D m = true) := by rw [h]; exact fun e => by cases e
          rw [nearOk_iff] at this
          have := plainB_iff.1 hp
          omega
      clear h hp hd
      by_cases h1 : m < 1
      · clear hm
        go_enter Tryd.func20, Tryd.ntmps20
        go_wp2_with fail
        (with_reducible refine (cPlain_any A D _).mono ?_); rintro e w1 ⟨rfl, h1⟩
        rw [H.out]
        have K1 := Lib.hid (Kp.new h1)
        have z := Lib.hid (K1.out.two 0 0)
        obtain ⟨hc, hf, hz⟩ := bcell h1
        clear h1
        go_wp2
        have z0 := z.out.1
        have z1 := z.out.2
        exact bodyPost_ret (v := .tuple #[.agg #[.int .i64 0, .int .i64 0], .bool false]) (by simp [results, Tryd.results20, go_sem, z0, z1]) rfl ⟨rfl, below_two K1.out.2.2.2.2.2 (by omega) _ _⟩
      · have h2 : 4096 < m := by omega
        clear hm
        go_enter Tryd.func20, Tryd.ntmps20
        go_wp2_with fail
        (with_reducible refine (cPlain_any A D _).mono ?_); rintro e w1 ⟨rfl, h1⟩
        rw [H.out]
        have K1 := Lib.hid (Kp.new h1)
        have z := Lib.hid (K1.out.two 0 0)
        obtain ⟨hc, hf, hz⟩ := bcell h1
        clear h1
        go_wp2
        have z0 := z.out.1
        have z1 := z.out.2
        exact bodyPost_ret (v := .tuple #[.agg #[.int .i64 0, .int .i64 0], .bool false]) (by simp [results, Tryd.results20, go_sem, z0, z1]) rfl ⟨rfl, below_two K1.out.2.2.2.2.2 (by omega) _ _⟩

set_option maxHeartbeats 3200000 in
set_option maxRecDepth 100000 in
theorem near_yes (A D m : Int) (w : World) (h : nearOk A D m = true) :
    Calls Tryd.prog 20 #[.agg #[.int .i64 A, .int .i64 D], .int .i64 m] w fun e w' => e = .returned (.tuple #[.agg #[.int .i64 (nearS A D m).1, .int .i64 (nearS A D m).2.1], .bool true]) ∧ Below w.heap.size w w' := by
  obtain ⟨⟨a0, a1⟩, ⟨d0, d1⟩, m0, m1⟩ := nearOk_iff.1 h
  have hp : plainB A D = true := plainB_iff.2 (by omega)
  have H := Lib.hid hp
  have t0 : (D == 0) = false := by rw [beq_eq_false_iff_ne]; omega
  clear h hp
  go_enter Tryd.func20, Tryd.ntmps20
  go_wp2_with fail
  (with_reducible refine (cPlain_any A D _).mono ?_); rintro e w1 ⟨rfl, h1⟩
  rw [H.out]
  have K1 := Lib.hid (Kp.new h1)
  obtain ⟨hc, hf, hz⟩ := bcell h1
  have y0 : w1.frozen? ⟨w.heap.size + 1, 0, none⟩ = false := by go_simp
  have y1 : w1.frozen? ⟨w.heap.size + 1, 1, none⟩ = false := by go_simp
  clear h1 hc hf hz
  have c0 := K1.out.1
  have c1 := K1.out.2.1
  go_wp2_with fail
  (with_reducible refine (over_any A D 1 _ a0 a1 d0 d1 (by omega) (by omega)).mono ?_); rintro e w2 ⟨rfl, h2⟩
  have K2 := K1.out.call h2
  have N0 : Hid (NR w w2.heap.size A D (candN A D 1) 1 (w2.alloc (.cells #[.int .i64 (candN A D 1), .int .i64 1] 23))) := by
    have B := Bx.new w2 (candN A D 1) 1 23
    have k := K2.alloc (.cells #[.int .i64 (candN A D 1), .int .i64 1] 23)
    obtain ⟨hc, hf, hz⟩ := bcell h2
    have l1 := K1.out.2.2.2.2.1
    have l2 := K2.2.2.2.2.1
    have z0 : w2.frozen? ⟨w.heap.size + 1, 0, none⟩ = false := (hf _ _ l1).trans y0
    have z1 : w2.frozen? ⟨w.heap.size + 1, 1, none⟩ = false := (hf _ _ l1).trans y1
    exact ⟨k.1, k.2.1, k.2.2.1, k.2.2.2.1, B.c0, B.c1, (World.frozen?_alloc_past _ _ _ l2).trans z0, (World.frozen?_alloc_past _ _ _ l2).trans z1, by simp, by simp, l2, B.lt, k.2.2.2.2.2⟩
  clear h2 K2 y0 y1 c0 c1 K1
  go_wp2_with fail
  go_loopw [7, 8] (fun o x wr => ∃ j : Int, x = .int .i64 j ∧ 2 ≤ j ∧ j ≤ m + 1 ∧ o = .int .i64 (nearF A D (j - 2).toNat).2.2 ∧ NR w w2.heap.size A D (nearF A D (j - 2).toNat).1 (nearF A D (j - 2).toNat).2.1 wr) (fun _ x _ => (m + 1 - intOf x).toNat)
  case atStart => exact ⟨2, rfl, by omega, by omega, rfl, N0.out⟩
  case round =>
    obtain ⟨j, rfl, j0, j1, rfl, hN⟩ := hrel
    obtain ⟨x0, x1, x2, x3⟩ := nearF_rng A d0 j0 (show j ≤ 4097 by omega)
    have HX := Lib.hid (nearF_next A D j0)
    have NR0 := Lib.hid hN
    clear hN N0
    by_cases hj : j ≤ m
    · unfold nearStep at HX
      generalize hs : nearF A D (j - 2).toNat = s at *
      obtain ⟨n, d, o⟩ := s
      have c0 := NR0.out.a
      have c1 := NR0.out.b
      dsimp only at x0 x1 x2 x3 NR0
      have q0 := candO_rng A j (show 0 < D by omega)
      clear hs
      go_wp2_with fail
      (with_reducible refine (over_any A D j _ a0 a1 d0 d1 (by omega) (by omega)).mono ?_); rintro e w3 ⟨rfl, h3⟩
      have NR3 := Lib.hid (NR0.out.call h3)
      clear h3 c0 c1
      generalize hC : candN A D j = C at *
      generalize hO : candO A D j = O at *
      clear hC hO
      have g0 := NR3.out.g0
      have g1 := NR3.out.g1
      have k0 := NR3.out.h0
      have k1 := NR3.out.h1
      have lt := NR3.out.t
      have p1 := prod_rng (x := O) (y := d) (by omega) (by omega) (by omega) (by omega)
      have p2 := prod_rng (x := o) (y := j) (by omega) (by omega) (by omega) (by omega)
      have w1 : wrap64 (O * d) = O * d := by unfold wrap64; omega
      have w2' : wrap64 (o * j) = o * j := by unfold wrap64; omega
      by_cases hlt : O * d < o * j
      · have ht : decide (O * d < o * j) = true := by rw [decide_eq_true_eq]; exact hlt
        have HX' : Hid (nearF A D (j + 1 - 2).toNat = (C, j, O)) := by
          have e := HX.out
          (try dsimp only at e)
          rw [if_pos hlt] at e
          exact Lib.hid e
        clear HX hlt p1 p2
        go_wp2_with fail
        go_roundw
        case rel => exact ⟨j + 1, rfl, by omega, by omega, by rw [HX'.out], by rw [HX'.out]; exact (NR3.out.put C j).alloc _⟩
        case measure => simp [intOf]; omega
      · have ht : decide (O * d < o * j) = false := by rw [decide_eq_false_iff_not]; exact hlt
        have HX' : Hid (nearF A D (j + 1 - 2).toNat = (n, d, o)) := by
          have e := HX.out
          (try dsimp only at e)
          rw [if_neg hlt] at e
          exact Lib.hid e
        clear HX hlt p1 p2
        go_wp2_with fail
        go_roundw
        case rel => exact ⟨j + 1, rfl, by omega, by omega, by rw [HX'.out], by rw [HX'.out]; exact NR3.out.alloc _⟩
        case measure => simp [intOf]; omega
    · obtain rfl : j = m + 1 := by omega
      have e : (m + 1 - 2).toNat = (m - 1).toNat := by omega
      rw [e] at NR0
      have hS : nearS A D m = nearF A D (m - 1).toNat := rfl
      generalize nearF A D (m - 1).toNat = s at *
      obtain ⟨n, d, o⟩ := s
      have HS := Lib.hid hS
      have g0 := NR0.out.g0
      have g1 := NR0.out.g1
      have r0 := NR0.out.r0
      have r1 := NR0.out.r1
      have f0 := NR0.out.f0
      have f1 := NR0.out.f1
      clear HX hS
      have z := two_set (w := wr) (g := w.heap.size + 1) (.int .i64 n) (.int .i64 d) (by rw [r0]; rfl) (by rw [r1]; rfl)
      have Z := Lib.hid z
      clear z
      go_wp2
      have z0 := Z.out.1
      have z1 := Z.out.2
      exact bodyPost_ret (v := .tuple #[.agg #[.int .i64 n, .int .i64 d], .bool true]) (by simp [results, Tryd.results20, go_sem, z0, z1]) rfl ⟨ret_least (by rw [HS.out]) (by rw [HS.out]), below_two NR0.out.u (by omega) _ _⟩

def nearN (A D m : Int) : Int := if nearOk A D m then (nearS A D m).1 else 0
def nearD (A D m : Int) : Int := if nearOk A D m then (nearS A D m).2.1 else 0
theorem near_any (A D m : Int) (w : World) :
    Calls Tryd.prog 20 #[.agg #[.int .i64 A, .int .i64 D], .int .i64 m] w fun e w' => e = .returned (.tuple #[.agg #[.int .i64 (nearN A D m), .int .i64 (nearD A D m)], .bool (nearOk A D m)]) ∧ Below w.heap.size w w' := by
  unfold nearN nearD
  cases h : nearOk A D m with
  | false => exact near_no A D m w h
  | true => exact near_yes A D m w h
end Go.Proofs.YtnhophjahjphiaaDoor
