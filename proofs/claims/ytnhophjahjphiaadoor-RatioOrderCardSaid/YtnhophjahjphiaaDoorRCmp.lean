/- Contract of ratio.Cmp. -/
import Derived.Test.YtnhophjahjphiaaDoorRCmpA
import Derived.Deep.RegionHeld3
import Derived.Deep.DeepCutAuto
namespace Go.Proofs.YtnhophjahjphiaaDoor
open Go.RowKit
open Go.Lib (compareInt)

def cmpOk (an ad bn bd : Int) : Bool := hasB an ad && hasB bn bd
def cmpV (an ad bn bd : Int) : Int := if cmpOk an ad bn bd then cmpR an ad bn bd else 0

theorem ret_ib {a b : Int} {c : Bool} (h : a = b) : Ending.returned (.tuple #[.int .i64 a, .bool c]) = .returned (.tuple #[.int .i64 b, .bool c]) := by rw [h]

theorem cmp_no1 (an ad bn bd : Int) (w : World) (h : hasB an ad = false) :
    Calls Tryd.prog 16 #[.agg #[.int .i64 an, .int .i64 ad], .agg #[.int .i64 bn, .int .i64 bd]] w fun e w' => e = .returned (.tuple #[.int .i64 0, .bool false]) ∧ Below w.heap.size w w' := by
  have H := Lib.hid h
  clear h
  go_enter Tryd.func16, Tryd.ntmps16
  go_wp2_with fail
  (with_reducible refine (has_any an ad _).mono ?_); rintro e w1 ⟨rfl, h1⟩
  rw [H.out]
  have g1 := bboxed (bboxed h1)
  clear h1
  go_wp2
  go_ret2
  exact ⟨rfl, g1⟩
theorem cmp_no2 (an ad bn bd : Int) (w : World) (h : hasB an ad = true) (h' : hasB bn bd = false) :
    Calls Tryd.prog 16 #[.agg #[.int .i64 an, .int .i64 ad], .agg #[.int .i64 bn, .int .i64 bd]] w fun e w' => e = .returned (.tuple #[.int .i64 0, .bool false]) ∧ Below w.heap.size w w' := by
  have H := Lib.hid h
  have H' := Lib.hid h'
  have B0 := Lib.hid (Bx.two w an ad bn bd 23 23)
  clear h h'
  go_enter Tryd.func16, Tryd.ntmps16
  go_wp2_with fail
  (with_reducible refine (has_any an ad _).mono ?_); rintro e w1 ⟨rfl, h1⟩
  rw [H.out]
  have B1 := B0.out.2.below h1
  have g1 := bboxed (bboxed h1)
  have c0 := B1.c0
  have c1 := B1.c1
  clear h1 B0
  go_wp2_with fail
  (with_reducible refine (has_any bn bd _).mono ?_); rintro e w2 ⟨rfl, h2⟩
  rw [H'.out]
  have g2 := bstep g1 h2
  clear h2 g1 c0 c1 B1
  go_wp2
  go_ret2
  exact ⟨rfl, g2⟩

/-- What is kept while ratio.Cmp goes on: both ratios stand where they were boxed. -/
def Kp (w0 : World) (an ad bn bd : Int) (w : World) : Prop :=
  w.cell? ⟨w0.heap.size, 0, none⟩ = some (.int .i64 an) ∧ w.cell? ⟨w0.heap.size, 1, none⟩ = some (.int .i64 ad) ∧ w.cell? ⟨w0.heap.size + 1, 0, none⟩ = some (.int .i64 bn) ∧ w.cell? ⟨w0.heap.size + 1, 1, none⟩ = some (.int .i64 bd) ∧ w0.heap.size + 1 < w.heap.size ∧ Below w0.heap.size w0 w
theorem Kp.call {w0 w w' : World} {an ad bn bd : Int} (h : Kp w0 an ad bn bd w) (hb : Below w.heap.size w w') : Kp w0 an ad bn bd w' := by
  obtain ⟨h1, h2, h3, h4, h5, h6⟩ := h
  exact ⟨(hb.cell (p := ⟨w0.heap.size, 0, none⟩) (by show w0.heap.size < _; omega)).trans h1, (hb.cell (p := ⟨w0.heap.size, 1, none⟩) (by show w0.heap.size < _; omega)).trans h2, (hb.cell (p := ⟨w0.heap.size + 1, 0, none⟩) h5).trans h3, (hb.cell (p := ⟨w0.heap.size + 1, 1, none⟩) h5).trans h4, Nat.lt_of_lt_of_le h5 hb.size, bstep h6 hb⟩
theorem Kp.alloc {w0 w : World} {an ad bn bd : Int} (h : Kp w0 an ad bn bd w) (o : Obj) : Kp w0 an ad bn bd (w.alloc o) := h.call ((Below.refl _ _).alloc (Nat.le_refl _) o)
theorem Kp.set {w0 w : World} {an ad bn bd : Int} (h : Kp w0 an ad bn bd w) {p : Addr} (hp : w0.heap.size + 1 < p.block) (u : Value) : Kp w0 an ad bn bd (w.setCell p u) := by
  obtain ⟨h1, h2, h3, h4, h5, h6⟩ := h
  have far : ∀ (b o : Nat), b ≤ w0.heap.size + 1 → (w.setCell p u).cell? ⟨b, o, none⟩ = w.cell? ⟨b, o, none⟩ := fun b o hb => World.cell?_setCell_other _ _ _ _ (fun e => by rw [e] at hp; simp at hp; omega)
  exact ⟨(far _ _ (by omega)).trans h1, (far _ _ (by omega)).trans h2, (far _ _ (by omega)).trans h3, (far _ _ (by omega)).trans h4, by simpa [World.setCell] using h5, h6.setCell (by omega) u⟩
theorem Kp.drew {w0 w : World} {an ad bn bd : Int} (h : Kp w0 an ad bn bd w) : Kp w0 an ad bn bd w.drew := h.call (Below.refl _ _).drew
theorem Kp.new {w0 w : World} {an ad bn bd : Int} {T U : TypeId} (h : Below (((w0.alloc (.cells #[.int .i64 an, .int .i64 ad] T)).alloc (.cells #[.int .i64 bn, .int .i64 bd] U))).heap.size ((w0.alloc (.cells #[.int .i64 an, .int .i64 ad] T)).alloc (.cells #[.int .i64 bn, .int .i64 bd] U)) w) : Kp w0 an ad bn bd w := by
  obtain ⟨A, B⟩ := Bx.two w0 an ad bn bd T U
  have A' := A.below h
  have B' := B.below h
  exact ⟨A'.c0, A'.c1, B'.c0, B'.c1, B'.lt, bboxed (bboxed h)⟩

set_option maxRecDepth 100000 in
/-- .. and so does one number more. -/
def Kq (w0 : World) (an ad bn bd : Int) (g : Nat) (p : Int) (w : World) : Prop :=
  w.cell? ⟨w0.heap.size, 0, none⟩ = some (.int .i64 an) ∧ w.cell? ⟨w0.heap.size, 1, none⟩ = some (.int .i64 ad) ∧ w.cell? ⟨w0.heap.size + 1, 0, none⟩ = some (.int .i64 bn) ∧ w.cell? ⟨w0.heap.size + 1, 1, none⟩ = some (.int .i64 bd) ∧ w0.heap.size + 1 < w.heap.size ∧ Below w0.heap.size w0 w ∧ w.cell? ⟨g, 0, none⟩ = some (.int .i64 p) ∧ g < w.heap.size
theorem Kq.of {w0 w : World} {an ad bn bd p : Int} {g : Nat} (h : Kp w0 an ad bn bd w) (h1 : w.cell? ⟨g, 0, none⟩ = some (.int .i64 p)) (h2 : g < w.heap.size) : Kq w0 an ad bn bd g p w := ⟨h.1, h.2.1, h.2.2.1, h.2.2.2.1, h.2.2.2.2.1, h.2.2.2.2.2, h1, h2⟩
theorem Kq.kp {w0 w : World} {an ad bn bd p : Int} {g : Nat} (h : Kq w0 an ad bn bd g p w) : Kp w0 an ad bn bd w := ⟨h.1, h.2.1, h.2.2.1, h.2.2.2.1, h.2.2.2.2.1, h.2.2.2.2.2.1⟩
theorem Kq.call {w0 w w' : World} {an ad bn bd p : Int} {g : Nat} (h : Kq w0 an ad bn bd g p w) (hb : Below w.heap.size w w') : Kq w0 an ad bn bd g p w' :=
  Kq.of (h.kp.call hb) ((hb.cell (p := ⟨g, 0, none⟩) h.2.2.2.2.2.2.2).trans h.2.2.2.2.2.2.1) (Nat.lt_of_lt_of_le h.2.2.2.2.2.2.2 hb.size)
theorem Kq.alloc {w0 w : World} {an ad bn bd p : Int} {g : Nat} (h : Kq w0 an ad bn bd g p w) (o : Obj) : Kq w0 an ad bn bd g p (w.alloc o) := h.call ((Below.refl _ _).alloc (Nat.le_refl _) o)
theorem Kq.drew {w0 w : World} {an ad bn bd p : Int} {g : Nat} (h : Kq w0 an ad bn bd g p w) : Kq w0 an ad bn bd g p w.drew := h.call (Below.refl _ _).drew
theorem Kq.set {w0 w : World} {an ad bn bd p : Int} {g : Nat} (h : Kq w0 an ad bn bd g p w) {q : Addr} (hp : w0.heap.size + 1 < q.block) (hg : g ≠ q.block) (u : Value) : Kq w0 an ad bn bd g p (w.setCell q u) :=
  Kq.of (h.kp.set hp u) ((World.cell?_setCell_other _ _ _ _ (fun e => hg (by rw [e]))).trans h.2.2.2.2.2.2.1) (by simpa [World.setCell] using h.2.2.2.2.2.2.2)

theorem two_set {w : World} {g : Nat} (u v : Value) (h0 : (w.cell? ⟨g, 0, none⟩).isSome = true) (h1 : (w.cell? ⟨g, 1, none⟩).isSome = true) :
    ((w.setCell ⟨g, 0, none⟩ u).setCell ⟨g, 1, none⟩ v).cell? ⟨g, 0, none⟩ = some u ∧ ((w.setCell ⟨g, 0, none⟩ u).setCell ⟨g, 1, none⟩ v).cell? ⟨g, 1, none⟩ = some v := by
  obtain ⟨x, hx⟩ := Option.isSome_iff_exists.1 h0
  obtain ⟨y, hy⟩ := Option.isSome_iff_exists.1 h1
  have ne : (⟨g, 0, none⟩ : Addr) ≠ ⟨g, 1, none⟩ := by intro e; injection e with _ e; cases e
  have k : (w.setCell ⟨g, 0, none⟩ u).cell? ⟨g, 1, none⟩ = w.cell? ⟨g, 1, none⟩ := World.cell?_setCell_other _ _ _ _ ne
  exact ⟨(World.cell?_setCell_other _ _ _ _ ne.symm).trans (World.cell?_setCell_same _ _ _ hx), World.cell?_setCell_same _ _ _ (k.trans hy)⟩

theorem four_set {w : World} {g : Nat} (a b c d : Value) (h0 : (w.cell? ⟨g, 0, none⟩).isSome = true) (h1 : (w.cell? ⟨g, 1, none⟩).isSome = true) (h2 : (w.cell? ⟨g, 2, none⟩).isSome = true) (h3 : (w.cell? ⟨g, 3, none⟩).isSome = true) :
    ((((w.setCell ⟨g, 0, none⟩ a).setCell ⟨g, 1, none⟩ b).setCell ⟨g, 2, none⟩ c).setCell ⟨g, 3, none⟩ d).cell? ⟨g, 0, none⟩ = some a ∧ ((((w.setCell ⟨g, 0, none⟩ a).setCell ⟨g, 1, none⟩ b).setCell ⟨g, 2, none⟩ c).setCell ⟨g, 3, none⟩ d).cell? ⟨g, 1, none⟩ = some b ∧
    ((((w.setCell ⟨g, 0, none⟩ a).setCell ⟨g, 1, none⟩ b).setCell ⟨g, 2, none⟩ c).setCell ⟨g, 3, none⟩ d).cell? ⟨g, 2, none⟩ = some c ∧ ((((w.setCell ⟨g, 0, none⟩ a).setCell ⟨g, 1, none⟩ b).setCell ⟨g, 2, none⟩ c).setCell ⟨g, 3, none⟩ d).cell? ⟨g, 3, none⟩ = some d := by
  obtain ⟨x, hx⟩ := Option.isSome_iff_exists.1 h0
  obtain ⟨y, hy⟩ := Option.isSome_iff_exists.1 h1
  obtain ⟨z, hz⟩ := Option.isSome_iff_exists.1 h2
  obtain ⟨u, hu⟩ := Option.isSome_iff_exists.1 h3
  have ne : ∀ i j : Nat, i ≠ j → (⟨g, i, none⟩ : Addr) ≠ ⟨g, j, none⟩ := fun i j h e => by injection e with _ e; exact h e
  have far : ∀ (W : World) (i j : Nat) (v : Value), i ≠ j → (W.setCell ⟨g, i, none⟩ v).cell? ⟨g, j, none⟩ = W.cell? ⟨g, j, none⟩ := fun W i j v h => World.cell?_setCell_other _ _ _ _ (ne i j h)
  have same : ∀ (W : World) (i : Nat) (v x : Value), W.cell? ⟨g, i, none⟩ = some x → (W.setCell ⟨g, i, none⟩ v).cell? ⟨g, i, none⟩ = some v := fun W i v x h => World.cell?_setCell_same _ _ _ h
  refine ⟨?_, ?_, ?_, ?_⟩
  · rw [far _ 3 0 _ (by decide), far _ 2 0 _ (by decide), far _ 1 0 _ (by decide)]; exact same _ _ _ _ hx
  · rw [far _ 3 1 _ (by decide), far _ 2 1 _ (by decide)]; exact same _ _ _ y (by rw [far _ 0 1 _ (by decide)]; exact hy)
  · rw [far _ 3 2 _ (by decide)]; exact same _ _ _ z (by rw [far _ 1 2 _ (by decide), far _ 0 2 _ (by decide)]; exact hz)
  · exact same _ _ _ u (by rw [far _ 2 3 _ (by decide), far _ 1 3 _ (by decide), far _ 0 3 _ (by decide)]; exact hu)

set_option maxHeartbeats 3200000 in
theorem cmp_yes (an ad bn bd : Int) (w : World) (h : hasB an ad = true) (h' : hasB bn bd = true) :
    Calls Tryd.prog 16 #[.agg #[.int .i64 an, .int .i64 ad], .agg #[.int .i64 bn, .int .i64 bd]] w fun e w' => e = .returned (.tuple #[.int .i64 (cmpR an ad bn bd), .bool true]) ∧ Below w.heap.size w w' := by
  have H := Lib.hid h
  have H' := Lib.hid h'
  clear h h'
  go_enter Tryd.func16, Tryd.ntmps16
  go_wp2_with fail
  (with_reducible refine (has_any an ad _).mono ?_); rintro e w1 ⟨rfl, h1⟩
  rw [H.out]
  have K1 := Lib.hid (Kp.new h1)
  have c0 := K1.out.2.2.1
  have c1 := K1.out.2.2.2.1
  clear h1
  go_wp2_with fail
  (with_reducible refine (has_any bn bd _).mono ?_); rintro e w2 ⟨rfl, h2⟩
  rw [H'.out]
  have K2 := Lib.hid (K1.out.call h2)
  clear h2 K1 c0 c1
  have k2 := K2.out.2.2.2.2.1
  go_upto_region 3 with fail
  go_cut [6] (fun s6 wx => ∃ g6 : Nat, s6 = .pointer (some ⟨g6, 0, none⟩) ∧ wx.cell? ⟨g6, 0, none⟩ = some (.int .i64 (sgn an ad)) ∧ wx.cell? ⟨g6, 1, none⟩ = some (.int .i64 (sgn bn bd)) ∧ g6 < wx.heap.size ∧ Kp w an ad bn bd wx)
  case first =>
    go_region_held3 (fun w' => w'.cell? ⟨w.heap.size, 0, none⟩ = some (.int .i64 an) ∧ w'.cell? ⟨w.heap.size, 1, none⟩ = some (.int .i64 ad) ∧ w'.cell? ⟨w.heap.size + 1, 0, none⟩ = some (.int .i64 bn) ∧ w'.cell? ⟨w.heap.size + 1, 1, none⟩ = some (.int .i64 bd) ∧ w.heap.size + 1 < w'.heap.size ∧ Below w.heap.size w w')
      ((show Kp w an ad bn bd _
        with_reducible first
          | exact kk.out
          | exact Kp.alloc kk.out _
          | exact Kp.drew K2.out
          | exact Kp.drew (Kp.alloc K2.out _)
          | (refine Kp.set (Kp.set kk.out ?_ _) ?_ _ <;> ((try dsimp only); omega))))
      (first
        | (go_at_call_of 35 (Value.agg #[Value.int IntKind.i64 an, Value.int IntKind.i64 ad]); refine (sign_any an ad _).mono ?_; rintro e w' ⟨rfl, h1⟩; have kk : Hid (Kp w an ad bn bd w') := (by show Kp w an ad bn bd w'; refine Kp.call ?_ h1; assumption); obtain ⟨hc, hf, hz⟩ := bcell h1; have ks := kk.out.2.2.2.2.1)
        | (go_at_call_of 35 (Value.agg #[Value.int IntKind.i64 bn, Value.int IntKind.i64 bd]); refine (sign_any bn bd _).mono ?_; rintro e w' ⟨rfl, h1⟩; have kk : Hid (Kp w an ad bn bd w') := (by show Kp w an ad bn bd w'; refine Kp.call ?_ h1; assumption); obtain ⟨hc, hf, hz⟩ := bcell h1; have ks := kk.out.2.2.2.2.1))
    all_goals (go_wp2_with fail; go_meet)
    all_goals (refine ⟨_, rfl, ?_, ?_, ?_, ?_⟩ <;> first | assumption | (go_cell; done) | (go_simp; done) | (refine (two_set _ _ ?_ ?_).1 <;> (go_simp; done)) | (refine (two_set _ _ ?_ ?_).2 <;> (go_simp; done)))
  case rest =>
    obtain ⟨g6, rfl, s0, s1, hg, K3⟩ := hcut
    have K3' := Lib.hid K3
    obtain ⟨A, B⟩ := cmp_code an ad bn bd (hasB_iff.1 H.out).2 (hasB_iff.1 H'.out).2
    generalize hp : sgn an ad = p at A B s0
    generalize hq : sgn bn bd = q at A B s1
    have p1 : -1 ≤ p ∧ p ≤ 1 := by rw [← hp, sgn_up an (hasB_iff.1 H.out).2]; exact cI_rng _ _
    clear hp hq
    have R1 := validB_rng (hasB_iff.1 H.out).1
    have R2 := validB_rng (hasB_iff.1 H'.out).1
    by_cases hpq : p = q
    · have HB := Lib.hid (B hpq)
      subst hpq
      clear A B K3
      have he : (p != p) = false := by simp
      have KQ := Lib.hid (Kq.of K3'.out s0 hg)
      have kq := hg
      have k0 := K3'.out.2.2.2.2.1
      go_upto_region 6 with fail
      go_cut [7] (fun s7 wx => ∃ (g7 : Nat) (h l i m : Int), s7 = .pointer (some ⟨g7, 0, none⟩) ∧ wx.cell? ⟨g7, 0, none⟩ = some (.int .u64 h) ∧ wx.cell? ⟨g7, 1, none⟩ = some (.int .u64 l) ∧ wx.cell? ⟨g7, 2, none⟩ = some (.int .u64 i) ∧ wx.cell? ⟨g7, 3, none⟩ = some (.int .u64 m) ∧ 0 ≤ l ∧ l < 18446744073709551616 ∧ 0 ≤ m ∧ m < 18446744073709551616 ∧ h * 18446744073709551616 + l = absI an * absI bd ∧ i * 18446744073709551616 + m = absI bn * absI ad ∧ Kq w an ad bn bd g6 p wx)
      case first =>
        go_region_held3 (fun w' => w'.cell? ⟨w.heap.size, 0, none⟩ = some (.int .i64 an) ∧ w'.cell? ⟨w.heap.size, 1, none⟩ = some (.int .i64 ad) ∧ w'.cell? ⟨w.heap.size + 1, 0, none⟩ = some (.int .i64 bn) ∧ w'.cell? ⟨w.heap.size + 1, 1, none⟩ = some (.int .i64 bd) ∧ w.heap.size + 1 < w'.heap.size ∧ Below w.heap.size w w' ∧ w'.cell? ⟨g6, 0, none⟩ = some (.int .i64 p) ∧ g6 < w'.heap.size)
          ((show Kq w an ad bn bd g6 p _
            with_reducible first
              | exact kk.out
              | exact Kq.alloc kk.out _
              | exact Kq.drew KQ.out
              | exact Kq.drew (Kq.alloc KQ.out _)
              | (refine Kq.set (Kq.set (Kq.set (Kq.set kk.out ?_ ?_ _) ?_ ?_ _) ?_ ?_ _) ?_ ?_ _ <;> ((try dsimp only); omega))))
          (first
            | (go_at_call_of 37 (Value.int IntKind.i64 an); refine (prod_any an bd _ (by omega) (by omega) (by omega) (by omega)).mono ?_; rintro e w' ⟨⟨h, l, rfl, l0, l1, hl⟩, h1⟩; have HL := Lib.hid hl; clear hl; have kk : Hid (Kq w an ad bn bd g6 p w') := (by show Kq w an ad bn bd g6 p w'; refine Kq.call ?_ h1; assumption); obtain ⟨hc, hf, hz⟩ := bcell h1; have ks := kk.out.2.2.2.2.1; have kt := kk.out.2.2.2.2.2.2.2)
            | (go_at_call_of 37 (Value.int IntKind.i64 bn); refine (prod_any bn ad _ (by omega) (by omega) (by omega) (by omega)).mono ?_; rintro e w' ⟨⟨i, m, rfl, m0, m1, hm⟩, h1⟩; have HM := Lib.hid hm; clear hm; have kk : Hid (Kq w an ad bn bd g6 p w') := (by show Kq w an ad bn bd g6 p w'; refine Kq.call ?_ h1; assumption); obtain ⟨hc, hf, hz⟩ := bcell h1; have ks := kk.out.2.2.2.2.1; have kt := kk.out.2.2.2.2.2.2.2))
        all_goals (go_wp2_with fail; go_meet)
        all_goals
          refine ⟨_, h, l, i, m, rfl, ?_, ?_, ?_, ?_, l0, l1, m0, m1, HL.out, HM.out, ?_⟩
        · go_cell
        · go_cell
        · go_cell
        · go_cell
        · exact Kq.alloc kk.out _
        · refine (four_set _ _ _ _ ?_ ?_ ?_ ?_).1 <;> (go_simp; done)
        · refine (four_set _ _ _ _ ?_ ?_ ?_ ?_).2.1 <;> (go_simp; done)
        · refine (four_set _ _ _ _ ?_ ?_ ?_ ?_).2.2.1 <;> (go_simp; done)
        · refine (four_set _ _ _ _ ?_ ?_ ?_ ?_).2.2.2 <;> (go_simp; done)
        · refine Kq.set (Kq.set (Kq.set (Kq.set kk.out ?_ ?_ _) ?_ ?_ _) ?_ ?_ _) ?_ ?_ _ <;> ((try dsimp only); omega)
        · refine (four_set _ _ _ _ ?_ ?_ ?_ ?_).1 <;> (go_simp; done)
        · refine (four_set _ _ _ _ ?_ ?_ ?_ ?_).2.1 <;> (go_simp; done)
        · refine (four_set _ _ _ _ ?_ ?_ ?_ ?_).2.2.1 <;> (go_simp; done)
        · refine (four_set _ _ _ _ ?_ ?_ ?_ ?_).2.2.2 <;> (go_simp; done)
        · refine Kq.set (Kq.set (Kq.set (Kq.set kk.out ?_ ?_ _) ?_ ?_ _) ?_ ?_ _) ?_ ?_ _ <;> ((try dsimp only); omega)
      case rest =>
        obtain ⟨g7, h, l, i, m, rfl, c0, c1, c2, c3, l0, l1, m0, m1, hh, hi, K4⟩ := hcut
        have hb := HB.out
        rw [← hh, ← hi] at hb
        have HB' := Lib.hid hb
        have K4' := Lib.hid K4
        have s6 := K4.2.2.2.2.2.2.1
        have rg := cI_rng (h * 18446744073709551616 + l) (i * 18446744073709551616 + m)
        generalize hv : compareInt (h * 18446744073709551616 + l) (i * 18446744073709551616 + m) = v at rg
        have HV := Lib.hid hv
        clear hb hh hi K4 hv HB KQ K3'
        go_wp2_with fail
        go_quiet ((go_at_call 38; exact quietL (slc_any g7 h l i m _ (by simpa using c0) (by simpa using c1) (by simpa using c2) (by simpa using c3) l0 l1 m0 m1)))
        rw [HV.out]
        go_wp2
        go_ret2
        have hb := HB'.out
        rw [HV.out] at hb
        have hm : -1 ≤ p * v ∧ p * v ≤ 1 := by
          obtain rfl | rfl | rfl : p = -1 ∨ p = 0 ∨ p = 1 := by omega
          · omega
          · omega
          · omega
        exact ⟨ret_ib (by unfold wrap64; omega), bdrew K4'.out.2.2.2.2.2.1 _⟩
    · have HA := Lib.hid (A hpq)
      clear A B K3
      have hne : (p != q) = true := by rw [bne_iff_ne]; exact hpq
      go_wp2_with fail
      (with_reducible refine (cmpInt_any p q _).mono ?_); rintro e w' ⟨rfl, rfl⟩
      go_wp2
      go_ret2
      exact ⟨ret_ib HA.out, K3'.out.2.2.2.2.2⟩

theorem cmp_any (an ad bn bd : Int) (w : World) :
    Calls Tryd.prog 16 #[.agg #[.int .i64 an, .int .i64 ad], .agg #[.int .i64 bn, .int .i64 bd]] w fun e w' => e = .returned (.tuple #[.int .i64 (cmpV an ad bn bd), .bool (cmpOk an ad bn bd)]) ∧ Below w.heap.size w w' := by
  unfold cmpV cmpOk
  cases h : hasB an ad with
  | false => exact cmp_no1 an ad bn bd w h
  | true =>
    cases h' : hasB bn bd with
    | false => exact cmp_no2 an ad bn bd w h h'
    | true => exact cmp_yes an ad bn bd w h h'
end Go.Proofs.YtnhophjahjphiaaDoor
