/- Contract of ratio.Parse. -/
import Derived.Test.YtnhophjahjphiaaDoorRTextB
import Derived.Test.YtnhophjahjphiaaDoorRLeast
namespace Go.Proofs.YtnhophjahjphiaaDoor
open Go.RowKit
open Go.Lib (decDigits itoa)
set_option linter.unusedVariables false

def numG (l : List UInt8) : Bool := atoiB l && decide (itoa (atoiN l) = l)
theorem numC_numG (l : List UInt8) : numC l = if numG l then some (atoiN l) else none := by
  rw [numC_atoi]
  unfold numG
  by_cases h1 : atoiB l = true
  · by_cases h2 : itoa (atoiN l) = l
    · rw [if_pos ⟨h1, h2⟩, if_pos (by simp [h1, h2])]
    · rw [if_neg (fun h => h2 h.2), if_neg (by simp [h2])]
  · rw [if_neg (fun h => h1 h.1), if_neg (by simp [h1])]

theorem strB_beq (l r : List UInt8) : ((strB l).toList == (strB r).toList) = decide (l = r) := by
  rw [Lib.toList_data, Lib.toList_data, strB_list, strB_list]
  by_cases h : l = r <;> simp [h]
def Num (l : List UInt8) (b : Nat) (g : Bool) (w : World) (e : Ending) (w' : World) : Prop :=
  ∃ w1, e = .returned (.int .i64 (atoiN l)) ∧ Below w.heap.size w w1 ∧ w' = w1.setCell ⟨b, 0, none⟩ (.bool (g && numG l))

set_option maxRecDepth 100000 in
theorem pnum_any (l : List UInt8) (b : Nat) (g : Bool) (w : World) (hw : Env w) (hl : l.length ≤ 4000000000) (hc : w.cell? ⟨b, 0, none⟩ = some (.bool g)) (hf : w.frozen? ⟨b, 0, none⟩ = false) :
    Calls Tryd.prog 24 #[.string (strB l), .pointer (some ⟨b, 0, none⟩)] w (Num l b g w) := by
  have hb := World.block_lt_of_cell? w _ hc
  have hr := atoi_rng l
  have HC := Lib.hid hc
  have HF := Lib.hid hf
  clear hc hf
  go_enter Tryd.func24, Tryd.ntmps24
  go_wp2_with fail
  (with_reducible refine (atoi_any (strB l) _ hw (by rw [strB_size]; exact hl)).mono ?_); rintro e w1 ⟨⟨ev, rfl, hev⟩, h1⟩
  have e1 : w.heap.size ≤ w1.heap.size := h1.size
  have hw1 := hw.below h1
  have c1 : w1.cell? ⟨b, 0, none⟩ = some (.bool g) := (h1.cell (p := ⟨b, 0, none⟩) hb).trans HC.out
  have f1 : w1.frozen? ⟨b, 0, none⟩ = false := (h1.frozen (p := ⟨b, 0, none⟩) hb).trans HF.out
  have H1 := Lib.hid h1
  clear h1
  rw [strB_list] at hev ⊢
  cases g
  · have HV := Lib.hid hev
    clear hev
    go_wp2
    go_ret
    exact ⟨w1, rfl, H1.out, by simp⟩
  · rcases hev with ⟨ha, rfl⟩ | ⟨ha, t, v, rfl⟩
    · have HA := Lib.hid ha
      clear ha
      go_wp2_with fail
      (with_reducible refine (itoa_any (atoiN l) _ hw1 hr.1 hr.2).mono ?_); rintro e w2 ⟨rfl, h2⟩
      have c2 : w2.cell? ⟨b, 0, none⟩ = some (.bool true) := (h2.cell (p := ⟨b, 0, none⟩) (by show b < _; have : b < w.heap.size := hb; omega)).trans c1
      have f2 : w2.frozen? ⟨b, 0, none⟩ = false := (h2.frozen (p := ⟨b, 0, none⟩) (by show b < _; have : b < w.heap.size := hb; omega)).trans f1
      have H2 := Lib.hid (bstep H1.out h2)
      clear h2 c1 f1
      have HE : Hid (numG l = decide (itoa (atoiN l) = l)) := Lib.hid (by unfold numG; rw [HA.out]; rfl)
      go_wp2
      go_ret
      refine ⟨w2, rfl, H2.out, ?_⟩
      rw [HE.out, strB_beq]
      rfl
    · have HE : Hid (numG l = false) := Lib.hid (by unfold numG; rw [ha]; rfl)
      clear ha
      go_wp2
      go_ret
      exact ⟨w1, rfl, H1.out, by rw [HE.out]; rfl⟩

/-- What is kept while ratio.Parse goes on: whether all was good so far, the result's place. -/
structure Kg (w0 : World) (g : Bool) (w : World) : Prop where
  c : w.cell? ⟨w0.heap.size + 1, 0, none⟩ = some (.bool g)
  f : w.frozen? ⟨w0.heap.size + 1, 0, none⟩ = false
  r0 : w.cell? ⟨w0.heap.size, 0, none⟩ = some (.int .i64 0)
  r1 : w.cell? ⟨w0.heap.size, 1, none⟩ = some (.int .i64 0)
  f0 : w.frozen? ⟨w0.heap.size, 0, none⟩ = false
  f1 : w.frozen? ⟨w0.heap.size, 1, none⟩ = false
  s : w0.heap.size + 1 < w.heap.size
  u : Below w0.heap.size w0 w
theorem Kg.call {w0 w w' : World} {g : Bool} (h : Kg w0 g w) (hb : Below w.heap.size w w') : Kg w0 g w' := by
  have hs := h.s
  have c : ∀ b o : Nat, b < w.heap.size → w'.cell? ⟨b, o, none⟩ = w.cell? ⟨b, o, none⟩ := fun b o h => hb.cell (p := ⟨b, o, none⟩) h
  have f : ∀ b o : Nat, b < w.heap.size → w'.frozen? ⟨b, o, none⟩ = w.frozen? ⟨b, o, none⟩ := fun b o h => hb.frozen (p := ⟨b, o, none⟩) h
  exact ⟨(c _ _ hs).trans h.c, (f _ _ hs).trans h.f, (c _ _ (by omega)).trans h.r0, (c _ _ (by omega)).trans h.r1, (f _ _ (by omega)).trans h.f0, (f _ _ (by omega)).trans h.f1, Nat.lt_of_lt_of_le hs hb.size, bstep h.u hb⟩
theorem Kg.put {w0 w : World} {g : Bool} (h : Kg w0 g w) (k : Bool) : Kg w0 k (w.setCell ⟨w0.heap.size + 1, 0, none⟩ (.bool k)) := by
  have far : ∀ o : Nat, (w.setCell ⟨w0.heap.size + 1, 0, none⟩ (.bool k)).cell? ⟨w0.heap.size, o, none⟩ = w.cell? ⟨w0.heap.size, o, none⟩ := fun o => World.cell?_setCell_other _ _ _ _ (fun e => by injection e with e _; omega)
  have fz : ∀ (q : Addr), (w.setCell ⟨w0.heap.size + 1, 0, none⟩ (.bool k)).frozen? q = w.frozen? q := fun q => by simp
  exact ⟨World.cell?_setCell_same _ _ _ h.c, (fz _).trans h.f, (far _).trans h.r0, (far _).trans h.r1, (fz _).trans h.f0, (fz _).trans h.f1, by simpa [World.setCell] using h.s, h.u.setCell (by show w0.heap.size ≤ w0.heap.size + 1; omega) _⟩

def prN (o : Option (Int × Int)) : Int := match o with
  | some x => x.1
  | none => 0
def prD (o : Option (Int × Int)) : Int := match o with
  | some x => x.2
  | none => 0
theorem parseP_bad {l : List UInt8} (h : (numG (befS l) && numG (aftS l)) = false) : parseP l = none := by
  unfold parseP
  rw [numC_numG, numC_numG]
  rw [Bool.and_eq_false_iff] at h
  rcases h with h | h
  · rw [h]; rfl
  · rw [h]
    cases (if numG (befS l) = true then some (atoiN (befS l)) else none) <;> rfl
theorem parseP_good {l : List UInt8} (h : (numG (befS l) && numG (aftS l)) = true) : parseP l = if validB (atoiN (befS l)) (atoiN (aftS l)) then some (atoiN (befS l), atoiN (aftS l)) else none := by
  rw [Bool.and_eq_true] at h
  unfold parseP
  rw [numC_numG, numC_numG, if_pos h.1, if_pos h.2]
  rfl
theorem bef_len (l : List UInt8) : (befS l).length ≤ l.length := by unfold befS; exact (List.takeWhile_prefix _).length_le
theorem aft_len (l : List UInt8) : (aftS l).length ≤ l.length := by
  unfold aftS
  rw [List.length_drop]
  have := (List.dropWhile_suffix (l := l) (· != 47)).length_le
  omega

set_option maxHeartbeats 1600000 in
set_option maxRecDepth 100000 in
theorem parse_any (l : List UInt8) (w : World) (hw : Env w) (hl : l.length ≤ 4000000000) :
    Calls Tryd.prog 8 #[.string (strB l)] w fun e w' => e = .returned (.tuple #[.agg #[.int .i64 (prN (parseP l)), .int .i64 (prD (parseP l))], .bool (parseP l).isSome]) ∧ Below w.heap.size w w' := by
  have lb := bef_len l
  have la := aft_len l
  have rb := atoi_rng (befS l)
  have ra := atoi_rng (aftS l)
  have hE : Env ((w.alloc (.cells #[.int .i64 0, .int .i64 0] 23)).alloc (.cells #[.bool true] 4)) := (hw.alloc _).alloc _
  have K0 : Hid (Kg w true ((w.alloc (.cells #[.int .i64 0, .int .i64 0] 23)).alloc (.cells #[.bool true] 4))) :=
    Lib.hid ⟨by go_cell, by simp, by go_cell, by go_cell, by simp, by simp, by simp, by go_grown⟩
  go_enter Tryd.func8, Tryd.ntmps8
  go_wp2_with fail
  (with_reducible refine (cut_any (strB l) _ hE (by rw [strB_size]; exact hl)).mono ?_); rintro e w1 ⟨⟨b, rfl⟩, h1⟩
  rw [strB_list]
  have K1 := Lib.hid (K0.out.call h1)
  clear h1 K0 hE
  have c1 := K1.out.c
  go_wp2_with fail
  (with_reducible refine (pnum_any (befS l) (w.heap.size + 1) true _ (hw.below K1.out.u) (by omega) c1 K1.out.f).mono ?_)
  rintro e w2 ⟨wa, rfl, hA, rfl⟩
  have K2 := Lib.hid ((K1.out.call hA).put (true && numG (befS l)))
  rw [Bool.true_and] at K2 ⊢
  generalize hW2 : wa.setCell ⟨w.heap.size + 1, 0, none⟩ (.bool (numG (befS l))) = w2 at K2
  clear hA K1 c1 hW2
  have c2 := K2.out.c
  go_wp2_with fail
  (with_reducible refine (pnum_any (aftS l) (w.heap.size + 1) (numG (befS l)) _ (hw.below K2.out.u) (by omega) c2 K2.out.f).mono ?_)
  rintro e w3 ⟨wb, rfl, hB, rfl⟩
  have K3 := Lib.hid ((K2.out.call hB).put (numG (befS l) && numG (aftS l)))
  generalize hW3 : wb.setCell ⟨w.heap.size + 1, 0, none⟩ (.bool (numG (befS l) && numG (aftS l))) = w3 at K3
  clear hB K2 c2 hW3
  have Hbad := Lib.hid (fun h => parseP_bad (l := l) h)
  have Hgood := Lib.hid (fun h => parseP_good (l := l) h)
  generalize hN : atoiN (befS l) = N at *
  generalize hD : atoiN (aftS l) = D at *
  have K4 := Lib.hid (K3.out.call ((Below.refl w3.heap.size w3).alloc (Nat.le_refl _) (.cells #[.int .i64 N, .int .i64 D] 23)))
  have B4 := Lib.hid (Bx.new w3 N D 23)
  cases hg : (numG (befS l) && numG (aftS l)) with
  | false =>
    rw [hg] at K4
    have HP := Lib.hid (Hbad.out hg)
    have c4 := K4.out.c
    have r0 := K4.out.r0
    have r1 := K4.out.r1
    have f0 := K4.out.f0
    have f1 := K4.out.f1
    clear K3 hg hN hD Hgood Hbad
    have Z := Lib.hid (two_set (w := (w3.alloc (.cells #[.int .i64 N, .int .i64 D] 23))) (g := w.heap.size) (.int .i64 0) (.int .i64 0) (by rw [r0]; rfl) (by rw [r1]; rfl))
    go_wp2
    have z0 := Z.out.1
    have z1 := Z.out.2
    exact bodyPost_ret (v := .tuple #[.agg #[.int .i64 0, .int .i64 0], .bool false]) (by simp [results, Tryd.results8, go_sem, z0, z1]) rfl ⟨(by rw [HP.out]; rfl), below_two K4.out.u (Nat.le_refl _) _ _⟩
  | true =>
    rw [hg] at K4
    have c4 := K4.out.c
    have HP := Lib.hid (Hgood.out hg)
    clear K3 hg hN hD Hgood Hbad
    go_wp2_with fail
    (with_reducible refine (isValid_any N D _).mono ?_); rintro e w5 ⟨rfl, h5⟩
    have K5 := Lib.hid (K4.out.call h5)
    have B5 := Lib.hid (B4.out.below h5)
    clear h5 c4 K4 B4
    have r0 := K5.out.r0
    have r1 := K5.out.r1
    have f0 := K5.out.f0
    have f1 := K5.out.f1
    cases hv : validB N D with
    | false =>
      have HV := Lib.hid hv
      clear hv
      have Z := Lib.hid (two_set (w := w5) (g := w.heap.size) (.int .i64 0) (.int .i64 0) (by rw [r0]; rfl) (by rw [r1]; rfl))
      go_wp2
      have z0 := Z.out.1
      have z1 := Z.out.2
      exact bodyPost_ret (v := .tuple #[.agg #[.int .i64 0, .int .i64 0], .bool false]) (by simp [results, Tryd.results8, go_sem, z0, z1]) rfl ⟨(by rw [HP.out, HV.out]; rfl), below_two K5.out.u (Nat.le_refl _) _ _⟩
    | true =>
      have c0 := B5.out.c0
      have c1 := B5.out.c1
      have HV := Lib.hid hv
      clear hv
      have Z := Lib.hid (two_set (w := w5) (g := w.heap.size) (.int .i64 N) (.int .i64 D) (by rw [r0]; rfl) (by rw [r1]; rfl))
      go_wp2
      have z0 := Z.out.1
      have z1 := Z.out.2
      exact bodyPost_ret (v := .tuple #[.agg #[.int .i64 N, .int .i64 D], .bool true]) (by simp [results, Tryd.results8, go_sem, z0, z1]) rfl ⟨(by rw [HP.out, HV.out]; rfl), below_two K5.out.u (Nat.le_refl _) _ _⟩
end Go.Proofs.YtnhophjahjphiaaDoor
