/- Contracts of colour.All (written by tools/gen_colF.py). -/
import Derived.Test.YtefdimkiijmjbaaColE
import Derived.Test.YtefdimkiijmjbaaRowB
namespace Go.Proofs.Ytefdimkiijmjbaa
open Go.RowKit Go.Lib
set_option linter.unusedVariables false
set_option maxRecDepth 100000
/-- The i-th byte of what bytes are turned into. -/
def colAt (p : Bool) (l : List UInt8) (i : Nat) : Int := cv p (i % 3) (bt l (i / 3 * 3)) (bt l (i / 3 * 3 + 1)) (bt l (i / 3 * 3 + 2))
theorem colAt_rng (p : Bool) (l : List UInt8) (i : Nat) : 0 ≤ colAt p l i ∧ colAt p l i ≤ 255 := cv_rng _ _ _ _ _
def allL (p : Bool) (l : List UInt8) : List UInt8 := if l.length % 3 = 0 then (List.range l.length).map (fun i => UInt8.ofNat (colAt p l i).toNat) else []
theorem allL_len {p : Bool} {l : List UInt8} (h : l.length % 3 = 0) : (allL p l).length = l.length := by unfold allL; rw [if_pos h]; simp
theorem allL_no {p : Bool} {l : List UInt8} (h : ¬ l.length % 3 = 0) : allL p l = [] := by unfold allL; rw [if_neg h]
theorem bt_allL {p : Bool} {l : List UInt8} (h : l.length % 3 = 0) {i : Nat} (hi : i < l.length) : bt (allL p l) i = colAt p l i := by
  have hc := colAt_rng p l i
  unfold allL bt
  rw [if_pos h, List.getD_eq_getElem?_getD]
  simp [hi, UInt8.toNat_ofNat']
  omega
/-- What stands there once the first a are turned. -/
def allF (p : Bool) (l : List UInt8) (a : Nat) : Nat → Int := fun i => if i < a then colAt p l i else 0
theorem allF_zero (p : Bool) (l : List UInt8) : allF p l 0 = fun _ => 0 := by funext i; unfold allF; rw [if_neg (by omega)]
theorem allF_succ (p : Bool) (l : List UInt8) (a : Nat) (h : a % 3 = 0) :
    updF (updF (updF (allF p l a) a (cv p 0 (bt l a) (bt l (a + 1)) (bt l (a + 2)))) (a + 1) (cv p 1 (bt l a) (bt l (a + 1)) (bt l (a + 2)))) (a + 2) (cv p 2 (bt l a) (bt l (a + 1)) (bt l (a + 2))) = allF p l (a + 3) := by
  funext i
  unfold updF allF
  by_cases e2 : i = a + 2
  · rw [if_pos e2, if_pos (by omega)]
    unfold colAt
    rw [show i % 3 = 2 by omega, show i / 3 * 3 = a by omega]
  rw [if_neg e2]
  by_cases e1 : i = a + 1
  · rw [if_pos e1, if_pos (by omega)]
    unfold colAt
    rw [show i % 3 = 1 by omega, show i / 3 * 3 = a by omega]
  rw [if_neg e1]
  by_cases e0 : i = a
  · rw [if_pos e0, if_pos (by omega)]
    unfold colAt
    rw [show i % 3 = 0 by omega, show i / 3 * 3 = a by omega]
  rw [if_neg e0]
  by_cases h3 : i < a
  · rw [if_pos h3, if_pos (by omega)]
  · rw [if_neg h3, if_neg (by omega)]
/-- What the loop holds. -/
structure Al (w : World) (A : Option Addr) (l : List UInt8) (g : Nat) (f : Nat → Int) (W : World) : Prop where
  rd : Rd W A l
  row : Row W g l.length f
  be : Below w.heap.size w W
theorem Al.call {w W W' : World} {A : Option Addr} {l : List UInt8} {g : Nat} {f : Nat → Int} (h : Al w A l g f W) (hb : Below W.heap.size W W') : Al w A l g f W' := ⟨h.rd.below hb, h.row.kept hb, h.be.trans (hb.mono h.be.size)⟩
theorem Al.set {w W : World} {A : Option Addr} {l : List UInt8} {g : Nat} {f : Nat → Int} (h : Al w A l g f W) (hA : ∀ b o s, A = some ⟨b, o, s⟩ → b ≠ g) (hg : w.heap.size ≤ g) (i : Nat) (v : Int) : Al w A l g (updF f i v) (W.setCell ⟨g, i, none⟩ (.int .u8 v)) :=
  ⟨h.rd.chg ((Chg.refl (fun k => k = g) W).setCell (p := ⟨g, i, none⟩) (.inl rfl) _) (fun b o s e => hA b o s e), h.row.set_ i v, h.be.setCell (p := ⟨g, i, none⟩) hg _⟩
theorem Rd.off {w : World} {A : Option Addr} {l : List UInt8} (h : Rd w A l) (h0 : 0 < l.length) : ∀ b o s, A = some ⟨b, o, s⟩ → b < w.heap.size := by
  intro b o s e
  rcases h with h | ⟨b', o', hA, hc⟩
  · rw [h] at h0; simp at h0
  · rw [hA] at e
    injection e with e
    injection e with e1 e2 e3
    subst e1
    exact World.block_lt_of_cell? w _ (hc 0 h0)
theorem all_no (p : Bool) (l : List UInt8) (A : Option Addr) (c : Nat) (w : World) (hl : l.length ≤ 65536) (hm : ¬ l.length % 3 = 0) :
    Calls Try.prog 14 #[.slice A l.length c, .bool p] w fun e w' => e = .returned (.slice none 0 0) ∧ Below w.heap.size w w' := by
  have hb : (((l.length : Int) % 3) != 0) = true := by rw [bne_iff_ne]; omega
  clear hm
  go_enter Try.func14, Try.ntmps14
  go_wp2
  go_ret
  exact ⟨rfl, Below.refl _ _⟩
theorem ent_lu : ∀ args w, (callFunc 16 args).run Try.prog w = .ok (.enter 16 args) w := enters_of Try.func16 (by kernel_rfl) rfl
theorem cv_lu (a b c : Int) (W : World) : Calls Try.prog 16 #[.int .i64 a, .int .i64 b, .int .i64 c] W fun e w' => e = .returned (.tuple #[.int .i64 (cv false 0 a b c), .int .i64 (cv false 1 a b c), .int .i64 (cv false 2 a b c)]) ∧ Below W.heap.size W w' := luma_any a b c W
set_option maxHeartbeats 4000000 in
theorem all_lu (l : List UInt8) (A : Option Addr) (c : Nat) (w : World) (hr : Rd w A l) (hl : l.length ≤ 65536) (hm : l.length % 3 = 0) :
    Calls Try.prog 14 #[.slice A l.length c, .bool false] w fun e w' => e = .returned (.slice (some ⟨w.heap.size, 0, none⟩) l.length l.length) ∧ Ob w' w.heap.size (.slice (some ⟨w.heap.size, 0, none⟩) l.length l.length) (allL false l) ∧ Below w.heap.size w w' := by
  have hb : (((l.length : Int) % 3) != 0) = false := by rw [bne_eq_false_iff_eq]; omega
  have HM := Lib.hid hm
  have HE := Lib.hid ent_lu
  have HC := Lib.hid cv_lu
  have HRR := Lib.hid hr
  clear hm hr
  have hmk := run_makeB l.length hl
  have S0 : Hid (Al w A l w.heap.size (allF false l 0) (w.alloc (.cells (zeroRow l.length) 5))) := ⟨HRR.out.alloc _, by rw [allF_zero]; exact Row.zero w _, (Below.refl _ w).alloc (Nat.le_refl _) _⟩
  go_enter Try.func14, Try.ntmps14
  go_wp2
  go_loopw [7] (fun i wr => ∃ a : Nat, a ≤ l.length ∧ Hid (a % 3 = 0) ∧ i = .int .i64 a ∧ Hid (Al w A l w.heap.size (allF false l a) wr)) (fun i _ => l.length - (RowKit.intOf i).toNat)
  case atStart => exact ⟨0, Nat.zero_le _, rfl, rfl, S0⟩
  case round =>
    clear S0 hmk hb
    obtain ⟨a, ha, HA, rfl, HS⟩ := hrel
    by_cases hlt : a < l.length
    · have h3 : a + 3 ≤ l.length := by have := HA.out; have := HM.out; omega
      have HOF := Lib.hid (HRR.out.off (by omega))
      have HN := Lib.hid (allF_succ false l a HA.out)
      have HCC := Lib.hid (HC.out (bt l a) (bt l (a + 1)) (bt l (a + 2)))
      obtain ⟨x1, x2⟩ := cv_rng false 0 (bt l a) (bt l (a + 1)) (bt l (a + 2))
      obtain ⟨x3, x4⟩ := cv_rng false 1 (bt l a) (bt l (a + 1)) (bt l (a + 2))
      obtain ⟨x5, x6⟩ := cv_rng false 2 (bt l a) (bt l (a + 1)) (bt l (a + 2))
      generalize cv false 0 (bt l a) (bt l (a + 1)) (bt l (a + 2)) = y0 at *
      generalize cv false 1 (bt l a) (bt l (a + 1)) (bt l (a + 2)) = y1 at *
      generalize cv false 2 (bt l a) (bt l (a + 1)) (bt l (a + 2)) = y2 at *
      have HRD : Hid (∀ W, Al w A l w.heap.size (allF false l a) W → ∃ b o, A = some ⟨b, o, none⟩ ∧ W.cell? ⟨b, o + a, none⟩ = some (.int .u8 (bt l a)) ∧ W.cell? ⟨b, o + (a + 1), none⟩ = some (.int .u8 (bt l (a + 1))) ∧ W.cell? ⟨b, o + (a + 2), none⟩ = some (.int .u8 (bt l (a + 2)))) := by
        intro W hS
        rcases hS.rd with h | ⟨b, o, hA, hc⟩
        · rw [h] at hlt; simp at hlt
        · exact ⟨b, o, hA, hc a (by omega), hc (a + 1) (by omega), hc (a + 2) (by omega)⟩
      obtain ⟨b, o, hAA, -⟩ := HRD.out wr HS.out
      have HRC : Hid (∀ W, Al w A l w.heap.size (allF false l a) W → W.cell? ⟨b, o + a, none⟩ = some (.int .u8 (bt l a)) ∧ W.cell? ⟨b, o + (a + 1), none⟩ = some (.int .u8 (bt l (a + 1))) ∧ W.cell? ⟨b, o + (a + 2), none⟩ = some (.int .u8 (bt l (a + 2)))) := by
        intro W hS
        obtain ⟨b', o', h1, h2⟩ := HRD.out W hS
        rw [hAA] at h1
        injection h1 with h1
        injection h1 with h1 h3
        subst h1 h3
        exact h2
      subst hAA
      clear HRD
      obtain ⟨z0, hz0⟩ : ∃ z, z = bt l a := ⟨_, rfl⟩
      obtain ⟨z1, hz1⟩ : ∃ z, z = bt l (a + 1) := ⟨_, rfl⟩
      obtain ⟨z2, hz2⟩ : ∃ z, z = bt l (a + 2) := ⟨_, rfl⟩
      have u0 : 0 ≤ z0 ∧ z0 < 256 := by rw [hz0]; exact bt_rng _ _
      have u1 : 0 ≤ z1 ∧ z1 < 256 := by rw [hz1]; exact bt_rng _ _
      have u2 : 0 ≤ z2 ∧ z2 < 256 := by rw [hz2]; exact bt_rng _ _
      rw [← hz0, ← hz1, ← hz2] at HRC HCC
      clear hz0 hz1 hz2
      have hla : (a : Int) < (l.length : Int) := by omega
      have hl1 : (a : Int) + 1 < (l.length : Int) := by omega
      have hl2 : (a : Int) + 2 < (l.length : Int) := by omega
      have hw1 : IntKind.i64.wrap ((a : Int) + 1) = (a : Int) + 1 := IntWalk.i64_in _ (by omega)
      have hw2 : IntKind.i64.wrap ((a : Int) + 2) = (a : Int) + 2 := IntWalk.i64_in _ (by omega)
      have hv0 : IntKind.i64.wrap z0 = z0 := IntWalk.i64_in _ (by omega)
      have hv1 : IntKind.i64.wrap z1 = z1 := IntWalk.i64_in _ (by omega)
      have hv2 : IntKind.i64.wrap z2 = z2 := IntWalk.i64_in _ (by omega)
      have hg1 : 0 ≤ (a : Int) + 1 := by omega
      have hg2 : 0 ≤ (a : Int) + 2 := by omega
      have ht1 : ((a : Int) + 1).toNat = a + 1 := by omega
      have ht2 : ((a : Int) + 2).toNat = a + 2 := by omega
      go_wp2
      refine wp_region_seq (Al w (some ⟨b, o, none⟩) l w.heap.size (allF false l a)) (by kernel_rfl) (by kernel_rfl) (by kernel_rfl) ⟨HS.out.rd.drew, HS.out.row.drew, HS.out.be.drew⟩ ?_
      repeat (
        first
          | (apply seq_call (f := 16) (args := #[.int .i64 z0, .int .i64 z1, .int .i64 z2]) (by rfl)
             focus (intro W; have eg : ∀ args w, (callFunc 16 args).run Try.prog w = .ok (.enter 16 args) w := HE.out; unfold execOp; simp [resolve, invoke, go_sem, eg]; done)
             focus (intro W hS; exact (HCC.out W).mono fun e w' h => ⟨h.1, hS.call h.2⟩))
          | (apply seq_val (by rfl)
             focus (intro W hS; have e0 := (HRC.out W hS).1; have e1 := (HRC.out W hS).2.1; have e2 := (HRC.out W hS).2.2; go_simp; try with_reducible rfl; done))
        simp only [Act.put, List.setIfInBounds_toArray, List.set_cons_zero, List.set_cons_succ])
      refine seq_nil fun W hS => ?_
      have f0 := hS.row.free a
      have f1 := hS.row.free (a + 1)
      have f2 := hS.row.free (a + 2)
      have e0 := hS.row.cell (i := a) (by omega)
      have e1 := hS.row.cell (i := a + 1) (by omega)
      have e2 := hS.row.cell (i := a + 2) (by omega)
      have HS2 := Lib.hid (((hS.set (fun _ _ _ e => by injection e with e; injection e with e; subst e; exact Nat.ne_of_lt (HOF.out _ _ _ rfl)) (Nat.le_refl _) a y0).set (fun _ _ _ e => by injection e with e; injection e with e; subst e; exact Nat.ne_of_lt (HOF.out _ _ _ rfl)) (Nat.le_refl _) (a + 1) y1).set (fun _ _ _ e => by injection e with e; injection e with e; subst e; exact Nat.ne_of_lt (HOF.out _ _ _ rfl)) (Nat.le_refl _) (a + 2) y2)
      rw [HN.out] at HS2
      clear hw1 hw2 ht1 ht2 hv0 hv1 hv2 HRC hS
      go_wp2
      go_roundw
      case rel => exact ⟨a + 3, by omega, (show (a + 3) % 3 = 0 by have := HA.out; omega), by go_num, HS2⟩
      case measure => simp [RowKit.intOf]; omega
    · have he : a = l.length := by omega
      subst he
      go_wp2
      go_ret
      refine ⟨rfl, ?_, HS.out.be⟩
      have hle := allL_len (p := false) HM.out
      have hrow : Row wr w.heap.size (allL false l).length (allF false l l.length) := by rw [hle]; exact HS.out.row
      have ho := hrow.ob (Nat.le_refl w.heap.size) (by rw [hle]; unfold maxLen; omega) fun i hi => by rw [hle] at hi; rw [bt_allL HM.out hi]; unfold allF; rw [if_pos hi]
      rw [hle] at ho
      exact ho
theorem ent_pa : ∀ args w, (callFunc 18 args).run Try.prog w = .ok (.enter 18 args) w := enters_of Try.func18 (by kernel_rfl) rfl
theorem cv_pa (a b c : Int) (W : World) : Calls Try.prog 18 #[.int .i64 a, .int .i64 b, .int .i64 c] W fun e w' => e = .returned (.tuple #[.int .i64 (cv true 0 a b c), .int .i64 (cv true 1 a b c), .int .i64 (cv true 2 a b c)]) ∧ Below W.heap.size W w' := paint_any a b c W
set_option maxHeartbeats 4000000 in
theorem all_pa (l : List UInt8) (A : Option Addr) (c : Nat) (w : World) (hr : Rd w A l) (hl : l.length ≤ 65536) (hm : l.length % 3 = 0) :
    Calls Try.prog 14 #[.slice A l.length c, .bool true] w fun e w' => e = .returned (.slice (some ⟨w.heap.size, 0, none⟩) l.length l.length) ∧ Ob w' w.heap.size (.slice (some ⟨w.heap.size, 0, none⟩) l.length l.length) (allL true l) ∧ Below w.heap.size w w' := by
  have hb : (((l.length : Int) % 3) != 0) = false := by rw [bne_eq_false_iff_eq]; omega
  have HM := Lib.hid hm
  have HE := Lib.hid ent_pa
  have HC := Lib.hid cv_pa
  have HRR := Lib.hid hr
  clear hm hr
  have hmk := run_makeB l.length hl
  have S0 : Hid (Al w A l w.heap.size (allF true l 0) (w.alloc (.cells (zeroRow l.length) 5))) := ⟨HRR.out.alloc _, by rw [allF_zero]; exact Row.zero w _, (Below.refl _ w).alloc (Nat.le_refl _) _⟩
  go_enter Try.func14, Try.ntmps14
  go_wp2
  go_loopw [7] (fun i wr => ∃ a : Nat, a ≤ l.length ∧ Hid (a % 3 = 0) ∧ i = .int .i64 a ∧ Hid (Al w A l w.heap.size (allF true l a) wr)) (fun i _ => l.length - (RowKit.intOf i).toNat)
  case atStart => exact ⟨0, Nat.zero_le _, rfl, rfl, S0⟩
  case round =>
    clear S0 hmk hb
    obtain ⟨a, ha, HA, rfl, HS⟩ := hrel
    by_cases hlt : a < l.length
    · have h3 : a + 3 ≤ l.length := by have := HA.out; have := HM.out; omega
      have HOF := Lib.hid (HRR.out.off (by omega))
      have HN := Lib.hid (allF_succ true l a HA.out)
      have HCC := Lib.hid (HC.out (bt l a) (bt l (a + 1)) (bt l (a + 2)))
      obtain ⟨x1, x2⟩ := cv_rng true 0 (bt l a) (bt l (a + 1)) (bt l (a + 2))
      obtain ⟨x3, x4⟩ := cv_rng true 1 (bt l a) (bt l (a + 1)) (bt l (a + 2))
      obtain ⟨x5, x6⟩ := cv_rng true 2 (bt l a) (bt l (a + 1)) (bt l (a + 2))
      generalize cv true 0 (bt l a) (bt l (a + 1)) (bt l (a + 2)) = y0 at *
      generalize cv true 1 (bt l a) (bt l (a + 1)) (bt l (a + 2)) = y1 at *
      generalize cv true 2 (bt l a) (bt l (a + 1)) (bt l (a + 2)) = y2 at *
      have HRD : Hid (∀ W, Al w A l w.heap.size (allF true l a) W → ∃ b o, A = some ⟨b, o, none⟩ ∧ W.cell? ⟨b, o + a, none⟩ = some (.int .u8 (bt l a)) ∧ W.cell? ⟨b, o + (a + 1), none⟩ = some (.int .u8 (bt l (a + 1))) ∧ W.cell? ⟨b, o + (a + 2), none⟩ = some (.int .u8 (bt l (a + 2)))) := by
        intro W hS
        rcases hS.rd with h | ⟨b, o, hA, hc⟩
        · rw [h] at hlt; simp at hlt
        · exact ⟨b, o, hA, hc a (by omega), hc (a + 1) (by omega), hc (a + 2) (by omega)⟩
      obtain ⟨b, o, hAA, -⟩ := HRD.out wr HS.out
      have HRC : Hid (∀ W, Al w A l w.heap.size (allF true l a) W → W.cell? ⟨b, o + a, none⟩ = some (.int .u8 (bt l a)) ∧ W.cell? ⟨b, o + (a + 1), none⟩ = some (.int .u8 (bt l (a + 1))) ∧ W.cell? ⟨b, o + (a + 2), none⟩ = some (.int .u8 (bt l (a + 2)))) := by
        intro W hS
        obtain ⟨b', o', h1, h2⟩ := HRD.out W hS
        rw [hAA] at h1
        injection h1 with h1
        injection h1 with h1 h3
        subst h1 h3
        exact h2
      subst hAA
      clear HRD
      obtain ⟨z0, hz0⟩ : ∃ z, z = bt l a := ⟨_, rfl⟩
      obtain ⟨z1, hz1⟩ : ∃ z, z = bt l (a + 1) := ⟨_, rfl⟩
      obtain ⟨z2, hz2⟩ : ∃ z, z = bt l (a + 2) := ⟨_, rfl⟩
      have u0 : 0 ≤ z0 ∧ z0 < 256 := by rw [hz0]; exact bt_rng _ _
      have u1 : 0 ≤ z1 ∧ z1 < 256 := by rw [hz1]; exact bt_rng _ _
      have u2 : 0 ≤ z2 ∧ z2 < 256 := by rw [hz2]; exact bt_rng _ _
      rw [← hz0, ← hz1, ← hz2] at HRC HCC
      clear hz0 hz1 hz2
      have hla : (a : Int) < (l.length : Int) := by omega
      have hl1 : (a : Int) + 1 < (l.length : Int) := by omega
      have hl2 : (a : Int) + 2 < (l.length : Int) := by omega
      have hw1 : IntKind.i64.wrap ((a : Int) + 1) = (a : Int) + 1 := IntWalk.i64_in _ (by omega)
      have hw2 : IntKind.i64.wrap ((a : Int) + 2) = (a : Int) + 2 := IntWalk.i64_in _ (by omega)
      have hv0 : IntKind.i64.wrap z0 = z0 := IntWalk.i64_in _ (by omega)
      have hv1 : IntKind.i64.wrap z1 = z1 := IntWalk.i64_in _ (by omega)
      have hv2 : IntKind.i64.wrap z2 = z2 := IntWalk.i64_in _ (by omega)
      have hg1 : 0 ≤ (a : Int) + 1 := by omega
      have hg2 : 0 ≤ (a : Int) + 2 := by omega
      have ht1 : ((a : Int) + 1).toNat = a + 1 := by omega
      have ht2 : ((a : Int) + 2).toNat = a + 2 := by omega
      go_wp2
      refine wp_region_seq (Al w (some ⟨b, o, none⟩) l w.heap.size (allF true l a)) (by kernel_rfl) (by kernel_rfl) (by kernel_rfl) ⟨HS.out.rd.drew, HS.out.row.drew, HS.out.be.drew⟩ ?_
      repeat (
        first
          | (apply seq_call (f := 18) (args := #[.int .i64 z0, .int .i64 z1, .int .i64 z2]) (by rfl)
             focus (intro W; have eg : ∀ args w, (callFunc 18 args).run Try.prog w = .ok (.enter 18 args) w := HE.out; unfold execOp; simp [resolve, invoke, go_sem, eg]; done)
             focus (intro W hS; exact (HCC.out W).mono fun e w' h => ⟨h.1, hS.call h.2⟩))
          | (apply seq_val (by rfl)
             focus (intro W hS; have e0 := (HRC.out W hS).1; have e1 := (HRC.out W hS).2.1; have e2 := (HRC.out W hS).2.2; go_simp; try with_reducible rfl; done))
        simp only [Act.put, List.setIfInBounds_toArray, List.set_cons_zero, List.set_cons_succ])
      refine seq_nil fun W hS => ?_
      have f0 := hS.row.free a
      have f1 := hS.row.free (a + 1)
      have f2 := hS.row.free (a + 2)
      have e0 := hS.row.cell (i := a) (by omega)
      have e1 := hS.row.cell (i := a + 1) (by omega)
      have e2 := hS.row.cell (i := a + 2) (by omega)
      have HS2 := Lib.hid (((hS.set (fun _ _ _ e => by injection e with e; injection e with e; subst e; exact Nat.ne_of_lt (HOF.out _ _ _ rfl)) (Nat.le_refl _) a y0).set (fun _ _ _ e => by injection e with e; injection e with e; subst e; exact Nat.ne_of_lt (HOF.out _ _ _ rfl)) (Nat.le_refl _) (a + 1) y1).set (fun _ _ _ e => by injection e with e; injection e with e; subst e; exact Nat.ne_of_lt (HOF.out _ _ _ rfl)) (Nat.le_refl _) (a + 2) y2)
      rw [HN.out] at HS2
      clear hw1 hw2 ht1 ht2 hv0 hv1 hv2 HRC hS
      go_wp2
      go_roundw
      case rel => exact ⟨a + 3, by omega, (show (a + 3) % 3 = 0 by have := HA.out; omega), by go_num, HS2⟩
      case measure => simp [RowKit.intOf]; omega
    · have he : a = l.length := by omega
      subst he
      go_wp2
      go_ret
      refine ⟨rfl, ?_, HS.out.be⟩
      have hle := allL_len (p := true) HM.out
      have hrow : Row wr w.heap.size (allL true l).length (allF true l l.length) := by rw [hle]; exact HS.out.row
      have ho := hrow.ob (Nat.le_refl w.heap.size) (by rw [hle]; unfold maxLen; omega) fun i hi => by rw [hle] at hi; rw [bt_allL HM.out hi]; unfold allF; rw [if_pos hi]
      rw [hle] at ho
      exact ho
end Go.Proofs.Ytefdimkiijmjbaa
