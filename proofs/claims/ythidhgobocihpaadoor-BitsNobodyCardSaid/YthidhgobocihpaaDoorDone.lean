/- Contracts of a Writer's rest and Done. -/
import Derived.Test.YthidhgobocihpaaDoorWtr
namespace Go.Proofs.YthidhgobocihpaaDoor
open Go.RowKit Go.Lib
set_option linter.unusedVariables false

theorem ones_at (r : Int) (n : Nat) (w : World) (hr : r = n) (h : n ≤ 16) : Calls Tryd.prog 26 #[.int .i64 r] w fun e w' => e = .returned (.int .i64 (2 ^ n - 1)) ∧ w' = w := by
  subst hr
  exact (ones_any n w h).mono fun _ _ h => ⟨h.1, h.2.symm⟩
theorem wraps8 (n : Int) (h₀ : 0 ≤ n) (h₁ : n < 2 ^ 8) : IntKind.u8.wrap n = n := by rw [IntKind.wrap_u8]; omega
theorem rest_byte (V : Int) (r : Nat) (h1 : 1 ≤ r) (h7 : r ≤ 7) : bits .or .u8 (V % 4294967296 * 2 ^ r % 4294967296 % 256) ((2 ^ r - 1) % 256) = V * 2 ^ r % 256 + (2 ^ r - 1) := by
  have : r = 1 ∨ r = 2 ∨ r = 3 ∨ r = 4 ∨ r = 5 ∨ r = 6 ∨ r = 7 := by omega
  have key : ∀ X Y : Int, ∀ i : Nat, 0 ≤ X → X % 2 ^ i = 0 → X < 256 → 0 ≤ Y → Y < 2 ^ i → Y < 256 → bits .or .u8 X Y = X + Y := fun X Y i a b c d e f => bits_join .u8 8 (by decide) wraps8 i X Y a b c d e f
  rcases this with rfl | rfl | rfl | rfl | rfl | rfl | rfl
  · rw [key _ _ 1 (by omega) (by omega) (by omega) (by omega) (by omega) (by omega)]; omega
  · rw [key _ _ 2 (by omega) (by omega) (by omega) (by omega) (by omega) (by omega)]; omega
  · rw [key _ _ 3 (by omega) (by omega) (by omega) (by omega) (by omega) (by omega)]; omega
  · rw [key _ _ 4 (by omega) (by omega) (by omega) (by omega) (by omega) (by omega)]; omega
  · rw [key _ _ 5 (by omega) (by omega) (by omega) (by omega) (by omega) (by omega)]; omega
  · rw [key _ _ 6 (by omega) (by omega) (by omega) (by omega) (by omega) (by omega)]; omega
  · rw [key _ _ 7 (by omega) (by omega) (by omega) (by omega) (by omega) (by omega)]; omega

/-- The padded byte behind the whole ones, if there is one. -/
def restL (l : List Int) : List UInt8 := if l.length % 8 = 0 then [] else [UInt8.ofNat (oct (pad l) (l.length / 8)).toNat]
theorem pad_rest (l : List Int) : pack (pad l) = pack l ++ restL l := pack_pad l
set_option maxHeartbeats 800000 in
theorem rest_any (base p : Nat) (l : List Int) (g : Option Nat) (w : World) (h : Wtr w base p l g) (hl : l.length ≤ 10000000) :
    Calls Tryd.prog 27 #[.pointer (some ⟨p, 0, none⟩)] w fun e w' => ∃ A n c, e = .returned (.slice A n c) ∧ n = (restL l).length ∧ Rd w' A (restL l) ∧ n ≤ c ∧ (A = none → c = 0) ∧ Below w.heap.size w w' := by
  have e1 := h.la
  have e2 := h.ct
  by_cases h8 : l.length % 8 = 0
  · have hq : ((l.length : Int) % 8 == 0) = true := by rw [beq_iff_eq]; omega
    have hr : restL l = [] := by unfold restL; rw [if_pos h8]
    rw [hr]
    clear h8
    go_enter Tryd.func27, Tryd.ntmps27
    go_wp2
    go_ret
    exact ⟨none, 0, 0, rfl, rfl, Rd.nil _ _, Nat.le_refl _, fun _ => rfl, Below.refl _ _⟩
  · have hq : ((l.length : Int) % 8 == 0) = false := by rw [beq_eq_false_iff_ne]; omega
    obtain ⟨r, hr⟩ : ∃ r, r = 8 - l.length % 8 := ⟨_, rfl⟩
    have hr1 : 1 ≤ r := by omega
    have hr7 : r ≤ 7 := by omega
    have hsub : 8 - (l.length : Int) % 8 = (r : Int) := by omega
    have ho := oct_pad h.bit h8
    rw [← hr, ← rest_byte _ _ hr1 hr7] at ho
    have hrl : restL l = [UInt8.ofNat (oct (pad l) (l.length / 8)).toNat] := by unfold restL; rw [if_neg h8]
    have hrng := oct_rng (pad_bit h.bit) (l.length / 8)
    rw [hrl]
    have HO := Lib.hid ho
    clear h8 ho hrl hr
    go_enter Tryd.func27, Tryd.ntmps27
    go_wp2
    go_still_tail 11, (by kernel_rfl)
    still_call (ones_at _ r _ (by omega) (by omega))
    repeat still_step
    refine wpStill_nil ?_
    change wpList _ _ _ _ _ (World.drew _)
    go_wp2
    go_ret
    exact ⟨some ⟨w.heap.size, 0, none⟩, 1, 1, rfl, rfl, (Rd.one w _ _ _ (by rw [← HO.out]; exact (ofNat_num hrng.1 hrng.2).symm)).drew, Nat.le_refl _, (fun h => by cases h), ((Below.refl _ _).alloc (Nat.le_refl _) _).drew⟩

theorem stuff_n (l : List UInt8) (A : Option Addr) (n c : Nat) (w : World) (hn : n = l.length) (hw : Env w) (hr : Rd w A l) (hcap : n ≤ c) (hA : A = none → c = 0) (hl : n ≤ 100000000) :
    Calls Tryd.prog 19 #[.slice A n c] w fun e w' => ∃ v, e = .returned v ∧ Ob w' w.heap.size v (stf l) ∧ Below w.heap.size w w' := by
  subst hn; exact stuff_any l A c w hw hr hcap hA hl
set_option maxHeartbeats 800000 in
theorem done_any (base p : Nat) (l : List Int) (g : Option Nat) (w : World) (hw : Env w) (h : Wtr w base p l g) (hl : l.length ≤ 10000000) :
    Calls Tryd.prog 12 #[.pointer (some ⟨p, 0, none⟩)] w fun e w' => ∃ v, e = .returned v ∧ Ob w' w.heap.size v (stf (pack (pad l))) ∧ Below w.heap.size w w' := by
  obtain ⟨v, e0, e0o, e0g⟩ := h.ex
  obtain ⟨pl, hpl⟩ : ∃ pl, pl = pack l := ⟨_, rfl⟩
  have hpl2 : pl.length = l.length / 8 := by rw [hpl, pack_len]
  rw [← hpl] at e0o
  obtain ⟨A, c, rfl, hc0, hc1, r0, hb0, hA0⟩ := e0o.open'
  have hlen : pl.length ≤ 1250000 := by omega
  have hrl : (restL l).length ≤ 1 := by unfold restL; split <;> simp
  have HE : Hid (stf pl ++ stf (restL l) = stf (pack (pad l))) := by show _ = _; rw [← stf_append, pad_rest, hpl]
  have hs1 := stf_len pl
  have hs2 := stf_len (restL l)
  have H := Lib.hid h
  clear hpl hpl2 e0o e0g hb0 h
  go_enter Tryd.func12, Tryd.ntmps12
  go_wp2_with fail
  (with_reducible refine (stuff_any pl A c _ hw r0 hc0 hA0 (by omega)).mono ?_); rintro e w1 ⟨v1, rfl, ho1, h1⟩
  go_wp2_with fail
  (with_reducible refine (rest_any base p l g _ (H.out.below h1) hl).mono ?_); rintro e w2 ⟨A2, n2, c2, rfl, hn2, r2, hc2, hA2, h2⟩
  have b2 := h1.trans (h2.mono h1.size)
  have n2b : n2 ≤ 1 := by omega
  have N2 := Lib.hid hn2
  clear hn2
  go_wp2_with fail
  (with_reducible refine (stuff_n (restL l) A2 n2 c2 _ N2.out (hw.below b2) r2 hc2 hA2 (by omega)).mono ?_); rintro e w3 ⟨v3, rfl, ho3, h3⟩
  have b3 := b2.trans (h3.mono b2.size)
  have HO1 := Lib.hid ((ho1.below (h2.mono (Nat.le_refl _))).below h3)
  obtain ⟨s3, hs3⟩ : ∃ s3, s3 = stf (restL l) := ⟨_, rfl⟩
  rw [← hs3] at ho3 HE hs2
  have HS3 := Lib.hid hs3
  obtain ⟨A3, c3, rfl, hc3, _, r3, _, hA3⟩ := ho3.open'
  have B3 := Lib.hid b3
  have z3 := b3.size
  clear hs3 ho3 h1 h2 h3 b2 b3 ho1 H r2 r0
  go_wp2_with (
    ((with_reducible refine wpList_appB _ rfl (.tmp 9) (.tmp 12) rfl w.heap.size v1 (stf pl) rfl HO1.out A3 s3.length c3 s3 rfl rfl r3 (by omega) z3 ?_)
     intro v4 w4 ho4 hg4 _
     have HB4 := Lib.hid (HO1.out.grown B3.out hg4 z3)
     rw [HE.out] at ho4
     have HO4 := Lib.hid ho4
     clear ho4 hg4))
  go_ret
  exact ⟨v4, rfl, HO4.out, HB4.out⟩
end Go.Proofs.YthidhgobocihpaaDoor
