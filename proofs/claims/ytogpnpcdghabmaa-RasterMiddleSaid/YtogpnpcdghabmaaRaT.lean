/- Box, Pad, Cut of anything, as one contract each; several variables and pictures in memory as one state. -/
import Derived.Test.YtogpnpcdghabmaaRaR
import Derived.Deep.Cut
import Derived.Deep.DeepCutAuto
namespace Go.Proofs.Ytogpnpcdghabmaa
open Go.RowKit Go.Lib
set_option linter.unusedVariables false
set_option maxRecDepth 100000
/-- What a function that makes a picture gives: a picture of bw by bh, of the bytes BL, and an error number. -/
def Gives9 (f : FuncId) (W H x y : Int) (A : Option Addr) (n c : Nat) (l : List UInt8) (bw bh e : Int) (BL : List UInt8) : Prop :=
  ∀ w, Rd w A l → Calls Try.prog f #[ra W H (.slice A n c), .int .i64 x, .int .i64 y] w fun e' w' => ∃ A' c', e' = .returned (.tuple #[.agg #[.int .i64 bw, .int .i64 bh, .slice A' BL.length c'], .int .i64 e]) ∧ Ob w' w.heap.size (.slice A' BL.length c') BL ∧ Below w.heap.size w w'
/-- The document's function makes the same. -/
def Gives9r (f : FuncId) (W H x y : Int) (A : Option Addr) (n c : Nat) (l : List UInt8) (BL : List UInt8) : Prop :=
  ∀ w, Rd w A l → Calls Try.prog f #[ra W H (.slice A n c), .int .i64 x, .int .i64 y] w fun e' w' => ∃ A' c', e' = .returned (.agg #[.int .i64 x, .int .i64 y, .slice A' BL.length c']) ∧ Rd w' A' BL ∧ Below w.heap.size w w'
theorem ob_slice' {w : World} {base : Nat} {v : Value} {l : List UInt8} (h : Ob w base v l) : ∃ A c, v = .slice A l.length c ∧ Ob w base (.slice A l.length c) l ∧ Rd w A l := by
  obtain ⟨A, c, rfl, h2, h3, h4, _⟩ := h.open
  exact ⟨A, c, rfl, h, h4⟩
theorem gives_of {f : FuncId} {W H x y bw bh e : Int} {A : Option Addr} {n c : Nat} {l BL : List UInt8}
    (h : ∀ w, Rd w A l → Calls Try.prog f #[ra W H (.slice A n c), .int .i64 x, .int .i64 y] w fun e' w' => ∃ s, e' = .returned (.tuple #[ra bw bh s, .int .i64 e]) ∧ Ob w' w.heap.size s BL ∧ Below w.heap.size w w') : Gives9 f W H x y A n c l bw bh e BL := fun w hr =>
  (h w hr).mono fun e' w' ⟨s, h1, h2, h3⟩ => by
    obtain ⟨A', c', rfl, h4, _⟩ := ob_slice' h2
    exact ⟨A', c', h1, h4, h3⟩
theorem gives_no {f : FuncId} {W H x y : Int} {A : Option Addr} {n c : Nat} {l : List UInt8}
    (h : ∀ w, Calls Try.prog f #[ra W H (.slice A n c), .int .i64 x, .int .i64 y] w fun e' w' => e' = .returned (.tuple #[.agg zR, .int .i64 1]) ∧ Below w.heap.size w w') : Gives9 f W H x y A n c l 0 0 1 [] := fun w hr =>
  (h w).mono fun e' w' ⟨h1, h3⟩ => ⟨none, 0, h1, Ob.nil _ _, h3⟩
theorem gives_r {f : FuncId} {W H x y : Int} {A : Option Addr} {n c : Nat} {l BL : List UInt8}
    (h : ∀ w, Rd w A l → Calls Try.prog f #[ra W H (.slice A n c), .int .i64 x, .int .i64 y] w fun e' w' => ∃ s, e' = .returned (ra x y s) ∧ Ob w' w.heap.size s BL ∧ Below w.heap.size w w') : Gives9r f W H x y A n c l BL := fun w hr =>
  (h w hr).mono fun e' w' ⟨s, h1, h2, h3⟩ => by
    obtain ⟨A', c', rfl, h4, h5⟩ := ob_slice' h2
    exact ⟨A', c', h1, h5, h3⟩
/-- The numbers behind the guards. -/
theorem open_ok {W H x y : Int} {l : List UInt8} (hm : may9 W H l.length = true) (hs : (sd x && sd y) = true) : ∃ a b p q : Nat, W = (a : Int) ∧ H = (b : Int) ∧ x = (p : Int) ∧ y = (q : Int) ∧ Pc l a b ∧ 1 ≤ p ∧ p ≤ 4096 ∧ 1 ≤ q ∧ q ≤ 4096 := by
  obtain ⟨a, b, rfl, rfl, hp⟩ := pc_of hm
  rw [Bool.and_eq_true] at hs
  have h1 := sd_yes hs.1
  have h2 := sd_yes hs.2
  exact ⟨a, b, x.toNat, y.toNat, rfl, rfl, by omega, by omega, hp, by omega, by omega, by omega, by omega⟩
theorem wi_nat {a b x y : Nat} (h : wi9 (a : Int) b x y = true) : a ≤ x ∧ b ≤ y := by
  unfold wi9 at h
  simp only [Bool.and_eq_true, decide_eq_true_eq] at h
  omega
theorem mul60 {p q : Nat} (hp : p ≤ 60) (hq : q ≤ 60) : 3 * p * q ≤ 65536 := by
  have := Nat.mul_le_mul (Nat.mul_le_mul_left 3 hp) hq
  omega
theorem box_all (l : List UInt8) (W H x y : Int) (hmul : ∀ p q : Nat, x = (p : Int) → y = (q : Int) → sd x = true → sd y = true → wi9 x y W H = true → 3 * p * q ≤ 65536) : ∃ (bw bh e : Int) (BL : List UInt8), BL.length ≤ 100000 ∧
    (∀ A n c, n = l.length → n ≤ c → c ≤ maxLen → Gives9 16 W H x y A n c l bw bh e BL) ∧
    ((may9 W H l.length && ((sd x && sd y) && wi9 x y W H)) = true → e = 0 ∧ bw = x ∧ bh = y ∧ ∀ A n c, n = l.length → Gives9r 20 W H x y A n c l BL) ∧
    ((may9 W H l.length && ((sd x && sd y) && wi9 x y W H)) = false → e = 1 ∧ bw = 0 ∧ bh = 0 ∧ BL = []) := by
  cases h : (may9 W H l.length && ((sd x && sd y) && wi9 x y W H)) with
  | false => exact ⟨0, 0, 1, [], by simp, fun A n c hn hnc hcm => gives_no fun w => by subst hn; exact box_no W H A l.length c x y w h, (fun e => by cases e), fun _ => ⟨rfl, rfl, rfl, rfl⟩⟩
  | true =>
    simp only [Bool.and_eq_true] at h
    obtain ⟨hm, hs, hw⟩ := h
    have hm3 := hmul
    obtain ⟨a, b, p, q, rfl, rfl, rfl, rfl, hp, p1, p2, q1, q2⟩ := open_ok hm (by rw [Bool.and_eq_true]; exact hs)
    obtain ⟨w1, w2⟩ := wi_nat hw
    have hmu := hmul p q rfl rfl hs.1 hs.2 hw
    refine ⟨p, q, 0, picL (boxF l a b p q) p q, by rw [pic_len]; omega, fun A n c hn hnc hcm => gives_of fun w hr => box_yes l a b hp A n c hn hnc hcm w hr p q p1 p2 q1 q2 w1 w2 hmu, fun _ => ⟨rfl, rfl, rfl, fun A n c hn => gives_r fun w hr => rBox_any l a b hp A n c hn w hr p q p1 w1 q1 w2 hmu⟩, (fun e => by cases e)⟩
theorem cut_all (l : List UInt8) (W H x y : Int) (hmul : ∀ p q : Nat, x = (p : Int) → y = (q : Int) → sd x = true → sd y = true → wi9 x y W H = true → 3 * p * q ≤ 65536) : ∃ (bw bh e : Int) (BL : List UInt8), BL.length ≤ 100000 ∧
    (∀ A n c, n = l.length → n ≤ c → c ≤ maxLen → Gives9 18 W H x y A n c l bw bh e BL) ∧
    ((may9 W H l.length && ((sd x && sd y) && wi9 x y W H)) = true → e = 0 ∧ bw = x ∧ bh = y ∧ ∀ A n c, n = l.length → Gives9r 21 W H x y A n c l BL) ∧
    ((may9 W H l.length && ((sd x && sd y) && wi9 x y W H)) = false → e = 1 ∧ bw = 0 ∧ bh = 0 ∧ BL = []) := by
  cases h : (may9 W H l.length && ((sd x && sd y) && wi9 x y W H)) with
  | false => exact ⟨0, 0, 1, [], by simp, fun A n c hn hnc hcm => gives_no fun w => by subst hn; exact cut_no W H A l.length c x y w h, (fun e => by cases e), fun _ => ⟨rfl, rfl, rfl, rfl⟩⟩
  | true =>
    simp only [Bool.and_eq_true] at h
    obtain ⟨hm, hs, hw⟩ := h
    obtain ⟨a, b, p, q, rfl, rfl, rfl, rfl, hp, p1, p2, q1, q2⟩ := open_ok hm (by rw [Bool.and_eq_true]; exact hs)
    obtain ⟨w1, w2⟩ := wi_nat hw
    have hmu := hmul p q rfl rfl hs.1 hs.2 hw
    refine ⟨p, q, 0, picL (padF l a b) p q, by rw [pic_len]; omega, fun A n c hn hnc hcm => gives_of fun w hr => cut_yes l a b hp A n c hn hnc hcm w hr p q p1 p2 q1 q2 w1 w2 hmu, fun _ => ⟨rfl, rfl, rfl, fun A n c hn => gives_r fun w hr => rPad_any l a b hp A n c hn w hr p q p2 q2 hmu⟩, (fun e => by cases e)⟩
theorem pad_all (l : List UInt8) (W H x y : Int) (hmul : ∀ p q : Nat, x = (p : Int) → y = (q : Int) → sd x = true → sd y = true → 3 * p * q ≤ 65536) : ∃ (bw bh e : Int) (BL : List UInt8), BL.length ≤ 100000 ∧
    (∀ A n c, n = l.length → n ≤ c → c ≤ maxLen → Gives9 17 W H x y A n c l bw bh e BL) ∧
    ((may9 W H l.length && ((sd x && sd y) && wi9 W H x y)) = true → e = 0 ∧ bw = x ∧ bh = y ∧ ∀ A n c, n = l.length → Gives9r 21 W H x y A n c l BL) ∧
    ((may9 W H l.length && ((sd x && sd y) && wi9 W H x y)) = false → e = 1 ∧ bw = 0 ∧ bh = 0 ∧ BL = []) := by
  cases h : (may9 W H l.length && ((sd x && sd y) && wi9 W H x y)) with
  | false => exact ⟨0, 0, 1, [], by simp, fun A n c hn hnc hcm => gives_no fun w => by subst hn; exact pad_no W H A l.length c x y w h, (fun e => by cases e), fun _ => ⟨rfl, rfl, rfl, rfl⟩⟩
  | true =>
    simp only [Bool.and_eq_true] at h
    obtain ⟨hm, hs, hw⟩ := h
    obtain ⟨a, b, p, q, rfl, rfl, rfl, rfl, hp, p1, p2, q1, q2⟩ := open_ok hm (by rw [Bool.and_eq_true]; exact hs)
    obtain ⟨w1, w2⟩ := wi_nat hw
    have hmu := hmul p q rfl rfl hs.1 hs.2
    refine ⟨p, q, 0, picL (padF l a b) p q, by rw [pic_len]; omega, fun A n c hn hnc hcm => gives_of fun w hr => pad_yes l a b hp A n c hn hnc hcm w hr p q p1 p2 q1 q2 w1 w2 hmu, fun _ => ⟨rfl, rfl, rfl, fun A n c hn => gives_r fun w hr => rPad_any l a b hp A n c hn w hr p q p2 q2 hmu⟩, (fun e => by cases e)⟩
/-- A picture in memory of its own: made between base and hi. -/
structure Pt where
  base : Nat
  hi : Nat
  v : Value
  l : List UInt8
structure Ms (w : World) (L : List (Nat × Array Value)) (Ps : List Pt) (W : World) : Prop where
  k : Kc w L W
  ob : ∀ p, p ∈ Ps → Ob W p.base p.v p.l ∧ ∀ i, p.v.ownBlock = some i → i < p.hi
section
variable {w W W2 : World} {L : List (Nat × Array Value)} {Ps : List Pt}
theorem Ms.refl (w : World) : Ms w [] [] w := ⟨Kc.refl w, fun p hp => by simp at hp⟩
theorem Ms.call (h : Ms w L Ps W) (hb : Below W.heap.size W W2) : Ms w L Ps W2 := ⟨h.k.call hb, fun p hp => ⟨(h.ob p hp).1.below hb, (h.ob p hp).2⟩⟩
theorem Ms.new (h : Ms w L Ps W) (X : Array Value) (T : TypeId) (g : Nat) (hg : W.heap.size = g) : Ms w (L ++ [(g, X)]) Ps (W.alloc (.cells X T)) :=
  ⟨h.k.new X T g hg, fun p hp => ⟨(h.ob p hp).1.below ((Below.refl _ _).alloc (Nat.le_refl _) _), (h.ob p hp).2⟩⟩
theorem Ms.drew (h : Ms w L Ps W) : Ms w L Ps W.drew := ⟨h.k.drew, h.ob⟩
/-- A picture that a call has made. -/
theorem Ms.pic (h : Ms w L Ps W) (hb : Below W.heap.size W W2) {v : Value} {l : List UInt8} (ho : Ob W2 W.heap.size v l) : Ms w L (Ps ++ [⟨W.heap.size, W2.heap.size, v, l⟩]) W2 := by
  refine ⟨h.k.call hb, fun p hp => ?_⟩
  rcases List.mem_append.1 hp with hp | hp
  · exact ⟨(h.ob p hp).1.below hb, (h.ob p hp).2⟩
  · obtain rfl : p = ⟨W.heap.size, W2.heap.size, v, l⟩ := by simpa using hp
    exact ⟨ho, fun i hi => (ho.at i hi).2⟩
theorem Ms.get (h : Ms w L Ps W) (n : Nat) {p : Pt} (hn : Ps[n]? = some p) : Ob W p.base p.v p.l := (h.ob p (List.mem_of_getElem? hn)).1
theorem Ms.rd (h : Ms w L Ps W) (n : Nat) {b hi : Nat} {A : Option Addr} {m c : Nat} {l : List UInt8} (hn : Ps[n]? = some ⟨b, hi, .slice A m c, l⟩) : Rd W A l := by
  obtain ⟨A', c', e, _, _, hr, _⟩ := (h.get n hn).open
  injection e with e1 _ _
  subst e1
  exact hr
/-- One of the pictures has been written. -/
theorem Ms.clear {Ps' : List Pt} (h : Ms w L Ps W) (n : Nat) {q : Pt} (hn : Ps[n]? = some q) (hc : Chg (fun k => q.v.ownBlock = some k) W W2) (hw : w.heap.size ≤ q.base) (hL : ∀ p, p ∈ L → p.1 < q.base ∨ q.hi ≤ p.1) (hP : ∀ p, p ∈ Ps' → p ∈ Ps ∧ (p.hi ≤ q.base ∨ q.hi ≤ p.base)) : Ms w L Ps' W2 := by
  obtain ⟨ho, hh⟩ := h.ob q (List.mem_of_getElem? hn)
  refine ⟨h.k.chg hc (fun p hp e => ?_) (fun k e => by have := (ho.at _ e).1; omega), fun p hp => ?_⟩
  · have h1 := (ho.at _ e).1
    have h2 := hh _ e
    have h3 := hL p hp
    omega
  · obtain ⟨p1, p2⟩ := hP p hp
    obtain ⟨q1, q2⟩ := h.ob p p1
    refine ⟨q1.chg hc (fun k hk e => ?_), q2⟩
    have h1 := (ho.at _ e).1
    have h2 := hh _ e
    have h3 := (q1.at _ hk).1
    have h4 := q2 _ hk
    omega
end
section
variable {P : Program} {md : Region.Mode} {ops : Array Oper} {Q : Exit → Act → World → Prop} {S : World → Prop} {T : World → World → Prop} {Hs : Nat → List Value → Value → World → Prop}
/-- A call whose result is known, out of what is known of those that it waits for. -/
theorem seqH_callK {i : Nat} {o : Oper} {rest tail : List Oper} {a : Act} {F : Nat → World → Prop} (c : Value) (hc : Hs i = fun _ v _ => v = c) (w0 : World) (f : FuncId) (args : Array Value) (hw : Region.wanted o (yielded ops a.tmps) = true)
    (hv : ∀ w, (execOp a.eval o).run P w = .ok (.enter f args) w)
    (hl : ∀ w, S w → ahead md o F w → Calls P f args w fun e w' => e = .returned c ∧ T w w' ∧ S w')
    (h : seqH P md ops Q S T Hs tail (i + 1) rest (a.put o.dst c) (upd F i fun _ => c = c)) : seqH P md ops Q S T Hs tail i (o :: rest) a F :=
  ⟨⟨hw, fun w hS hp => .inr (.inr ⟨f, args, w, hv w, (hl w hS hp).mono fun e w' he => ⟨c, he.1, he.2.1, he.2.2, by rw [hc]⟩⟩)⟩, ⟨c, w0, by rw [hc]⟩, fun v ⟨w1, hv⟩ => by
    rw [hc] at hv ⊢
    subst hv
    exact h⟩
end
end Go.Proofs.Ytogpnpcdghabmaa
