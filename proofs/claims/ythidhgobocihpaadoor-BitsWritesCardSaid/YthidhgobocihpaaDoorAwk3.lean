/- The chapter's examples: awake answers true, in whatever memory that has what the library asks. -/
import Derived.Test.YthidhgobocihpaaDoorDone
namespace Go.Proofs.YthidhgobocihpaaDoor
open Go.RowKit Go.Lib
set_option linter.unusedVariables false

theorem Wtr.fresh (w : World) (T : TypeId) : Wtr (w.alloc (.cells #[.slice none 0 0, .int .u32 0, .int .i64 0] T)) w.heap.size w.heap.size [] none :=
  ⟨⟨.slice none 0 0, by go_cell, Ob.nil _ _, rfl⟩, by rw [show val [] % 4294967296 = 0 from rfl]; go_cell, by go_cell, by go_cell, by go_cell, by go_cell, by simp, Nat.le_refl _, Bit.nil⟩
theorem Wtr.mono {w : World} {base base' p : Nat} {l : List Int} {g : Option Nat} (h : Wtr w base p l g) (hb : base' ≤ base) : Wtr w base' p l g := by
  obtain ⟨v, e1, e2, e3⟩ := h.ex
  exact ⟨⟨v, e1, e2.mono hb, e3⟩, h.la, h.ct, h.f0, h.f1, h.f2, h.gp, Nat.le_trans hb h.bp, h.bit⟩
/-- Put, its world by Below. -/
theorem put_at (base p : Nat) (l : List Int) (x n : Int) (k : Nat) (w : World) (hn : n = k) (h : Hid (∃ g, Wtr w base p l g)) (hk : k ≤ 16) (hl : l.length ≤ 10000000) (hbw : base ≤ w.heap.size) :
    Calls Tryd.prog 8 #[.pointer (some ⟨p, 0, none⟩), .int .i64 x, .int .i64 n] w fun e w' => e = .returned (.bool true) ∧ Hid (∃ g, Wtr w' base p (l ++ lo x k) g) ∧ Below base w w' := by
  subst hn
  obtain ⟨g, hg⟩ := h
  refine (put_yes base p l g x k w hg hk hl hbw).mono ?_
  rintro e w' ⟨g', rfl, h1, h2, h3⟩
  refine ⟨rfl, ⟨g', h1⟩, h3.below hbw fun i hi => ?_⟩
  rcases hi with rfl | hi
  · exact hg.bp
  · exact (hg.gt i hi).1
theorem take_at (q : Nat) (d : List UInt8) (k m : Nat) (n : Int) (v : Int) (w : World) (hn : n = m) (h : Hid (Rdr w q d k)) (hd : d.length ≤ 100000000) (hm : m ≤ 16) (hk : k + m ≤ 8 * d.length) (hv : Hid (val (((bitsOf d).drop k).take m) = v)) :
    Calls Tryd.prog 21 #[.pointer (some ⟨q, 0, none⟩), .int .i64 n] w fun e w' => e = .returned (.tuple #[.int .i64 v, .bool true]) ∧ Hid (Rdr w' q d (k + m)) ∧ Chg (fun i => i = q) w w' := by
  subst hn
  rw [← hv.out]
  exact take_yes q d k m w h.out hd hm hk
theorem few_at (q : Nat) (d : List UInt8) (k m : Nat) (n : Int) (w : World) (hn : n = m) (h : Hid (Rdr w q d k)) (hd : d.length ≤ 100000000) (hm : m ≤ 16) (hkd : k ≤ 8 * d.length) (hk : 8 * d.length < k + m) :
    Calls Tryd.prog 21 #[.pointer (some ⟨q, 0, none⟩), .int .i64 n] w fun e w' => e = .returned (.tuple #[.int .i64 0, .bool false]) ∧ Hid (Rdr w' q d k) ∧ Below w.heap.size w w' := by
  subst hn
  refine (take_few q d k m w h.out hd hm hkd hk).mono ?_
  rintro e w' ⟨rfl, j, rfl⟩
  exact ⟨rfl, h.out.drewN j, below_drewN w j⟩
theorem left_at (q : Nat) (d : List UInt8) (k : Nat) (v : Int) (w : World) (h : Hid (Rdr w q d k)) (hd : d.length ≤ 100000000) (hk : k ≤ 8 * d.length) (hv : (d.length : Int) * 8 - k = v) :
    Calls Tryd.prog 23 #[.pointer (some ⟨q, 0, none⟩)] w fun e w' => e = .returned (.int .i64 v) ∧ Hid (Rdr w' q d k) ∧ Below w.heap.size w w' := by
  rw [← hv]
  exact left_opaque h.out (left_any q d k w h.out hd hk)
theorem len_at (base p : Nat) (l : List Int) (v : Int) (w : World) (h : Hid (∃ g, Wtr w base p l g)) (hv : (l.length : Int) = v) :
    Calls Tryd.prog 10 #[.pointer (some ⟨p, 0, none⟩)] w fun e w' => e = .returned (.int .i64 v) ∧ w = w' := by
  obtain ⟨g, hg⟩ := h
  rw [← hv]
  exact len_any base p l g w hg
theorem done_at (base p : Nat) (l : List Int) (r : List UInt8) (n : Nat) (w : World) (hw : Env w) (h : Hid (∃ g, Wtr w base p l g)) (hl : l.length ≤ 10000000) (hr : Hid (stf (pack (pad l)) = r)) (hn : n = r.length) :
    Calls Tryd.prog 12 #[.pointer (some ⟨p, 0, none⟩)] w fun e w' => ∃ A c, e = .returned (.slice A n c) ∧ Rd w' A r ∧ (A = none → c = 0) ∧ n ≤ c ∧ Below w.heap.size w w' := by
  subst hn
  obtain ⟨g, hg⟩ := h
  rw [← hr.out]
  refine (done_any base p l g w hw hg hl).mono ?_
  rintro e w' ⟨v, rfl, ho, hb⟩
  obtain ⟨A, c, rfl, h1, _, h3, _, h5⟩ := ho.open'
  exact ⟨A, c, rfl, h3, h5, h1, hb⟩
theorem same_at (l : List UInt8) (A B : Option Addr) (n c d : Nat) (w : World) (hn : n = l.length) (ha : Rd w A l) (hb : Rd w B l) :
    Calls Tryd.prog 11 #[.slice A n c, .slice B n d] w fun e w' => e = .returned (.bool true) ∧ w = w' := by
  subst hn
  refine (same_any l l A B c d w ha hb).mono ?_
  rintro e w' ⟨rfl, h⟩
  exact ⟨by simp, h⟩
theorem new_at (l d : List UInt8) (A : Option Addr) (n c : Nat) (w : World) (hn : n = l.length) (hw : Env w) (hr : Rd w A l) (hcap : n ≤ c) (hA : A = none → c = 0) (hl : n ≤ 100000000) (hd : Hid (ustF false (l.take (dat l)) = d)) :
    Calls Tryd.prog 14 #[.slice A n c] w fun e w' => ∃ q, e = .returned (.pointer (some ⟨q, 0, none⟩)) ∧ Hid (Rdr w' q d 0) ∧ w.heap.size ≤ q ∧ Below w.heap.size w w' := by
  subst hn
  rw [← hd.out]
  exact new_any l A c w hw hr hcap hA hl
theorem plain_bad (l : List UInt8) (A : Option Addr) (n c : Nat) (w : World) (hn : n = l.length) (hr : Rd w A l) (hcap : n ≤ c) (hl : n ≤ 100000000) (hd : dat l < n) :
    Calls Tryd.prog 16 #[.slice A n c] w fun e w' => e = .returned (.tuple #[.slice none 0 0, .bool false]) ∧ Below w.heap.size w w' := by
  subst hn; exact plain_no l A c w hr hcap hl hd
theorem stuff_at (l r : List UInt8) (A : Option Addr) (n m c : Nat) (w : World) (hn : n = l.length) (hw : Env w) (hr : Rd w A l) (hcap : n ≤ c) (hA : A = none → c = 0) (hl : n ≤ 100000000) (hs : Hid (stf l = r)) (hm : m = r.length) :
    Calls Tryd.prog 19 #[.slice A n c] w fun e w' => ∃ B d, e = .returned (.slice B m d) ∧ Rd w' B r ∧ Below w.heap.size w w' := by
  subst hn hm
  rw [← hs.out]
  refine (stuff_any l A c w hw hr hcap hA hl).mono ?_
  rintro e w' ⟨v, rfl, ho, hb⟩
  obtain ⟨A, c, rfl, h1, _, h3, _, h5⟩ := ho.open'
  exact ⟨A, c, rfl, h3, hb⟩

theorem a1 : Hid (stf (pack (pad ([] ++ lo 5 3 ++ lo 0 0 ++ lo 1 2 ++ lo (-1) 16))) = [175, 255, 0, 255, 0]) := by show _ = _; decide +kernel
theorem a2 : Hid (ustF false ([175, 255, 0, 255, 217].take (dat [175, 255, 0, 255, 217])) = [175, 255]) := by show _ = _; decide +kernel
theorem a3 : Hid (val (((bitsOf [175, 255]).drop 0).take 4) = 10) := by show _ = _; decide +kernel
theorem a4 : Hid (val (((bitsOf [175, 255]).drop (0 + 4)).take 4) = 15) := by show _ = _; decide +kernel
theorem a5 : ((([] ++ lo 5 3 ++ lo 0 0 ++ lo 1 2 ++ lo (-1) 16).length : Nat) : Int) = 21 := by decide +kernel
theorem a6 : dat [255] < 1 := by decide +kernel
theorem a7 : Hid (stf [1, 255] = [1, 255, 0]) := by show _ = _; decide +kernel
/-- A Writer that shares nothing with block q. -/
def WtrQ (w : World) (base p : Nat) (l : List Int) (q : Nat) : Prop := ∃ g, Wtr w base p l g ∧ q ≠ p ∧ g ≠ some q
theorem WtrQ.new {w w1 : World} {o : Obj} {base p q : Nat} {l : List Int} (h : Hid (∃ g, Wtr w base p l g)) (hb : Below (w.alloc o).heap.size (w.alloc o) w1) (hq : (w.alloc o).heap.size ≤ q) : Hid (WtrQ w1 base p l q) := by
  obtain ⟨g, hg⟩ := h
  have := hg.lt
  simp at hq
  exact ⟨g, (hg.below ((Below.refl _ _).alloc (Nat.le_refl _) o)).below hb, by omega, fun e => by have := (hg.gt q e).2; omega⟩
theorem WtrQ.take {w w1 : World} {base p q : Nat} {l : List Int} (h : Hid (WtrQ w base p l q)) (hc : Chg (fun i => i = q) w w1) : Hid (WtrQ w1 base p l q) := by
  obtain ⟨g, hg, h1, h2⟩ := h
  exact ⟨g, hg.chg hc (fun e => h1 e.symm) (fun k hk e => h2 (by rw [hk]; exact congrArg some e)), h1, h2⟩
theorem WtrQ.on {w w1 : World} {base p q : Nat} {l : List Int} (h : Hid (WtrQ w base p l q)) (hb : Below w.heap.size w w1) : Hid (WtrQ w1 base p l q) := by
  obtain ⟨g, hg, h1, h2⟩ := h
  exact ⟨g, hg.below hb, h1, h2⟩
theorem WtrQ.w {w : World} {base p q : Nat} {l : List Int} (h : Hid (WtrQ w base p l q)) : Hid (∃ g, Wtr w base p l g) := by
  obtain ⟨g, hg, _⟩ := h
  exact ⟨g, hg⟩
theorem past {w w1 w2 : World} {B : Nat} {o : Obj} (h : Below B w w1) (hB : B ≤ w1.heap.size) (hb : Below (w1.alloc o).heap.size (w1.alloc o) w2) : Below B w w2 := (h.alloc hB o).trans (hb.mono (by simp; omega))
theorem pastRdr {w1 w2 : World} {q : Nat} {d : List UInt8} {k : Nat} {o : Obj} (h : Hid (Rdr w1 q d k)) (hb : Below (w1.alloc o).heap.size (w1.alloc o) w2) : Hid (Rdr w2 q d k) := ((h.out.below ((Below.refl _ _).alloc (Nat.le_refl _) o)).below hb : Rdr w2 q d k)
theorem Rdr.al {w : World} {q : Nat} {d : List UInt8} {k : Nat} (h : Hid (Rdr w q d k)) (o : Obj) : Hid (Rdr (w.alloc o) q d k) := (h.out.below ((Below.refl _ _).alloc (Nat.le_refl _) o) : Rdr (w.alloc o) q d k)
set_option maxRecDepth 100000 in
set_option maxHeartbeats 3200000 in
theorem awake_any (w : World) (hw : Env w) : Calls Tryd.prog 7 #[] w fun e w' => e = .returned (.bool true) ∧ Below w.heap.size w w' := by
  have q1 : Hid (#[Value.int .u8 175, .int .u8 255, .int .u8 0, .int .u8 255, .int .u8 217] = (([175, 255, 0, 255, 217] : List UInt8).map bv).toArray) := rfl
  have q2 : Hid (#[Value.int .u8 175, .int .u8 255, .int .u8 0, .int .u8 255, .int .u8 0] = (([175, 255, 0, 255, 0] : List UInt8).map bv).toArray) := rfl
  have q3 : Hid (#[Value.int .u8 1, .int .u8 255] = (([1, 255] : List UInt8).map bv).toArray) := rfl
  have q4 : Hid (#[Value.int .u8 1, .int .u8 255, .int .u8 0] = (([1, 255, 0] : List UInt8).map bv).toArray) := rfl
  have W0 : Hid (∃ g, Wtr (w.alloc (.cells #[.slice none 0 0, .int .u32 0, .int .i64 0] 27)) w.heap.size w.heap.size [] g) := ⟨none, Wtr.fresh w _⟩
  have b0 := Lib.hid ((Below.refl w.heap.size w).alloc (Nat.le_refl _) (.cells #[.slice none 0 0, .int .u32 0, .int .i64 0] 27))
  go_enter Tryd.func7, Tryd.ntmps7
  go_wp2_with fail
  (with_reducible refine (put_at w.heap.size w.heap.size [] 5 3 3 _ rfl W0 (by decide) (by decide) (by simp)).mono ?_); rintro e w1 ⟨rfl, W1, h1⟩
  have b1 := Lib.hid (b0.out.trans h1)
  have z1 := b1.out.size
  clear W0 b0 h1
  go_wp2_with fail
  (with_reducible refine (put_at w.heap.size w.heap.size _ 0 0 0 _ rfl W1 (by decide) (by decide) z1).mono ?_); rintro e w2 ⟨rfl, W2, h2⟩
  have b2 := Lib.hid (b1.out.trans h2)
  have z2 := b2.out.size
  clear W1 b1 h2 z1
  go_wp2_with fail
  (with_reducible refine (put_at w.heap.size w.heap.size _ 1 2 2 _ rfl W2 (by decide) (by decide) z2).mono ?_); rintro e w3 ⟨rfl, W3, h3⟩
  have b3 := Lib.hid (b2.out.trans h3)
  have z3 := b3.out.size
  clear W2 b2 h3 z2
  go_wp2_with fail
  (with_reducible refine (put_at w.heap.size w.heap.size _ (-1) 16 16 _ rfl W3 (by decide) (by decide) z3).mono ?_); rintro e w4 ⟨rfl, W4, h4⟩
  have b4 := Lib.hid (b3.out.trans h4)
  have z4 := b4.out.size
  clear W3 b3 h4 z3
  go_wp2_with fail
  (with_reducible refine (put_bad w.heap.size 1 17 _ (by decide)).mono ?_); rintro e w5 ⟨rfl, rfl⟩
  go_wp2_with fail
  (with_reducible refine (len_at w.heap.size w.heap.size _ 21 _ W4 a5).mono ?_); rintro e w5 ⟨rfl, rfl⟩
  go_wp2_with fail
  (with_reducible refine (new_at [175, 255, 0, 255, 217] [175, 255] _ 5 5 _ rfl ((hw.below (b4.out.mono (Nat.le_refl _))).alloc _) (Rd.lits _ _ _ _ q1.out) (by decide) (fun h => by cases h) (by decide) a2).mono ?_); rintro e w6 ⟨q, rfl, R6, hq6, h6⟩
  have W6 := WtrQ.new W4 h6 hq6
  have b6 := Lib.hid (past b4.out z4 h6)
  have z6 := b6.out.size
  have hq : w.heap.size ≤ q := by simp at hq6; omega
  clear W4 b4 h6 z4 hq6
  go_wp2_with fail
  (with_reducible refine (take_at q [175, 255] 0 4 4 10 _ rfl R6 (by decide) (by decide) (by decide) a3).mono ?_); rintro e w7 ⟨rfl, R7, h7⟩
  have W7 := WtrQ.take W6 h7
  have b7 := Lib.hid (b6.out.trans (h7.below z6 (by rintro i rfl; exact hq)))
  have z7 := b7.out.size
  clear W6 b6 h7 z6 R6
  go_wp2_with fail
  (with_reducible refine (take_at q [175, 255] (0 + 4) 4 4 15 _ rfl R7 (by decide) (by decide) (by decide) a4).mono ?_); rintro e w8 ⟨rfl, R8, h8⟩
  have W8 := WtrQ.take W7 h8
  have b8 := Lib.hid (b7.out.trans (h8.below z7 (by rintro i rfl; exact hq)))
  have z8 := b8.out.size
  clear W7 b7 h8 z7 R7
  go_wp2_with fail
  (with_reducible refine (few_at q [175, 255] (0 + 4 + 4) 16 16 _ rfl R8 (by decide) (by decide) (by decide) (by decide)).mono ?_); rintro e w9 ⟨rfl, R9, h9⟩
  have W9 := WtrQ.on W8 h9
  have b9 := Lib.hid (b8.out.trans (h9.mono z8))
  have z9 := b9.out.size
  clear W8 b8 h9 z8 R8
  go_wp2_with fail
  (with_reducible refine (plain_bad [255] _ 1 1 _ rfl (Rd.one _ _ 255 255 rfl) (by decide) (by decide) a6).mono ?_); rintro e wa ⟨rfl, ha⟩
  have Wa := WtrQ.on W9 (past (Below.refl _ _) (Nat.le_refl _) ha)
  have Ra := pastRdr R9 ha
  have ba := Lib.hid (past b9.out z9 ha)
  have za := ba.out.size
  clear W9 b9 ha z9 R9
  go_wp2_with fail
  (with_reducible refine (done_at w.heap.size w.heap.size _ [175, 255, 0, 255, 0] 5 _ (hw.below ba.out) (WtrQ.w Wa) (by decide) a1 rfl).mono ?_); rintro e wb ⟨A, c, rfl, rb, _, _, hb⟩
  have Rb := Lib.hid (Ra.out.below hb)
  have bb := Lib.hid (ba.out.trans (hb.mono za))
  have zb := bb.out.size
  clear Wa ba hb za Ra
  go_wp2_with fail
  (with_reducible refine (same_at [175, 255, 0, 255, 0] _ _ 5 _ _ _ rfl (rb.alloc _) (Rd.lits _ _ _ _ q2.out)).mono ?_); rintro e wc ⟨rfl, rfl⟩
  go_wp2_with fail
  (with_reducible refine (left_at q [175, 255] (0 + 4 + 4) 8 _ (Rdr.al Rb _) (by decide) (by decide) (by decide)).mono ?_); rintro e wc ⟨rfl, Rc, hc⟩
  have bc := Lib.hid (past bb.out zb hc)
  have zc := bc.out.size
  clear bb hc zb Rb rb Rc
  go_wp2_with fail
  (with_reducible refine (stuff_at [1, 255] [1, 255, 0] _ 2 3 2 _ rfl ((hw.below bc.out).alloc _) (Rd.lits _ _ _ _ q3.out) (by decide) (fun h => by cases h) (by decide) a7 rfl).mono ?_); rintro e wd ⟨B, d, rfl, rd, hd⟩
  have bd := Lib.hid (past bc.out zc hd)
  have zd := bd.out.size
  clear bc hd zc
  go_wp2_with fail
  (with_reducible refine (same_at [1, 255, 0] _ _ 3 _ _ _ rfl (rd.alloc _) (Rd.lits _ _ _ _ q4.out)).mono ?_); rintro e we ⟨rfl, rfl⟩
  go_wp2
  go_ret
  exact ⟨rfl, bd.out.alloc zd _⟩
end Go.Proofs.YthidhgobocihpaaDoor
