/- Contract of prefix.merged. -/
import Derived.Test.YtanihbflgolciaaFMrg
import Derived.Test.YtanihbflgolciaaMkI
namespace Go.Proofs.Ytanihbflgolciaa
open Go.RowKit Go.Lib Go.Sort
set_option linter.unusedVariables false
set_option maxRecDepth 100000

theorem lvI_jn (a b : Tr) : lvI (jn a b) = lvI a ++ lvI b := by simp [lvI, jn, List.map_map, Function.comp_def]
/-- Depths, one more at each of the leaves. -/
def incL (d : List Int) (ls : List Nat) : List Int := ls.foldl (fun d i => d.set i (d.getD i 0 + 1)) d
theorem incL_snoc (d : List Int) (ls : List Nat) (i : Nat) : incL d (ls ++ [i]) = (incL d ls).set i ((incL d ls).getD i 0 + 1) := by simp [incL, List.foldl_append]
theorem incL_len : ∀ (ls : List Nat) (d : List Int), (incL d ls).length = d.length
  | [], _ => rfl
  | i :: ls, d => by
    have := incL_len ls (d.set i (d.getD i 0 + 1))
    rw [List.length_set] at this
    exact this
theorem getD_set (d : List Int) (i j : Nat) (x : Int) : (d.set i x).getD j 0 = if i = j ∧ i < d.length then x else d.getD j 0 := by
  rw [List.getD_eq_getElem?_getD, List.getD_eq_getElem?_getD, List.getElem?_set]
  by_cases h : i = j
  · subst h
    by_cases h2 : i < d.length
    · simp [h2]
    · simp [h2]
  · simp [h]
theorem incL_at : ∀ (ls : List Nat) (d : List Int) (j : Nat), (∀ i ∈ ls, i < d.length) → (incL d ls).getD j 0 = d.getD j 0 + (ls.count j : Int)
  | [], d, j, _ => by simp [incL]
  | i :: ls, d, j, h => by
    have hi := h i (List.mem_cons_self ..)
    have := incL_at ls (d.set i (d.getD i 0 + 1)) j (fun k hk => by rw [List.length_set]; exact h k (List.mem_cons_of_mem _ hk))
    show (incL (d.set i (d.getD i 0 + 1)) ls).getD j 0 = _
    rw [this, getD_set, List.count_cons]
    by_cases e : i = j
    · subst e
      simp [hi]
      omega
    · have e2 : (i == j) = false := by simp [e]
      simp [e, e2]
theorem nodup_count : ∀ (l : List Nat) (a : Nat), l.Nodup → l.count a ≤ 1
  | [], _, _ => by simp
  | b :: l, a, h => by
    rw [List.nodup_cons] at h
    have ih := nodup_count l a h.2
    rw [List.count_cons]
    by_cases e : b = a
    · subst e
      have := List.count_eq_zero.2 h.1
      simp [this]
    · have e2 : (b == a) = false := by simp [e]
      simp [e2]
      exact ih
theorem zip_fst {α β : Type} : ∀ (l : List α) (t : List β), l.length = t.length → (l.zip t).map Prod.fst = l
  | [], _, _ => by simp
  | a :: l, b :: t, h => by simp [zip_fst l t (by simpa using h)]
theorem zip_snd {α β : Type} : ∀ (l : List α) (t : List β), l.length = t.length → (l.zip t).map Prod.snd = t
  | [], [], _ => rfl
  | [], _ :: _, h => by simp at h
  | _ :: _, [], h => by simp at h
  | a :: l, b :: t, h => by simp [zip_snd l t (by simpa using h)]
/-- What merged is handed. -/
structure Lvs (w : World) (L : List (Int × Value)) (ts : List Tr) (n : Nat) : Prop where
  len : L.length = n
  lts : ts.length = n
  pos : 1 ≤ n
  wt : ∀ t ∈ L.zip ts, t.1.1 = (t.2.f : Int) ∧ ∃ A k c, t.1.2 = Value.slice A k c ∧ k = (lvI t.2).length ∧ Ri w A (lvI t.2) ∧ ∀ b o s, A = some ⟨b, o, s⟩ → b < w.heap.size
  sum : (ts.map Tr.f).sum ≤ 1152921504606846976
  lv : (ts.flatMap (fun t => t.lf.map Prod.fst)).Perm (List.range n)
  dep : ∀ t ∈ ts, ∀ q ∈ t.lf, q.2 = 0
theorem Lvs.inv {w : World} {L : List (Int × Value)} {ts : List Tr} {n : Nat} (h : Lvs w L ts n) {D : Array (Int × Value)} (hD : D.toList.Perm L) : Inv ts n (ts.map Tr.f).sum D (L.zip ts) (List.replicate n 0) := by
  have hl : L.length = ts.length := by rw [h.len, h.lts]
  have e2 := zip_snd L ts hl
  refine ⟨?_, fun t ht => (h.wt t ht).1, ?_, fun r hr => ?_, ?_, fun t ht q hq => ?_, by simp⟩
  · rw [zip_fst L ts hl]; exact hD.symm
  · have : wsum (L.zip ts) = (((L.zip ts).map Prod.snd).map Tr.f).sum := by simp [wsum, List.map_map, Function.comp_def]
    rw [this, e2]
  · rw [e2] at hr; exact hr
  · have : ((L.zip ts).flatMap (fun t => t.2.lf)).map Prod.fst = ((L.zip ts).map Prod.snd).flatMap (fun t => t.lf.map Prod.fst) := by
      simp [List.map_flatMap, List.flatMap_map]
    rw [this, e2]
    exact h.lv
  · have ht2 : t.2 ∈ ts := by rw [← e2]; exact List.mem_map_of_mem ht
    rw [h.dep t.2 ht2 q hq, List.getD_eq_getElem?_getD, List.getElem?_replicate]
    split <;> rfl

/-- The two are joined, and put in again: what stands in memory then. -/
theorem Ks.pushed {w0 w w9 : World} {p g c gd g' c' : Nat} {T T2 : List ((Int × Value) × Tr)} {dp dq : List Int} {D D3 : Array (Int × Value)} (h : Ks w0 p g c gd T dp D w) (hs : Chg (fun k => k = p ∨ k = g ∨ k = gd) w w9) (hF : Fo w9 p g' c' D3) (hg' : g' = g ∨ w.heap.size ≤ g') (hb : BI w9 gd dq)
    {x : Int} {A : Option Addr} {k cc : Nat} {l : List Int} (hR : Ri w9 A l) (hk : k = l.length) (hA : ∀ b o s, A = some ⟨b, o, s⟩ → w.heap.size ≤ b ∧ b < w9.heap.size ∧ b ≠ g') (t : Tr) (hl : lvI t = l) (hT2 : ∀ u ∈ T2, u ∈ T) : Ks w0 p g' c' gd (((x, .slice A k cc), t) :: T2) dq D3 w9 := by
  have hp := World.block_lt_of_cell? _ _ h.fo.var
  have hgd := h.db.blk.lt
  have hw := h.be.size
  have hog := h.og
  simp only at hp
  refine ⟨hF, fun u hu => ?_, hb, chg_below h.be hs (fun i e => by rcases e with e | e | e; rw [e]; exact h.op; rw [e]; exact h.og; rw [e]; exact h.od) h.be.size, h.op, ?_, h.od, h.n1, ?_⟩
  · rcases List.mem_cons.1 hu with rfl | hu
    · refine ⟨A, k, cc, rfl, by rw [hl]; exact hk, by rw [hl]; exact hR, fun b o s e => ?_⟩
      obtain ⟨n1, n2, n3⟩ := hA b o s e
      exact ⟨by omega, n3, by omega, n2⟩
    · obtain ⟨A1, k1, c1, e1, e2, e3, e4⟩ := h.lk u (hT2 u hu)
      refine ⟨A1, k1, c1, e1, e2, e3.chg hs (fun b o s e hS => ?_), fun b o s e => ?_⟩
      · obtain ⟨n1, n2, n3, _⟩ := e4 b o s e
        rcases hS with e | e | e
        · exact n1 e
        · exact n2 e
        · exact n3 e
      · obtain ⟨n1, n2, n3, n4⟩ := e4 b o s e
        refine ⟨n1, ?_, n3, Nat.lt_of_lt_of_le n4 hs.size⟩
        rcases hg' with e | e
        · rw [e]; exact n2
        · omega
  · rcases hg' with e | e
    · rw [e]; exact h.og
    · omega
  · rcases hg' with e | e
    · rw [e]; exact h.n2
    · omega
theorem incL_in (dp : List Int) (ls : List Nat) (h : ls.Nodup) (hi : ∀ i ∈ ls, i < dp.length) (i : Nat) : (incL dp ls).getD i 0 = dp.getD i 0 + (if i ∈ ls then 1 else 0) := by
  rw [incL_at _ _ _ hi]
  by_cases e : i ∈ ls
  · have h1 := nodup_count ls i h
    have h2 := List.count_pos_iff.2 e
    rw [if_pos e]
    omega
  · rw [if_neg e, List.count_eq_zero.2 e]
    rfl
/-- What the two that are popped leave in memory. -/
structure Bv (w : World) (b : Nat) (x : Int) (v : Value) : Prop where
  c0 : w.cell? ⟨b, 0, none⟩ = some (.int .i64 x)
  c1 : w.cell? ⟨b, 1, none⟩ = some v
theorem Bv.chg {w w' : World} {b : Nat} {x : Int} {v : Value} (h : Bv w b x v) {S : Nat → Prop} (hc : Chg S w w') (hb : ¬ S b) : Bv w' b x v := ⟨hc.cellv h.c0 hb, hc.cellv h.c1 hb⟩
def put2 (w : World) (b : Nat) (x : Int) (v : Value) : World := (w.setCell ⟨b, 0, none⟩ (.int .i64 x)).setCell ⟨b, 1, none⟩ v
theorem Zc.put {w : World} {b : Nat} (h : Zc w b) (x : Int) (v : Value) : Bv (put2 w b x v) b x v := by
  have e0 := h.c0
  have e1 := h.c1
  have f0 := h.f0
  have f1 := h.f1
  unfold put2
  exact ⟨by go_cell, by go_cell⟩
theorem Chg.put2 {S : Nat → Prop} {a w : World} (h : Chg S a w) {b : Nat} (hb : S b ∨ a.heap.size ≤ b) (x : Int) (v : Value) : Chg S a (put2 w b x v) := (h.setCell (p := ⟨b, 0, none⟩) hb _).setCell (p := ⟨b, 1, none⟩) hb _
theorem Bv.new (w : World) (x : Int) (v : Value) : Bv (w.alloc (.cells #[.int .i64 x, v] 68)) w.heap.size x v := ⟨by go_cell, by go_cell⟩
theorem Bv.new1 (w : World) (x y : Int) (u v : Value) : Bv ((w.alloc (.cells #[.int .i64 y, u] 68)).alloc (.cells #[.int .i64 x, v] 68)) (w.heap.size + 1) x v := ⟨by go_cell, by go_cell⟩
theorem Bv.alloc {w : World} {b : Nat} {x : Int} {v : Value} (h : Bv w b x v) (o : Obj) : Bv (w.alloc o) b x v := h.chg ((Chg.refl (fun _ => False) w).alloc o) (fun e => e)
theorem Bv.put {w : World} {b b' : Nat} {x y : Int} {u v : Value} (h : Bv w b x v) (hne : b ≠ b') : Bv (put2 w b' y u) b x v := h.chg (Chg.put2 (Chg.refl (fun k => k = b') w) (.inl rfl) y u) hne
section
variable {w0 wo w4 : World} {p g c gd : Nat} {T : List ((Int × Value) × Tr)} {dp : List Int} {D D2 : Array (Int × Value)} {x1 y1 : Int} {Ax Ay : Option Addr} {kx ky cx cy : Nat}
/-- The end of the cut. -/
abbrev Cend (w0 wo : World) (p g c gd : Nat) (T : List ((Int × Value) × Tr)) (dp : List Int) (D2 : Array (Int × Value)) (x1 y1 : Int) (Ax Ay : Option Addr) (kx ky cx cy b5 b6 : Nat) (wx : World) : Prop :=
  Hid (wx.cell? ⟨b5, 0, none⟩ = some (.int .i64 x1)) ∧ Hid (wx.cell? ⟨b5, 1, none⟩ = some (.slice Ax kx cx)) ∧ Hid (wx.cell? ⟨b6, 0, none⟩ = some (.int .i64 y1)) ∧ Hid (wx.cell? ⟨b6, 1, none⟩ = some (.slice Ay ky cy)) ∧ Hid (Ks w0 p g c gd T dp D2 wx) ∧ Hid (Chg (fun k => k = p ∨ k = g) wo wx)
theorem cend (HK : Ks w0 p g c gd T dp D wo) (HK2 : Ks w0 p g c gd T dp D2 w4) (HC2 : Chg (fun k => k = p ∨ k = g) wo w4) {w' : World} {b5 b6 : Nat} (h5 : Bv w' b5 x1 (.slice Ax kx cx)) (h6 : Bv w' b6 y1 (.slice Ay ky cy))
    (hN : Chg (fun k => wo.heap.size ≤ k) w4 w') : Cend w0 wo p g c gd T dp D2 x1 y1 Ax Ay kx ky cx cy b5 b6 w' := by
  have hC : Chg (fun k => k = p ∨ k = g) wo w' := ⟨hN.os.trans HC2.os, hN.tape.trans HC2.tape, hN.output.trans HC2.output, Nat.le_trans HC2.size hN.size, fun k hk hn => (hN.block k (Nat.lt_of_lt_of_le hk HC2.size) (by omega)).trans (HC2.block k hk hn)⟩
  exact ⟨h5.c0, h5.c1, h6.c0, h6.c1, Ks.by HK HK2.fo rfl hN hC, hC⟩
variable (HK : Ks w0 p g c gd T dp D wo) (HK2 : Ks w0 p g c gd T dp D2 w4) (HC2 : Chg (fun k => k = p ∨ k = g) wo w4)
include HK HK2 HC2
theorem cendA {b5 b6 : Nat} (h5 : Zc w4 b5) (h6 : Zc w4 b6) (l5 : wo.heap.size ≤ b5) (l6 : wo.heap.size ≤ b6) (hne : b5 ≠ b6) :
    Cend w0 wo p g c gd T dp D2 x1 y1 Ax Ay kx ky cx cy b5 b6 ((((w4.setCell ⟨b5, 0, none⟩ (.int .i64 x1)).setCell ⟨b5, 1, none⟩ (.slice Ax kx cx)).setCell ⟨b6, 0, none⟩ (.int .i64 y1)).setCell ⟨b6, 1, none⟩ (.slice Ay ky cy)) :=
  cend (w' := put2 (put2 w4 b5 x1 (.slice Ax kx cx)) b6 y1 (.slice Ay ky cy)) HK HK2 HC2 ((h5.put _ _).put hne) ((h6.chg (Chg.put2 (Chg.refl (fun k => k = b5) w4) (.inl rfl) _ _) (Ne.symm hne)).put _ _) (Chg.put2 (Chg.put2 (Chg.refl _ _) (.inl l5) _ _) (.inl l6) _ _)
theorem cendB {b5 : Nat} (h5 : Zc w4 b5) (l5 : wo.heap.size ≤ b5) :
    Cend w0 wo p g c gd T dp D2 x1 y1 Ax Ay kx ky cx cy b5 w4.heap.size (((((w4.alloc (.cells #[.int .i64 0, .slice none 0 0] 68)).setCell ⟨b5, 0, none⟩ (.int .i64 x1)).setCell ⟨b5, 1, none⟩ (.slice Ax kx cx)).setCell ⟨w4.heap.size, 0, none⟩ (.int .i64 y1)).setCell ⟨w4.heap.size, 1, none⟩ (.slice Ay ky cy)) :=
  cend (w' := put2 (put2 (w4.alloc (.cells #[.int .i64 0, .slice none 0 0] 68)) b5 x1 (.slice Ax kx cx)) w4.heap.size y1 (.slice Ay ky cy)) HK HK2 HC2 (((h5.alloc _).put _ _).put (Nat.ne_of_lt h5.lt)) (((Zc.new w4).chg (Chg.put2 (Chg.refl (fun k => k = b5) _) (.inl rfl) _ _) (Nat.ne_of_gt h5.lt)).put _ _)
    (Chg.put2 (Chg.put2 ((Chg.refl _ _).alloc _) (.inl l5) _ _) (.inr (Nat.le_refl _)) _ _)
theorem cendC {b6 : Nat} (h6 : Zc w4 b6) (l6 : wo.heap.size ≤ b6) :
    Cend w0 wo p g c gd T dp D2 x1 y1 Ax Ay kx ky cx cy w4.heap.size b6 (((w4.alloc (.cells #[.int .i64 x1, .slice Ax kx cx] 68)).setCell ⟨b6, 0, none⟩ (.int .i64 y1)).setCell ⟨b6, 1, none⟩ (.slice Ay ky cy)) :=
  cend (w' := put2 (w4.alloc (.cells #[.int .i64 x1, .slice Ax kx cx] 68)) b6 y1 (.slice Ay ky cy)) HK HK2 HC2 ((Bv.new w4 _ _).put (Nat.ne_of_gt h6.lt)) ((h6.alloc _).put _ _) (Chg.put2 ((Chg.refl _ _).alloc _) (.inl l6) _ _)
theorem cendD : Cend w0 wo p g c gd T dp D2 x1 y1 Ax Ay kx ky cx cy w4.heap.size (w4.heap.size + 1) ((w4.alloc (.cells #[.int .i64 x1, .slice Ax kx cx] 68)).alloc (.cells #[.int .i64 y1, .slice Ay ky cy] 68)) :=
  cend HK HK2 HC2 ((Bv.new w4 _ _).alloc _) (Bv.new1 w4 _ _ _ _) (((Chg.refl _ _).alloc _).alloc _)
theorem cendE : Cend w0 wo p g c gd T dp D2 x1 y1 Ax Ay kx ky cx cy (w4.heap.size + 1) w4.heap.size ((w4.alloc (.cells #[.int .i64 y1, .slice Ay ky cy] 68)).alloc (.cells #[.int .i64 x1, .slice Ax kx cx] 68)) :=
  cend HK HK2 HC2 (Bv.new1 w4 _ _ _ _) ((Bv.new w4 _ _).alloc _) (((Chg.refl _ _).alloc _).alloc _)
end
theorem HI7 {w w' : World} {p g gd : Nat} {dp : List Int} (h : BI w gd dp) (hc : Chg (fun k => k = p ∨ k = g) w w') (n1 : p ≠ gd) (n2 : g ≠ gd) : BI w' gd dp := h.chg hc (fun e => by rcases e with e | e; exact n1 e.symm; exact n2 e.symm)
set_option maxHeartbeats 8000000 in
theorem fMerged_any (L : List (Int × Value)) (ts : List Tr) (g0 n c0 : Nat) (w : World) (hr : RdV w (some ⟨g0, 0, none⟩) (gv L)) (hL : Lvs w L ts n) (hn : n ≤ 1000) :
    Calls Try.prog 31 #[.slice (some ⟨g0, 0, none⟩) n c0] w fun e w' => ∃ v dp r, e = .returned v ∧ Oi w' w.heap.size v dp ∧ dp.length = n ∧ HT ts r ∧ (r.lf.map Prod.fst).Perm (List.range n) ∧ (∀ q ∈ r.lf, dp.getD q.1 0 = (q.2 : Int)) ∧ Below w.heap.size w w' := by
  have HL := Lib.hid hL
  have hlen := hL.len
  have hls := hL.lts
  have hpos := hL.pos
  have hsl : ∀ p ∈ L, ∃ A k c, p.2 = Value.slice A k c := by
    intro p hp
    have : p ∈ (L.zip ts).map Prod.fst := by rw [zip_fst L ts (by omega)]; exact hp
    obtain ⟨t, ht, rfl⟩ := List.mem_map.1 this
    obtain ⟨_, A, k, c, e, _⟩ := hL.wt t ht
    exact ⟨A, k, c, e⟩
  have HSL := Lib.hid hsl
  have CC := Lib.hid (fClone_any L g0 n c0 w hr hlen.symm (by intro e; rw [e] at hlen; simp at hlen; omega) hsl (by omega))
  obtain ⟨D0, hD0⟩ : ∃ D0 : Array (Int × Value), D0 = L.toArray := ⟨_, rfl⟩
  have hD0s : D0.size = n := by rw [hD0]; simpa using hlen
  have HD0 := Lib.hid hD0
  have HD0s := Lib.hid hD0s
  clear hr hL hsl hD0 hD0s hlen hls
  go_enter Try.func31, Try.ntmps31
  -- what stands behind the first statement
  have P1 : Hid (∀ w1 g1 c1, w.heap.size ≤ g1 → Gr w1 g1 c1 L → Below w.heap.size w w1 → Fo (w1.alloc (.cells #[.slice (some ⟨g1, 0, none⟩) n c1] 72)) w1.heap.size g1 c1 D0 ∧ Below w.heap.size w (w1.alloc (.cells #[.slice (some ⟨g1, 0, none⟩) n c1] 72))) := by
    show ∀ w1 g1 c1, _
    intro w1 g1 c1 h1 hG hB
    refine ⟨⟨?_, ?_, ?_, ?_⟩, hB.alloc hB.size _⟩
    · rw [HD0s.out]; go_cell
    · go_cell
    · rw [HD0.out]
      exact hG.chg (S := fun _ => False) ((Chg.refl _ _).alloc _) (fun e => e)
    · exact Nat.ne_of_gt hG.lt
  go_wp2_with (first
    | ((with_reducible refine CC.out.mono ?_)
       rintro e w1 ⟨g1, c1, rfl, hg, hG, hB⟩
       have HB1 := Lib.hid hB
       obtain ⟨hF2, hB2⟩ := P1.out w1 g1 c1 hg hG hB
       have hg1 : g1 < w1.heap.size := hG.lt
       have HF2 := Lib.hid hF2
       have HB2 := Lib.hid hB2
       clear hG hB hF2 hB2)
    | ((with_reducible refine (fInit_any w1.heap.size g1 c1 D0 _ HF2.out (by have := HF2.out.gr.cap; unfold maxLen at this; omega) (by rw [HD0s.out]; omega)).mono ?_)
       rintro e w3 ⟨rfl, hF, hC, hS⟩
       have HF3 := Lib.hid hF
       have HC3 := Lib.hid hC
       have HB3 := Lib.hid (chg_below HB2.out hC (fun i e => by rw [e]; exact hg) HB2.out.size)
       have hs3 : w1.heap.size < w3.heap.size := by rw [hS]; simp
       clear hF hC hS)
    | ((with_reducible refine wpList_makeI _ rfl (.tmp 15) (.tmp 15) rfl n (n : Int) (n : Int) rfl rfl rfl rfl (by omega) ?_)
       intro w4 hb hg4
       have HDB := Lib.hid hb
       have hz4 := hg4.size
       have HK4 : Hid (Ks w w1.heap.size g1 c1 w3.heap.size (L.zip ts) (List.replicate n 0) (heapBuild (gt' ltw) D0.size 0 (D0.size / 2) D0) w4) := by
         have hC4 : Chg (fun _ => False) w3 w4 := ⟨hg4.os, hg4.tape, hg4.output, hg4.size, fun k hk _ => hg4.block k hk (by simp)⟩
         have hB4 := chg_below HB3.out hC4 (fun i e => e.elim) HB3.out.size
         have hb1 := HB1.out.size
         have hb4 := hB4.size
         refine ⟨HF3.out.off hC4 (fun e => e) (fun e => e), fun t ht => ?_, hb, hB4, hb1, hg, by omega, by omega, by omega⟩
         obtain ⟨_, A, k, c, e1, e2, e3, e4⟩ := HL.out.wt t ht
         exact ⟨A, k, c, e1, e2, e3.below hB4, fun b o s e => by have h4 := e4 b o s e; exact ⟨by omega, by omega, by omega, by omega⟩⟩
       clear hb hg4))
  have hp1 := HK4.out.op
  have hg1' := HK4.out.og
  obtain ⟨p, hp⟩ : ∃ p, p = w1.heap.size := ⟨_, rfl⟩
  obtain ⟨gd, hgd⟩ : ∃ gd, gd = w3.heap.size := ⟨_, rfl⟩
  rw [← hp, ← hgd] at HK4 ⊢
  obtain ⟨hhp, hpm⟩ := heap_init ltw_swo (Nat.le_refl D0.size)
  have hDs : (heapBuild (gt' ltw) D0.size 0 (D0.size / 2) D0).size = n := by rw [hpm.1, HD0s.out]
  have HH0 : Hid (Heap ltw (heapBuild (gt' ltw) D0.size 0 (D0.size / 2) D0).size (heapBuild (gt' ltw) D0.size 0 (D0.size / 2) D0)) := by
    show Heap _ _ _
    rw [hpm.1]
    exact hhp
  have HI0 : Hid (Inv ts n (ts.map Tr.f).sum (heapBuild (gt' ltw) D0.size 0 (D0.size / 2) D0) (L.zip ts) (List.replicate n 0)) := by
    refine HL.out.inv ?_
    have e := hpm.2.2
    have a1 : ∀ x : Array (Int × Value), x.size = D0.size → (x.extract 0 D0.size).toList = x.toList := by
      intro x hx
      rw [← hx, Array.extract_size]
    rw [a1 _ hpm.1, a1 _ rfl] at e
    have a2 : D0.toList = L := by rw [HD0.out]
    rw [a2] at e
    exact e
  clear hhp hpm
  clear P1 CC HF2 HB2 HF3 HC3 HB3 HB1 HDB hs3 hz4 hp hgd
  generalize heapBuild (gt' ltw) D0.size 0 (D0.size / 2) D0 = D1 at *
  go_loopg [9] n (fun gm _ wr => ∃ (m g c : Nat) (D : Array (Int × Value)) (T : List ((Int × Value) × Tr)) (dp : List Int), m + 1 ≤ gm ∧ D.size = m + 1 ∧ m + 1 ≤ n ∧ Hid (Ks w p g c gd T dp D wr) ∧ Hid (Heap ltw D.size D) ∧ Hid (Inv ts n (ts.map Tr.f).sum D T dp) ∧ Hid (∀ i, 0 ≤ dp.getD i 0 ∧ dp.getD i 0 + (m : Int) + 1 ≤ n))
  case atStart => exact ⟨n - 1, g1, c1, D1, _, _, by omega, by omega, by omega, HK4, HH0, HI0, (show Hid _ from fun i => by rw [List.getD_eq_getElem?_getD, List.getElem?_replicate]; split <;> simp <;> omega)⟩
  case round =>
    clear HK4 HH0 HI0 hDs
    rename World => wo
    obtain ⟨m, g, c, D, T, dp, hm, hDm, hmn, HK, HH, HI, HDP⟩ := hrel
    have ev := HK.out.fo.var
    rw [hDm] at ev
    by_cases h0 : m = 0
    · subst h0
      have hL1 : decide (((0 + 1 : Nat) : Int) > 1) = false := by decide
      go_wp2_with (first
        | ((with_reducible refine (fLenM_any (some ⟨g, 0, none⟩) (0 + 1) c wo).mono ?_)
           rintro e w5 ⟨rfl, rfl⟩))
      go_ret
      obtain ⟨r, h1, h2, h3⟩ := HI.out.last hDm
      exact ⟨_, dp, r, rfl, HK.out.db.oi HI.out.len.symm HK.out.od (by omega), HI.out.len, h1, h2, h3, HK.out.be⟩
    · obtain ⟨k, rfl⟩ : ∃ k, m = k + 1 := ⟨m - 1, by omega⟩
      have hL1 : decide (((k + 1 + 1 : Nat) : Int) > 1) = true := decide_eq_true (by omega)
      -- the two that come out
      rw [hDm] at HH
      obtain ⟨hh1, hs1, hp1', hx1⟩ := heap_out hDm HH.out
      obtain ⟨D1, hD1⟩ : ∃ D1, D1 = (popped ltw (k + 1) D).pop := ⟨_, rfl⟩
      obtain ⟨x, hx⟩ : ∃ x, x = (popped ltw (k + 1) D)[k + 1]! := ⟨_, rfl⟩
      rw [← hD1] at hh1 hs1 hp1' hx1
      rw [← hx] at hp1' hx1
      obtain ⟨hh2, hs2, hp2', hy2⟩ := heap_out hs1 hh1
      obtain ⟨D2, hD2⟩ : ∃ D2, D2 = (popped ltw k D1).pop := ⟨_, rfl⟩
      obtain ⟨y, hy⟩ : ∃ y, y = (popped ltw k D1)[k]! := ⟨_, rfl⟩
      rw [← hD2] at hh2 hs2 hp2' hy2
      rw [← hy] at hp2' hy2
      have hpp : D.toList.Perm (x :: y :: D2.toList) := hp1'.trans (hp2'.cons _)
      obtain ⟨tx, ty, T2, hT, hT2⟩ := HI.out.two hpp
      obtain ⟨Ax, kx, cx, ex, lx, rx, bx⟩ := HK.out.lk (x, tx) (hT.symm.subset (by simp))
      obtain ⟨Ay, ky, cy, ey, ly, ry, bY⟩ := HK.out.lk (y, ty) (hT.symm.subset (by simp))
      simp only at ex ey
      have hx0 := HI.out.wt (x, tx) (hT.symm.subset (by simp))
      have hy0 := HI.out.wt (y, ty) (hT.symm.subset (by simp))
      simp only at hx0 hy0
      have cp1 : Hid (∀ W, Ks w p g c gd T dp D W → Calls Try.prog 39 #[.iface 75 (.pointer (some ⟨p, 0, none⟩))] W fun e w' => e = .returned (gval x) ∧ Ks w p g c gd T dp D1 w' ∧ Chg (fun k => k = p ∨ k = g) W w') :=
        fun W h => by rw [hx, hD1]; exact h.pop hDm (by omega)
      have cp2 : Hid (∀ W, Ks w p g c gd T dp D1 W → Calls Try.prog 39 #[.iface 75 (.pointer (some ⟨p, 0, none⟩))] W fun e w' => e = .returned (gval y) ∧ Ks w p g c gd T dp D2 w' ∧ Chg (fun k => k = p ∨ k = g) W w') :=
        fun W h => by rw [hy, hD2]; exact h.pop hs1 (by omega)
      have HPP := Lib.hid hpp
      have HX1 := Lib.hid hx1
      have HY2 := Lib.hid hy2
      have HP2 := Lib.hid hp2'
      have HH2 := Lib.hid hh2
      have HT := Lib.hid hT
      have HT2 := Lib.hid hT2
      have HX0 := Lib.hid hx0
      have HY0 := Lib.hid hy0
      have HLX := Lib.hid lx
      have HLY := Lib.hid ly
      have HRX := Lib.hid rx
      have HRY := Lib.hid ry
      have HBX := Lib.hid bx
      have HBY := Lib.hid bY
      clear hh1 hp1' hx1 hh2 hp2' hy2 hx hy hD1 hD2 hpp hT hT2 hx0 hy0 lx ly rx ry bx bY
      obtain ⟨x1, x2⟩ := x
      obtain ⟨y1, y2⟩ := y
      simp only at ex ey
      subst ex ey
      have hpw := World.block_lt_of_cell? _ _ ev
      have hgw := HK.out.fo.gr.lt
      simp only at hpw
      have hta1 := fun w => assert_group (x1, .slice Ax kx cx) w
      have hta2 := fun w => assert_group (y1, .slice Ay ky cy) w
      unfold gval at hta1 hta2 cp1 cp2
      simp only at hta1 hta2 cp1 cp2
      go_upto_region 5 with (first
        | ((with_reducible refine (fLenM_any (some ⟨g, 0, none⟩) (k + 1 + 1) c wo).mono ?_)
           rintro e w5 ⟨rfl, rfl⟩))
      go_cut [5, 6] (fun s5 s6 wx => ∃ b5 b6, s5 = .pointer (some ⟨b5, 0, none⟩) ∧ s6 = .pointer (some ⟨b6, 0, none⟩) ∧ Hid (wx.cell? ⟨b5, 0, none⟩ = some (.int .i64 x1)) ∧ Hid (wx.cell? ⟨b5, 1, none⟩ = some (.slice Ax kx cx)) ∧ Hid (wx.cell? ⟨b6, 0, none⟩ = some (.int .i64 y1)) ∧ Hid (wx.cell? ⟨b6, 1, none⟩ = some (.slice Ay ky cy)) ∧ Hid (Ks w p g c gd T dp D2 wx) ∧ Hid (Chg (fun k => k = p ∨ k = g) wo wx))
      case first =>
        go_region_held3 (fun _ => True) (trivial)
          (first
            | ((with_reducible refine (cp1.out _ (HK.out.off (by (first | exact (Chg.refl _ _).drew | exact ((Chg.refl _ _).alloc _).drew | exact (((Chg.refl _ _).alloc _).alloc _).drew | exact Chg.refl _ _ | exact (Chg.refl _ _).alloc _ | exact ((Chg.refl _ _).alloc _).alloc _)))).mono ?_); rintro e w2 ⟨rfl, hK, hC⟩; have HK1 := Lib.hid hK; have HC1 : Hid (Chg (fun k => k = p ∨ k = g) wo w2) := Chg.then (by (first | exact (Chg.refl _ _).drew | exact ((Chg.refl _ _).alloc _).drew | exact (((Chg.refl _ _).alloc _).alloc _).drew | exact Chg.refl _ _ | exact (Chg.refl _ _).alloc _ | exact ((Chg.refl _ _).alloc _).alloc _)) hC; have hz2 : wo.heap.size ≤ w2.heap.size := HC1.out.size; (try have zA : Hid (Zc w2 wo.heap.size) := Zc.chg (by first | exact (Zc.new _).drew | exact ((Zc.new _).alloc _).drew) hC (by omega)); (try have zB : Hid (Zc w2 (wo.heap.size + 1)) := Zc.chg (by exact (Zc.new1 _).drew) hC (by omega)); clear hK hC)
            | ((with_reducible refine (cp2.out _ (HK1.out.off (by (first | exact (Chg.refl _ _).drew | exact ((Chg.refl _ _).alloc _).drew | exact (((Chg.refl _ _).alloc _).alloc _).drew | exact Chg.refl _ _ | exact (Chg.refl _ _).alloc _ | exact ((Chg.refl _ _).alloc _).alloc _)))).mono ?_); rintro e w4 ⟨rfl, hK, hC⟩; have HK2 := Lib.hid hK; have HC2 : Hid (Chg (fun k => k = p ∨ k = g) wo w4) := Chg.then HC1.out (Chg.then (by (first | exact (Chg.refl _ _).drew | exact ((Chg.refl _ _).alloc _).drew | exact (((Chg.refl _ _).alloc _).alloc _).drew | exact Chg.refl _ _ | exact (Chg.refl _ _).alloc _ | exact ((Chg.refl _ _).alloc _).alloc _)) hC); have hz4 : w2.heap.size ≤ w4.heap.size := (Chg.then (S := fun k => k = p ∨ k = g) (by (first | exact (Chg.refl _ _).drew | exact ((Chg.refl _ _).alloc _).drew | exact (((Chg.refl _ _).alloc _).alloc _).drew | exact Chg.refl _ _ | exact (Chg.refl _ _).alloc _ | exact ((Chg.refl _ _).alloc _).alloc _)) hC).size; (try have yA : Hid (Zc w4 wo.heap.size) := Zc.chg (by first | exact zA.out | exact zA.out.alloc _ | exact (zA.out.alloc _).alloc _) hC (by omega)); (try have yB : Hid (Zc w4 (wo.heap.size + 1)) := Zc.chg (by first | exact zB.out) hC (by omega)); (try have yC : Hid (Zc w4 w2.heap.size) := Zc.chg (by first | exact Zc.new _ | exact (Zc.new _).alloc _) hC (by omega)); (try have yD : Hid (Zc w4 (w2.heap.size + 1)) := Zc.chg (by exact Zc.new1 _) hC (by omega)); (try have qA0 := yA.out.c0); (try have rA0 := (yA.out.alloc (.cells #[.int .i64 0, .slice none 0 0] 68)).c0); (try have qA1 := yA.out.c1); (try have rA1 := (yA.out.alloc (.cells #[.int .i64 0, .slice none 0 0] 68)).c1); (try have qA2 := yA.out.f0); (try have rA2 := (yA.out.alloc (.cells #[.int .i64 0, .slice none 0 0] 68)).f0); (try have qA3 := yA.out.f1); (try have rA3 := (yA.out.alloc (.cells #[.int .i64 0, .slice none 0 0] 68)).f1); (try have qB0 := yB.out.c0); (try have rB0 := (yB.out.alloc (.cells #[.int .i64 0, .slice none 0 0] 68)).c0); (try have qB1 := yB.out.c1); (try have rB1 := (yB.out.alloc (.cells #[.int .i64 0, .slice none 0 0] 68)).c1); (try have qB2 := yB.out.f0); (try have rB2 := (yB.out.alloc (.cells #[.int .i64 0, .slice none 0 0] 68)).f0); (try have qB3 := yB.out.f1); (try have rB3 := (yB.out.alloc (.cells #[.int .i64 0, .slice none 0 0] 68)).f1); (try have qC0 := yC.out.c0); (try have rC0 := (yC.out.alloc (.cells #[.int .i64 0, .slice none 0 0] 68)).c0); (try have qC1 := yC.out.c1); (try have rC1 := (yC.out.alloc (.cells #[.int .i64 0, .slice none 0 0] 68)).c1); (try have qC2 := yC.out.f0); (try have rC2 := (yC.out.alloc (.cells #[.int .i64 0, .slice none 0 0] 68)).f0); (try have qC3 := yC.out.f1); (try have rC3 := (yC.out.alloc (.cells #[.int .i64 0, .slice none 0 0] 68)).f1); (try have qD0 := yD.out.c0); (try have rD0 := (yD.out.alloc (.cells #[.int .i64 0, .slice none 0 0] 68)).c0); (try have qD1 := yD.out.c1); (try have rD1 := (yD.out.alloc (.cells #[.int .i64 0, .slice none 0 0] 68)).c1); (try have qD2 := yD.out.f0); (try have rD2 := (yD.out.alloc (.cells #[.int .i64 0, .slice none 0 0] 68)).f0); (try have qD3 := yD.out.f1); (try have rD3 := (yD.out.alloc (.cells #[.int .i64 0, .slice none 0 0] 68)).f1); (try have sA0 := (yA.out.alloc (.cells #[.int .i64 x1, .slice Ax kx cx] 68)).c0); (try have sA1 := (yA.out.alloc (.cells #[.int .i64 x1, .slice Ax kx cx] 68)).c1); (try have sA2 := (yA.out.alloc (.cells #[.int .i64 x1, .slice Ax kx cx] 68)).f0); (try have sA3 := (yA.out.alloc (.cells #[.int .i64 x1, .slice Ax kx cx] 68)).f1); (try have sB0 := (yB.out.alloc (.cells #[.int .i64 x1, .slice Ax kx cx] 68)).c0); (try have sB1 := (yB.out.alloc (.cells #[.int .i64 x1, .slice Ax kx cx] 68)).c1); (try have sB2 := (yB.out.alloc (.cells #[.int .i64 x1, .slice Ax kx cx] 68)).f0); (try have sB3 := (yB.out.alloc (.cells #[.int .i64 x1, .slice Ax kx cx] 68)).f1); (try have sC0 := (yC.out.alloc (.cells #[.int .i64 x1, .slice Ax kx cx] 68)).c0); (try have sC1 := (yC.out.alloc (.cells #[.int .i64 x1, .slice Ax kx cx] 68)).c1); (try have sC2 := (yC.out.alloc (.cells #[.int .i64 x1, .slice Ax kx cx] 68)).f0); (try have sC3 := (yC.out.alloc (.cells #[.int .i64 x1, .slice Ax kx cx] 68)).f1); (try have sD0 := (yD.out.alloc (.cells #[.int .i64 x1, .slice Ax kx cx] 68)).c0); (try have sD1 := (yD.out.alloc (.cells #[.int .i64 x1, .slice Ax kx cx] 68)).c1); (try have sD2 := (yD.out.alloc (.cells #[.int .i64 x1, .slice Ax kx cx] 68)).f0); (try have sD3 := (yD.out.alloc (.cells #[.int .i64 x1, .slice Ax kx cx] 68)).f1); (try have m1 : ¬ wo.heap.size = w2.heap.size := by have := zA.out.lt; omega); (try have m2 : ¬ w2.heap.size = wo.heap.size := by have := zA.out.lt; omega); (try have m3 : ¬ wo.heap.size = w4.heap.size := by have := yA.out.lt; omega); (try have m4 : ¬ w4.heap.size = wo.heap.size := by have := yA.out.lt; omega); (try have m5 : ¬ w2.heap.size = w4.heap.size := by have := yC.out.lt; omega); (try have m6 : ¬ w4.heap.size = w2.heap.size := by have := yC.out.lt; omega); clear hK hC))
        all_goals (go_wp2_with fail; go_meet; refine ⟨_, _, rfl, rfl, ?_⟩)
        all_goals first
          | with_reducible exact cendD HK.out HK2.out HC2.out
          | with_reducible exact cendE HK.out HK2.out HC2.out
          | with_reducible exact cendB HK.out HK2.out HC2.out yC.out hz2
          | with_reducible exact cendC HK.out HK2.out HC2.out yC.out hz2
          | with_reducible exact cendB HK.out HK2.out HC2.out yA.out (Nat.le_refl _)
          | with_reducible exact cendC HK.out HK2.out HC2.out yA.out (Nat.le_refl _)
          | with_reducible exact cendA HK.out HK2.out HC2.out yA.out yC.out (Nat.le_refl _) hz2 m1
          | with_reducible exact cendA HK.out HK2.out HC2.out yC.out yA.out hz2 (Nat.le_refl _) m2
          | with_reducible exact cendA HK.out HK2.out HC2.out yA.out yB.out (Nat.le_refl _) (Nat.le_succ _) (Nat.ne_of_lt (Nat.lt_succ_self _))
          | with_reducible exact cendA HK.out HK2.out HC2.out yB.out yA.out (Nat.le_succ _) (Nat.le_refl _) (Nat.ne_of_gt (Nat.lt_succ_self _))
          | with_reducible exact cendA HK.out HK2.out HC2.out yC.out yD.out hz2 (Nat.le_succ_of_le hz2) (Nat.ne_of_lt (Nat.lt_succ_self _))
          | with_reducible exact cendA HK.out HK2.out HC2.out yD.out yC.out (Nat.le_succ_of_le hz2) hz2 (Nat.ne_of_gt (Nat.lt_succ_self _))
      case rest =>
        obtain ⟨b5, b6, rfl, rfl, HA0, HA1, HB0, HB1, HKc, HCc⟩ := hcut
        have a0 := HA0.out
        have a1 := HA1.out
        have a2 := HB0.out
        have a3 := HB1.out
        have hzc := HCc.out.size
        have hsm : tx.f + ty.f ≤ 1152921504606846976 := by
          have h1 := HI.out.sum
          have h2 := HL.out.sum
          have h3 := wsum_perm HT.out
          simp only [wsum, List.map_cons, List.sum_cons] at h3 h1
          omega
        have hxr : 0 ≤ x1 ∧ x1 ≤ 1152921504606846976 := by rw [HX0.out]; omega
        have hyr : 0 ≤ y1 ∧ y1 ≤ 1152921504606846976 := by rw [HY0.out]; omega
        have hlvn : Hid (((tx.lf ++ ty.lf).map Prod.fst).Nodup ∧ (∀ i ∈ (tx.lf ++ ty.lf).map Prod.fst, i < n) ∧ ((tx.lf ++ ty.lf).map Prod.fst).length ≤ n) := by
          show _ ∧ _ ∧ _
          have h1 := ((HT.out.flatMap_right (fun t => t.2.lf)).map Prod.fst).symm.trans HI.out.lv
          simp only [List.flatMap_cons] at h1
          rw [← List.append_assoc, List.map_append] at h1
          have h2 := h1.symm.nodup List.nodup_range
          rw [List.nodup_append] at h2
          have h3 := h1.length_eq
          rw [List.length_append, List.length_range] at h3
          exact ⟨h2.1, fun i hi => List.mem_range.1 (h1.subset (List.mem_append_left _ hi)), by omega⟩
        have hlf : (lvI tx ++ lvI ty).length ≤ n := by
          have h2 := hlvn.out.2.2
          simpa [lvI] using h2
        have hkx : kx ≤ 1000000 := by rw [HLX.out]; rw [List.length_append] at hlf; omega
        have hky : ky ≤ 1000000 := by rw [HLY.out]; rw [List.length_append] at hlf; omega
        have CJ := Lib.hid (fJoin_any x1 y1 Ax Ay kx ky cx cy (lvI tx) (lvI ty) wc (HRX.out.chg HCc.out (fun b o s hA hs => by obtain ⟨n1, n2, _⟩ := HBX.out b o s hA; rcases hs with e | e; exact n1 e; exact n2 e)) (HRY.out.chg HCc.out (fun b o s hA hs => by obtain ⟨n1, n2, _⟩ := HBY.out b o s hA; rcases hs with e | e; exact n1 e; exact n2 e)) HLX.out HLY.out hkx hky hxr hyr)
        go_wp2_with (first
          | ((with_reducible refine CJ.out.mono ?_)
             rintro e w6 ⟨A', k', c', rfl, hO, hB⟩
             have HO := Lib.hid hO
             have HBj := Lib.hid hB
             have hz6 := hB.size
             clear hO hB))
        obtain ⟨w7, hw7⟩ : ∃ w7, w7 = w6.alloc (.cells #[.int .i64 (x1 + y1), .slice A' k' c'] 68) := ⟨_, rfl⟩
        have HC7 : Hid (Chg (fun k => k = p ∨ k = g) wo w7) := by
          show Chg _ _ _
          rw [hw7]
          exact (HCc.out.then (Chg.of_below HBj.out)).alloc _
        have hz7 : w7.heap.size = w6.heap.size + 1 := by rw [hw7]; simp
        have HF7 : Hid (Fo w7 p g c D2) := by
          show Fo _ _ _ _ _
          refine HKc.out.fo.off (S := fun _ => False) ?_ (fun e => e) (fun e => e)
          rw [hw7]
          exact (Chg.of_below HBj.out).alloc _
        have HO7 : Hid (Oi w7 wc.heap.size (.slice A' k' c') (lvI tx ++ lvI ty)) := by show Oi _ _ _ _; rw [hw7]; exact HO.out.below ((Below.refl _ _).alloc (Nat.le_refl _) _)
        have HD7 : Hid (BI w7 gd dp) := HI7 HK.out.db HC7.out HK.out.n1 HK.out.n2
        have t0 : w7.cell? ⟨w6.heap.size, 0, none⟩ = some (.int .i64 (x1 + y1)) := by rw [hw7]; go_cell
        have t1 : w7.cell? ⟨w6.heap.size, 1, none⟩ = some (.slice A' k' c') := by rw [hw7]; go_cell
        have hgdl := HK.out.db.blk.lt
        obtain ⟨ls, hls⟩ : ∃ ls, ls = (tx.lf ++ ty.lf).map Prod.fst := ⟨_, rfl⟩
        have HLS : Hid (lvI tx ++ lvI ty = ls.map (fun (i : Nat) => (i : Int))) := by show _ = _; rw [hls]; simp [lvI, List.map_map, Function.comp_def]
        have hln : Hid (ls.Nodup ∧ (∀ i ∈ ls, i < n) ∧ ls.length ≤ n) := by show _ ∧ _ ∧ _; rw [hls]; exact hlvn.out
        have HLSE := Lib.hid hls
        clear hls hlvn hlf
        obtain ⟨A7, c7, hv7, hcc7, _, hR7, hb7, _⟩ := HO7.out.open
        injection hv7 with hv1 hv2 hv3
        have hk' : k' = ls.length := by rw [hv2, HLS.out, List.length_map]
        subst hv1 hv3 hk'
        have HR7 : Hid (Ri w7 A' (ls.map (fun (i : Nat) => (i : Int)))) := by show Ri _ _ _; rw [← HLS.out]; exact hR7
        have HB7 : Hid (∀ b o s, A' = some ⟨b, o, s⟩ → wc.heap.size ≤ b ∧ b < w7.heap.size) := hb7
        have hlsn : ls.length ≤ n := hln.out.2.2
        clear hR7 hb7 hcc7 hv2 CJ HO HBj a0 a1 a2 a3 HA0 HA1 HB0 HB1
        have hts7 : w6.heap.size < w7.heap.size := by omega
        have hdpl := HI.out.len
        go_wp2
        rw [← hw7]
        go_loopg [32] ls.length (fun g2 vi w8 => ∃ (j : Nat), vi = .int .i64 j ∧ j ≤ ls.length ∧ ls.length - j ≤ g2 ∧ Hid (BI w8 gd (incL dp (ls.take j))) ∧ Hid (Chg (fun k => k = gd) w7 w8))
        case atStart => exact ⟨0, rfl, Nat.zero_le _, by omega, (show Hid _ from by show BI _ _ _; rw [List.take_zero]; exact HD7.out), Chg.refl _ _⟩
        case round =>
          obtain ⟨j, rfl, hj, hg2, HBI, HC8⟩ := hrel
          by_cases hjl : j < ls.length
          · obtain ⟨b, o, hA, hc⟩ : ∃ b o, A' = some ⟨b, o, none⟩ ∧ ∀ i, i < (ls.map (fun (i : Nat) => (i : Int))).length → w7.cell? ⟨b, o + i, none⟩ = some (.int .i64 ((ls.map (fun (i : Nat) => (i : Int))).getD i 0)) := by
              rcases HR7.out with h | h
              · have := congrArg List.length h
                rw [List.length_map] at this
                rw [this] at hjl
                simp at hjl
              · exact h
            subst hA
            have hbr := HB7.out b o none rfl
            obtain ⟨q, hq⟩ : ∃ q, q = ls[j] := ⟨_, rfl⟩
            have hqn : q < n := by rw [hq]; exact hln.out.2.1 _ (List.getElem_mem hjl)
            have e1 := hc j (by rw [List.length_map]; exact hjl)
            have e1' : (ls.map (fun (i : Nat) => (i : Int))).getD j 0 = (q : Int) := by rw [List.getD_eq_getElem?_getD, List.getElem?_map, List.getElem?_eq_getElem hjl, hq]; rfl
            rw [e1'] at e1
            have e2 := HC8.out.cellv e1 (by show ¬ b = gd; omega)
            obtain ⟨z, hz⟩ : ∃ z, z = (incL dp (ls.take j)).getD q 0 := ⟨_, rfl⟩
            have e3 := HBI.out.blk.cell (ia_at (l := incL dp (ls.take j)) (j := q) (by rw [incL_len]; omega))
            rw [← hz] at e3
            have e4 := HBI.out.blk.frozen q
            have hzr : 0 ≤ z ∧ z ≤ 100000 := by
              rw [hz, incL_at _ _ _ (fun i hi => by rw [hdpl]; exact hln.out.2.1 i (List.mem_of_mem_take hi))]
              have h1 := HDP.out q
              have h2 : (ls.take j).count q ≤ 1 := nodup_count _ q (hln.out.1.sublist (List.take_sublist j ls))
              omega
            have hst : Hid ((incL dp (ls.take j)).set q (z + 1) = incL dp (ls.take (j + 1))) := by
              show _ = _
              rw [List.take_add_one, List.getElem?_eq_getElem hjl, Option.toList_some, incL_snoc, ← hq, ← hz]
            clear hc e1 e1' hq hz
            have hjl' : (j : Int) < (ls.length : Int) := by omega
            have hqn' : (q : Int) < (n : Int) := by omega
            have e5 := HC8.out.cellv t0 (by show ¬ w6.heap.size = gd; omega)
            go_wp2
            go_roundg (gk - 1)
            case measure => omega
            case rel =>
              refine ⟨j + 1, by push_cast; rfl, by omega, by omega, ?_, ?_⟩
              · show BI _ _ _
                rw [← hst.out]
                exact HBI.out.set q (z + 1)
              · show Chg _ _ _
                exact HC8.out.setCell (.inl rfl) _
          · have hje : j = ls.length := by omega
            subst hje
            have hjl' : ¬ (ls.length : Int) < (ls.length : Int) := by omega
            have HBE : Hid (BI wr gd (incL dp ls)) := by
              have := HBI.out
              rw [List.take_length] at this
              exact this
            have e5 := HC8.out.cellv t0 (by show ¬ w6.heap.size = gd; omega)
            have e6 := HC8.out.cellv t1 (by show ¬ w6.heap.size = gd; omega)
            have hz8 := HC8.out.size
            have HF8 : Hid (Fo wr p g c D2) := by
              show Fo _ _ _ _ _
              exact HF7.out.off HC8.out HK.out.n1 HK.out.n2
            have CPu := Lib.hid (fPush_any p g c D2 (x1 + y1, .slice A' ls.length c') wr HF8.out ⟨_, _, _, rfl⟩ (by omega) w.heap.size HK.out.og (by have := HK.out.be.size; omega))
            unfold gval at CPu
            simp only at CPu
            clear HBI cp1 cp2 hta1 hta2
            go_wp2_with (first
              | ((with_reducible refine CPu.out.mono ?_)
                 rintro e w9 ⟨rfl, g9, c9, h1, h2, h3⟩
                 have HF9 := Lib.hid h1
                 have HG9 := Lib.hid h2
                 have HC9 := Lib.hid h3
                 clear h1 h2 h3))
            go_roundg (k + 1)
            case measure => omega
            case rel =>
              have hcT : Chg (fun i => i = p ∨ i = g ∨ i = gd) wo w9 := by
                refine ((HC7.out.mono (S' := fun i => i = p ∨ i = g ∨ i = gd) ?_).trans HC8.out ?_).trans HC9.out ?_
                · rintro i _ (e | e)
                  · exact .inl e
                  · exact .inr (.inl e)
                · intro i _ e; exact .inr (.inr e)
                · rintro i _ (e | e)
                  · exact .inl e
                  · exact .inr (.inl e)
              have hg9 : g9 = g ∨ wo.heap.size ≤ g9 := by
                rcases HG9.out with e | e
                · exact .inl e
                · exact .inr (by omega)
              have hA9 : ∀ b o s, A' = some ⟨b, o, s⟩ → wo.heap.size ≤ b ∧ b < w9.heap.size ∧ b ≠ g9 := by
                intro b o s e
                have h1 := HB7.out b o s e
                have h2 := HC9.out.size
                rcases HG9.out with e | e
                · exact ⟨by omega, by omega, by rw [e]; omega⟩
                · exact ⟨by omega, by omega, by omega⟩
              have hR9 : Ri w9 A' (ls.map (fun (i : Nat) => (i : Int))) := by
                refine (HR7.out.chg HC8.out ?_).chg HC9.out ?_
                · intro b o s e h1
                  have h2 := HB7.out b o s e
                  omega
                · intro b o s e h1
                  have h2 := HB7.out b o s e
                  rcases h1 with e | e <;> omega
              have hlj : lvI (jn tx ty) = ls.map (fun (i : Nat) => (i : Int)) := (lvI_jn tx ty).trans HLS.out
              have hdb : BI w9 gd (incL dp ls) := HI7 HBE.out HC9.out HK.out.n1 HK.out.n2
              have hK9 := Ks.pushed HK.out hcT HF9.out hg9 hdb hR9 (by rw [List.length_map]) hA9 (jn tx ty) hlj (T2 := T2) (x := x1 + y1) (k := ls.length) (cc := c') (fun u hu => HT.out.symm.subset (by simp [hu]))
              obtain ⟨q1, q2, q3⟩ := heap_push ltw_swo hs2 HH2.out (x := (x1 + y1, Value.slice A' ls.length c'))
              rw [← hs2] at q1 q2 q3
              have hin := incL_in dp ls hln.out.1 (fun i hi => by rw [hdpl]; exact hln.out.2.1 i hi)
              have hN := HI.out.next HT.out HT2.out (fun z hz => HX1.out z (HP2.out.symm.subset hz)) HY2.out q2 (dq := incL dp ls) (by rw [incL_len]; exact hdpl) (fun i => by rw [hin, HLSE.out])
              refine ⟨k, g9, c9, _, _, _, by omega, by rw [q3, hs2], by omega, hK9, ?_, hN, ?_⟩
              · show Heap _ _ _
                rw [q3]
                exact q1
              · show ∀ i, _
                intro i
                have h1 := HDP.out i
                rw [hin]
                split <;> omega
end Go.Proofs.Ytanihbflgolciaa
