/- The law ColourAll. -/
import Derived.Test.YtefdimkiijmjbaaColI
import Derived.Test.YtefdimkiijmjbaaStrB
import Derived.Test.YtefdimkiijmjbaaDrh
namespace Go.Proofs.Ytefdimkiijmjbaa
open Go.RowKit Go.Lib
set_option linter.unusedVariables false
set_option maxRecDepth 100000
theorem all_at (p : Bool) (l R : List UInt8) (A : Option Addr) (n c : Nat) (w : World) (hn : n = l.length) (hr : Rd w A l) (hl : l.length ≤ 65536) (hR : Hid (allL p l = R)) :
    Calls Try.prog 14 #[.slice A n c, .bool p] w fun e w' => ∃ B d, e = .returned (.slice B R.length d) ∧ Ob w' w.heap.size (.slice B R.length d) R ∧ Below w.heap.size w w' := by
  subst hn
  rw [← hR.out]
  by_cases hm : l.length % 3 = 0
  · have hlen := allL_len (p := p) hm
    cases p
    · refine (all_lu l A c w hr hl hm).mono ?_
      rintro e w' ⟨rfl, h1, h2⟩
      exact ⟨_, _, by rw [hlen], by rw [hlen]; exact h1, h2⟩
    · refine (all_pa l A c w hr hl hm).mono ?_
      rintro e w' ⟨rfl, h1, h2⟩
      exact ⟨_, _, by rw [hlen], by rw [hlen]; exact h1, h2⟩
  · refine (all_no p l A c w hl hm).mono ?_
    rintro e w' ⟨rfl, h2⟩
    rw [allL_no hm]
    exact ⟨none, 0, rfl, Ob.nil _ _, h2⟩
theorem rall_at (p : Bool) (l R : List UInt8) (A : Option Addr) (n c : Nat) (w : World) (hn : n = l.length) (hr : Rd w A l) (hl : l.length ≤ 65536) (hR : Hid (allL p l = R)) :
    Calls Try.prog 15 #[.slice A n c, .bool p] w fun e w' => ∃ B d, e = .returned (.slice B R.length d) ∧ Rd w' B R ∧ Below w.heap.size w w' := by
  subst hn
  rw [← hR.out]
  by_cases hm : l.length % 3 = 0
  · cases p
    · refine (rall_lu l A c w hr hl hm).mono ?_
      rintro e w' ⟨v, rfl, h1, h2⟩
      obtain ⟨B, d, rfl, _, _, r, _⟩ := h1.open
      exact ⟨B, d, rfl, r, h2⟩
    · refine (rall_pa l A c w hr hl hm).mono ?_
      rintro e w' ⟨v, rfl, h1, h2⟩
      obtain ⟨B, d, rfl, _, _, r, _⟩ := h1.open
      exact ⟨B, d, rfl, r, h2⟩
  · refine (rall_no p l A c w hl hm).mono ?_
    rintro e w' ⟨rfl, h2⟩
    rw [allL_no hm]
    exact ⟨none, 0, rfl, Rd.nil _ _, h2⟩
theorem own_any (w : World) : Ob (w.alloc (.cells #[] 5)) w.heap.size (.slice (some ⟨w.heap.size, 0, none⟩) 0 0) [] := World.ownsRow_made w #[] 0 (Nat.le_refl _) (Nat.zero_le _) rfl
theorem cAll_far (l : List UInt8) (A : Option Addr) (c : Nat) (w : World) (hl : 300 < l.length) (hm : l.length ≤ maxLen) :
    Calls Try.prog 4 #[.slice A l.length c] w fun e w' => e = .returned (.bool true) ∧ Below w.heap.size w w' := by
  unfold maxLen at hm
  go_enter Try.func4, Try.ntmps4
  go_wp2_with (go_at_call 13; (with_reducible refine (awake_any _).mono ?_); rintro e w1 ⟨rfl, hb⟩)
  go_ret
  exact ⟨rfl, hb⟩
theorem ent_rall : ∀ args w, (callFunc 15 args).run Try.prog w = .ok (.enter 15 args) w := enters_of Try.func15 (by kernel_rfl) rfl
/-- The two rows that All made. -/
structure Ka (w : World) (D : Option Addr) (X : List UInt8) (d : Nat) (E : Option Addr) (Y : List UInt8) (e : Nat) (W : World) : Prop where
  x : Ob W w.heap.size (.slice D X.length d) X
  y : Ob W w.heap.size (.slice E Y.length e) Y
  be : Below w.heap.size w W
  ne : ∀ k, (Value.slice D X.length d).ownBlock = some k → (Value.slice E Y.length e).ownBlock ≠ some k
section
variable {w W W' : World} {D E : Option Addr} {X Y : List UInt8} {d e : Nat}
theorem Ka.call (h : Ka w D X d E Y e W) (hb : Below W.heap.size W W') : Ka w D X d E Y e W' := ⟨h.x.below hb, h.y.below hb, h.be.trans (hb.mono h.be.size), h.ne⟩
theorem Ob.str {B : Nat} (h : Ob W B (.slice D X.length d) X) : (convert 27 9 (.slice D X.length d)).run Try.prog W = .ok (.string ⟨X.toArray⟩) W := by
  obtain ⟨A, c, hv, _, _, r, _⟩ := h.open
  rw [hv]
  exact run_strB W X A X.length c rfl r
theorem Ka.strX (h : Ka w D X d E Y e W) : (convert 27 9 (.slice D X.length d)).run Try.prog W = .ok (.string ⟨X.toArray⟩) W := h.x.str
theorem Ka.strY (h : Ka w D X d E Y e W) : (convert 27 9 (.slice E Y.length e)).run Try.prog W = .ok (.string ⟨Y.toArray⟩) W := h.y.str
end
/-- What is said of a row that the document's All made. -/
def PostR (X Y : List UInt8) (i : Nat) (v : Value) (W : World) : Prop := ∃ B d, v = .slice B (if i = 3 then X else Y).length d ∧ Rd W B (if i = 3 then X else Y)
theorem PostR.st {X Y : List UInt8} {i : Nat} {v : Value} {W W' : World} (hT : Below W.heap.size W W') (h : PostR X Y i v W) : PostR X Y i v W' := by
  obtain ⟨B, d, h1, h2⟩ := h
  exact ⟨B, d, h1, h2.below hT⟩
theorem str_of {R : List UInt8} {v : Value} {W : World} (h : ∃ B d, v = .slice B R.length d ∧ Rd W B R) : (convert 27 9 v).run Try.prog W = .ok (.string ⟨R.toArray⟩) W := by
  obtain ⟨B, d, rfl, r⟩ := h
  exact run_strB W R B R.length d rfl r
set_option maxHeartbeats 4000000 in
theorem cAll_near (l : List UInt8) (A : Option Addr) (c : Nat) (w : World) (hr : Rd w A l) (hl : l.length ≤ 300) :
    Calls Try.prog 4 #[.slice A l.length c] w fun e w' => e = .returned (.bool true) ∧ Below w.heap.size w w' := by
  have HO := Lib.hid (own_any w)
  have HRR := Lib.hid hr
  obtain ⟨X, hX⟩ : ∃ X, allL false l = X := ⟨_, rfl⟩
  obtain ⟨Y, hY⟩ : ∃ Y, allL true l = Y := ⟨_, rfl⟩
  have HX := Lib.hid hX
  have HY := Lib.hid hY
  clear hX hY hr
  go_enter Try.func4, Try.ntmps4
  go_wp2_with (first
    | (at_builtin
       (refine wpList_appB _ rfl (.tmp 11) (.tmp 12) rfl w.heap.size (.slice (some ⟨w.heap.size, 0, none⟩) 0 0) [] rfl HO.out A l.length c l rfl rfl (HRR.out.alloc _) (by simp; omega) (by simp) ?_)
       intro v1 w1 ho1 hg1 _
       have B1 := Lib.hid (((Below.refl w.heap.size w).alloc (Nat.le_refl _) (.cells #[] 5)).grown hg1 (by simp) (by rintro k ⟨⟩; exact Nat.le_refl _))
       rw [List.nil_append] at ho1
       obtain ⟨A1, c1, hv1, hc1, _, r1, hb1, hA1⟩ := ho1.open'
       subst hv1
       have z1 := B1.out.size
       have HR1 := Lib.hid r1
       clear ho1 hg1 HO hc1 r1 hb1 hA1))
  (with_reducible refine (all_at false l X A1 l.length c1 _ rfl HR1.out (by omega) HX).mono ?_); rintro e w2 ⟨D2, d2, rfl, o2, h2⟩
  have B2 := Lib.hid (B1.out.trans (h2.mono z1))
  have z2 := B2.out.size
  have R2 := Lib.hid (HR1.out.below h2)
  have O2 := Lib.hid o2
  have h2' := h2
  clear o2 h2
  go_wp2_with fail
  (with_reducible refine (all_at true l Y A1 l.length c1 _ rfl R2.out (by omega) HY).mono ?_); rintro e w3 ⟨D3, d3, rfl, o3, h3⟩
  have B3 := Lib.hid (B2.out.trans (h3.mono z2))
  have z3 := B3.out.size
  have R3 := Lib.hid (R2.out.below h3)
  have O3 := Lib.hid (O2.out.below h3)
  have P3 := Lib.hid (o3.mono h2'.size)
  have K3 : Hid (Ka w1 D2 X d2 D3 Y d3 w3) := ⟨O3.out, P3.out, h2'.trans (h3.mono h2'.size), fun k hk e => by have a1 := (O2.out.at k hk).2; have a2 := (o3.at k e).1; omega⟩
  have HPX : Hid (∀ W, Ka w1 D2 X d2 D3 Y d3 W → Rd W A l) := fun W hS => HRR.out.below (B1.out.trans (hS.be.mono z1))
  have HER := Lib.hid ent_rall
  have HXY := Lib.hid z1
  have HX1 : Hid (∃ v W, PostR X Y 3 v W) := by
    obtain ⟨A0, c0, hv, _, _, r, _⟩ := K3.out.x.open
    exact ⟨_, w3, A0, c0, rfl, r⟩
  have HX2 : Hid (∃ v W, PostR X Y 10 v W) := by
    obtain ⟨A0, c0, hv, _, _, r, _⟩ := K3.out.y.open
    exact ⟨_, w3, A0, c0, rfl, r⟩
  clear o3 h3 h2' O3 P3 R3 B3 z3 O2 R2 B2 z2
  go_wp2
  refine wp_region_seqH 14 (Ka w1 D2 X d2 D3 Y d3) (fun W W' => Below W.heap.size W W')
    (hsP [some (.slice D2 X.length d2), some (.string ⟨X.toArray⟩), some (.slice A l.length c), none, some (.string ⟨X.toArray⟩), some (.bool true), some (.bool true),
      some (.slice D3 Y.length d3), some (.string ⟨Y.toArray⟩), some (.slice A l.length c), none, some (.string ⟨Y.toArray⟩), some (.bool true), some (.bool true)] (PostR X Y)) (by kernel_rfl) (by kernel_rfl) (hsP_st fun _ _ _ _ hT h => PostR.st hT h) (K3.out.call ((Below.refl _ _).drew)) ?_
  simp only [List.take_succ_cons, List.take_zero, List.drop_succ_cons, List.drop_zero]
  repeat (
    first
      | (refine seqH_valA _ rfl w (fun _ => Below.refl _ _) (by rfl) ?_ ?_
         focus (intro W hS hp; have e0 := hS.strX; have e1 := hS.strY; go_simp; (try with_reducible rfl); done))
      | (refine seqH_valA _ rfl w (fun _ => Below.refl _ _) (by rfl) ?_ ?_
         focus (intro W hS hp; have e00 := hp { on := 3, ground := .data } (by simp) rfl; have e0 := str_of (R := X) e00; clear e00 hp; go_simp; (try with_reducible rfl); done))
      | (refine seqH_valA _ rfl w (fun _ => Below.refl _ _) (by rfl) ?_ ?_
         focus (intro W hS hp; have e00 := hp { on := 10, ground := .data } (by simp) rfl; have e0 := str_of (R := Y) e00; clear e00 hp; go_simp; (try with_reducible rfl); done))
      | (refine seqH_callA 15 #[.slice A l.length c, .bool false] (by rfl) ?_ HX1.out ?_ ?_
         focus (intro W; have eg : ∀ args w, (callFunc 15 args).run Try.prog w = .ok (.enter 15 args) w := HER.out; unfold execOp; simp [resolve, invoke, go_sem, eg]; done)
         focus (intro W hS; refine (rall_at false l X A l.length c W rfl (HPX.out W hS) (by omega) HX).mono ?_; rintro e w' ⟨B, d, rfl, h1, h2⟩; exact ⟨_, rfl, h2, hS.call h2, B, d, rfl, h1⟩)
         intro v3 hv3)
      | (refine seqH_callA 15 #[.slice A l.length c, .bool true] (by rfl) ?_ HX2.out ?_ ?_
         focus (intro W; have eg : ∀ args w, (callFunc 15 args).run Try.prog w = .ok (.enter 15 args) w := HER.out; unfold execOp; simp [resolve, invoke, go_sem, eg]; done)
         focus (intro W hS; refine (rall_at true l Y A l.length c W rfl (HPX.out W hS) (by omega) HY).mono ?_; rintro e w' ⟨B, d, rfl, h1, h2⟩; exact ⟨_, rfl, h2, hS.call h2, B, d, rfl, h1⟩)
         intro v10 hv10)
    simp only [Act.put, List.setIfInBounds_toArray, List.set_cons_zero, List.set_cons_succ])
  refine seqH_nil fun W hS _ => ?_
  have KS := Lib.hid hS
  clear hS K3 HX1 HX2 HER
  go_wp2_with (first
    | ((with_reducible refine wpList_clearC _ rfl (.tmp 32) rfl w1.heap.size (.slice D2 X.length d2) X rfl KS.out.x ?_); intro w4 h4; have Y4 : Hid (Ob w4 w1.heap.size (.slice D3 Y.length d3) Y) := KS.out.y.chg h4 fun k hk e => KS.out.ne k e hk)
    | ((with_reducible refine wpList_clearC _ rfl (.tmp 33) rfl w1.heap.size (.slice D3 Y.length d3) Y rfl Y4.out ?_); intro w5 h5))
  have B5 := Lib.hid (KS.out.be.trans ((h4.below KS.out.be.size fun i e => (KS.out.x.at i e).1).trans (h5.below (Nat.le_trans KS.out.be.size h4.size) fun i e => (KS.out.y.at i e).1)))
  have e5 := run_strB w5 l A1 l.length c1 rfl (HR1.out.below B5.out)
  have e6 := run_strB w5 l A l.length c rfl (HRR.out.below (B1.out.trans (B5.out.mono z1)))
  have B6 := Lib.hid (B1.out.trans (B5.out.mono z1))
  clear h4 h5
  go_wp2_with fail
  rw [e5]
  go_wp2_with fail
  (with_reducible refine (awake_any _).mono ?_); rintro e w6 ⟨rfl, h6⟩
  have B7 := B6.out.trans (h6.mono B6.out.size)
  go_wp2
  go_ret
  exact ⟨rfl, B7⟩
theorem cAll_any (l : List UInt8) (A : Option Addr) (c : Nat) (w : World) (hr : Rd w A l) (hm : l.length ≤ maxLen) :
    Calls Try.prog 4 #[.slice A l.length c] w fun e w' => e = .returned (.bool true) ∧ Below w.heap.size w w' := by
  by_cases h : 300 < l.length
  · exact cAll_far l A c w h hm
  · exact cAll_near l A c w hr (by omega)
end Go.Proofs.Ytefdimkiijmjbaa
