/- Contracts of the document's Stuff, Data, Bare, Same. -/
import Derived.Test.YthidhgobocihpaaDoorNew
namespace Go.Proofs.YthidhgobocihpaaDoor
open Go.RowKit Go.Lib
set_option linter.unusedVariables false

theorem Ob.alloc {w : World} {base : Nat} {v : Value} {l : List UInt8} (h : Ob w base v l) (o : Obj) : Ob (w.alloc o) base v l := h.below ((Below.refl _ _).alloc (Nat.le_refl _) o)
theorem Oi.alloc {w : World} {base : Nat} {v : Value} {l : List Int} (h : Oi w base v l) (o : Obj) : Oi (w.alloc o) base v l := h.below ((Below.refl _ _).alloc (Nat.le_refl _) o)
theorem Ob.grown {w0 w w1 : World} {base : Nat} {v : Value} {l : List UInt8} (ho : Ob w base v l) (hb : Below base w0 w) (hg : w.grownBy w1 v.ownBlock) (hs : base ≤ w.heap.size) : Below base w0 w1 := hb.grown hg hs (fun k hk => (ho.at k hk).1)
theorem Oi.grown {w0 w w1 : World} {base : Nat} {v : Value} {l : List Int} (ho : Oi w base v l) (hb : Below base w0 w) (hg : w.grownBy w1 v.ownBlock) (hs : base ≤ w.heap.size) : Below base w0 w1 := hb.grown hg hs (fun k hk => (ho.at k hk).1)
theorem Rd.at' {w : World} {b o : Nat} {l : List UInt8} (h : Rd w (some ⟨b, o, none⟩) l) (i : Nat) (hi : i < l.length) : w.cell? ⟨b, o + i, none⟩ = some (.int .u8 (bt l i)) := by
  obtain ⟨b', o', e, hc⟩ := h.at (by omega)
  cases e
  exact hc i hi
theorem take_snoc {α : Type} [Inhabited α] (l : List α) (k : Nat) (h : k < l.length) (z : α) : l.take (k + 1) = l.take k ++ [l.getD k z] := by
  rw [List.take_add_one, List.getD_eq_getElem?_getD, List.getElem?_eq_getElem h]
  rfl
theorem stf_take (l : List UInt8) (k : Nat) (h : k < l.length) : stf (l.take (k + 1)) = stf (l.take k) ++ if bt l k = 255 then [l.getD k 0] ++ [0] else [l.getD k 0] := by
  rw [take_snoc l k h 0, stf_append]
  congr 1
  have e : l.getD k 0 = l[k] := by rw [List.getD_eq_getElem?_getD, List.getElem?_eq_getElem h]; rfl
  rw [e]
  by_cases h5 : bt l k = 255
  · rw [if_pos h5, (bt_255 h).1 h5]; rfl
  · rw [if_neg h5, stf, if_neg ((not_congr (bt_255 h)).1 h5)]; rfl

set_option maxHeartbeats 800000 in
theorem rStuff_any (l : List UInt8) (A : Option Addr) (c : Nat) (w : World) (hr : Rd w A l) (hl : l.length ≤ 100000000) :
    Calls Tryd.prog 20 #[.slice A l.length c] w fun e w' => ∃ v, e = .returned v ∧ Ob w' w.heap.size v (stf l) ∧ Below w.heap.size w w' := by
  go_enter Tryd.func20, Tryd.ntmps20
  go_wp2
  go_loopw [3, 4] (fun o i wr => ∃ (k : Nat) (v : Value), k ≤ l.length ∧ i = .int .i64 k ∧ v = o ∧ Hid (Ob wr w.heap.size v (stf (l.take k))) ∧ Hid (Below w.heap.size w wr)) (fun _ i _ => l.length - (RowKit.intOf i).toNat)
  case atStart => exact ⟨0, _, Nat.zero_le _, rfl, rfl, Ob.nil _ _, Below.refl _ _⟩
  case round =>
    obtain ⟨k, v, hk, rfl, rfl, HO, HB⟩ := hrel
    by_cases hlt : k < l.length
    · obtain ⟨b, o, rfl, hc⟩ := hr.at (by omega)
      have e1 := cell_later HB.out (hc k hlt)
      have hst := Lib.hid (stf_take l k hlt)
      have hsl := (stf_len (l.take k)).2
      have htk : (l.take k).length ≤ k := List.length_take_le ..
      have z := HB.out.size
      clear hc
      by_cases h5 : bt l k = 255
      · have hq : (bt l k == 255) = true := by rw [h5]; rfl
        rw [if_pos h5, ← List.append_assoc] at hst
        have r1 := Lib.hid (Rd.one wr 5 (bt l k) (l.getD k 0) rfl)
        have HO1 := Lib.hid (HO.out.alloc (.cells #[.int .u8 (bt l k)] 5))
        have HB1 := Lib.hid (HB.out.alloc z (.cells #[.int .u8 (bt l k)] 5))
        clear h5 HO HB
        go_wp2_with (first
          | ((with_reducible refine wpList_appB _ rfl (.tmp 11) (.tmp 16) rfl w.heap.size v (stf (l.take k)) rfl HO1.out (some ⟨wr.heap.size, 0, none⟩) 1 1 [l.getD k 0] rfl rfl r1.out (by simp; omega) (by simp; omega) ?_)
             intro v1 w1 ho1 hg1 _
             have HB2 := Lib.hid (HO1.out.grown HB1.out hg1 (by simp; omega))
             have z2 := HB2.out.size
             have HO2 := Lib.hid (ho1.alloc (.cells #[.int .u8 0] 5))
             have HB3 := Lib.hid (HB2.out.alloc z2 (.cells #[.int .u8 0] 5))
             have r2 := Lib.hid (Rd.one w1 5 0 0 rfl)
             have e2 := cell_later HB2.out (hr.at' k hlt)
             clear ho1 hg1 HO1 HB1 r1 HB2)
          | ((with_reducible refine wpList_appB _ rfl (.tmp 23) (.tmp 24) rfl w.heap.size v1 (stf (l.take k) ++ [l.getD k 0]) rfl HO2.out (some ⟨w1.heap.size, 0, none⟩) 1 1 [0] rfl rfl r2.out (by simp; omega) (by simp; omega) ?_)
             intro v2 w2 ho2 hg2 _
             have HB4 := Lib.hid (HO2.out.grown HB3.out hg2 (by simp; omega))
             have HO4 := Lib.hid ho2
             clear ho2 hg2 HO2 HB3))
        go_roundw
        case rel => exact ⟨k + 1, v2, by omega, by go_num, rfl, (show Hid _ from by show Ob _ _ _ _; rw [hst.out]; exact HO4.out), HB4⟩
        case measure => simp [RowKit.intOf]; omega
      · have hq : (bt l k == 255) = false := by rw [beq_eq_false_iff_ne]; exact h5
        rw [if_neg h5] at hst
        have r1 := Lib.hid (Rd.one wr 5 (bt l k) (l.getD k 0) rfl)
        have HO1 := Lib.hid (HO.out.alloc (.cells #[.int .u8 (bt l k)] 5))
        have HB1 := Lib.hid (HB.out.alloc z (.cells #[.int .u8 (bt l k)] 5))
        clear h5 HO HB
        go_wp2_with (
          ((with_reducible refine wpList_appB _ rfl (.tmp 11) (.tmp 16) rfl w.heap.size v (stf (l.take k)) rfl HO1.out (some ⟨wr.heap.size, 0, none⟩) 1 1 [l.getD k 0] rfl rfl r1.out (by simp; omega) (by simp; omega) ?_)
           intro v1 w1 ho1 hg1 _
           have HB2 := Lib.hid (HO1.out.grown HB1.out hg1 (by simp; omega))
           have e2 := cell_later HB2.out (hr.at' k hlt)
           have HO2 := Lib.hid ho1
           clear ho1 hg1 HO1 HB1 r1))
        go_roundw
        case rel => exact ⟨k + 1, v1, by omega, by go_num, rfl, (show Hid _ from by show Ob _ _ _ _; rw [hst.out]; exact HO2.out), HB2⟩
        case measure => simp [RowKit.intOf]; omega
    · go_wp2
      go_ret
      have e : l.take k = l := List.take_of_length_le (by omega)
      rw [e] at HO
      exact ⟨v, rfl, HO.out, HB.out⟩
end Go.Proofs.YthidhgobocihpaaDoor
