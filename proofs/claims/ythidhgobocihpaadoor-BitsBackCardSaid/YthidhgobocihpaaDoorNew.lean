/- Contracts of bits.Plain, bits.New; a Reader in memory. -/
import Derived.Test.YthidhgobocihpaaDoorStf
namespace Go.Proofs.YthidhgobocihpaaDoor
open Go.RowKit Go.Lib
set_option linter.unusedVariables false

theorem winA_none {A : Option Addr} {c x : Nat} (hA : A = none → c = 0) : winA A c x = none → c = 0 := by
  intro h
  apply hA
  unfold winA at h
  split at h
  · exact h
  · cases A with
    | none => rfl
    | some a => cases h
theorem unst_n (l : List UInt8) (A : Option Addr) (n c : Nat) (w : World) (hn : n = l.length) (hw : Env w) (hr : Rd w A l) (hcap : n ≤ c) (hA : A = none → c = 0) (hl : n ≤ 100000000) :
    Calls Tryd.prog 28 #[.slice A n c] w fun e w' => ∃ v, e = .returned v ∧ Ob w' w.heap.size v (ustF false l) ∧ Below w.heap.size w w' := by
  subst hn; exact unst_any l A c w hw hr hcap hA hl

theorem plain_yes (l : List UInt8) (A : Option Addr) (c : Nat) (w : World) (hw : Env w) (hr : Rd w A l) (hcap : l.length ≤ c) (hA : A = none → c = 0) (hl : l.length ≤ 100000000) (hd : Hid (dat l = l.length)) :
    Calls Tryd.prog 16 #[.slice A l.length c] w fun e w' => ∃ v, e = .returned (.tuple #[v, .bool true]) ∧ Ob w' w.heap.size v (ustF false l) ∧ Below w.heap.size w w' := by
  have h := dataLen_any l A c w hr hcap hl
  rw [hd.out] at h
  go_enter Tryd.func16, Tryd.ntmps16
  go_wp2_with fail
  (with_reducible refine h.mono ?_); rintro e w1 ⟨rfl, h1⟩
  go_wp2_with fail
  (with_reducible refine (unst_any l A c _ (hw.below h1) (hr.below h1) hcap hA hl).mono ?_); rintro e w2 ⟨v, rfl, hv, h2⟩
  go_wp2
  go_ret2
  exact ⟨v, rfl, hv.mono h1.size, h1.trans (h2.mono h1.size)⟩
theorem plain_no (l : List UInt8) (A : Option Addr) (c : Nat) (w : World) (hr : Rd w A l) (hcap : l.length ≤ c) (hl : l.length ≤ 100000000) (hd : dat l < l.length) :
    Calls Tryd.prog 16 #[.slice A l.length c] w fun e w' => e = .returned (.tuple #[.slice none 0 0, .bool false]) ∧ Below w.heap.size w w' := by
  have h := dataLen_any l A c w hr hcap hl
  go_enter Tryd.func16, Tryd.ntmps16
  go_wp2_with fail
  (with_reducible refine h.mono ?_); rintro e w1 ⟨rfl, h1⟩
  go_wp2
  go_ret2
  exact ⟨rfl, h1⟩

/-- A Reader in block q: its bytes, the bit that is next. -/
structure Rdr (w : World) (q : Nat) (d : List UInt8) (k : Nat) : Prop where
  ex : ∃ A c, w.cell? ⟨q, 0, none⟩ = some (.slice A d.length c) ∧ d.length ≤ c ∧ Rd w A d ∧ (∀ b o s, A = some ⟨b, o, s⟩ → b ≠ q ∧ b < w.heap.size)
  nx : w.cell? ⟨q, 1, none⟩ = some (.int .i64 k)
  fr : w.frozen? ⟨q, 1, none⟩ = false
theorem Rdr.lt {w : World} {q : Nat} {d : List UInt8} {k : Nat} (h : Rdr w q d k) : q < w.heap.size := World.block_lt_of_cell? w _ h.nx
theorem Rdr.below {w w' : World} {q : Nat} {d : List UInt8} {k : Nat} (h : Rdr w q d k) (hb : Below w.heap.size w w') : Rdr w' q d k := by
  obtain ⟨A, c, h1, h2, h3, h4⟩ := h.ex
  exact ⟨⟨A, c, cell_later hb h1, h2, h3.below hb, fun b o s e => ⟨(h4 b o s e).1, Nat.lt_of_lt_of_le (h4 b o s e).2 hb.size⟩⟩, cell_later hb h.nx, (hb.frozen (p := ⟨q, 1, none⟩) h.lt).trans h.fr⟩

theorem new_any (l : List UInt8) (A : Option Addr) (c : Nat) (w : World) (hw : Env w) (hr : Rd w A l) (hcap : l.length ≤ c) (hA : A = none → c = 0) (hl : l.length ≤ 100000000) :
    Calls Tryd.prog 14 #[.slice A l.length c] w fun e w' => ∃ q, e = .returned (.pointer (some ⟨q, 0, none⟩)) ∧ Rdr w' q (ustF false (l.take (dat l))) 0 ∧ w.heap.size ≤ q ∧ Below w.heap.size w w' := by
  have h := dataLen_any l A c w hr hcap hl
  have hd := dat_le l
  have hs := fun W => run_win_h A l.length c (dat l) (dat l : Int) rfl (by omega) W
  have rW := Lib.hid (by have := hr.win c 0 (dat l) hcap; rwa [List.drop_zero] at this : Rd w (winA A c 0) (l.take (dat l)))
  have hn : Hid (dat l = (l.take (dat l)).length) := by show _ = _; rw [List.length_take]; omega
  have hA2 := Lib.hid (winA_none (x := 0) hA)
  go_enter Tryd.func14, Tryd.ntmps14
  go_wp2_with fail
  (with_reducible refine h.mono ?_); rintro e w1 ⟨rfl, h1⟩
  go_wp2_with fail
  (with_reducible refine (unst_n (l.take (dat l)) (winA A c 0) (dat l) c _ hn.out (hw.below h1) (rW.out.below h1) (by omega) hA2.out (by omega)).mono ?_); rintro e w2 ⟨v, rfl, hv, h2⟩
  obtain ⟨A3, c3, rfl, hc3, _, r3, hb3, _⟩ := hv.open'
  clear hv
  go_wp2
  go_ret
  have hb2 : Below w.heap.size w w2 := h1.trans (h2.mono h1.size)
  refine ⟨w2.heap.size, rfl, ⟨⟨A3, c3, by go_cell, hc3, r3.alloc _, fun b o s e => by have := hb3 b o s e; simp; omega⟩, by go_cell, by go_cell⟩, hb2.size, hb2.alloc hb2.size _⟩
end Go.Proofs.YthidhgobocihpaaDoor
