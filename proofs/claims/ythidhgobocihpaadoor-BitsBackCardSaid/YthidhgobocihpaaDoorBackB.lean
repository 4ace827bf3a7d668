/- What the law BitsBack asks of its calls: two Writers beside each other; what is put is taken. -/
import Derived.Test.YthidhgobocihpaaDoorReads
namespace Go.Proofs.YthidhgobocihpaaDoor
open Go.RowKit Go.Lib
set_option linter.unusedVariables false

/-- Two Writers that share nothing. -/
def Tw (w : World) (base p : Nat) (B : List Int) (r : Nat) (C : List Int) : Prop :=
  ∃ g h, Wtr w base p B g ∧ Wtr w base r C h ∧ p ≠ r ∧ g ≠ some r ∧ h ≠ some p ∧ ∀ k, g = some k → h ≠ some k
theorem Tw.swap {w : World} {base p r : Nat} {B C : List Int} (h : Hid (Tw w base p B r C)) : Hid (Tw w base r C p B) := by
  obtain ⟨g, h, h1, h2, h3, h4, h5, h6⟩ := h
  exact ⟨h, g, h2, h1, h3.symm, h5, h4, fun k e e2 => h6 k e2 e⟩
theorem Tw.on {w w' : World} {base p r : Nat} {B C : List Int} (h : Hid (Tw w base p B r C)) (hb : Below w.heap.size w w') : Hid (Tw w' base p B r C) := by
  obtain ⟨g, h, h1, h2, h3⟩ := h
  exact ⟨g, h, h1.below hb, h2.below hb, h3⟩
theorem Tw.fst {w : World} {base p r : Nat} {B C : List Int} (h : Hid (Tw w base p B r C)) : Hid (∃ g, Wtr w base p B g) := by
  obtain ⟨g, h, h1, h2, h3⟩ := h
  exact ⟨g, h1⟩
theorem Tw.snd {w : World} {base p r : Nat} {B C : List Int} (h : Hid (Tw w base p B r C)) : Hid (∃ g, Wtr w base r C g) := Tw.fst (Tw.swap h)
theorem Tw.bit {w : World} {base p r : Nat} {B C : List Int} (h : Hid (Tw w base p B r C)) : Bit B := by
  obtain ⟨g, h, h1, _⟩ := h
  exact h1.bit
theorem Tw.put {w : World} {base p r : Nat} {B C : List Int} (x : Int) (m : Nat) (h : Hid (Tw w base p B r C)) (hm : m ≤ 16) (hl : B.length ≤ 10000000) (hbw : base ≤ w.heap.size) :
    Calls Tryd.prog 8 #[.pointer (some ⟨p, 0, none⟩), .int .i64 x, .int .i64 m] w fun e w' => e = .returned (.bool true) ∧ Hid (Tw w' base p (B ++ lo x m) r C) ∧ Below base w w' := by
  obtain ⟨g, h, h1, h2, h3, h4, h5, h6⟩ := h
  refine (put_yes base p B g x m w h1 hm hl hbw).mono ?_
  rintro e w' ⟨g', rfl, q1, q2, q3⟩
  have hr := h2.lt
  refine ⟨rfl, ⟨g', h, q1, h2.chg q3 ?_ ?_, h3, ?_, h5, ?_⟩, q3.below hbw fun i hi => ?_⟩
  · rintro (e | e)
    · exact h3 e.symm
    · exact h4 e
  · intro k hk e
    rcases e with rfl | e
    · exact h5 hk
    · exact h6 k e hk
  · rcases q2 with rfl | ⟨j, q2, q4⟩
    · exact h4
    · rw [q2]; intro e; injection e with e; omega
  · intro k hk e
    rcases q2 with rfl | ⟨j, q2, q4⟩
    · exact h6 k hk e
    · have := (h2.gt k e).2
      rw [q2] at hk; injection hk with hk; omega
  · rcases hi with rfl | hi
    · exact h1.bp
    · exact (h1.gt i hi).1
theorem Tw.put2 {w : World} {base p r : Nat} {B C : List Int} (x : Int) (m : Nat) (h : Hid (Tw w base p B r C)) (hm : m ≤ 16) (hl : C.length ≤ 10000000) (hbw : base ≤ w.heap.size) :
    Calls Tryd.prog 8 #[.pointer (some ⟨r, 0, none⟩), .int .i64 x, .int .i64 m] w fun e w' => e = .returned (.bool true) ∧ Hid (Tw w' base p B r (C ++ lo x m)) ∧ Below base w w' := by
  refine (Tw.put x m (Tw.swap h) hm hl hbw).mono ?_
  rintro e w' ⟨rfl, h1, h2⟩
  exact ⟨rfl, Tw.swap h1, h2⟩
theorem Tw.start (w : World) (T : TypeId) : Tw ((w.alloc (.cells #[.slice none 0 0, .int .u32 0, .int .i64 0] T)).alloc (.cells #[.slice none 0 0, .int .u32 0, .int .i64 0] T)) w.heap.size w.heap.size [] (w.heap.size + 1) [] := by
  have h2 := Wtr.fresh (w.alloc (.cells #[.slice none 0 0, .int .u32 0, .int .i64 0] T)) T
  rw [World.size_alloc] at h2
  exact ⟨none, none, (Wtr.fresh w T).below ((Below.refl _ _).alloc (Nat.le_refl _) _), h2.mono (by omega), by omega, by simp, by simp, fun k h => by cases h⟩

/-- What stands at a deed's bits. -/
theorem deeds_split (l : List (Int × Int)) (k : Nat) (h : k < l.length) : deeds l = deeds (l.take k) ++ deed (l.getD k (0, 0)) ++ deeds (l.drop (k + 1)) := by
  have e : l = (l.take k ++ [l.getD k (0, 0)]) ++ l.drop (k + 1) := by
    rw [← take_snoc l k h (0, 0), List.take_append_drop]
  conv => lhs; rw [e]
  simp [deeds]
theorem deed_at (l : List (Int × Int)) (k : Nat) (h : k < l.length) (x : Int) (m : Nat) (hm : m ≤ 16) (hd : l.getD k (0, 0) = (x, (m : Int))) :
    val (((pad (deeds l)).drop (deeds (l.take k)).length).take m) = x % 2 ^ m ∧ (deeds (l.take k)).length + m ≤ (deeds l).length ∧ (deeds (l.take (k + 1))).length = (deeds (l.take k)).length + m := by
  have e := deeds_split l k h
  have e2 := deeds_succ l k h
  rw [hd, deed_yes x m hm] at e e2
  refine ⟨?_, ?_, ?_⟩
  · unfold pad
    rw [e, List.append_assoc, List.append_assoc, List.append_assoc, List.drop_left, List.take_append_of_le_length (by simp), List.take_of_length_le (by simp), val_lo]
  · rw [e]; simp
  · rw [e2]; simp
theorem deed_skip (l : List (Int × Int)) (k : Nat) (h : k < l.length) (hd : (l.getD k (0, 0)).2 < 0 ∨ 16 < (l.getD k (0, 0)).2) : deeds (l.take (k + 1)) = deeds (l.take k) := by
  rw [deeds_succ l k h, deed_no hd, List.append_nil]
theorem read_back {B : List Int} (hb : Bit B) : ustF false ((stf (pack (pad B))).take (dat (stf (pack (pad B))))) = pack (pad B) ∧ bitsOf (pack (pad B)) = pad B := by
  refine ⟨?_, bitsOf_pack (pad_bit hb) (pad_8 B)⟩
  rw [stf_head, List.take_length, ust_stf]
theorem fill_pad {B : List Int} (hb : Bit B) : fillB ((pad B).drop B.length) = true := by
  unfold pad fillB
  rw [List.drop_left]
  have : padN B.length < 8 := by unfold padN; omega
  simp [this]
theorem ff_next {l R : List UInt8} (h : stf l = R) {i : Nat} (hi : i < R.length) (h5 : bt R i = 255) : i + 1 < R.length ∧ bt R (i + 1) = 0 := by
  have h1 : R[i]? = some 255 := by
    rw [List.getElem?_eq_getElem hi, (bt_255 hi).1 h5]
  rw [← h] at h1
  have h2 := stf_ff l i h1
  rw [h] at h2
  obtain ⟨h3, h4⟩ := List.getElem?_eq_some_iff.1 h2
  exact ⟨h3, (bt_0 h3).2 h4⟩
end Go.Proofs.YthidhgobocihpaaDoor
