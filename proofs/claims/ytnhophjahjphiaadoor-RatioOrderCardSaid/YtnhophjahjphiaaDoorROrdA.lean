/- RatioOrder: what the walk asks of the numbers; what is kept of the memory. -/
import Derived.Test.YtnhophjahjphiaaDoorRAwake
namespace Go.Proofs.YtnhophjahjphiaaDoor
open Go.RowKit
set_option linter.unusedVariables false

theorem cmpOk_swap (a b c d : Int) : cmpOk c d a b = cmpOk a b c d := by unfold cmpOk; exact Bool.and_comm _ _
theorem cmpV_swap (a b c d : Int) : cmpV c d a b = - cmpV a b c d := by
  unfold cmpV
  rw [cmpOk_swap a b c d]
  split
  · exact cmpR_swap _ _ _ _
  · rfl
theorem cmpV_rng (a b c d : Int) : -1 ≤ cmpV a b c d ∧ cmpV a b c d ≤ 1 := by
  unfold cmpV
  split
  · exact cmpR_rng _ _ _ _
  · omega
theorem cmpV_no {a b c d : Int} (h : cmpOk a b c d = false) : cmpV a b c d = 0 := by unfold cmpV; rw [h]; rfl
theorem cmpOk_iff {a b c d : Int} : cmpOk a b c d = true ↔ hasB a b = true ∧ hasB c d = true := by unfold cmpOk; rw [Bool.and_eq_true]

/-- One order: through three, and as much is as much in least terms. -/
theorem order_pure {an ad bn bd cn cd : Int} (p : cmpOk an ad bn bd = true) (q : cmpOk bn bd cn cd = true) :
    cmpOk an ad cn cd = true ∧ (cmpV an ad bn bd ≤ 0 → cmpV bn bd cn cd ≤ 0 → cmpV an ad cn cd ≤ 0) ∧ (0 ≤ cmpV an ad bn bd → 0 ≤ cmpV bn bd cn cd → 0 ≤ cmpV an ad cn cd) ∧
    (cmpV an ad bn bd = 0 → cmpV bn bd cn cd = cmpV an ad cn cd) ∧ (cmpV bn bd cn cd = 0 → cmpV an ad bn bd = cmpV an ad cn cd) ∧
    (cmpV an ad bn bd = 0 ↔ (lstN an ad = lstN bn bd ∧ lstD an ad = lstD bn bd)) ∧ 0 < lstD an ad ∧ hasB an ad = true ∧ hasB bn bd = true := by
  obtain ⟨ha, hb⟩ := cmpOk_iff.1 p
  obtain ⟨_, hc⟩ := cmpOk_iff.1 q
  have a0 := (hasB_iff.1 ha).2
  have b0 := (hasB_iff.1 hb).2
  have c0 := (hasB_iff.1 hc).2
  have r : cmpOk an ad cn cd = true := cmpOk_iff.2 ⟨ha, hc⟩
  obtain ⟨t1, t2, t3, t4⟩ := cmpR_three an ad bn bd cn cd a0 b0 c0
  refine ⟨r, ?_, ?_, ?_, ?_, ?_, ?_, ha, hb⟩
  · unfold cmpV; rw [if_pos p, if_pos q, if_pos r]; exact t1
  · unfold cmpV; rw [if_pos p, if_pos q, if_pos r]; exact t2
  · unfold cmpV; rw [if_pos p, if_pos q, if_pos r]; exact t3
  · unfold cmpV; rw [if_pos p, if_pos q, if_pos r]; exact t4
  · unfold cmpV lstN lstD; rw [if_pos p, if_pos ha, if_pos hb, if_pos ha, if_pos hb]; exact least_eq_iff an bn a0 b0
  · unfold lstD; rw [if_pos ha]; exact leastD_pos an a0
/-- A ratio is as much as itself in least terms, where these may be. -/
theorem self_pure {n d : Int} (h : hasB n d = true) (k : validB (lstN n d) (lstD n d) = true) : cmpOk n d (lstN n d) (lstD n d) = true ∧ cmpV n d (lstN n d) (lstD n d) = 0 := by
  have d0 := (hasB_iff.1 h).2
  have e : lstN n d = leastN n d ∧ lstD n d = leastD n d := by unfold lstN lstD; rw [if_pos h, if_pos h]; exact ⟨rfl, rfl⟩
  rw [e.1, e.2] at k ⊢
  have p : cmpOk n d (leastN n d) (leastD n d) = true := cmpOk_iff.2 ⟨h, hasB_iff.2 ⟨k, by have := leastD_pos n d0; omega⟩⟩
  refine ⟨p, ?_⟩
  unfold cmpV
  rw [if_pos p]
  exact cmpR_least n d0

/-- What is kept: three ratios. -/
structure K3 (w0 : World) (an ad bn bd cn cd : Int) (w : World) : Prop where
  a : Bx w w0.heap.size an ad
  b : Bx w (w0.heap.size + 1) bn bd
  c : Bx w (w0.heap.size + 1 + 1) cn cd
  g : Below w0.heap.size w0 w
theorem K3.call {w0 w w' : World} {an ad bn bd cn cd : Int} (h : K3 w0 an ad bn bd cn cd w) (hb : Below w.heap.size w w') : K3 w0 an ad bn bd cn cd w' := ⟨h.a.below hb, h.b.below hb, h.c.below hb, bstep h.g hb⟩
theorem K3.alloc {w0 w : World} {an ad bn bd cn cd : Int} (h : K3 w0 an ad bn bd cn cd w) (o : Obj) : K3 w0 an ad bn bd cn cd (w.alloc o) := h.call ((Below.refl _ _).alloc (Nat.le_refl _) o)
theorem text_isE {n d : Int} (h : validB n d = false) : (strB (textL n d)).toList.isEmpty = true := by
  rw [Lib.toList_data, strB_list, text_empty.2 h]; rfl
theorem text_nonE {n d : Int} (h : validB n d = true) : (strB (textL n d)).toList.isEmpty = false := by
  rw [Lib.toList_data, strB_list]
  cases e : textL n d with
  | nil => rw [text_empty.1 e] at h; cases h
  | cons _ _ => rfl
theorem text_pr {n d : Int} (h : validB n d = true) : prN (parseP (textL n d)) = n ∧ prD (parseP (textL n d)) = d ∧ (parseP (textL n d)).isSome = true := by
  rw [parse_text h]; exact ⟨rfl, rfl, rfl⟩
theorem K3.new (w : World) (an ad bn bd cn cd : Int) (T U V : TypeId) : K3 w an ad bn bd cn cd (((w.alloc (.cells #[.int .i64 an, .int .i64 ad] T)).alloc (.cells #[.int .i64 bn, .int .i64 bd] U)).alloc (.cells #[.int .i64 cn, .int .i64 cd] V)) := by
  obtain ⟨h1, h2⟩ := Bx.two w an ad bn bd T U
  refine ⟨h1.alloc _, h2.alloc _, ?_, ?_⟩
  · have := Bx.new ((w.alloc (.cells #[.int .i64 an, .int .i64 ad] T)).alloc (.cells #[.int .i64 bn, .int .i64 bd] U)) cn cd V
    rw [sz_alloc, sz_alloc] at this
    exact this
  · go_grown
end Go.Proofs.YtnhophjahjphiaaDoor
