/- The call octet.Turn. -/
import Derived.Test.YtdjpdpdaaahmiaaRev
namespace Go.Proofs.Ytdjpdpdaaahmiaa
open Go.RowKit
set_option linter.unusedVariables false

def turnF (l : List UInt8) (s a : Nat) : Nat → Int := fun i => if i < a then bt l (tix l.length s 1 i) else bt l i
theorem turnF_zero (l : List UInt8) (s : Nat) : turnF l s 0 = bt l := by funext i; unfold turnF; rw [if_neg (by omega)]
theorem mod_of {a s i : Nat} (ha : a % s = 0) (h1 : a ≤ i) (h2 : i < a + s) : i % s = i - a := by
  obtain ⟨q, rfl⟩ : ∃ q, a = s * q := ⟨a / s, by have := Nat.div_add_mod a s; omega⟩
  obtain ⟨r, rfl⟩ : ∃ r, i = s * q + r := ⟨i - s * q, by omega⟩
  rw [Nat.mul_add_mod, Nat.mod_eq_of_lt (by omega)]
  omega
theorem up_of {a s n : Nat} (h0 : 1 ≤ s) (ha : a % s = 0) (h : a + s ≤ n) : a + s ≤ n - n % s := by
  obtain ⟨q, rfl⟩ : ∃ q, a = s * q := ⟨a / s, by have := Nat.div_add_mod a s; omega⟩
  have h1 := Nat.div_add_mod n s
  have h2 : s * (q + 1) ≤ s * (n / s) := by
    apply Nat.mul_le_mul_left
    exact (Nat.le_div_iff_mul_le h0).2 (by rw [Nat.mul_comm, Nat.mul_add]; omega)
  rw [Nat.mul_add] at h2
  omega
theorem turnF_step (l : List UInt8) (s a : Nat) (hs : 1 ≤ s) (ha : a % s = 0) (h : a + s ≤ l.length) (i : Nat) (hi : i < l.length) : revF (turnF l s a) a s i = turnF l s (a + s) i := by
  have hu := up_of hs ha h
  unfold revF turnF
  by_cases h1 : a ≤ i ∧ i < a + s
  · have hm := mod_of ha h1.1 h1.2
    rw [if_pos h1, if_neg (by omega), if_pos h1.2]
    unfold tix
    rw [if_pos ⟨rfl, by omega⟩, hm]
    congr 1; omega
  · rw [if_neg h1]
    by_cases h2 : i < a
    · rw [if_pos h2, if_pos (by omega)]
    · rw [if_neg h2, if_neg (by omega)]
theorem turnF_end (l : List UInt8) (s a : Nat) (ha : a % s = 0) (hs : 1 ≤ s) (hl : a ≤ l.length) (h : l.length < a + s) (i : Nat) (hi : i < l.length) : turnF l s a i = bt (tpre l s 1 l.length) i := by
  have hm := mod_of ha hl h
  rw [bt_tpre l s 1 _ i hi]
  unfold turnF
  by_cases h2 : i < a
  · rw [if_pos h2]
  · rw [if_neg h2]
    unfold tix
    rw [if_neg (by omega)]

/-- n zero bytes. -/
def zeroRow (n : Nat) : Array Value := ((List.range n).map fun _ => Value.int .u8 0).toArray
theorem zero_made (n : Nat) : madeCells #[Value.int .u8 0] (n * 1) = zeroRow n := by
  apply Array.ext
  · simp [zeroRow, size_madeCells]
  · intro i h1 h2
    simp [zeroRow, madeCells, Nat.mod_one]
theorem run_makeB (n : Nat) (hn : n ≤ 65536) (w : World) :
    (Instr.makeSlice 22 (.int .i64 (n : Int)) (.int .i64 (n : Int))).run Try.prog w = .ok (.slice (some ⟨w.heap.size, 0, none⟩) n n) (w.alloc (.cells (zeroRow n) 5)) := by
  obtain ⟨i0, hi, hz0, hz1, hz2⟩ := info_parts Try.info5
  have hr := run_make (P := Try.prog) w 22 5 i0 (.int .u8 0) Try.underlying22 hi hz0 .i64 .i64 n n (by omega) (by omega) (by rw [hz2]; omega) (by omega)
  simp only [Int.toNat_natCast, hz1] at hr
  rw [← zero_made]
  exact hr
theorem Row.zero (w : World) (n : Nat) : Row (w.alloc (.cells (zeroRow n) 5)) w.heap.size n (fun _ => 0) := heap_alloc_new w _

theorem wpList_copyB (w : World) {ops : Array Oper} {rest : List Oper} {o : Oper} {a : Act} {Q : Exit → Act → World → Prop} (hgd : o.guard = none) (d s : Operand)
    (ho : o.op = .call { callee := .builtin .copy, args := #[d, s], argTypes := #[22, 22] })
    (g cd cs : Nat) (A : Option Addr) (l : List UInt8) (f : Nat → Int) (hd : a.eval d = .slice (some ⟨g, 0, none⟩) l.length cd) (hs : a.eval s = .slice A l.length cs)
    (hrow : Row w g l.length f) (hr : Rd w A l)
    (h : ∀ w', Row w' g l.length (bt l) → w.grownBy w' (some g) → wpList Try.prog ops Q rest (a.put o.dst (goInt l.length)) w') : wpList Try.prog ops Q (o :: rest) a w := by
  have hsz : (Try.prog.info? 5).map (·.size) = some 1 := by
    obtain ⟨i0, hi, _, hz1, _⟩ := info_parts Try.info5
    rw [hi]; simp [hz1]
  rcases Nat.eq_zero_or_pos l.length with h0 | h0
  · have hl : l = [] := List.eq_nil_of_length_eq_zero h0
    refine wpList_copy_nothing hgd d s 22 22 ho 5 Try.underlying22 hsz _ A _ cd _ cs hd hs (by simp [h0]) ?_
    have := h w (by rw [h0] at hrow ⊢; exact hrow) (World.grownBy.refl _ _)
    rw [h0] at this
    exact this
  · obtain ⟨b, off, rfl, hc⟩ := hr.resolve_left (fun e => by rw [e] at h0; simp at h0)
    have hcur : (((List.range l.length).map fun i => Value.int .u8 (f i)).toArray).size = l.length := by simp
    refine wpList_copy_own hgd d s 22 22 ho 5 Try.underlying22 hsz g 0 l.length cd ⟨b, off, none⟩ l.length cs hd hs _ 5 hrow (l.map bv) (by simp) (fun j v hv => ?_) (by simp) (bv_one l) ?_
    · obtain ⟨hj, rfl⟩ := bv_at hv
      rw [Addr.add_lit]
      exact hc j hj
    · have e : ((((List.range l.length).map fun i => Value.int .u8 (f i)).toArray).toList.take 0 ++ (l.map bv ++ (((List.range l.length).map fun i => Value.int .u8 (f i)).toArray).toList.drop (0 + (l.map bv).length))).toArray = ((List.range l.length).map fun i => Value.int .u8 (bt l i)).toArray := by
        have hd : (((List.range l.length).map fun i => Value.int .u8 (f i)).toArray).toList.drop (0 + (l.map bv).length) = [] := List.drop_eq_nil_of_le (by simp)
        rw [List.take_zero, hd, List.append_nil, List.nil_append]
        congr 1
        apply List.ext_getElem
        · simp
        · intro i h1 h2
          simp at h1 ⊢
          exact bv_bt l i h1
      rw [e, List.length_map]
      exact h _ (setRow_heap w g _ _ 5 _ hrow) ⟨rfl, rfl, rfl, by simp, fun k _ hk => setRow_other w g k _ (fun e => hk (by simp [e]))⟩
set_option maxRecDepth 100000 in
set_option maxHeartbeats 1600000 in
theorem oTurn_2 (l : List UInt8) (A : Option Addr) (c s : Nat) (w : World) (hr : Rd w A l) (hl : l.length ≤ 65536) (hb : sizeB s 8 = true) :
    Calls Try.prog 11 #[.slice A l.length c, .int .i64 s, .int .i64 2] w fun e w' => ∃ v, e = .returned v ∧ Ob w' w.heap.size v l ∧ Below w.heap.size w w' := by
  have hd : decide ((2 : Int) = 1 ∨ (2 : Int) = 2) = true := rfl
  have hmk := run_makeB l.length hl
  go_enter Try.func11, Try.ntmps11
  go_wp2_with (first
    | (go_at_call 27; (with_reducible refine (isSize_any s 8 _).mono ?_); rintro e w1 ⟨rfl, hw1⟩)
    | (go_at_call 28; (with_reducible refine (isOrder_any 2 _).mono ?_); rintro e w2 ⟨rfl, rfl⟩)
    | ((with_reducible refine wpList_copyB _ rfl (.tmp 20) (.tmp 21) rfl w1.heap.size l.length c A l (fun _ => 0) rfl rfl (Row.zero _ _) ((hr.below hw1).alloc _) ?_); intro w3 hrow hg))
  go_ret
  exact ⟨_, rfl, hrow.ob hw1.size (by unfold maxLen; omega) fun _ _ => rfl, ((hw1.alloc hw1.size _).grown hg (by simp; have := hw1.size; omega) (by rintro k ⟨⟩; exact hw1.size))⟩

set_option maxRecDepth 100000 in
set_option maxHeartbeats 1600000 in
theorem oTurn_1 (l : List UInt8) (A : Option Addr) (c s : Nat) (w : World) (hr : Rd w A l) (hl : l.length ≤ 65536) (h1 : 1 ≤ s) (h8 : s ≤ 8) (hb : sizeB s 8 = true) :
    Calls Try.prog 11 #[.slice A l.length c, .int .i64 s, .int .i64 1] w fun e w' => ∃ v, e = .returned v ∧ Ob w' w.heap.size v (tpre l s 1 l.length) ∧ Below w.heap.size w w' := by
  have hd : decide ((1 : Int) = 1 ∨ (1 : Int) = 2) = true := rfl
  have hmk := run_makeB l.length hl
  go_enter Try.func11, Try.ntmps11
  go_wp2_with (first
    | (go_at_call 27; (with_reducible refine (isSize_any s 8 _).mono ?_); rintro e w1 ⟨rfl, hw1⟩)
    | (go_at_call 28; (with_reducible refine (isOrder_any 1 _).mono ?_); rintro e w2 ⟨rfl, rfl⟩)
    | ((with_reducible refine wpList_copyB _ rfl (.tmp 20) (.tmp 21) rfl w1.heap.size l.length c A l (fun _ => 0) rfl rfl (Row.zero _ _) ((hr.below hw1).alloc _) ?_); intro w3 hrow0 hg0))
  have hb3 : Below w.heap.size w w3 := (hw1.alloc hw1.size _).grown hg0 (by simp; have := hw1.size; omega) (by rintro k ⟨⟩; exact hw1.size)
  have hsz := hw1.size
  go_loopw [8] (fun i wr => ∃ a : Nat, a ≤ l.length ∧ Hid (a % s = 0) ∧ i = .int .i64 a ∧ Row wr w1.heap.size l.length (turnF l s a) ∧ Below w.heap.size w wr) (fun i _ => l.length - (intOf i).toNat)
  case atStart => exact ⟨0, Nat.zero_le _, Nat.zero_mod s, rfl, by rw [turnF_zero]; exact hrow0, hb3⟩
  case round =>
    obtain ⟨a, ha, HM, rfl, hrow, hbel⟩ := hrel
    by_cases hlt : a + s ≤ l.length
    · have hroom : roomB a s l.length = true := by simp [roomB]; omega
      go_wp2_with (first
        | (go_at_call 23; (with_reducible refine (oRoom_any a s l.length _ (by omega)).mono ?_); rintro e w2 ⟨rfl, rfl⟩)
        | (go_at_call 31; (with_reducible refine (reverse_any w1.heap.size a s (l.length - a) l.length (turnF l s a) _ hrow (by omega) (by omega) (by omega)).mono ?_); rintro e w4 ⟨rfl, hrow4, hg4⟩))
      go_roundw
      case rel =>
        refine ⟨a + s, by omega, ?_, by go_num, ?_, hbel.grown hg4 hbel.size (by rintro k ⟨⟩; exact hsz)⟩
        · show (a + s) % s = 0
          rw [Nat.add_mod_right]; exact HM.out
        · exact hrow4.congr fun i hi => turnF_step l s a h1 HM.out hlt i hi
      case measure => simp [intOf]; omega
    · have hroom : roomB a s l.length = false := by simp [roomB]; omega
      go_wp2_with (go_at_call 23; (with_reducible refine (oRoom_any a s l.length _ (by omega)).mono ?_); rintro e w2 ⟨rfl, rfl⟩)
      go_ret
      have e : (tpre l s 1 l.length).length = l.length := tpre_len _ _ _ _
      have hr' := hrow.congr (fun i hi => turnF_end l s a HM.out h1 ha (by omega) i hi)
      rw [← e] at hr'
      have ho := Row.ob (base := w.heap.size) hr' hsz (by rw [e]; unfold maxLen; omega) (fun i _ => by rw [e])
      rw [e] at ho
      exact ⟨_, rfl, ho, hbel⟩

theorem oTurn_no (l : List UInt8) (A : Option Addr) (c : Nat) (s o : Int) (w : World) (h : ¬ okTurn s o) :
    Calls Try.prog 11 #[.slice A l.length c, .int .i64 s, .int .i64 o] w fun e w' => e = .returned (.slice none 0 0) ∧ Below w.heap.size w w' := by
  by_cases hs : okSize s ∨ s = 8
  · have hb : sizeB s 8 = true := by unfold okSize at hs; simp [sizeB]; omega
    have hd : decide (o = 1 ∨ o = 2) = false := by simp only [decide_eq_false_iff_not]; exact fun e => h ⟨hs, e⟩
    clear h hs
    go_enter Try.func11, Try.ntmps11
    go_wp2_with (first
      | (go_at_call 27; (with_reducible refine (isSize_any s 8 _).mono ?_); rintro e w1 ⟨rfl, hw1⟩)
      | (go_at_call 28; (with_reducible refine (isOrder_any o _).mono ?_); rintro e w2 ⟨rfl, rfl⟩))
    go_ret
    exact ⟨rfl, hw1⟩
  · have hb : sizeB s 8 = false := by unfold okSize at hs; simp only [sizeB, decide_eq_false_iff_not]; omega
    clear h hs
    go_enter Try.func11, Try.ntmps11
    go_wp2_with (go_at_call 27; (with_reducible refine (isSize_any s 8 _).mono ?_); rintro e w1 ⟨rfl, hw1⟩)
    go_ret
    exact ⟨rfl, hw1⟩

theorem oTurn_any (l : List UInt8) (A : Option Addr) (c : Nat) (s o : Int) (w : World) (hr : Rd w A l) (hl : l.length ≤ 65536) :
    Calls Try.prog 11 #[.slice A l.length c, .int .i64 s, .int .i64 o] w fun e w' => ∃ v, e = .returned v ∧ Ob w' w.heap.size v (turnL l s o) ∧ Below w.heap.size w w' := by
  by_cases h : okTurn s o
  · rw [turnL_yes h]
    obtain ⟨hs, ho⟩ := h
    obtain ⟨k, rfl⟩ := Int.eq_ofNat_of_zero_le (show 0 ≤ s by unfold okSize at hs; omega)
    have hk : 1 ≤ k ∧ k ≤ 8 := by unfold okSize at hs; omega
    have hb : sizeB k 8 = true := by unfold okSize at hs; simp [sizeB]; omega
    rw [Int.toNat_natCast]
    rcases ho with rfl | rfl
    · exact oTurn_1 l A c k w hr hl hk.1 hk.2 hb
    · rw [tpre_two]
      exact oTurn_2 l A c k w hr hl hb
  · rw [turnL_no h]
    exact (oTurn_no l A c s o w h).mono fun e w' ⟨he, hw⟩ => ⟨_, he, Ob.nil _ _, hw⟩
end Go.Proofs.Ytdjpdpdaaahmiaa
