/- Contracts of the document's Lowest, Number, Bits, Bytes: bits as ints. -/
import Derived.Test.YthidhgobocihpaaDoorRef4
namespace Go.Proofs.YthidhgobocihpaaDoor
open Go.RowKit Go.Lib
set_option linter.unusedVariables false

theorem and_mask (n m : Int) (j : Nat) (h : (BitVec.ofInt 64 m).toNat = 2 ^ j - 1) (h64 : (2 : Int) ^ j ∣ 18446744073709551616) (hj : (2 : Int) ^ j ≤ 9223372036854775808) : bits .and .i64 n m = n % 2 ^ j := by
  have key : (BitVec.ofInt 64 n &&& BitVec.ofInt 64 m).toNat = (n % ((2 ^ 64 : Nat) : Int)).toNat % 2 ^ j := by
    rw [BitVec.toNat_and, BitVec.toNat_ofInt, h, Nat.and_two_pow_sub_one_eq_mod]
  show IntKind.i64.wrap ((BitVec.ofInt 64 n &&& BitVec.ofInt 64 m).toNat : Nat) = n % 2 ^ j
  rw [key, IntKind.wrap_i64]
  have hp : (0 : Int) < 2 ^ j := Int.pow_pos (by decide)
  have h1 : ((((n % ((2 ^ 64 : Nat) : Int)).toNat % 2 ^ j : Nat)) : Int) = n % 2 ^ j := by
    rw [Int.natCast_emod, Int.toNat_of_nonneg (Int.emod_nonneg _ (by decide))]
    rw [show (((2 ^ j : Nat)) : Int) = (2 : Int) ^ j from by simp]
    exact Int.emod_emod_of_dvd n h64
  rw [h1]
  have := Int.emod_nonneg n (show (2 : Int) ^ j ≠ 0 by omega)
  have := Int.emod_lt_of_pos n hp
  omega
theorem and1 (n : Int) : bits .and .i64 n 1 = n % 2 := and_mask n 1 1 (by decide) (by decide) (by decide)

theorem lo_take {v : Int} {n k : Nat} (h : k < n) : (lo v n).take (k + 1) = (lo v n).take k ++ [v / 2 ^ (n - 1 - k) % 2] := by
  rw [List.take_add_one, lo_get h]
  rfl
set_option maxHeartbeats 800000 in
theorem lowest_any (v : Int) (n : Nat) (w : World) (hn : n ≤ 16) :
    Calls Tryd.prog 9 #[.int .i64 v, .int .i64 n] w fun e w' => ∃ u, e = .returned u ∧ Oi w' w.heap.size u (lo v n) ∧ Below w.heap.size w w' := by
  go_enter Tryd.func9, Tryd.ntmps9
  go_wp2
  go_loopw [5, 6] (fun o i wr => ∃ (k : Nat) (u : Value), k ≤ n ∧ i = .int .i64 ((n : Int) - 1 - k) ∧ u = o ∧ Hid (Oi wr w.heap.size u ((lo v n).take k)) ∧ Hid (Below w.heap.size w wr)) (fun _ i _ => (RowKit.intOf i + 1).toNat)
  case atStart => exact ⟨0, _, Nat.zero_le _, by go_num, rfl, Oi.nil _ _, Below.refl _ _⟩
  case round =>
    obtain ⟨k, u, hk, rfl, rfl, HO, HB⟩ := hrel
    by_cases hlt : k < n
    · have z := HB.out.size
      have htk : ((lo v n).take k).length ≤ k := List.length_take_le ..
      have HS := Lib.hid (lo_take (v := v) hlt)
      have r1 := Lib.hid (Ri.one wr 3 (bits BinOp.and IntKind.i64 (v / 2 ^ (n - 1 - k)) 1))
      have HO1 := Lib.hid (HO.out.alloc (.cells #[.int .i64 (bits BinOp.and IntKind.i64 (v / 2 ^ (n - 1 - k)) 1)] 3))
      have HB1 := Lib.hid (HB.out.alloc z (.cells #[.int .i64 (bits BinOp.and IntKind.i64 (v / 2 ^ (n - 1 - k)) 1)] 3))
      clear HO HB
      go_wp2_with (
        ((with_reducible refine wpList_appI _ rfl (.tmp 13) (.tmp 18) rfl w.heap.size u ((lo v n).take k) rfl HO1.out (some ⟨wr.heap.size, 0, none⟩) 1 1 [bits BinOp.and IntKind.i64 (v / 2 ^ (n - 1 - k)) 1] rfl rfl r1.out (by simp; omega) (by simp; omega) ?_)
         intro v1 w1 ho1 hg1 _
         have HB2 := Lib.hid (HO1.out.grown HB1.out hg1 (by simp; omega))
         rw [and1] at ho1
         have HO2 := Lib.hid ho1
         clear ho1 hg1 HO1 HB1 r1))
      go_roundw
      case rel => exact ⟨k + 1, v1, by omega, by go_num, rfl, (show Hid _ from by show Oi _ _ _ _; rw [HS.out]; exact HO2.out), HB2⟩
      case measure => simp [RowKit.intOf]; omega
    · have e : (lo v n).take k = lo v n := List.take_of_length_le (by rw [lo_len]; omega)
      rw [e] at HO
      clear e
      go_wp2
      go_ret
      exact ⟨u, rfl, HO.out, HB.out⟩

theorem Ri.at {w : World} {A : Option Addr} {l : List Int} (h : Ri w A l) (hn : 0 < l.length) : ∃ b o, A = some ⟨b, o, none⟩ ∧ ∀ i, i < l.length → w.cell? ⟨b, o + i, none⟩ = some (.int .i64 (l.getD i 0)) :=
  h.resolve_left fun e => by rw [e] at hn; simp at hn
theorem getB {l : List Int} (h : Bit l) (k : Nat) : 0 ≤ l.getD k 0 ∧ l.getD k 0 ≤ 1 := by
  rw [List.getD_eq_getElem?_getD]
  rcases Nat.lt_or_ge k l.length with h1 | h1
  · rw [List.getElem?_eq_getElem h1]
    have := h l[k] (List.getElem_mem h1)
    show 0 ≤ l[k] ∧ l[k] ≤ 1
    omega
  · rw [List.getElem?_eq_none h1]; decide
theorem val_take_succ {l : List Int} {k : Nat} (h : k < l.length) : val (l.take (k + 1)) = 2 * val (l.take k) + l.getD k 0 := by rw [take_snoc l k h 0, val_snoc]
theorem val_small {l : List Int} (h : Bit l) {k : Nat} (hk : l.length ≤ k) : 0 ≤ val l ∧ val l < 2 ^ k := by
  have h1 := val_rng h
  have h3 : (2 : Int) ^ l.length ≤ 2 ^ k := by exact_mod_cast Nat.pow_le_pow_right (by decide : 0 < 2) hk
  omega
theorem number_any (l : List Int) (A : Option Addr) (n c : Nat) (w : World) (hn : n = l.length) (hr : Ri w A l) (hb : Bit l) (hl : n ≤ 16) :
    Calls Tryd.prog 22 #[.slice A n c] w fun e w' => e = .returned (.int .i64 (val l)) ∧ w = w' := by
  subst hn
  go_enter Tryd.func22, Tryd.ntmps22
  go_wp2
  go_loop [3, 4] (fun s i => ∃ (k : Nat) (y : Int), k ≤ l.length ∧ i = .int .i64 k ∧ s = .int .i64 y ∧ 0 ≤ y ∧ y ≤ 65535 ∧ Hid (y = val (l.take k))) (fun _ i => l.length - (RowKit.intOf i).toNat)
  case atStart => exact ⟨0, 0, Nat.zero_le _, rfl, rfl, by decide, by decide, (show Hid _ from by show _ = _; simp [val_nil])⟩
  case round =>
    obtain ⟨k, y, hk, rfl, rfl, hy0, hy1, HY⟩ := hrel
    by_cases hlt : k < l.length
    · obtain ⟨b, o, rfl, hc⟩ := hr.at (by omega)
      have e1 := hc k hlt
      obtain ⟨x, hx⟩ : ∃ x, l.getD k 0 = x := ⟨_, rfl⟩
      have hxb := getB hb k
      have hs := val_take_succ hlt
      have hv := val_small (hb.take (k + 1)) (k := 16) (by rw [List.length_take]; omega)
      rw [hs, ← HY.out, hx] at hv
      rw [hx] at e1 hxb hs
      have HS := Lib.hid hs
      simp only [show (2 : Int) ^ 16 = 65536 from rfl] at hv
      clear hc hs hx
      go_wp2
      go_round
      case rel => exact ⟨k + 1, 2 * y + x, by omega, by go_num, by go_num, by omega, by omega, (show Hid _ from by show _ = _; rw [HS.out, HY.out])⟩
      case measure => simp [RowKit.intOf]; omega
    · have e : l.take k = l := List.take_of_length_le (by omega)
      rw [e] at HY
      clear e
      go_wp2
      go_ret
      exact ⟨ret_int HY.out, rfl⟩
end Go.Proofs.YthidhgobocihpaaDoor
