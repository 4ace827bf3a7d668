/- Contracts of octet.Signed and octet.Plain, and what they call (out of XScal). -/
import Derived.Test.YtnhophjahjphiaaDoorRows
import Derived.Test.YtnhophjahjphiaaDoorPure
import Derived.Lib.Hide
import Derived.Handy
namespace Go.Proofs.YtnhophjahjphiaaDoor
open Go.RowKit

theorem clo_any (x s m : Int) (p1 p2 : Addr) (w : World) (c1 : w.cell? p1 = some (.int .i64 s)) (c2 : w.cell? p2 = some (.int .i64 m)) :
    Calls Tryd.prog 79 #[.int .i64 x, .pointer (some p1), .pointer (some p2)] w fun e w' => e = .returned (.bool (decide (x = s ∧ x ≤ m))) ∧ w = w' := by
  by_cases h1 : x = s
  · subst h1
    by_cases h2 : x ≤ m
    · go_enter Tryd.func79, Tryd.ntmps79
      go_wp2
      go_ret
      exact ⟨by simp [h2], rfl⟩
    · go_enter Tryd.func79, Tryd.ntmps79
      go_wp2
      go_ret
      exact ⟨by simp [h2], rfl⟩
  · go_enter Tryd.func79, Tryd.ntmps79
    go_wp2
    go_ret
    exact ⟨by simp [h1], rfl⟩

def sizeB (s m : Int) : Bool := decide ((s = 1 ∨ s = 2 ∨ s = 4 ∨ s = 8) ∧ s ≤ m)
def sz (k : Nat) : Int := if k = 0 then 1 else if k = 1 then 2 else if k = 2 then 4 else 8
def ixB (s m : Int) (r : Int) : Prop := (0 ≤ r ∧ sizeB s m = true) ∨ (r = -1 ∧ sizeB s m = false)
theorem sizeB_hit {s m : Int} {k : Nat} (h : sz k = s ∧ sz k ≤ m) : sizeB s m = true := by
  obtain ⟨rfl, h2⟩ := h
  unfold sizeB sz
  rw [decide_eq_true_eq]
  refine ⟨?_, h2⟩
  split <;> (try split) <;> (try split) <;> omega
theorem sizeB_miss {s m : Int} (h : ∀ j, j < 4 → ¬ (sz j = s ∧ sz j ≤ m)) : sizeB s m = false := by
  have h0 := h 0 (by omega)
  have h1 := h 1 (by omega)
  have h2 := h 2 (by omega)
  have h3 := h 3 (by omega)
  simp [sz] at h0 h1 h2 h3
  unfold sizeB
  rw [decide_eq_false_iff_not]
  omega
theorem sizeB_four {s : Int} (h : okSize s) : sizeB s 4 = true := by
  unfold okSize at h
  unfold sizeB
  rw [decide_eq_true_eq]
  omega
theorem sizeB_no {s : Int} (h : ¬ okSize s) : sizeB s 4 = false := by
  unfold okSize at h
  unfold sizeB
  rw [decide_eq_false_iff_not]
  omega

theorem index_any (s m : Int) (b : Nat) (p1 p2 : Addr) (w : World) (c1 : w.cell? p1 = some (.int .i64 s)) (c2 : w.cell? p2 = some (.int .i64 m))
    (hc : ∀ k, k < 4 → w.cell? ⟨b, k, none⟩ = some (.int .i64 (sz k))) :
    Calls Tryd.prog 89 #[.slice (some ⟨b, 0, none⟩) 4 4, .func (Fn.func 79) #[] #[.pointer (some p1), .pointer (some p2)]] w fun e w' => (∃ r, ixB s m r ∧ e = .returned (.int .i64 r)) ∧ w = w' := by
  have HC := Lib.hid hc
  clear hc
  go_enter Tryd.func89, Tryd.ntmps89
  go_wp2
  go_loop [8] (fun i => ∃ k : Nat, k ≤ 4 ∧ i = .int .i64 k ∧ ∀ j, j < k → ¬ (sz j = s ∧ sz j ≤ m)) (fun i => 4 - (intOf i).toNat)
  case atStart => exact ⟨0, by omega, rfl, fun j hj => by omega⟩
  case round =>
    obtain ⟨k, hk, rfl, hn⟩ := hrel
    have HN := Lib.hid hn
    clear hn
    by_cases hk4 : k < 4
    · have hcell := HC.out k hk4
      by_cases hy : sz k = s ∧ sz k ≤ m
      · have hd : decide (sz k = s ∧ sz k ≤ m) = true := by simpa using hy
        have HY := Lib.hid hy
        clear hy
        go_wp2_with ((with_reducible refine (clo_any (sz k) s m p1 p2 _ c1 c2).mono ?_); rintro e w' ⟨rfl, rfl⟩)
        go_ret
        exact ⟨⟨_, .inl ⟨Int.natCast_nonneg k, sizeB_hit HY.out⟩, rfl⟩, rfl⟩
      · have hd : decide (sz k = s ∧ sz k ≤ m) = false := by simpa using hy
        have HY := Lib.hid hy
        clear hy
        go_wp2_with ((with_reducible refine (clo_any (sz k) s m p1 p2 _ c1 c2).mono ?_); rintro e w' ⟨rfl, rfl⟩)
        go_round
        case rel => exact ⟨k + 1, by omega, by go_num, fun j hj => by rcases Nat.lt_succ_iff_lt_or_eq.1 hj with h | rfl; exact HN.out j h; exact HY.out⟩
        case measure => simp [intOf]; omega
    · go_wp2
      go_ret
      exact ⟨⟨_, .inr ⟨rfl, sizeB_miss fun j hj => HN.out j (by omega)⟩, rfl⟩, rfl⟩

theorem contains_any (s m : Int) (b : Nat) (p1 p2 : Addr) (w : World) (c1 : w.cell? p1 = some (.int .i64 s)) (c2 : w.cell? p2 = some (.int .i64 m))
    (hc : ∀ k, k < 4 → w.cell? ⟨b, k, none⟩ = some (.int .i64 (sz k))) :
    Calls Tryd.prog 78 #[.slice (some ⟨b, 0, none⟩) 4 4, .func (Fn.func 79) #[] #[.pointer (some p1), .pointer (some p2)]] w fun e w' => e = .returned (.bool (sizeB s m)) ∧ w = w' := by
  have HC := Lib.hid hc
  clear hc
  have hcon : ∀ r, ixB s m r → decide (0 ≤ r) = sizeB s m := by
    rintro r (⟨h, h'⟩ | ⟨h, h'⟩)
    · rw [h']; simpa using h
    · rw [h', h]; rfl
  have HK := Lib.hid hcon
  clear hcon
  go_enter Tryd.func78, Tryd.ntmps78
  go_wp2_with ((with_reducible refine (index_any s m b p1 p2 _ c1 c2 HC.out).mono ?_); rintro e w' ⟨⟨r, hr, rfl⟩, rfl⟩; have HR := Lib.hid hr; clear hr)
  go_ret
  exact ⟨by rw [HK.out r HR.out]; rfl, rfl⟩

theorem isSize_any (s m : Int) (w : World) : Calls Tryd.prog 63 #[.int .i64 s, .int .i64 m] w fun e w' => e = .returned (.bool (sizeB s m)) ∧ Below w.heap.size w w' := by
  go_enter Tryd.func63, Tryd.ntmps63
  go_wp2_with ((with_reducible refine (contains_any s m (w.heap.size + 1 + 1) ⟨w.heap.size, 0, none⟩ ⟨w.heap.size + 1, 0, none⟩ _ ?_ ?_ ?_).mono ?_))
  · go_cell
  · go_cell
  · intro k hk
    rw [World.cell?_alloc_at _ _ _ _ (by simp)]
    match k, hk with
    | 0, _ => rfl
    | 1, _ => rfl
    | 2, _ => rfl
    | 3, _ => rfl
  rintro e w' ⟨rfl, rfl⟩
  go_wp2
  go_ret
  exact ⟨rfl, by go_grown⟩

theorem low_any (n s : Int) (w : World) (hs : okSize s) :
    Calls Tryd.prog 64 #[.int .i64 n, .int .i64 s] w fun e w' => e = .returned (.int .i64 (n % topI s)) ∧ w = w' := by
  rcases hs with rfl | rfl | rfl
  · go_enter Tryd.func64, Tryd.ntmps64
    go_wp2
    go_ret
    exact ⟨congrArg (fun z => Ending.returned (.int .i64 z)) (and255 n), rfl⟩
  · go_enter Tryd.func64, Tryd.ntmps64
    go_wp2
    go_ret
    exact ⟨congrArg (fun z => Ending.returned (.int .i64 z)) (and65535 n), rfl⟩
  · go_enter Tryd.func64, Tryd.ntmps64
    go_wp2
    go_ret
    exact ⟨congrArg (fun z => Ending.returned (.int .i64 z)) (and32 n), rfl⟩

theorem ext_any (n s : Int) (w : World) (hs : okSize s) :
    Calls Tryd.prog 65 #[.int .i64 n, .int .i64 s] w fun e w' => e = .returned (.int .i64 (extI n s)) ∧ w = w' := by
  rcases hs with rfl | rfl | rfl
  · have k : wrap64 (n * 72057594037927936) / 72057594037927936 = extI n 1 := by unfold wrap64 extI topI; simp; omega
    have K := Lib.hid k
    clear k
    go_enter Tryd.func65, Tryd.ntmps65
    go_wp2
    go_ret
    exact ⟨congrArg (fun z => Ending.returned (.int .i64 z)) K.out, rfl⟩
  · have k : wrap64 (n * 281474976710656) / 281474976710656 = extI n 2 := by unfold wrap64 extI topI; simp; omega
    have K := Lib.hid k
    clear k
    go_enter Tryd.func65, Tryd.ntmps65
    go_wp2
    go_ret
    exact ⟨congrArg (fun z => Ending.returned (.int .i64 z)) K.out, rfl⟩
  · have k : wrap64 (n * 4294967296) / 4294967296 = extI n 4 := by unfold wrap64 extI topI; simp; omega
    have K := Lib.hid k
    clear k
    go_enter Tryd.func65, Tryd.ntmps65
    go_wp2
    go_ret
    exact ⟨congrArg (fun z => Ending.returned (.int .i64 z)) K.out, rfl⟩

theorem ret_pair {k : IntKind} {a b : Int} {c d : Bool} (h : (a, c) = (b, d)) : Ending.returned (.tuple #[.int k a, .bool c]) = .returned (.tuple #[.int k b, .bool d]) := by
  injection h with h1 h2; rw [h1, h2]

theorem oSigned_any (n s : Int) (w : World) :
    Calls Tryd.prog 50 #[.int .i64 n, .int .i64 s] w fun e w' => e = .returned (.tuple #[.int .i64 (sgd n s).1, .bool (sgd n s).2]) ∧ Below w.heap.size w w' := by
  by_cases hs : okSize s
  · have HS := Lib.hid hs
    have hb := sizeB_four hs
    by_cases hn : n % topI s = n
    · have hr := (low_eq hs).1 hn
      have hx := ext_sgd hs hr.1 hr.2
      have HX := Lib.hid hx
      have HR := Lib.hid hr
      have hq : (n != n % topI s) = false := by rw [hn]; simp
      clear hs hn hx hr
      go_enter Tryd.func50, Tryd.ntmps50
      go_wp2_with (first
        | (go_at_call 63; (with_reducible refine (isSize_any s 4 _).mono ?_); rintro e w1 ⟨rfl, hw1⟩)
        | (go_at_call 64; (with_reducible refine (low_any n s _ HS.out).mono ?_); rintro e w2 ⟨rfl, rfl⟩)
        | (go_at_call 65; (with_reducible refine (ext_any n s _ HS.out).mono ?_); rintro e w2 ⟨rfl, rfl⟩))
      go_ret2
      exact ⟨ret_pair (by rw [HX.out]), hw1⟩
    · have hr := (not_congr (low_eq hs)).1 hn
      have hx : sgd n s = (0, false) := sgd_no (by omega)
      have HX := Lib.hid hx
      have hq : (n != n % topI s) = true := by rw [bne_iff_ne]; exact fun e => hn e.symm
      clear hs hn hx hr
      go_enter Tryd.func50, Tryd.ntmps50
      go_wp2_with (first
        | (go_at_call 63; (with_reducible refine (isSize_any s 4 _).mono ?_); rintro e w1 ⟨rfl, hw1⟩)
        | (go_at_call 64; (with_reducible refine (low_any n s _ HS.out).mono ?_); rintro e w2 ⟨rfl, rfl⟩))
      go_ret2
      exact ⟨ret_pair (by rw [HX.out]), hw1⟩
  · have hb := sizeB_no hs
    have hx := sgd_small n hs
    have HX := Lib.hid hx
    clear hs hx
    go_enter Tryd.func50, Tryd.ntmps50
    go_wp2_with (go_at_call 63; (with_reducible refine (isSize_any s 4 _).mono ?_); rintro e w1 ⟨rfl, hw1⟩)
    go_ret2
    exact ⟨ret_pair (by rw [HX.out]), hw1⟩

theorem oPlain_any (n s : Int) (w : World) :
    Calls Tryd.prog 51 #[.int .i64 n, .int .i64 s] w fun e w' => e = .returned (.tuple #[.int .i64 (pln n s).1, .bool (pln n s).2]) ∧ Below w.heap.size w w' := by
  by_cases hs : okSize s
  · have HS := Lib.hid hs
    have hb := sizeB_four hs
    by_cases hn : extI n s = n
    · have hr := (ext_eq hs).1 hn
      have hx := low_pln hs hr.1 hr.2
      have HX := Lib.hid hx
      have HR := Lib.hid hr
      have hq : (n != extI n s) = false := by rw [hn]; simp
      clear hs hn hx hr
      go_enter Tryd.func51, Tryd.ntmps51
      go_wp2_with (first
        | (go_at_call 63; (with_reducible refine (isSize_any s 4 _).mono ?_); rintro e w1 ⟨rfl, hw1⟩)
        | (go_at_call 64; (with_reducible refine (low_any n s _ HS.out).mono ?_); rintro e w2 ⟨rfl, rfl⟩)
        | (go_at_call 65; (with_reducible refine (ext_any n s _ HS.out).mono ?_); rintro e w2 ⟨rfl, rfl⟩))
      go_ret2
      exact ⟨ret_pair (by rw [HX.out]), hw1⟩
    · have hr := (not_congr (ext_eq hs)).1 hn
      have hx : pln n s = (0, false) := pln_no (by omega)
      have HX := Lib.hid hx
      have hq : (n != extI n s) = true := by rw [bne_iff_ne]; exact fun e => hn e.symm
      clear hs hn hx hr
      go_enter Tryd.func51, Tryd.ntmps51
      go_wp2_with (first
        | (go_at_call 63; (with_reducible refine (isSize_any s 4 _).mono ?_); rintro e w1 ⟨rfl, hw1⟩)
        | (go_at_call 65; (with_reducible refine (ext_any n s _ HS.out).mono ?_); rintro e w2 ⟨rfl, rfl⟩))
      go_ret2
      exact ⟨ret_pair (by rw [HX.out]), hw1⟩
  · have hb := sizeB_no hs
    have hx := pln_small n hs
    have HX := Lib.hid hx
    clear hs hx
    go_enter Tryd.func51, Tryd.ntmps51
    go_wp2_with (go_at_call 63; (with_reducible refine (isSize_any s 4 _).mono ?_); rintro e w1 ⟨rfl, hw1⟩)
    go_ret2
    exact ⟨ret_pair (by rw [HX.out]), hw1⟩
end Go.Proofs.YtnhophjahjphiaaDoor
