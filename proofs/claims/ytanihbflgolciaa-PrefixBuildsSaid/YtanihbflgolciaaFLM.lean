/- FLM: the texts FLa, FLb, FLc, FLd, FLe, FLf, FLg in one. -/
import Derived.Test.YtanihbflgolciaaFYM
import Derived.Test.YtanihbflgolciaaFor
import Derived.Lib.ReflectliteSwap
import Derived.Lib.ReflectliteSlice
/- sort's stable sort by 'less' and 'swap', over any row that these two turn (LS): swapRange_func, rotate_func. -/
namespace Go.Proofs.Ytanihbflgolciaa
open Go.RowKit Go.Lib Go.Sort
set_option linter.unusedVariables false
set_option maxRecDepth 100000
/-- What is asked of 'less' and 'swap': G σ: the row holds the elements of σ, in its order; bk: the row's block. -/
structure LS (G : Array Nat → World → Prop) (bk : Nat) (lt : Nat → Nat → Bool) (g : Nat) (lb : Array Value) (f : Nat) (sb : Array Value) : Prop where
  below : ∀ σ W W', G σ W → Below W.heap.size W W' → G σ W'
  eg : ∀ args w, (callFunc g args).run Try.prog w = .ok (.enter g args) w
  less : ∀ σ W (i j : Nat), G σ W → i < σ.size → j < σ.size → Calls Try.prog g (#[.int .i64 i, .int .i64 j] ++ lb) W fun e w' => e = .returned (.bool (lt σ[i]! σ[j]!)) ∧ Below W.heap.size W w'
  swap : ∀ σ W (i j : Nat), G σ W → i < σ.size → j < σ.size → ∃ w', (callFunc f (#[.int .i64 i, .int .i64 j] ++ sb)).run Try.prog W = .ok (.value (.tuple #[])) w' ∧ G (swp σ i j) w' ∧ Chg (fun k => k = bk) W w'
/-- The pair of both, as a value. -/
def lsV (g : Nat) (lb : Array Value) (f : Nat) (sb : Array Value) : Array Value := #[.func (.func g) #[] lb, .func (.func f) #[] sb]
/-- The state of one of sort's functions: the row; its own copy of the pair. -/
structure LW (G : Array Nat → World → Prop) (bk Bx : Nat) (X : Array Value) (w : World) (σ : Array Nat) (W : World) : Prop where
  g : G σ W
  b : Blk W Bx X
  c : Chg (fun k => k = bk) w W
  ne : Bx ≠ bk
section
variable {G : Array Nat → World → Prop} {bk Bx : Nat} {lt : Nat → Nat → Bool} {g : Nat} {lb : Array Value} {f : Nat} {sb : Array Value} {X : Array Value} {w W W2 : World} {σ : Array Nat}
theorem LW.below (L : LS G bk lt g lb f sb) (h : LW G bk Bx X w σ W) (hb : Below W.heap.size W W2) : LW G bk Bx X w σ W2 := ⟨L.below _ _ _ h.g hb, h.b.below hb, h.c.trans (Chg.of_below (S := fun k => k = bk) hb) fun _ _ e => e, h.ne⟩
theorem LW.chg {σ2 : Array Nat} (h : LW G bk Bx X w σ W) (hg : G σ2 W2) (hc : Chg (fun k => k = bk) W W2) : LW G bk Bx X w σ2 W2 := ⟨hg, h.b.chg hc h.ne, h.c.trans hc fun _ _ e => e, h.ne⟩
theorem LW.start (L : LS G bk lt g lb f sb) (hg : G σ w) (hbk : bk < w.heap.size) (X : Array Value) (T : TypeId) : LW G bk w.heap.size X w σ (w.alloc (.cells X T)) :=
  ⟨L.below _ _ _ hg ((Below.refl _ w).alloc (Nat.le_refl _) _), Blk.new w X T, (Chg.refl _ w).alloc _, by omega⟩
end
set_option maxHeartbeats 4000000 in
theorem lSwR_any {G : Array Nat → World → Prop} {bk : Nat} {lt : Nat → Nat → Bool} {g : Nat} {lb : Array Value} {f : Nat} {sb : Array Value} (L : LS G bk lt g lb f sb) (σ : Array Nat) (w : World) (hG : G σ w) (hbk : bk < w.heap.size) (a b n N : Nat) (hN : σ.size = N) (ha : a + n ≤ N) (hb : b + n ≤ N) (hN2 : N ≤ 1000) :
    Calls Try.prog 71 #[.agg (lsV g lb f sb), .int .i64 a, .int .i64 b, .int .i64 n] w fun e w' => e = .returned (.tuple #[]) ∧ G (swR a b n σ) w' ∧ Chg (fun k => k = bk) w w' := by
  have HS0 : Hid (LW G bk w.heap.size (lsV g lb f sb) w (swR a b 0 σ) (w.alloc (.cells (lsV g lb f sb) 103))) := LW.start L hG hbk _ _
  have HL := Lib.hid L
  have HN := Lib.hid hN
  clear hG hN L
  unfold lsV at HS0 ⊢
  obtain ⟨w1, hw1⟩ : ∃ w1, w1 = w.alloc (.cells #[.func (.func g) #[] lb, .func (.func f) #[] sb] 103) := ⟨_, rfl⟩
  rw [← hw1] at HS0
  go_enter Try.func71, Try.ntmps71
  go_wp2
  rw [← hw1]
  clear hw1
  go_loopw [8] (fun vi wr => ∃ (i : Nat), i ≤ n ∧ vi = .int .i64 i ∧ Hid (LW G bk w.heap.size #[.func (.func g) #[] lb, .func (.func f) #[] sb] w (swR a b i σ) wr)) (fun vi _ => n - (RowKit.intOf vi).toNat)
  case atStart => exact ⟨0, Nat.zero_le _, rfl, HS0⟩
  case round =>
    clear HS0
    obtain ⟨i, hi, rfl, HS⟩ := hrel
    by_cases hlt : i < n
    · have hsz : (swR a b i σ).size = N := by rw [swR_size]; exact HN.out
      obtain ⟨w3, hs, hg3, hc3⟩ := HL.out.swap _ _ (a + i) (b + i) HS.out.g (by omega) (by omega)
      have HNX : Hid (swR a b (i + 1) σ = swp (swR a b i σ) (a + i) (b + i)) := rfl
      have H3 := Lib.hid (HS.out.chg hg3 hc3)
      have e1 := HS.out.b.cell (j := 1) rfl
      rw [show (((a + i : Nat)) : Int) = (a : Int) + (i : Int) by omega, show (((b + i : Nat)) : Int) = (b : Int) + (i : Int) by omega] at hs
      have HSW := Lib.hid hs
      clear hs hg3 hc3 hsz HS
      go_wp2
      rw [HSW.out, Oper.upon_value]
      go_wp2
      go_roundw
      case rel => exact ⟨i + 1, by omega, by go_num, by show Hid (LW _ _ _ _ _ _ _); rw [HNX.out]; exact H3⟩
      case measure => simp [RowKit.intOf]; omega
    · obtain rfl : i = n := by omega
      go_wp2
      go_end0
      exact ⟨rfl, HS.out.g, HS.out.c⟩
theorem lsSize (g : Nat) (lb : Array Value) (f : Nat) (sb : Array Value) : (Try.prog.info? 103).map (·.size) = some (#[.func (.func g) #[] lb, .func (.func f) #[] sb] : Array Value).size := by
  show _ = some 2
  kernel_rfl
set_option maxHeartbeats 8000000 in
theorem lRot_any {G : Array Nat → World → Prop} {bk : Nat} {lt : Nat → Nat → Bool} {g : Nat} {lb : Array Value} {f : Nat} {sb : Array Value} (L : LS G bk lt g lb f sb) (σ : Array Nat) (w : World) (hG : G σ w) (hbk : bk < w.heap.size) (a m b N : Nat) (hN : σ.size = N) (ham : a < m) (hmb : m < b) (hb : b ≤ N) (hN2 : N ≤ 1000) :
    Calls Try.prog 70 #[.agg (lsV g lb f sb), .int .i64 a, .int .i64 m, .int .i64 b] w fun e w' => e = .returned (.tuple #[]) ∧ (∃ σ', Rot a m b σ σ' ∧ G σ' w') ∧ Chg (fun k => k = bk) w w' := by
  have HS0 : Hid (LW G bk w.heap.size (lsV g lb f sb) w σ (w.alloc (.cells (lsV g lb f sb) 103))) := LW.start L hG hbk _ _
  have HL := Lib.hid L
  have HN := Lib.hid hN
  have HSZ := Lib.hid (lsSize g lb f sb)
  have HSR : Hid (∀ (σ : Array Nat) (W : World), LW G bk w.heap.size (lsV g lb f sb) w σ W → σ.size = N → ∀ a b n : Nat, a + n ≤ N → b + n ≤ N → Calls Try.prog 71 #[.agg (lsV g lb f sb), .int .i64 a, .int .i64 b, .int .i64 n] W fun e w' => e = .returned (.tuple #[]) ∧ LW G bk w.heap.size (lsV g lb f sb) w (swR a b n σ) w') := fun σ W h hs a b n h1 h2 =>
    (lSwR_any L σ W h.g (Nat.lt_of_lt_of_le hbk h.c.size) a b n N hs h1 h2 hN2).mono fun e w' ⟨e1, e2, e3⟩ => ⟨e1, h.chg e2 e3⟩
  clear hG hN L
  unfold lsV at HS0 HSR ⊢
  obtain ⟨w1, hw1⟩ : ∃ w1, w1 = w.alloc (.cells #[.func (.func g) #[] lb, .func (.func f) #[] sb] 103) := ⟨_, rfl⟩
  rw [← hw1] at HS0
  go_enter Try.func70, Try.ntmps70
  go_wp2
  rw [← hw1]
  clear hw1
  go_loopw [8, 9] (fun vi vj wr => ∃ (i j : Nat) (dj : Array Nat), 0 < i ∧ 0 < j ∧ i ≤ m - a ∧ j ≤ b - m ∧ vi = .int .i64 i ∧ vj = .int .i64 j ∧ Hid (dj.size = N) ∧ Hid (LW G bk w.heap.size #[.func (.func g) #[] lb, .func (.func f) #[] sb] w dj wr) ∧ Hid (∀ d', Rot (m - i) m (m + j) dj d' → Rot a m b σ d')) (fun vi vj _ => (RowKit.intOf vi).toNat + (RowKit.intOf vj).toNat)
  case atStart => exact ⟨m - a, b - m, σ, by omega, by omega, Nat.le_refl _, Nat.le_refl _, by go_num, by go_num, HN, HS0, (show Hid _ from fun d' h => by rw [show m - (m - a) = a by omega, show m + (b - m) = b by omega] at h; exact h)⟩
  case round =>
    clear HS0
    obtain ⟨i, j, dj, hi0, hj0, hi, hj, rfl, rfl, HZ, HS, HT⟩ := hrel
    have e1 : (m : Int) - (i : Int) = ((m - i : Nat) : Int) := by omega
    rcases Nat.lt_trichotomy i j with hij | hij | hij
    · have hne : ((i : Int) != (j : Int)) = true := by simp; omega
      have hgt : ¬ (j : Int) < (i : Int) := by omega
      have e2 : (m : Int) + (j : Int) - (i : Int) = ((m + j - i : Nat) : Int) := by omega
      have HC := Lib.hid (HSR.out dj wr HS.out HZ.out (m - i) (m + j - i) i (by omega) (by omega))
      have HNX : Hid (∀ d', Rot (m - i) m (m + (j - i)) (swR (m - i) (m + j - i) i dj) d' → Rot a m b σ d') := fun d' h => HT.out d' (rot_right (by omega) hij (by rw [HZ.out]; omega) h)
      have HZ2 : Hid ((swR (m - i) (m + j - i) i dj).size = N) := by show _ = _; rw [swR_size]; exact HZ.out
      go_wp2_with (first
        | (with_reducible refine wpList_loadB _ rfl 103 (.tmp 4) rfl _ Try.underlying103 rfl w.heap.size rfl _ HS.out.b HSZ.out ?_)
        | (go_at_call 71; (with_reducible refine HC.out.mono ?_); rintro e w2 ⟨rfl, hS2⟩; have HS2 := Lib.hid hS2; clear hS2))
      go_roundw
      case rel => exact ⟨i, j - i, _, hi0, by omega, hi, by omega, rfl, by go_num, HZ2, HS2, HNX⟩
      case measure => simp [RowKit.intOf]; omega
    · subst hij
      have HC := Lib.hid (HSR.out dj wr HS.out HZ.out (m - i) m i (by omega) (by omega))
      have HF : Hid (Rot a m b σ (swR (m - i) m i dj)) := HT.out _ (rot_end (by omega) (by rw [HZ.out]; omega))
      go_wp2_with (first
        | (with_reducible refine wpList_loadB _ rfl 103 (.tmp 4) rfl _ Try.underlying103 rfl w.heap.size rfl _ HS.out.b HSZ.out ?_)
        | (go_at_call 71; (with_reducible refine HC.out.mono ?_); rintro e w2 ⟨rfl, hS2⟩; have HS2 := Lib.hid hS2; clear hS2))
      go_end0
      exact ⟨rfl, ⟨_, HF.out, HS2.out.g⟩, HS2.out.c⟩
    · have hne : ((i : Int) != (j : Int)) = true := by simp; omega
      have hgt : (j : Int) < (i : Int) := by omega
      have HC := Lib.hid (HSR.out dj wr HS.out HZ.out (m - i) m j (by omega) (by omega))
      have HNX : Hid (∀ d', Rot (m - (i - j)) m (m + j) (swR (m - i) m j dj) d' → Rot a m b σ d') := fun d' h => HT.out d' (rot_left (by omega) hij (by rw [HZ.out]; omega) h)
      have HZ2 : Hid ((swR (m - i) m j dj).size = N) := by show _ = _; rw [swR_size]; exact HZ.out
      go_wp2_with (first
        | (with_reducible refine wpList_loadB _ rfl 103 (.tmp 4) rfl _ Try.underlying103 rfl w.heap.size rfl _ HS.out.b HSZ.out ?_)
        | (go_at_call 71; (with_reducible refine HC.out.mono ?_); rintro e w2 ⟨rfl, hS2⟩; have HS2 := Lib.hid hS2; clear hS2))
      go_roundw
      case rel => exact ⟨i - j, j, _, by omega, hj0, by omega, hj, by go_num, rfl, HZ2, HS2, HNX⟩
      case measure => simp [RowKit.intOf]; omega
end Go.Proofs.Ytanihbflgolciaa
/- sort's symMerge_func where one side has one element, over any row that 'less' and 'swap' turn. -/
namespace Go.Proofs.Ytanihbflgolciaa
open Go.RowKit Go.Lib Go.Sort
set_option linter.unusedVariables false
set_option maxRecDepth 100000
abbrev rL (lt : Nat → Nat → Bool) : Nat → Nat → Bool := rB lt fun x => x
section
variable {G : Array Nat → World → Prop} {bk Bx : Nat} {lt : Nat → Nat → Bool} {g : Nat} {lb : Array Value} {f : Nat} {sb : Array Value} {X : Array Value} {w W W2 : World} {σ : Array Nat}
theorem LW.less (L : LS G bk lt g lb f sb) (h : LW G bk Bx X w σ W) {i j : Nat} (hi : i < σ.size) (hj : j < σ.size) : Calls Try.prog g (#[.int .i64 i, .int .i64 j] ++ lb) W fun e w' => e = .returned (.bool (lt σ[i]! σ[j]!)) ∧ LW G bk Bx X w σ w' :=
  (L.less σ W i j h.g hi hj).mono fun e w' ⟨e1, e2⟩ => ⟨e1, h.below L e2⟩
theorem LW.swap (L : LS G bk lt g lb f sb) (h : LW G bk Bx X w σ W) {i j : Nat} (hi : i < σ.size) (hj : j < σ.size) : ∃ w', (callFunc f (#[.int .i64 i, .int .i64 j] ++ sb)).run Try.prog W = .ok (.value (.tuple #[])) w' ∧ LW G bk Bx X w (swp σ i j) w' := by
  obtain ⟨w', h1, h2, h3⟩ := L.swap σ W i j h.g hi hj
  exact ⟨w', h1, h.chg h2 h3⟩
end
set_option maxHeartbeats 16000000 in
theorem lSymA_any {G : Array Nat → World → Prop} {bk : Nat} {lt : Nat → Nat → Bool} {g : Nat} {lb : Array Value} {f : Nat} {sb : Array Value} (L : LS G bk lt g lb f sb) (hSW : SWO lt) (σ : Array Nat) (w : World) (hG : G σ w) (hbk : bk < w.heap.size) (a b N : Nat) (hN : σ.size = N) (hab : a + 1 < b) (hb : b ≤ N) (hN2 : N ≤ 1000) (h2 : SortedIn (rL lt) (a + 1) b σ) (hLR : LR (fun x => x) a (a + 1) b σ) :
    Calls Try.prog 68 #[.agg (lsV g lb f sb), .int .i64 a, .int .i64 ((a + 1 : Nat) : Int), .int .i64 b] w fun e w' => e = .returned (.tuple #[]) ∧ (∃ σ', Mrg (rL lt) a b σ σ' ∧ G σ' w') ∧ Chg (fun k => k = bk) w w' := by
  have HS0 : Hid (LW G bk w.heap.size (lsV g lb f sb) w σ (w.alloc (.cells (lsV g lb f sb) 103))) := LW.start L hG hbk _ _
  have HL := Lib.hid L
  have HN := Lib.hid hN
  have H2 := Lib.hid h2
  have HLR := Lib.hid hLR
  have HSW := Lib.hid (rB_swo hSW fun x : Nat => x)
  have eg := L.eg
  clear hG hN L h2 hLR hSW
  unfold lsV at HS0 ⊢
  obtain ⟨w1, hw1⟩ : ∃ w1, w1 = w.alloc (.cells #[.func (.func g) #[] lb, .func (.func f) #[] sb] 103) := ⟨_, rfl⟩
  rw [← hw1] at HS0
  obtain ⟨m, hm⟩ : ∃ m, m = a + 1 := ⟨_, rfl⟩
  rw [← hm]
  have HM := Lib.hid hm
  have hma : (m : Int) - (a : Int) = 1 := by omega
  have hmb : m < b := by omega
  have ham : a < m := by omega
  clear hm
  go_enter Try.func68, Try.ntmps68
  go_wp2
  rw [← hw1]
  clear hw1
  go_loopw [8, 9] (fun vi vj wr => ∃ (lo hi : Nat), vi = .int .i64 lo ∧ vj = .int .i64 hi ∧ m ≤ lo ∧ lo ≤ hi ∧ hi ≤ b ∧ Hid (LW G bk w.heap.size #[.func (.func g) #[] lb, .func (.func f) #[] sb] w σ wr) ∧ Hid ((m < lo → rL lt σ[lo - 1]! σ[a]! = true) ∧ (hi < b → rL lt σ[hi]! σ[a]! = false))) (fun vi vj _ => (RowKit.intOf vj).toNat - (RowKit.intOf vi).toNat)
  case atStart => exact ⟨m, b, rfl, rfl, Nat.le_refl _, by omega, Nat.le_refl _, HS0, (show Hid _ from ⟨fun h => absurd h (Nat.lt_irrefl _), fun h => absurd h (Nat.lt_irrefl _)⟩)⟩
  case round =>
    clear HS0
    obtain ⟨lo, hi, rfl, rfl, hml, hlh, hhb, HS, HB⟩ := hrel
    by_cases hlt : lo < hi
    · obtain ⟨h, hh⟩ : ∃ h, h = (lo + hi) / 2 := ⟨_, rfl⟩
      have zh : ((lo : Int) + (hi : Int)) / 2 = (h : Int) := by omega
      have hh1 : lo ≤ h := by omega
      have hh2 : h < hi := by omega
      clear hh
      have hc := HS.out.less HL.out (i := h) (j := a) (by rw [HN.out]; omega) (by rw [HN.out]; omega)
      have HRB : Hid (rL lt σ[h]! σ[a]! = lt σ[h]! σ[a]!) := rB_later (HLR.out a h (Nat.le_refl _) (by omega) (by have := HM.out; omega) (by omega))
      have e1 := HS.out.b.cell (j := 0) rfl
      cases hv : lt σ[h]! σ[a]! with
      | true =>
        rw [hv] at hc HRB
        go_wp2_with (go_at_fn g; refine hc.mono ?_; rintro e w2 ⟨rfl, hS2⟩; have S2 := Lib.hid hS2; clear hS2 e1 HS)
        go_roundw
        case rel => exact ⟨h + 1, hi, by go_num, rfl, by omega, by omega, hhb, S2, (show Hid _ from ⟨fun _ => by rw [Nat.add_sub_cancel]; exact HRB.out, HB.out.2⟩)⟩
        case measure => simp [RowKit.intOf]; omega
      | false =>
        rw [hv] at hc HRB
        go_wp2_with (go_at_fn g; refine hc.mono ?_; rintro e w2 ⟨rfl, hS2⟩; have S2 := Lib.hid hS2; clear hS2 e1 HS)
        go_roundw
        case rel => exact ⟨lo, h, rfl, by go_num, hml, hh1, by omega, S2, (show Hid _ from ⟨HB.out.1, fun _ => HRB.out⟩)⟩
        case measure => simp [RowKit.intOf]; omega
    · obtain rfl : lo = hi := by omega
      have HF : Hid (Mrg (rL lt) a b σ (shU a (lo - 1 - a) σ)) := mrg_left HSW.out (by rw [HN.out]; exact hb) H2.out (by have := HM.out; omega) hhb (fun h => HB.out.1 (by have := HM.out; omega)) HB.out.2
      have HS1 : Hid (LW G bk w.heap.size #[.func (.func g) #[] lb, .func (.func f) #[] sb] w (shU a 0 σ) wr) := HS
      clear HS HB
      have HMM : Hid (m = a + 1) := HM
      obtain ⟨n, hn⟩ : ∃ n, n = lo - 1 - a := ⟨_, rfl⟩
      have hnl : (lo : Int) - 1 = (a : Int) + (n : Int) := by have := HM.out; omega
      have hnb : a + n + 1 ≤ b := by have := HM.out; omega
      rw [← hn] at HF
      clear hn
      go_wp2
      go_loopw [11] (fun vi wr => ∃ (i k : Nat), k = a + i ∧ i ≤ n ∧ vi = .int .i64 k ∧ Hid (LW G bk w.heap.size #[.func (.func g) #[] lb, .func (.func f) #[] sb] w (shU a i σ) wr)) (fun vi _ => a + n - (RowKit.intOf vi).toNat)
      case atStart => exact ⟨0, a, rfl, Nat.zero_le _, rfl, HS1⟩
      case round =>
        clear HS1
        obtain ⟨i, k, hk, hi, rfl, HS⟩ := hrel
        have HK := Lib.hid hk
        by_cases hlt2 : i < n
        · have hltz : (k : Int) < (a : Int) + (n : Int) := by omega
          obtain ⟨w3, hs, hS3⟩ := HS.out.swap HL.out (i := k) (j := k + 1) (by rw [shU_size, HN.out]; omega) (by rw [shU_size, HN.out]; omega)
          have H3 := Lib.hid hS3
          have HNX : Hid (shU a (i + 1) σ = swp (shU a i σ) k (k + 1)) := by show _ = _; rw [hk]; rfl
          have e1 := HS.out.b.cell (j := 1) rfl
          rw [show (((k + 1 : Nat)) : Int) = (k : Int) + 1 by omega] at hs
          have HSWP := Lib.hid hs
          clear hs hS3 HS hk
          go_wp2
          rw [HSWP.out, Oper.upon_value]
          go_wp2
          go_roundw
          case rel => exact ⟨i + 1, k + 1, by rw [HK.out]; rfl, by omega, by go_num, by show Hid (LW _ _ _ _ _ _ _); rw [HNX.out]; exact H3⟩
          case measure => have := HK.out; simp [RowKit.intOf]; omega
        · obtain rfl : i = n := by omega
          have hltz : ¬ (k : Int) < (a : Int) + (i : Int) := by omega
          clear hk
          go_wp2
          refine bodyPost_ret (results_none rfl _ _ _) rfl ?_
          exact ⟨rfl, ⟨_, HF.out, HS.out.g⟩, HS.out.c⟩
set_option maxHeartbeats 16000000 in
theorem lSymB_any {G : Array Nat → World → Prop} {bk : Nat} {lt : Nat → Nat → Bool} {g : Nat} {lb : Array Value} {f : Nat} {sb : Array Value} (L : LS G bk lt g lb f sb) (hSW : SWO lt) (σ : Array Nat) (w : World) (hG : G σ w) (hbk : bk < w.heap.size) (a m N : Nat) (hN : σ.size = N) (ham : a + 1 < m) (hb : m + 1 ≤ N) (hN2 : N ≤ 1000) (h1 : SortedIn (rL lt) a m σ) (hLR : LR (fun x => x) a m (m + 1) σ) :
    Calls Try.prog 68 #[.agg (lsV g lb f sb), .int .i64 a, .int .i64 m, .int .i64 ((m + 1 : Nat) : Int)] w fun e w' => e = .returned (.tuple #[]) ∧ (∃ σ', Mrg (rL lt) a (m + 1) σ σ' ∧ G σ' w') ∧ Chg (fun k => k = bk) w w' := by
  have HS0 : Hid (LW G bk w.heap.size (lsV g lb f sb) w σ (w.alloc (.cells (lsV g lb f sb) 103))) := LW.start L hG hbk _ _
  have HL := Lib.hid L
  have HN := Lib.hid hN
  have H1 := Lib.hid h1
  have HLR := Lib.hid hLR
  have HSW := Lib.hid (rB_swo hSW fun x : Nat => x)
  have eg := L.eg
  clear hG hN L h1 hLR hSW
  unfold lsV at HS0 ⊢
  obtain ⟨w1, hw1⟩ : ∃ w1, w1 = w.alloc (.cells #[.func (.func g) #[] lb, .func (.func f) #[] sb] 103) := ⟨_, rfl⟩
  rw [← hw1] at HS0
  obtain ⟨b, hbm⟩ : ∃ b, b = m + 1 := ⟨_, rfl⟩
  rw [← hbm]
  have HM := Lib.hid hbm
  have zb : (b : Int) - (m : Int) = 1 := by omega
  have zm : ((m : Int) - (a : Int) == 1) = false := by simp; omega
  have hmb : m < b := by omega
  have hbN : b ≤ N := by omega
  clear hbm
  go_enter Try.func68, Try.ntmps68
  go_wp2
  rw [← hw1]
  clear hw1
  go_loopw [12, 13] (fun vi vj wr => ∃ (lo hi : Nat), vi = .int .i64 lo ∧ vj = .int .i64 hi ∧ a ≤ lo ∧ lo ≤ hi ∧ hi ≤ m ∧ Hid (LW G bk w.heap.size #[.func (.func g) #[] lb, .func (.func f) #[] sb] w σ wr) ∧ Hid ((a < lo → rL lt σ[m]! σ[lo - 1]! = false) ∧ (hi < m → rL lt σ[m]! σ[hi]! = true))) (fun vi vj _ => (RowKit.intOf vj).toNat - (RowKit.intOf vi).toNat)
  case atStart => exact ⟨a, m, rfl, rfl, Nat.le_refl _, by omega, Nat.le_refl _, HS0, (show Hid _ from ⟨fun h => absurd h (Nat.lt_irrefl _), fun h => absurd h (Nat.lt_irrefl _)⟩)⟩
  case round =>
    clear HS0
    obtain ⟨lo, hi, rfl, rfl, hal, hlh, hhm, HS, HB⟩ := hrel
    by_cases hlt : lo < hi
    · obtain ⟨h, hh⟩ : ∃ h, h = (lo + hi) / 2 := ⟨_, rfl⟩
      have zh : ((lo : Int) + (hi : Int)) / 2 = (h : Int) := by omega
      have hh1 : lo ≤ h := by omega
      have hh2 : h < hi := by omega
      clear hh
      have hc := HS.out.less HL.out (i := m) (j := h) (by rw [HN.out]; omega) (by rw [HN.out]; omega)
      have HRB : Hid (rL lt σ[m]! σ[h]! = lt σ[m]! σ[h]!) := rB_later (HLR.out h m (by omega) (by omega) (Nat.le_refl _) (by omega))
      have e1 := HS.out.b.cell (j := 0) rfl
      cases hv : lt σ[m]! σ[h]! with
      | true =>
        rw [hv] at hc HRB
        go_wp2_with (go_at_fn g; refine hc.mono ?_; rintro e w2 ⟨rfl, hS2⟩; have S2 := Lib.hid hS2; clear hS2 e1 HS)
        go_roundw
        case rel => exact ⟨lo, h, rfl, by go_num, hal, hh1, by omega, S2, (show Hid _ from ⟨HB.out.1, fun _ => HRB.out⟩)⟩
        case measure => simp [RowKit.intOf]; omega
      | false =>
        rw [hv] at hc HRB
        go_wp2_with (go_at_fn g; refine hc.mono ?_; rintro e w2 ⟨rfl, hS2⟩; have S2 := Lib.hid hS2; clear hS2 e1 HS)
        go_roundw
        case rel => exact ⟨h + 1, hi, by go_num, rfl, by omega, by omega, hhm, S2, (show Hid _ from ⟨fun _ => by rw [Nat.add_sub_cancel]; exact HRB.out, HB.out.2⟩)⟩
        case measure => simp [RowKit.intOf]; omega
    · obtain rfl : lo = hi := by omega
      have HF : Hid (Mrg (rL lt) a b σ (shD m (m - lo) σ)) := by
        show Mrg _ _ _ _ _
        rw [HM.out]
        exact mrg_right HSW.out (by rw [HN.out]; omega) H1.out hal hhm HB.out.1 HB.out.2
      have HS1 : Hid (LW G bk w.heap.size #[.func (.func g) #[] lb, .func (.func f) #[] sb] w (shD m 0 σ) wr) := HS
      clear HS HB
      obtain ⟨n, hn⟩ : ∃ n, n = m - lo := ⟨_, rfl⟩
      rw [← hn] at HF
      have hn2 : n + lo = m := by omega
      clear hn
      go_wp2
      go_loopw [15] (fun vi wr => ∃ (i k : Nat), k + i = m ∧ i ≤ n ∧ vi = .int .i64 k ∧ Hid (LW G bk w.heap.size #[.func (.func g) #[] lb, .func (.func f) #[] sb] w (shD m i σ) wr)) (fun vi _ => (RowKit.intOf vi).toNat)
      case atStart => exact ⟨0, m, by omega, Nat.zero_le _, rfl, HS1⟩
      case round =>
        clear HS1
        obtain ⟨i, k, hk, hi, rfl, HS⟩ := hrel
        have HK := Lib.hid hk
        by_cases hlt2 : i < n
        · have hltz : (lo : Int) < (k : Int) := by omega
          obtain ⟨k1, hk1⟩ : ∃ q, q + 1 = k := ⟨k - 1, by omega⟩
          obtain ⟨w3, hs, hS3⟩ := HS.out.swap HL.out (i := k) (j := k1) (by rw [shD_size, HN.out]; omega) (by rw [shD_size, HN.out]; omega)
          have H3 := Lib.hid hS3
          have HNX : Hid (shD m (i + 1) σ = swp (shD m i σ) k k1) := by
            show _ = _
            rw [shD, show m - i = k by omega, show k - 1 = k1 by omega]
          have e1 := HS.out.b.cell (j := 1) rfl
          rw [show (k1 : Int) = (k : Int) - 1 by omega] at hs
          have pa : (0 : Int) ≤ (k : Int) - 1 := by omega
          have pb : (k : Int) ≤ 1000 := by omega
          have ra : IntKind.i64.wrap ((k : Int) - 1) = (k : Int) - 1 := by rw [IntKind.wrap_i64]; omega
          have HSWP := Lib.hid hs
          have HK1 := Lib.hid hk1
          clear hs hS3 HS hk hk1
          go_wp2
          rw [HSWP.out, Oper.upon_value]
          go_wp2
          go_roundw
          case rel => exact ⟨i + 1, k1, by have := HK.out; have := HK1.out; omega, by omega, by have := HK1.out; go_num, by show Hid (LW _ _ _ _ _ _ _); rw [HNX.out]; exact H3⟩
          case measure => have := HK1.out; simp [RowKit.intOf]; omega
        · obtain rfl : i = n := by omega
          have hltz : ¬ (lo : Int) < (k : Int) := by omega
          clear hk
          go_wp2
          refine bodyPost_ret (results_none rfl _ _ _) rfl ?_
          exact ⟨rfl, ⟨_, HF.out, HS.out.g⟩, HS.out.c⟩
end Go.Proofs.Ytanihbflgolciaa
/- sort's symMerge_func over any row that 'less' and 'swap' turn: whole, in pieces. -/
namespace Go.Proofs.Ytanihbflgolciaa
open Go.RowKit Go.Lib Go.Sort
set_option linter.unusedVariables false
set_option maxRecDepth 100000
/-- What is left of symMerge_func behind n statements. -/
noncomputable def mC : Nat → Code
  | 0 => (Try.f68.body).getD .skip
  | n + 1 => sC (mC n)
set_option maxHeartbeats 2000000 in
theorem m40 {u5 u6 u7 u8 u9 u10 u11 u12 u13 u14 u15 u17 u19 u20 u21 u23 u24 u25 u26 u27 u28 u29 u30 u31 u32 u33 u34 u35 u36 u37 u38 u39 u40 u41 u42 u43 u44 u45 u46 u47 u48 u49 u50 u51 u52 u53 u54 u55 u56 u57 u58 u59 u60 u61 u62 u63 u64 u65 u66 u67 u68 u69 u70 u71 u72 u73 u74 u75 u76 u77 u78 u79 u80 u81 u82 u83 u84 u85 u86 u87 u88 u89 u90 u91 u92 u93 u94 u95 u96 u97 u98 u99 u100 u101 u102 u103 u104 u105 u106 u107 u108 u109 u110 u111 u112 u113 u114 u115 u116 u117 u118 u119 u120 u121 u122 u123 u124 u125 u126 u127 u128 u129 u130 u131 u132 u133 u134 u135 u136 u137 u138 u139 u140 u141 u142 u143 u144 u145 u146 u147 u148 u149 u150 u151 u152 u153 u154 u155 u156 u157 u158 u159 u160 u161 u162 u163 u164 u165 u166 u167 u168 u169 u170 u171 u172 u173 u174 u175 u176 : Value} {g : Nat} {lb : Array Value} {f : Nat} {sb : Array Value} {Bx : Nat} {X : World → Prop} (S : Value) (a m b mid s e : Nat) (w : World) (hbx : Blk w Bx #[.func (.func g) #[] lb, .func (.func f) #[] sb])
    (hc : s < m → m < e → Calls Try.prog 70 #[.agg (lsV g lb f sb), .int .i64 s, .int .i64 m, .int .i64 e] w fun x w' => x = .returned (.tuple #[]) ∧ X w') (hn : ¬ (s < m ∧ m < e) → X w) :
    (fC (mC 10)).wp Try.prog (fun x a1 w1 => x = .normal ∧ X w1 ∧ ∃ v138 v139 v140 v141 v142 v143 v144 v145 v146 v147 v148 v149 v150, a1 = ⟨#[S, .int .i64 a, .int .i64 m, .int .i64 b, .pointer (some ⟨Bx, 0, none⟩), u5, u6, u7, u8, u9, u10, u11, u12, u13, u14, u15, .int .i64 mid, u17, .int .i64 s, u19, u20, u21, .int .i64 e, u23, u24, u25, u26, u27, u28, u29, u30, u31, u32, u33, u34, u35, u36, u37, u38, u39, u40, u41, u42, u43, u44, u45, u46, u47, u48, u49, u50, u51, u52, u53, u54, u55, u56, u57, u58, u59, u60, u61, u62, u63, u64, u65, u66, u67, u68, u69, u70, u71, u72, u73, u74, u75, u76, u77, u78, u79, u80, u81, u82, u83, u84, u85, u86, u87, u88, u89, u90, u91, u92, u93, u94, u95, u96, u97, u98, u99, u100, u101, u102, u103, u104, u105, u106, u107, u108, u109, u110, u111, u112, u113, u114, u115, u116, u117, u118, u119, u120, u121, u122, u123, u124, u125, u126, u127, u128, u129, u130, u131, u132, u133, u134, u135, u136, u137, v138, v139, v140, v141, v142, v143, v144, v145, v146, v147, v148, v149, v150, u151, u152, u153, u154, u155, u156, u157, u158, u159, u160, u161, u162, u163, u164, u165, u166, u167, u168, u169, u170, u171, u172, u173, u174, u175, u176], []⟩) ⟨#[S, .int .i64 a, .int .i64 m, .int .i64 b, .pointer (some ⟨Bx, 0, none⟩), u5, u6, u7, u8, u9, u10, u11, u12, u13, u14, u15, .int .i64 mid, u17, .int .i64 s, u19, u20, u21, .int .i64 e, u23, u24, u25, u26, u27, u28, u29, u30, u31, u32, u33, u34, u35, u36, u37, u38, u39, u40, u41, u42, u43, u44, u45, u46, u47, u48, u49, u50, u51, u52, u53, u54, u55, u56, u57, u58, u59, u60, u61, u62, u63, u64, u65, u66, u67, u68, u69, u70, u71, u72, u73, u74, u75, u76, u77, u78, u79, u80, u81, u82, u83, u84, u85, u86, u87, u88, u89, u90, u91, u92, u93, u94, u95, u96, u97, u98, u99, u100, u101, u102, u103, u104, u105, u106, u107, u108, u109, u110, u111, u112, u113, u114, u115, u116, u117, u118, u119, u120, u121, u122, u123, u124, u125, u126, u127, u128, u129, u130, u131, u132, u133, u134, u135, u136, u137, u138, u139, u140, u141, u142, u143, u144, u145, u146, u147, u148, u149, u150, u151, u152, u153, u154, u155, u156, u157, u158, u159, u160, u161, u162, u163, u164, u165, u166, u167, u168, u169, u170, u171, u172, u173, u174, u175, u176], []⟩ w := by
  have HSZ := Lib.hid (lsSize g lb f sb)
  have HBX := Lib.hid hbx
  clear hbx
  conv => arg 2; whnf
  by_cases c1 : s < m
  · have z1 : (s : Int) < (m : Int) := by omega
    by_cases c2 : m < e
    · have z2 : (m : Int) < (e : Int) := by omega
      have HC := Lib.hid (hc c1 c2)
      clear hc hn
      unfold lsV at HC
      go_wp2_with (first
        | (with_reducible refine wpList_loadB _ rfl 103 (.tmp 4) rfl _ Try.underlying103 rfl Bx rfl _ HBX.out HSZ.out ?_)
        | (go_at_call 70; (with_reducible refine HC.out.mono ?_); rintro ee w2 ⟨rfl, hx⟩; have HX := Lib.hid hx; clear hx))
      exact HX.out
    · have z2 : ¬ (m : Int) < (e : Int) := by omega
      have HX := Lib.hid (hn (by omega))
      clear hc hn
      go_wp2
      exact HX.out
  · have z1 : ¬ (s : Int) < (m : Int) := by omega
    have HX := Lib.hid (hn (by omega))
    clear hc hn
    go_wp2
    exact HX.out
set_option maxHeartbeats 2000000 in
theorem m42 {u5 u6 u7 u8 u9 u10 u11 u12 u13 u14 u15 u17 u19 u20 u21 u23 u24 u25 u26 u27 u28 u29 u30 u31 u32 u33 u34 u35 u36 u37 u38 u39 u40 u41 u42 u43 u44 u45 u46 u47 u48 u49 u50 u51 u52 u53 u54 u55 u56 u57 u58 u59 u60 u61 u62 u63 u64 u65 u66 u67 u68 u69 u70 u71 u72 u73 u74 u75 u76 u77 u78 u79 u80 u81 u82 u83 u84 u85 u86 u87 u88 u89 u90 u91 u92 u93 u94 u95 u96 u97 u98 u99 u100 u101 u102 u103 u104 u105 u106 u107 u108 u109 u110 u111 u112 u113 u114 u115 u116 u117 u118 u119 u120 u121 u122 u123 u124 u125 u126 u127 u128 u129 u130 u131 u132 u133 u134 u135 u136 u137 u138 u139 u140 u141 u142 u143 u144 u145 u146 u147 u148 u149 u150 u151 u152 u153 u154 u155 u156 u157 u158 u159 u160 u161 u162 u163 u164 u165 u166 u167 u168 u169 u170 u171 u172 u173 u174 u175 u176 : Value} {g : Nat} {lb : Array Value} {f : Nat} {sb : Array Value} {Bx : Nat} {X : World → Prop} (S : Value) (a m b mid s e : Nat) (w : World) (hbx : Blk w Bx #[.func (.func g) #[] lb, .func (.func f) #[] sb])
    (hc : a < s → s < mid → Calls Try.prog 68 #[.agg (lsV g lb f sb), .int .i64 a, .int .i64 s, .int .i64 mid] w fun x w' => x = .returned (.tuple #[]) ∧ X w') (hn : ¬ (a < s ∧ s < mid) → X w) :
    (fC (mC 11)).wp Try.prog (fun x a1 w1 => x = .normal ∧ X w1 ∧ ∃ v151 v152 v153 v154 v155 v156 v157 v158 v159 v160 v161 v162 v163, a1 = ⟨#[S, .int .i64 a, .int .i64 m, .int .i64 b, .pointer (some ⟨Bx, 0, none⟩), u5, u6, u7, u8, u9, u10, u11, u12, u13, u14, u15, .int .i64 mid, u17, .int .i64 s, u19, u20, u21, .int .i64 e, u23, u24, u25, u26, u27, u28, u29, u30, u31, u32, u33, u34, u35, u36, u37, u38, u39, u40, u41, u42, u43, u44, u45, u46, u47, u48, u49, u50, u51, u52, u53, u54, u55, u56, u57, u58, u59, u60, u61, u62, u63, u64, u65, u66, u67, u68, u69, u70, u71, u72, u73, u74, u75, u76, u77, u78, u79, u80, u81, u82, u83, u84, u85, u86, u87, u88, u89, u90, u91, u92, u93, u94, u95, u96, u97, u98, u99, u100, u101, u102, u103, u104, u105, u106, u107, u108, u109, u110, u111, u112, u113, u114, u115, u116, u117, u118, u119, u120, u121, u122, u123, u124, u125, u126, u127, u128, u129, u130, u131, u132, u133, u134, u135, u136, u137, u138, u139, u140, u141, u142, u143, u144, u145, u146, u147, u148, u149, u150, v151, v152, v153, v154, v155, v156, v157, v158, v159, v160, v161, v162, v163, u164, u165, u166, u167, u168, u169, u170, u171, u172, u173, u174, u175, u176], []⟩) ⟨#[S, .int .i64 a, .int .i64 m, .int .i64 b, .pointer (some ⟨Bx, 0, none⟩), u5, u6, u7, u8, u9, u10, u11, u12, u13, u14, u15, .int .i64 mid, u17, .int .i64 s, u19, u20, u21, .int .i64 e, u23, u24, u25, u26, u27, u28, u29, u30, u31, u32, u33, u34, u35, u36, u37, u38, u39, u40, u41, u42, u43, u44, u45, u46, u47, u48, u49, u50, u51, u52, u53, u54, u55, u56, u57, u58, u59, u60, u61, u62, u63, u64, u65, u66, u67, u68, u69, u70, u71, u72, u73, u74, u75, u76, u77, u78, u79, u80, u81, u82, u83, u84, u85, u86, u87, u88, u89, u90, u91, u92, u93, u94, u95, u96, u97, u98, u99, u100, u101, u102, u103, u104, u105, u106, u107, u108, u109, u110, u111, u112, u113, u114, u115, u116, u117, u118, u119, u120, u121, u122, u123, u124, u125, u126, u127, u128, u129, u130, u131, u132, u133, u134, u135, u136, u137, u138, u139, u140, u141, u142, u143, u144, u145, u146, u147, u148, u149, u150, u151, u152, u153, u154, u155, u156, u157, u158, u159, u160, u161, u162, u163, u164, u165, u166, u167, u168, u169, u170, u171, u172, u173, u174, u175, u176], []⟩ w := by
  have HSZ := Lib.hid (lsSize g lb f sb)
  have HBX := Lib.hid hbx
  clear hbx
  conv => arg 2; whnf
  by_cases c1 : a < s
  · have z1 : (a : Int) < (s : Int) := by omega
    by_cases c2 : s < mid
    · have z2 : (s : Int) < (mid : Int) := by omega
      have HC := Lib.hid (hc c1 c2)
      clear hc hn
      unfold lsV at HC
      go_wp2_with (first
        | (with_reducible refine wpList_loadB _ rfl 103 (.tmp 4) rfl _ Try.underlying103 rfl Bx rfl _ HBX.out HSZ.out ?_)
        | (go_at_call 68; (with_reducible refine HC.out.mono ?_); rintro ee w2 ⟨rfl, hx⟩; have HX := Lib.hid hx; clear hx))
      exact HX.out
    · have z2 : ¬ (s : Int) < (mid : Int) := by omega
      have HX := Lib.hid (hn (by omega))
      clear hc hn
      go_wp2
      exact HX.out
  · have z1 : ¬ (a : Int) < (s : Int) := by omega
    have HX := Lib.hid (hn (by omega))
    clear hc hn
    go_wp2
    exact HX.out
set_option maxHeartbeats 2000000 in
theorem m44 {u5 u6 u7 u8 u9 u10 u11 u12 u13 u14 u15 u17 u19 u20 u21 u23 u24 u25 u26 u27 u28 u29 u30 u31 u32 u33 u34 u35 u36 u37 u38 u39 u40 u41 u42 u43 u44 u45 u46 u47 u48 u49 u50 u51 u52 u53 u54 u55 u56 u57 u58 u59 u60 u61 u62 u63 u64 u65 u66 u67 u68 u69 u70 u71 u72 u73 u74 u75 u76 u77 u78 u79 u80 u81 u82 u83 u84 u85 u86 u87 u88 u89 u90 u91 u92 u93 u94 u95 u96 u97 u98 u99 u100 u101 u102 u103 u104 u105 u106 u107 u108 u109 u110 u111 u112 u113 u114 u115 u116 u117 u118 u119 u120 u121 u122 u123 u124 u125 u126 u127 u128 u129 u130 u131 u132 u133 u134 u135 u136 u137 u138 u139 u140 u141 u142 u143 u144 u145 u146 u147 u148 u149 u150 u151 u152 u153 u154 u155 u156 u157 u158 u159 u160 u161 u162 u163 u164 u165 u166 u167 u168 u169 u170 u171 u172 u173 u174 u175 u176 : Value} {g : Nat} {lb : Array Value} {f : Nat} {sb : Array Value} {Bx : Nat} {X : World → Prop} (S : Value) (a m b mid s e : Nat) (w : World) (hbx : Blk w Bx #[.func (.func g) #[] lb, .func (.func f) #[] sb])
    (hc : mid < e → e < b → Calls Try.prog 68 #[.agg (lsV g lb f sb), .int .i64 mid, .int .i64 e, .int .i64 b] w fun x w' => x = .returned (.tuple #[]) ∧ X w') (hn : ¬ (mid < e ∧ e < b) → X w) :
    (mC 12).wp Try.prog (fun x a1 w1 => x = .normal ∧ X w1 ∧ ∃ v164 v165 v166 v167 v168 v169 v170 v171 v172 v173 v174 v175 v176, a1 = ⟨#[S, .int .i64 a, .int .i64 m, .int .i64 b, .pointer (some ⟨Bx, 0, none⟩), u5, u6, u7, u8, u9, u10, u11, u12, u13, u14, u15, .int .i64 mid, u17, .int .i64 s, u19, u20, u21, .int .i64 e, u23, u24, u25, u26, u27, u28, u29, u30, u31, u32, u33, u34, u35, u36, u37, u38, u39, u40, u41, u42, u43, u44, u45, u46, u47, u48, u49, u50, u51, u52, u53, u54, u55, u56, u57, u58, u59, u60, u61, u62, u63, u64, u65, u66, u67, u68, u69, u70, u71, u72, u73, u74, u75, u76, u77, u78, u79, u80, u81, u82, u83, u84, u85, u86, u87, u88, u89, u90, u91, u92, u93, u94, u95, u96, u97, u98, u99, u100, u101, u102, u103, u104, u105, u106, u107, u108, u109, u110, u111, u112, u113, u114, u115, u116, u117, u118, u119, u120, u121, u122, u123, u124, u125, u126, u127, u128, u129, u130, u131, u132, u133, u134, u135, u136, u137, u138, u139, u140, u141, u142, u143, u144, u145, u146, u147, u148, u149, u150, u151, u152, u153, u154, u155, u156, u157, u158, u159, u160, u161, u162, u163, v164, v165, v166, v167, v168, v169, v170, v171, v172, v173, v174, v175, v176], []⟩) ⟨#[S, .int .i64 a, .int .i64 m, .int .i64 b, .pointer (some ⟨Bx, 0, none⟩), u5, u6, u7, u8, u9, u10, u11, u12, u13, u14, u15, .int .i64 mid, u17, .int .i64 s, u19, u20, u21, .int .i64 e, u23, u24, u25, u26, u27, u28, u29, u30, u31, u32, u33, u34, u35, u36, u37, u38, u39, u40, u41, u42, u43, u44, u45, u46, u47, u48, u49, u50, u51, u52, u53, u54, u55, u56, u57, u58, u59, u60, u61, u62, u63, u64, u65, u66, u67, u68, u69, u70, u71, u72, u73, u74, u75, u76, u77, u78, u79, u80, u81, u82, u83, u84, u85, u86, u87, u88, u89, u90, u91, u92, u93, u94, u95, u96, u97, u98, u99, u100, u101, u102, u103, u104, u105, u106, u107, u108, u109, u110, u111, u112, u113, u114, u115, u116, u117, u118, u119, u120, u121, u122, u123, u124, u125, u126, u127, u128, u129, u130, u131, u132, u133, u134, u135, u136, u137, u138, u139, u140, u141, u142, u143, u144, u145, u146, u147, u148, u149, u150, u151, u152, u153, u154, u155, u156, u157, u158, u159, u160, u161, u162, u163, u164, u165, u166, u167, u168, u169, u170, u171, u172, u173, u174, u175, u176], []⟩ w := by
  have HSZ := Lib.hid (lsSize g lb f sb)
  have HBX := Lib.hid hbx
  clear hbx
  conv => arg 2; whnf
  by_cases c1 : mid < e
  · have z1 : (mid : Int) < (e : Int) := by omega
    by_cases c2 : e < b
    · have z2 : (e : Int) < (b : Int) := by omega
      have HC := Lib.hid (hc c1 c2)
      clear hc hn
      unfold lsV at HC
      go_wp2_with (first
        | (with_reducible refine wpList_loadB _ rfl 103 (.tmp 4) rfl _ Try.underlying103 rfl Bx rfl _ HBX.out HSZ.out ?_)
        | (go_at_call 68; (with_reducible refine HC.out.mono ?_); rintro ee w2 ⟨rfl, hx⟩; have HX := Lib.hid hx; clear hx))
      exact HX.out
    · have z2 : ¬ (e : Int) < (b : Int) := by omega
      have HX := Lib.hid (hn (by omega))
      clear hc hn
      go_wp2
      exact HX.out
  · have z1 : ¬ (mid : Int) < (e : Int) := by omega
    have HX := Lib.hid (hn (by omega))
    clear hc hn
    go_wp2
    exact HX.out
theorem m39 {u5 u6 u7 u8 u9 u10 u11 u12 u13 u14 u15 u19 u20 u21 u23 u24 u25 u26 u27 u28 u29 u30 u31 u32 u33 u34 u35 u36 u37 u38 u39 u40 u41 u42 u43 u44 u45 u46 u47 u48 u49 u50 u51 u52 u53 u54 u55 u56 u57 u58 u59 u60 u61 u62 u63 u64 u65 u66 u67 u68 u69 u70 u71 u72 u73 u74 u75 u76 u77 u78 u79 u80 u81 u82 u83 u84 u85 u86 u87 u88 u89 u90 u91 u92 u93 u94 u95 u96 u97 u98 u99 u100 u101 u102 u103 u104 u105 u106 u107 u108 u109 u110 u111 u112 u113 u114 u115 u116 u117 u118 u119 u120 u121 u122 u123 u124 u125 u126 u127 u128 u129 u130 u131 u132 u133 u134 u135 u136 u137 u138 u139 u140 u141 u142 u143 u144 u145 u146 u147 u148 u149 u150 u151 u152 u153 u154 u155 u156 u157 u158 u159 u160 u161 u162 u163 u164 u165 u166 u167 u168 u169 u170 u171 u172 u173 u174 u175 u176 u22 : Value} {Bx : Nat} (S : Value) (a m b mid s e : Nat) (n : Int) (w : World) (h : n - (s : Int) = (e : Int)) (h1 : 0 ≤ n) (h2 : n ≤ 10000) :
    (fC (mC 9)).wp Try.prog (fun x a1 w1 => x = .normal ∧ w1 = w ∧ ∃ v135 v136 v137, a1 = ⟨#[S, .int .i64 a, .int .i64 m, .int .i64 b, .pointer (some ⟨Bx, 0, none⟩), u5, u6, u7, u8, u9, u10, u11, u12, u13, u14, u15, .int .i64 mid, .int .i64 n, .int .i64 s, u19, u20, u21, .int .i64 e, u23, u24, u25, u26, u27, u28, u29, u30, u31, u32, u33, u34, u35, u36, u37, u38, u39, u40, u41, u42, u43, u44, u45, u46, u47, u48, u49, u50, u51, u52, u53, u54, u55, u56, u57, u58, u59, u60, u61, u62, u63, u64, u65, u66, u67, u68, u69, u70, u71, u72, u73, u74, u75, u76, u77, u78, u79, u80, u81, u82, u83, u84, u85, u86, u87, u88, u89, u90, u91, u92, u93, u94, u95, u96, u97, u98, u99, u100, u101, u102, u103, u104, u105, u106, u107, u108, u109, u110, u111, u112, u113, u114, u115, u116, u117, u118, u119, u120, u121, u122, u123, u124, u125, u126, u127, u128, u129, u130, u131, u132, u133, u134, v135, v136, v137, u138, u139, u140, u141, u142, u143, u144, u145, u146, u147, u148, u149, u150, u151, u152, u153, u154, u155, u156, u157, u158, u159, u160, u161, u162, u163, u164, u165, u166, u167, u168, u169, u170, u171, u172, u173, u174, u175, u176], []⟩) ⟨#[S, .int .i64 a, .int .i64 m, .int .i64 b, .pointer (some ⟨Bx, 0, none⟩), u5, u6, u7, u8, u9, u10, u11, u12, u13, u14, u15, .int .i64 mid, .int .i64 n, .int .i64 s, u19, u20, u21, u22, u23, u24, u25, u26, u27, u28, u29, u30, u31, u32, u33, u34, u35, u36, u37, u38, u39, u40, u41, u42, u43, u44, u45, u46, u47, u48, u49, u50, u51, u52, u53, u54, u55, u56, u57, u58, u59, u60, u61, u62, u63, u64, u65, u66, u67, u68, u69, u70, u71, u72, u73, u74, u75, u76, u77, u78, u79, u80, u81, u82, u83, u84, u85, u86, u87, u88, u89, u90, u91, u92, u93, u94, u95, u96, u97, u98, u99, u100, u101, u102, u103, u104, u105, u106, u107, u108, u109, u110, u111, u112, u113, u114, u115, u116, u117, u118, u119, u120, u121, u122, u123, u124, u125, u126, u127, u128, u129, u130, u131, u132, u133, u134, u135, u136, u137, u138, u139, u140, u141, u142, u143, u144, u145, u146, u147, u148, u149, u150, u151, u152, u153, u154, u155, u156, u157, u158, u159, u160, u161, u162, u163, u164, u165, u166, u167, u168, u169, u170, u171, u172, u173, u174, u175, u176], []⟩ w := by
  conv => arg 2; whnf
  go_wp2
set_option maxHeartbeats 2000000 in
theorem mTail {u5 u6 u7 u8 u9 u10 u11 u12 u13 u14 u15 u19 u20 u21 u23 u24 u25 u26 u27 u28 u29 u30 u31 u32 u33 u34 u35 u36 u37 u38 u39 u40 u41 u42 u43 u44 u45 u46 u47 u48 u49 u50 u51 u52 u53 u54 u55 u56 u57 u58 u59 u60 u61 u62 u63 u64 u65 u66 u67 u68 u69 u70 u71 u72 u73 u74 u75 u76 u77 u78 u79 u80 u81 u82 u83 u84 u85 u86 u87 u88 u89 u90 u91 u92 u93 u94 u95 u96 u97 u98 u99 u100 u101 u102 u103 u104 u105 u106 u107 u108 u109 u110 u111 u112 u113 u114 u115 u116 u117 u118 u119 u120 u121 u122 u123 u124 u125 u126 u127 u128 u129 u130 u131 u132 u133 u134 u135 u136 u137 u138 u139 u140 u141 u142 u143 u144 u145 u146 u147 u148 u149 u150 u151 u152 u153 u154 u155 u156 u157 u158 u159 u160 u161 u162 u163 u164 u165 u166 u167 u168 u169 u170 u171 u172 u173 u174 u175 u176 u22 : Value} {g : Nat} {lb : Array Value} {f : Nat} {sb : Array Value} {Bx : Nat} {X1 X2 Z : World → Prop} (S : Value) (a m b mid s e : Nat) (n : Int) (w : World) (h : n - (s : Int) = (e : Int)) (h1 : 0 ≤ n) (h2 : n ≤ 10000) (hb0 : Blk w Bx #[.func (.func g) #[] lb, .func (.func f) #[] sb]) (hb1 : ∀ w, X1 w → Blk w Bx #[.func (.func g) #[] lb, .func (.func f) #[] sb]) (hb2 : ∀ w, X2 w → Blk w Bx #[.func (.func g) #[] lb, .func (.func f) #[] sb])
    (hr : s < m → m < e → Calls Try.prog 70 #[.agg (lsV g lb f sb), .int .i64 s, .int .i64 m, .int .i64 e] w fun x w' => x = .returned (.tuple #[]) ∧ X1 w') (hr0 : ¬ (s < m ∧ m < e) → X1 w)
    (hl : ∀ w, X1 w → (a < s → s < mid → Calls Try.prog 68 #[.agg (lsV g lb f sb), .int .i64 a, .int .i64 s, .int .i64 mid] w fun x w' => x = .returned (.tuple #[]) ∧ X2 w') ∧ (¬ (a < s ∧ s < mid) → X2 w))
    (hh : ∀ w, X2 w → (mid < e → e < b → Calls Try.prog 68 #[.agg (lsV g lb f sb), .int .i64 mid, .int .i64 e, .int .i64 b] w fun x w' => x = .returned (.tuple #[]) ∧ Z w') ∧ (¬ (mid < e ∧ e < b) → Z w)) :
    (mC 9).wp Try.prog (fun x a1 w1 => x = .normal ∧ a1.defers = [] ∧ Z w1) ⟨#[S, .int .i64 a, .int .i64 m, .int .i64 b, .pointer (some ⟨Bx, 0, none⟩), u5, u6, u7, u8, u9, u10, u11, u12, u13, u14, u15, .int .i64 mid, .int .i64 n, .int .i64 s, u19, u20, u21, u22, u23, u24, u25, u26, u27, u28, u29, u30, u31, u32, u33, u34, u35, u36, u37, u38, u39, u40, u41, u42, u43, u44, u45, u46, u47, u48, u49, u50, u51, u52, u53, u54, u55, u56, u57, u58, u59, u60, u61, u62, u63, u64, u65, u66, u67, u68, u69, u70, u71, u72, u73, u74, u75, u76, u77, u78, u79, u80, u81, u82, u83, u84, u85, u86, u87, u88, u89, u90, u91, u92, u93, u94, u95, u96, u97, u98, u99, u100, u101, u102, u103, u104, u105, u106, u107, u108, u109, u110, u111, u112, u113, u114, u115, u116, u117, u118, u119, u120, u121, u122, u123, u124, u125, u126, u127, u128, u129, u130, u131, u132, u133, u134, u135, u136, u137, u138, u139, u140, u141, u142, u143, u144, u145, u146, u147, u148, u149, u150, u151, u152, u153, u154, u155, u156, u157, u158, u159, u160, u161, u162, u163, u164, u165, u166, u167, u168, u169, u170, u171, u172, u173, u174, u175, u176], []⟩ w := by
  show (Code.seq (fC (mC 9)) (mC 10)).wp _ _ _ _
  refine wp_seq (wp_mono (m39 S a m b mid s e n w h h1 h2) ?_)
  rintro x a1 w1 ⟨rfl, rfl, v135, v136, v137, rfl⟩
  show (Code.seq (fC (mC 10)) (mC 11)).wp _ _ _ _
  refine wp_seq (wp_mono (m40 (X := X1) S a m b mid s e w1 hb0 hr hr0) ?_)
  rintro x a1 w2 ⟨rfl, hx1, hv⟩
  obtain ⟨v138, v139, v140, v141, v142, v143, v144, v145, v146, v147, v148, v149, v150, rfl⟩ := hv
  obtain ⟨hl1, hl2⟩ := hl w2 hx1
  show (Code.seq (fC (mC 11)) (mC 12)).wp _ _ _ _
  refine wp_seq (wp_mono (m42 (X := X2) S a m b mid s e w2 (hb1 _ hx1) hl1 hl2) ?_)
  rintro x a1 w3 ⟨rfl, hx2, hv⟩
  obtain ⟨v151, v152, v153, v154, v155, v156, v157, v158, v159, v160, v161, v162, v163, rfl⟩ := hv
  obtain ⟨hh1, hh2⟩ := hh w3 hx2
  refine wp_mono (m44 (X := Z) S a m b mid s e w3 (hb2 _ hx2) hh1 hh2) ?_
  rintro x a1 w4 ⟨rfl, hz, hv⟩
  obtain ⟨v164, v165, v166, v167, v168, v169, v170, v171, v172, v173, v174, v175, v176, rfl⟩ := hv
  exact ⟨rfl, rfl, hz⟩
set_option maxHeartbeats 16000000 in
theorem mLp {u0 u1 u2 u3 u5 u6 u7 u8 u9 u10 u11 u12 u13 u14 u15 u16 u17 u21 u22 u23 u24 u25 u26 u27 u28 u29 u30 u31 u32 u33 u34 u35 u36 u37 u38 u39 u40 u41 u42 u43 u44 u45 u46 u47 u48 u49 u50 u51 u52 u53 u54 u55 u56 u57 u58 u59 u60 u61 u62 u63 u64 u65 u66 u67 u68 u69 u70 u71 u72 u73 u74 u75 u76 u77 u78 u79 u80 u81 u82 u83 u84 u85 u86 u87 u88 u89 u90 u91 u92 u93 u94 u95 u96 u97 u98 u99 u100 u101 u102 u103 u104 u105 u106 u107 u108 u109 u110 u111 u112 u113 u114 u115 u116 u117 u118 u119 u120 u121 u122 u123 u124 u125 u126 u127 u128 u129 u130 u131 u132 u133 u134 u135 u136 u137 u138 u139 u140 u141 u142 u143 u144 u145 u146 u147 u148 u149 u150 u151 u152 u153 u154 u155 u156 u157 u158 u159 u160 u161 u162 u163 u164 u165 u166 u167 u168 u169 u170 u171 u172 u173 u174 u175 u176 : Value} {G : Array Nat → World → Prop} {bk Bx : Nat} {lt : Nat → Nat → Bool} {g : Nat} {lb : Array Value} {f : Nat} {sb : Array Value} (L : LS G bk lt g lb f sb) (σ : Array Nat) (w0 w : World) (N lo r0 p : Nat) (S : LW G bk Bx #[.func (.func g) #[] lb, .func (.func f) #[] sb] w0 σ w) (hN : σ.size = N) (hN2 : N ≤ 1000) (hl : lo ≤ r0) (hp2 : p ≤ 5000)
    (hrb : ∀ h k, lo ≤ h → h < r0 → k + h = p → k < N ∧ h < N ∧ rL lt σ[k]! σ[h]! = lt σ[k]! σ[h]!) (hpl : r0 ≤ p + 1) :
    (fC (mC 8)).wp Try.prog (fun x a1 w1 => x = .normal ∧ ∃ s : Nat, lo ≤ s ∧ s ≤ r0 ∧ LW G bk Bx #[.func (.func g) #[] lb, .func (.func f) #[] sb] w0 σ w1 ∧ ((lo < s → rL lt σ[p + 1 - s]! σ[s - 1]! = false) ∧ (s < r0 → rL lt σ[p - s]! σ[s]! = true)) ∧ ∃ v21 v115 v116 v117 v118 v119 v120 v121 v122 v123 v124 v125 v126 v127 v128 v129 v130 v131 v132 v133 v134, a1 = ⟨#[u0, u1, u2, u3, .pointer (some ⟨Bx, 0, none⟩), u5, u6, u7, u8, u9, u10, u11, u12, u13, u14, u15, u16, u17, .int .i64 s, .int .i64 s, .int .i64 p, v21, u22, u23, u24, u25, u26, u27, u28, u29, u30, u31, u32, u33, u34, u35, u36, u37, u38, u39, u40, u41, u42, u43, u44, u45, u46, u47, u48, u49, u50, u51, u52, u53, u54, u55, u56, u57, u58, u59, u60, u61, u62, u63, u64, u65, u66, u67, u68, u69, u70, u71, u72, u73, u74, u75, u76, u77, u78, u79, u80, u81, u82, u83, u84, u85, u86, u87, u88, u89, u90, u91, u92, u93, u94, u95, u96, u97, u98, u99, u100, u101, u102, u103, u104, u105, u106, u107, u108, u109, u110, u111, u112, u113, u114, v115, v116, v117, v118, v119, v120, v121, v122, v123, v124, v125, v126, v127, v128, v129, v130, v131, v132, v133, v134, u135, u136, u137, u138, u139, u140, u141, u142, u143, u144, u145, u146, u147, u148, u149, u150, u151, u152, u153, u154, u155, u156, u157, u158, u159, u160, u161, u162, u163, u164, u165, u166, u167, u168, u169, u170, u171, u172, u173, u174, u175, u176], []⟩) ⟨#[u0, u1, u2, u3, .pointer (some ⟨Bx, 0, none⟩), u5, u6, u7, u8, u9, u10, u11, u12, u13, u14, u15, u16, u17, .int .i64 lo, .int .i64 r0, .int .i64 p, u21, u22, u23, u24, u25, u26, u27, u28, u29, u30, u31, u32, u33, u34, u35, u36, u37, u38, u39, u40, u41, u42, u43, u44, u45, u46, u47, u48, u49, u50, u51, u52, u53, u54, u55, u56, u57, u58, u59, u60, u61, u62, u63, u64, u65, u66, u67, u68, u69, u70, u71, u72, u73, u74, u75, u76, u77, u78, u79, u80, u81, u82, u83, u84, u85, u86, u87, u88, u89, u90, u91, u92, u93, u94, u95, u96, u97, u98, u99, u100, u101, u102, u103, u104, u105, u106, u107, u108, u109, u110, u111, u112, u113, u114, u115, u116, u117, u118, u119, u120, u121, u122, u123, u124, u125, u126, u127, u128, u129, u130, u131, u132, u133, u134, u135, u136, u137, u138, u139, u140, u141, u142, u143, u144, u145, u146, u147, u148, u149, u150, u151, u152, u153, u154, u155, u156, u157, u158, u159, u160, u161, u162, u163, u164, u165, u166, u167, u168, u169, u170, u171, u172, u173, u174, u175, u176], []⟩ w := by
  have HS0 := Lib.hid S
  have HN := Lib.hid hN
  have HL := Lib.hid L
  have HRB := Lib.hid hrb
  have eg := L.eg
  clear S hN L hrb
  conv => arg 2; whnf
  go_wp2
  go_loopw [18, 19] (fun vi vj wr => ∃ (s r : Nat), vi = .int .i64 s ∧ vj = .int .i64 r ∧ lo ≤ s ∧ s ≤ r ∧ r ≤ r0 ∧ Hid (LW G bk Bx #[.func (.func g) #[] lb, .func (.func f) #[] sb] w0 σ wr) ∧ Hid ((lo < s → rL lt σ[p + 1 - s]! σ[s - 1]! = false) ∧ (r < r0 → rL lt σ[p - r]! σ[r]! = true))) (fun vi vj _ => (RowKit.intOf vj).toNat - (RowKit.intOf vi).toNat)
  case atStart => exact ⟨lo, r0, rfl, rfl, Nat.le_refl _, hl, Nat.le_refl _, HS0, (show Hid _ from ⟨fun h => absurd h (Nat.lt_irrefl _), fun h => absurd h (Nat.lt_irrefl _)⟩)⟩
  case round =>
    clear HS0
    obtain ⟨s, r, rfl, rfl, hls, hsr, hrr, HS, HB⟩ := hrel
    by_cases hlt : s < r
    · obtain ⟨h, hh⟩ : ∃ h, h = (s + r) / 2 := ⟨_, rfl⟩
      have zh : ((s : Int) + (r : Int)) / 2 = (h : Int) := by omega
      have hh1 : s ≤ h := by omega
      have hh2 : h < r := by omega
      clear hh
      obtain ⟨k, hk⟩ : ∃ k, k + h = p := ⟨p - h, by omega⟩
      obtain ⟨hk2, hh3, hrb⟩ := HRB.out h k (by omega) (by omega) hk
      have HRB1 := Lib.hid hrb
      clear hrb
      have zk : (p : Int) - (h : Int) = (k : Int) := by omega
      have rk : IntKind.i64.wrap (k : Int) = (k : Int) := by rw [IntKind.wrap_i64]; omega
      have rk2 : IntKind.i64.wrap ((p : Int) - (h : Int)) = (k : Int) := by rw [IntKind.wrap_i64]; omega
      have hc := HS.out.less HL.out (i := k) (j := h) (by rw [HN.out]; omega) (by rw [HN.out]; omega)
      have e1 := HS.out.b.cell (j := 0) rfl
      have HK := Lib.hid hk
      clear hk
      cases hv : lt σ[k]! σ[h]! with
      | true =>
        rw [hv] at hc HRB1
        go_wp2_with (go_at_fn g; refine hc.mono ?_; rintro e w2 ⟨rfl, hS2⟩; have S2 := Lib.hid hS2; clear hS2 e1 HS)
        go_roundw
        case rel => exact ⟨s, h, rfl, by go_num, hls, hh1, by omega, S2, (show Hid _ from ⟨HB.out.1, fun _ => by rw [show p - h = k by have := HK.out; omega]; exact HRB1.out⟩)⟩
        case measure => simp [RowKit.intOf]; omega
      | false =>
        rw [hv] at hc HRB1
        go_wp2_with (go_at_fn g; refine hc.mono ?_; rintro e w2 ⟨rfl, hS2⟩; have S2 := Lib.hid hS2; clear hS2 e1 HS)
        go_roundw
        case rel => exact ⟨h + 1, r, by go_num, rfl, by omega, by omega, hrr, S2, (show Hid _ from ⟨fun _ => by rw [show p + 1 - (h + 1) = k by have := HK.out; omega, Nat.add_sub_cancel]; exact HRB1.out, HB.out.2⟩)⟩
        case measure => simp [RowKit.intOf]; omega
    · obtain rfl : s = r := by omega
      go_wp2
      exact ⟨s, hls, hrr, HS.out, HB.out, by simp⟩
theorem nA  {Bx : Nat} (S : Value) (a m b : Nat) (w : World) (hz : (((m : Int) - (a : Int)) == 1) = false) (h1 : a ≤ m) (h2 : m ≤ 1000) : (fC (mC 1)).wp Try.prog (fun x a1 w1 => x = .normal ∧ w1 = w ∧ ∃ v23 v24 v25 v26, a1 = ⟨#[S, .int .i64 a, .int .i64 m, .int .i64 b, .pointer (some ⟨Bx, 0, none⟩), undef, undef, undef, undef, undef, undef, undef, undef, undef, undef, undef, undef, undef, undef, undef, undef, undef, undef, v23, v24, v25, v26, undef, undef, undef, undef, undef, undef, undef, undef, undef, undef, undef, undef, undef, undef, undef, undef, undef, undef, undef, undef, undef, undef, undef, undef, undef, undef, undef, undef, undef, undef, undef, undef, undef, undef, undef, undef, undef, undef, undef, undef, undef, undef, undef, undef, undef, undef, undef, undef, undef, undef, undef, undef, undef, undef, undef, undef, undef, undef, undef, undef, undef, undef, undef, undef, undef, undef, undef, undef, undef, undef, undef, undef, undef, undef, undef, undef, undef, undef, undef, undef, undef, undef, undef, undef, undef, undef, undef, undef, undef, undef, undef, undef, undef, undef, undef, undef, undef, undef, undef, undef, undef, undef, undef, undef, undef, undef, undef, undef, undef, undef, undef, undef, undef, undef, undef, undef, undef, undef, undef, undef, undef, undef, undef, undef, undef, undef, undef, undef, undef, undef, undef, undef, undef, undef, undef, undef, undef, undef, undef, undef, undef, undef, undef, undef, undef, undef, undef, undef, undef, undef], []⟩) ⟨#[S, .int .i64 a, .int .i64 m, .int .i64 b, .pointer (some ⟨Bx, 0, none⟩), undef, undef, undef, undef, undef, undef, undef, undef, undef, undef, undef, undef, undef, undef, undef, undef, undef, undef, undef, undef, undef, undef, undef, undef, undef, undef, undef, undef, undef, undef, undef, undef, undef, undef, undef, undef, undef, undef, undef, undef, undef, undef, undef, undef, undef, undef, undef, undef, undef, undef, undef, undef, undef, undef, undef, undef, undef, undef, undef, undef, undef, undef, undef, undef, undef, undef, undef, undef, undef, undef, undef, undef, undef, undef, undef, undef, undef, undef, undef, undef, undef, undef, undef, undef, undef, undef, undef, undef, undef, undef, undef, undef, undef, undef, undef, undef, undef, undef, undef, undef, undef, undef, undef, undef, undef, undef, undef, undef, undef, undef, undef, undef, undef, undef, undef, undef, undef, undef, undef, undef, undef, undef, undef, undef, undef, undef, undef, undef, undef, undef, undef, undef, undef, undef, undef, undef, undef, undef, undef, undef, undef, undef, undef, undef, undef, undef, undef, undef, undef, undef, undef, undef, undef, undef, undef, undef, undef, undef, undef, undef, undef, undef, undef, undef, undef, undef, undef, undef, undef, undef, undef, undef], []⟩ w := by
  conv => arg 2; whnf
  go_wp2
theorem nB {v23 v24 v25 v26 : Value} {Bx : Nat} (S : Value) (a m b : Nat) (w : World) (hz : (((b : Int) - (m : Int)) == 1) = false) (h1 : m ≤ b) (h2 : b ≤ 1000) : (fC (mC 2)).wp Try.prog (fun x a1 w1 => x = .normal ∧ w1 = w ∧ ∃ v59 v60 v61 v62, a1 = ⟨#[S, .int .i64 a, .int .i64 m, .int .i64 b, .pointer (some ⟨Bx, 0, none⟩), undef, undef, undef, undef, undef, undef, undef, undef, undef, undef, undef, undef, undef, undef, undef, undef, undef, undef, v23, v24, v25, v26, undef, undef, undef, undef, undef, undef, undef, undef, undef, undef, undef, undef, undef, undef, undef, undef, undef, undef, undef, undef, undef, undef, undef, undef, undef, undef, undef, undef, undef, undef, undef, undef, v59, v60, v61, v62, undef, undef, undef, undef, undef, undef, undef, undef, undef, undef, undef, undef, undef, undef, undef, undef, undef, undef, undef, undef, undef, undef, undef, undef, undef, undef, undef, undef, undef, undef, undef, undef, undef, undef, undef, undef, undef, undef, undef, undef, undef, undef, undef, undef, undef, undef, undef, undef, undef, undef, undef, undef, undef, undef, undef, undef, undef, undef, undef, undef, undef, undef, undef, undef, undef, undef, undef, undef, undef, undef, undef, undef, undef, undef, undef, undef, undef, undef, undef, undef, undef, undef, undef, undef, undef, undef, undef, undef, undef, undef, undef, undef, undef, undef, undef, undef, undef, undef, undef, undef, undef, undef, undef, undef, undef, undef, undef, undef, undef, undef, undef, undef, undef, undef], []⟩) ⟨#[S, .int .i64 a, .int .i64 m, .int .i64 b, .pointer (some ⟨Bx, 0, none⟩), undef, undef, undef, undef, undef, undef, undef, undef, undef, undef, undef, undef, undef, undef, undef, undef, undef, undef, v23, v24, v25, v26, undef, undef, undef, undef, undef, undef, undef, undef, undef, undef, undef, undef, undef, undef, undef, undef, undef, undef, undef, undef, undef, undef, undef, undef, undef, undef, undef, undef, undef, undef, undef, undef, undef, undef, undef, undef, undef, undef, undef, undef, undef, undef, undef, undef, undef, undef, undef, undef, undef, undef, undef, undef, undef, undef, undef, undef, undef, undef, undef, undef, undef, undef, undef, undef, undef, undef, undef, undef, undef, undef, undef, undef, undef, undef, undef, undef, undef, undef, undef, undef, undef, undef, undef, undef, undef, undef, undef, undef, undef, undef, undef, undef, undef, undef, undef, undef, undef, undef, undef, undef, undef, undef, undef, undef, undef, undef, undef, undef, undef, undef, undef, undef, undef, undef, undef, undef, undef, undef, undef, undef, undef, undef, undef, undef, undef, undef, undef, undef, undef, undef, undef, undef, undef, undef, undef, undef, undef, undef, undef, undef, undef, undef, undef, undef, undef, undef, undef, undef, undef, undef], []⟩ w := by
  conv => arg 2; whnf
  go_wp2
theorem nC {v23 v24 v25 v26 v59 v60 v61 v62 : Value} {Bx : Nat} (S : Value) (a m b : Nat) (w : World) (mid : Nat) (zM : ((a : Int) + (b : Int)) / 2 = (mid : Int)) (h1 : a ≤ 1000) (h2 : b ≤ 1000) : (fC (mC 3)).wp Try.prog (fun x a1 w1 => x = .normal ∧ w1 = w ∧ ∃ v95 v96 v97 v98 v99 v100, a1 = ⟨#[S, .int .i64 a, .int .i64 m, .int .i64 b, .pointer (some ⟨Bx, 0, none⟩), undef, undef, undef, undef, undef, undef, undef, undef, undef, undef, undef, .int .i64 mid, undef, undef, undef, undef, undef, undef, v23, v24, v25, v26, undef, undef, undef, undef, undef, undef, undef, undef, undef, undef, undef, undef, undef, undef, undef, undef, undef, undef, undef, undef, undef, undef, undef, undef, undef, undef, undef, undef, undef, undef, undef, undef, v59, v60, v61, v62, undef, undef, undef, undef, undef, undef, undef, undef, undef, undef, undef, undef, undef, undef, undef, undef, undef, undef, undef, undef, undef, undef, undef, undef, undef, undef, undef, undef, undef, undef, undef, undef, v95, v96, v97, v98, v99, v100, undef, undef, undef, undef, undef, undef, undef, undef, undef, undef, undef, undef, undef, undef, undef, undef, undef, undef, undef, undef, undef, undef, undef, undef, undef, undef, undef, undef, undef, undef, undef, undef, undef, undef, undef, undef, undef, undef, undef, undef, undef, undef, undef, undef, undef, undef, undef, undef, undef, undef, undef, undef, undef, undef, undef, undef, undef, undef, undef, undef, undef, undef, undef, undef, undef, undef, undef, undef, undef, undef, undef, undef, undef, undef, undef, undef], []⟩) ⟨#[S, .int .i64 a, .int .i64 m, .int .i64 b, .pointer (some ⟨Bx, 0, none⟩), undef, undef, undef, undef, undef, undef, undef, undef, undef, undef, undef, undef, undef, undef, undef, undef, undef, undef, v23, v24, v25, v26, undef, undef, undef, undef, undef, undef, undef, undef, undef, undef, undef, undef, undef, undef, undef, undef, undef, undef, undef, undef, undef, undef, undef, undef, undef, undef, undef, undef, undef, undef, undef, undef, v59, v60, v61, v62, undef, undef, undef, undef, undef, undef, undef, undef, undef, undef, undef, undef, undef, undef, undef, undef, undef, undef, undef, undef, undef, undef, undef, undef, undef, undef, undef, undef, undef, undef, undef, undef, undef, undef, undef, undef, undef, undef, undef, undef, undef, undef, undef, undef, undef, undef, undef, undef, undef, undef, undef, undef, undef, undef, undef, undef, undef, undef, undef, undef, undef, undef, undef, undef, undef, undef, undef, undef, undef, undef, undef, undef, undef, undef, undef, undef, undef, undef, undef, undef, undef, undef, undef, undef, undef, undef, undef, undef, undef, undef, undef, undef, undef, undef, undef, undef, undef, undef, undef, undef, undef, undef, undef, undef, undef, undef, undef, undef, undef, undef, undef, undef, undef, undef], []⟩ w := by
  conv => arg 2; whnf
  go_wp2
theorem nD {v23 v24 v25 v26 v59 v60 v61 v62 v95 v96 v97 v98 v99 v100 : Value} {Bx : Nat} (S : Value) (a m b : Nat) (w : World) (mid : Nat) (n : Int) (zn : (mid : Int) + (m : Int) = n) (h1 : mid ≤ 1000) (h2 : m ≤ 1000) : (fC (mC 4)).wp Try.prog (fun x a1 w1 => x = .normal ∧ w1 = w ∧ ∃ v101 v102 v103, a1 = ⟨#[S, .int .i64 a, .int .i64 m, .int .i64 b, .pointer (some ⟨Bx, 0, none⟩), undef, undef, undef, undef, undef, undef, undef, undef, undef, undef, undef, .int .i64 mid, .int .i64 n, undef, undef, undef, undef, undef, v23, v24, v25, v26, undef, undef, undef, undef, undef, undef, undef, undef, undef, undef, undef, undef, undef, undef, undef, undef, undef, undef, undef, undef, undef, undef, undef, undef, undef, undef, undef, undef, undef, undef, undef, undef, v59, v60, v61, v62, undef, undef, undef, undef, undef, undef, undef, undef, undef, undef, undef, undef, undef, undef, undef, undef, undef, undef, undef, undef, undef, undef, undef, undef, undef, undef, undef, undef, undef, undef, undef, undef, v95, v96, v97, v98, v99, v100, v101, v102, v103, undef, undef, undef, undef, undef, undef, undef, undef, undef, undef, undef, undef, undef, undef, undef, undef, undef, undef, undef, undef, undef, undef, undef, undef, undef, undef, undef, undef, undef, undef, undef, undef, undef, undef, undef, undef, undef, undef, undef, undef, undef, undef, undef, undef, undef, undef, undef, undef, undef, undef, undef, undef, undef, undef, undef, undef, undef, undef, undef, undef, undef, undef, undef, undef, undef, undef, undef, undef, undef, undef, undef, undef, undef], []⟩) ⟨#[S, .int .i64 a, .int .i64 m, .int .i64 b, .pointer (some ⟨Bx, 0, none⟩), undef, undef, undef, undef, undef, undef, undef, undef, undef, undef, undef, .int .i64 mid, undef, undef, undef, undef, undef, undef, v23, v24, v25, v26, undef, undef, undef, undef, undef, undef, undef, undef, undef, undef, undef, undef, undef, undef, undef, undef, undef, undef, undef, undef, undef, undef, undef, undef, undef, undef, undef, undef, undef, undef, undef, undef, v59, v60, v61, v62, undef, undef, undef, undef, undef, undef, undef, undef, undef, undef, undef, undef, undef, undef, undef, undef, undef, undef, undef, undef, undef, undef, undef, undef, undef, undef, undef, undef, undef, undef, undef, undef, v95, v96, v97, v98, v99, v100, undef, undef, undef, undef, undef, undef, undef, undef, undef, undef, undef, undef, undef, undef, undef, undef, undef, undef, undef, undef, undef, undef, undef, undef, undef, undef, undef, undef, undef, undef, undef, undef, undef, undef, undef, undef, undef, undef, undef, undef, undef, undef, undef, undef, undef, undef, undef, undef, undef, undef, undef, undef, undef, undef, undef, undef, undef, undef, undef, undef, undef, undef, undef, undef, undef, undef, undef, undef, undef, undef, undef, undef, undef, undef, undef, undef], []⟩ w := by
  conv => arg 2; whnf
  go_wp2
theorem nE {v23 v24 v25 v26 v59 v60 v61 v62 v95 v96 v97 v98 v99 v100 v101 v102 v103 : Value} {Bx : Nat} (S : Value) (a m b : Nat) (w : World) (mid : Nat) (n : Int) : (fC (mC 5)).wp Try.prog (fun x a1 w1 => x = .normal ∧ w1 = w ∧ a1 = ⟨#[S, .int .i64 a, .int .i64 m, .int .i64 b, .pointer (some ⟨Bx, 0, none⟩), undef, undef, undef, undef, undef, undef, undef, undef, undef, undef, undef, .int .i64 mid, .int .i64 n, .int .i64 0, .int .i64 0, undef, undef, undef, v23, v24, v25, v26, undef, undef, undef, undef, undef, undef, undef, undef, undef, undef, undef, undef, undef, undef, undef, undef, undef, undef, undef, undef, undef, undef, undef, undef, undef, undef, undef, undef, undef, undef, undef, undef, v59, v60, v61, v62, undef, undef, undef, undef, undef, undef, undef, undef, undef, undef, undef, undef, undef, undef, undef, undef, undef, undef, undef, undef, undef, undef, undef, undef, undef, undef, undef, undef, undef, undef, undef, undef, v95, v96, v97, v98, v99, v100, v101, v102, v103, undef, undef, undef, undef, undef, undef, undef, undef, undef, undef, undef, undef, undef, undef, undef, undef, undef, undef, undef, undef, undef, undef, undef, undef, undef, undef, undef, undef, undef, undef, undef, undef, undef, undef, undef, undef, undef, undef, undef, undef, undef, undef, undef, undef, undef, undef, undef, undef, undef, undef, undef, undef, undef, undef, undef, undef, undef, undef, undef, undef, undef, undef, undef, undef, undef, undef, undef, undef, undef, undef, undef, undef, undef], []⟩) ⟨#[S, .int .i64 a, .int .i64 m, .int .i64 b, .pointer (some ⟨Bx, 0, none⟩), undef, undef, undef, undef, undef, undef, undef, undef, undef, undef, undef, .int .i64 mid, .int .i64 n, undef, undef, undef, undef, undef, v23, v24, v25, v26, undef, undef, undef, undef, undef, undef, undef, undef, undef, undef, undef, undef, undef, undef, undef, undef, undef, undef, undef, undef, undef, undef, undef, undef, undef, undef, undef, undef, undef, undef, undef, undef, v59, v60, v61, v62, undef, undef, undef, undef, undef, undef, undef, undef, undef, undef, undef, undef, undef, undef, undef, undef, undef, undef, undef, undef, undef, undef, undef, undef, undef, undef, undef, undef, undef, undef, undef, undef, v95, v96, v97, v98, v99, v100, v101, v102, v103, undef, undef, undef, undef, undef, undef, undef, undef, undef, undef, undef, undef, undef, undef, undef, undef, undef, undef, undef, undef, undef, undef, undef, undef, undef, undef, undef, undef, undef, undef, undef, undef, undef, undef, undef, undef, undef, undef, undef, undef, undef, undef, undef, undef, undef, undef, undef, undef, undef, undef, undef, undef, undef, undef, undef, undef, undef, undef, undef, undef, undef, undef, undef, undef, undef, undef, undef, undef, undef, undef, undef, undef, undef], []⟩ w := by
  conv => arg 2; whnf
  go_wp2
theorem nF {v23 v24 v25 v26 v59 v60 v61 v62 v95 v96 v97 v98 v99 v100 v101 v102 v103 : Value} {Bx : Nat} (S : Value) (a m b mid : Nat) (n : Int) (w : World) (lo hi : Nat) (hcase : (mid < m ∧ n - (b : Int) = (lo : Int) ∧ hi = mid) ∨ (m ≤ mid ∧ lo = a ∧ hi = m)) (h1 : 0 ≤ n) (h2 : n ≤ 5000) (h3 : b ≤ 1000) : (fC (mC 6)).wp Try.prog (fun x a1 w1 => x = .normal ∧ w1 = w ∧ ∃ v104 v105 v106 v107 v108 v109 v110 v111 v112, a1 = ⟨#[S, .int .i64 a, .int .i64 m, .int .i64 b, .pointer (some ⟨Bx, 0, none⟩), undef, undef, undef, undef, undef, undef, undef, undef, undef, undef, undef, .int .i64 mid, .int .i64 n, .int .i64 lo, .int .i64 hi, undef, undef, undef, v23, v24, v25, v26, undef, undef, undef, undef, undef, undef, undef, undef, undef, undef, undef, undef, undef, undef, undef, undef, undef, undef, undef, undef, undef, undef, undef, undef, undef, undef, undef, undef, undef, undef, undef, undef, v59, v60, v61, v62, undef, undef, undef, undef, undef, undef, undef, undef, undef, undef, undef, undef, undef, undef, undef, undef, undef, undef, undef, undef, undef, undef, undef, undef, undef, undef, undef, undef, undef, undef, undef, undef, v95, v96, v97, v98, v99, v100, v101, v102, v103, v104, v105, v106, v107, v108, v109, v110, v111, v112, undef, undef, undef, undef, undef, undef, undef, undef, undef, undef, undef, undef, undef, undef, undef, undef, undef, undef, undef, undef, undef, undef, undef, undef, undef, undef, undef, undef, undef, undef, undef, undef, undef, undef, undef, undef, undef, undef, undef, undef, undef, undef, undef, undef, undef, undef, undef, undef, undef, undef, undef, undef, undef, undef, undef, undef, undef, undef, undef, undef, undef, undef, undef, undef], []⟩) ⟨#[S, .int .i64 a, .int .i64 m, .int .i64 b, .pointer (some ⟨Bx, 0, none⟩), undef, undef, undef, undef, undef, undef, undef, undef, undef, undef, undef, .int .i64 mid, .int .i64 n, .int .i64 0, .int .i64 0, undef, undef, undef, v23, v24, v25, v26, undef, undef, undef, undef, undef, undef, undef, undef, undef, undef, undef, undef, undef, undef, undef, undef, undef, undef, undef, undef, undef, undef, undef, undef, undef, undef, undef, undef, undef, undef, undef, undef, v59, v60, v61, v62, undef, undef, undef, undef, undef, undef, undef, undef, undef, undef, undef, undef, undef, undef, undef, undef, undef, undef, undef, undef, undef, undef, undef, undef, undef, undef, undef, undef, undef, undef, undef, undef, v95, v96, v97, v98, v99, v100, v101, v102, v103, undef, undef, undef, undef, undef, undef, undef, undef, undef, undef, undef, undef, undef, undef, undef, undef, undef, undef, undef, undef, undef, undef, undef, undef, undef, undef, undef, undef, undef, undef, undef, undef, undef, undef, undef, undef, undef, undef, undef, undef, undef, undef, undef, undef, undef, undef, undef, undef, undef, undef, undef, undef, undef, undef, undef, undef, undef, undef, undef, undef, undef, undef, undef, undef, undef, undef, undef, undef, undef, undef, undef, undef, undef], []⟩ w := by
  conv => arg 2; whnf
  rcases hcase with ⟨c1, c2, rfl⟩ | ⟨c1, rfl, rfl⟩
  · have z1 : (hi : Int) < (m : Int) := by omega
    go_wp2
  · have z1 : ¬ (mid : Int) < (hi : Int) := by omega
    go_wp2
theorem nG {v23 v24 v25 v26 v59 v60 v61 v62 v95 v96 v97 v98 v99 v100 v101 v102 v103 v104 v105 v106 v107 v108 v109 v110 v111 v112 : Value} {Bx : Nat} (S : Value) (a m b mid : Nat) (n : Int) (w : World) (lo hi p : Nat) (hp : n - 1 = (p : Int)) (h1 : 0 ≤ n) (h2 : n ≤ 5000) : (fC (mC 7)).wp Try.prog (fun x a1 w1 => x = .normal ∧ w1 = w ∧ ∃ v113 v114, a1 = ⟨#[S, .int .i64 a, .int .i64 m, .int .i64 b, .pointer (some ⟨Bx, 0, none⟩), undef, undef, undef, undef, undef, undef, undef, undef, undef, undef, undef, .int .i64 mid, .int .i64 n, .int .i64 lo, .int .i64 hi, .int .i64 p, undef, undef, v23, v24, v25, v26, undef, undef, undef, undef, undef, undef, undef, undef, undef, undef, undef, undef, undef, undef, undef, undef, undef, undef, undef, undef, undef, undef, undef, undef, undef, undef, undef, undef, undef, undef, undef, undef, v59, v60, v61, v62, undef, undef, undef, undef, undef, undef, undef, undef, undef, undef, undef, undef, undef, undef, undef, undef, undef, undef, undef, undef, undef, undef, undef, undef, undef, undef, undef, undef, undef, undef, undef, undef, v95, v96, v97, v98, v99, v100, v101, v102, v103, v104, v105, v106, v107, v108, v109, v110, v111, v112, v113, v114, undef, undef, undef, undef, undef, undef, undef, undef, undef, undef, undef, undef, undef, undef, undef, undef, undef, undef, undef, undef, undef, undef, undef, undef, undef, undef, undef, undef, undef, undef, undef, undef, undef, undef, undef, undef, undef, undef, undef, undef, undef, undef, undef, undef, undef, undef, undef, undef, undef, undef, undef, undef, undef, undef, undef, undef, undef, undef, undef, undef, undef, undef], []⟩) ⟨#[S, .int .i64 a, .int .i64 m, .int .i64 b, .pointer (some ⟨Bx, 0, none⟩), undef, undef, undef, undef, undef, undef, undef, undef, undef, undef, undef, .int .i64 mid, .int .i64 n, .int .i64 lo, .int .i64 hi, undef, undef, undef, v23, v24, v25, v26, undef, undef, undef, undef, undef, undef, undef, undef, undef, undef, undef, undef, undef, undef, undef, undef, undef, undef, undef, undef, undef, undef, undef, undef, undef, undef, undef, undef, undef, undef, undef, undef, v59, v60, v61, v62, undef, undef, undef, undef, undef, undef, undef, undef, undef, undef, undef, undef, undef, undef, undef, undef, undef, undef, undef, undef, undef, undef, undef, undef, undef, undef, undef, undef, undef, undef, undef, undef, v95, v96, v97, v98, v99, v100, v101, v102, v103, v104, v105, v106, v107, v108, v109, v110, v111, v112, undef, undef, undef, undef, undef, undef, undef, undef, undef, undef, undef, undef, undef, undef, undef, undef, undef, undef, undef, undef, undef, undef, undef, undef, undef, undef, undef, undef, undef, undef, undef, undef, undef, undef, undef, undef, undef, undef, undef, undef, undef, undef, undef, undef, undef, undef, undef, undef, undef, undef, undef, undef, undef, undef, undef, undef, undef, undef, undef, undef, undef, undef, undef, undef], []⟩ w := by
  conv => arg 2; whnf
  go_wp2
theorem nO {g : Nat} {lb : Array Value} {f : Nat} {sb : Array Value} (a m b : Nat) (w : World) : (fC (mC 0)).wp Try.prog (fun x a1 w1 => x = .normal ∧ w1 = w.alloc (.cells #[.func (.func g) #[] lb, .func (.func f) #[] sb] 103) ∧ a1 = ⟨#[.agg #[.func (.func g) #[] lb, .func (.func f) #[] sb], .int .i64 a, .int .i64 m, .int .i64 b, .pointer (some ⟨w.heap.size, 0, none⟩), undef, undef, undef, undef, undef, undef, undef, undef, undef, undef, undef, undef, undef, undef, undef, undef, undef, undef, undef, undef, undef, undef, undef, undef, undef, undef, undef, undef, undef, undef, undef, undef, undef, undef, undef, undef, undef, undef, undef, undef, undef, undef, undef, undef, undef, undef, undef, undef, undef, undef, undef, undef, undef, undef, undef, undef, undef, undef, undef, undef, undef, undef, undef, undef, undef, undef, undef, undef, undef, undef, undef, undef, undef, undef, undef, undef, undef, undef, undef, undef, undef, undef, undef, undef, undef, undef, undef, undef, undef, undef, undef, undef, undef, undef, undef, undef, undef, undef, undef, undef, undef, undef, undef, undef, undef, undef, undef, undef, undef, undef, undef, undef, undef, undef, undef, undef, undef, undef, undef, undef, undef, undef, undef, undef, undef, undef, undef, undef, undef, undef, undef, undef, undef, undef, undef, undef, undef, undef, undef, undef, undef, undef, undef, undef, undef, undef, undef, undef, undef, undef, undef, undef, undef, undef, undef, undef, undef, undef, undef, undef, undef, undef, undef, undef, undef, undef, undef, undef, undef, undef, undef, undef], []⟩) ⟨#[.agg #[.func (.func g) #[] lb, .func (.func f) #[] sb], .int .i64 a, .int .i64 m, .int .i64 b, undef, undef, undef, undef, undef, undef, undef, undef, undef, undef, undef, undef, undef, undef, undef, undef, undef, undef, undef, undef, undef, undef, undef, undef, undef, undef, undef, undef, undef, undef, undef, undef, undef, undef, undef, undef, undef, undef, undef, undef, undef, undef, undef, undef, undef, undef, undef, undef, undef, undef, undef, undef, undef, undef, undef, undef, undef, undef, undef, undef, undef, undef, undef, undef, undef, undef, undef, undef, undef, undef, undef, undef, undef, undef, undef, undef, undef, undef, undef, undef, undef, undef, undef, undef, undef, undef, undef, undef, undef, undef, undef, undef, undef, undef, undef, undef, undef, undef, undef, undef, undef, undef, undef, undef, undef, undef, undef, undef, undef, undef, undef, undef, undef, undef, undef, undef, undef, undef, undef, undef, undef, undef, undef, undef, undef, undef, undef, undef, undef, undef, undef, undef, undef, undef, undef, undef, undef, undef, undef, undef, undef, undef, undef, undef, undef, undef, undef, undef, undef, undef, undef, undef, undef, undef, undef, undef, undef, undef, undef, undef, undef, undef, undef, undef, undef, undef, undef, undef, undef, undef, undef, undef, undef], []⟩ w := by
  conv => arg 2; whnf
  go_wp2
set_option maxHeartbeats 4000000 in
theorem nPro {g : Nat} {lb : Array Value} {f : Nat} {sb : Array Value} (a m b mid lo hi p : Nat) (w : World) (Q : Exit → Act → World → Prop) (hz1 : (((m : Int) - (a : Int)) == 1) = false) (hz2 : (((b : Int) - (m : Int)) == 1) = false) (ham : a ≤ m) (hmb : m ≤ b) (hb : b ≤ 1000) (zM : ((a : Int) + (b : Int)) / 2 = (mid : Int)) (hp : p + 1 = mid + m)
    (hcase : (mid < m ∧ lo + b = mid + m ∧ hi = mid) ∨ (m ≤ mid ∧ lo = a ∧ hi = m))
    (k : ∀ v23 v24 v25 v26 v59 v60 v61 v62 v95 v96 v97 v98 v99 v100 v101 v102 v103 v104 v105 v106 v107 v108 v109 v110 v111 v112 v113 v114 : Value, (mC 8).wp Try.prog Q ⟨#[.agg #[.func (.func g) #[] lb, .func (.func f) #[] sb], .int .i64 a, .int .i64 m, .int .i64 b, .pointer (some ⟨w.heap.size, 0, none⟩), undef, undef, undef, undef, undef, undef, undef, undef, undef, undef, undef, .int .i64 mid, .int .i64 ((p + 1 : Nat) : Int), .int .i64 lo, .int .i64 hi, .int .i64 p, undef, undef, v23, v24, v25, v26, undef, undef, undef, undef, undef, undef, undef, undef, undef, undef, undef, undef, undef, undef, undef, undef, undef, undef, undef, undef, undef, undef, undef, undef, undef, undef, undef, undef, undef, undef, undef, undef, v59, v60, v61, v62, undef, undef, undef, undef, undef, undef, undef, undef, undef, undef, undef, undef, undef, undef, undef, undef, undef, undef, undef, undef, undef, undef, undef, undef, undef, undef, undef, undef, undef, undef, undef, undef, v95, v96, v97, v98, v99, v100, v101, v102, v103, v104, v105, v106, v107, v108, v109, v110, v111, v112, v113, v114, undef, undef, undef, undef, undef, undef, undef, undef, undef, undef, undef, undef, undef, undef, undef, undef, undef, undef, undef, undef, undef, undef, undef, undef, undef, undef, undef, undef, undef, undef, undef, undef, undef, undef, undef, undef, undef, undef, undef, undef, undef, undef, undef, undef, undef, undef, undef, undef, undef, undef, undef, undef, undef, undef, undef, undef, undef, undef, undef, undef, undef, undef], []⟩ (w.alloc (.cells #[.func (.func g) #[] lb, .func (.func f) #[] sb] 103))) : (mC 0).wp Try.prog Q ⟨#[.agg #[.func (.func g) #[] lb, .func (.func f) #[] sb], .int .i64 a, .int .i64 m, .int .i64 b, undef, undef, undef, undef, undef, undef, undef, undef, undef, undef, undef, undef, undef, undef, undef, undef, undef, undef, undef, undef, undef, undef, undef, undef, undef, undef, undef, undef, undef, undef, undef, undef, undef, undef, undef, undef, undef, undef, undef, undef, undef, undef, undef, undef, undef, undef, undef, undef, undef, undef, undef, undef, undef, undef, undef, undef, undef, undef, undef, undef, undef, undef, undef, undef, undef, undef, undef, undef, undef, undef, undef, undef, undef, undef, undef, undef, undef, undef, undef, undef, undef, undef, undef, undef, undef, undef, undef, undef, undef, undef, undef, undef, undef, undef, undef, undef, undef, undef, undef, undef, undef, undef, undef, undef, undef, undef, undef, undef, undef, undef, undef, undef, undef, undef, undef, undef, undef, undef, undef, undef, undef, undef, undef, undef, undef, undef, undef, undef, undef, undef, undef, undef, undef, undef, undef, undef, undef, undef, undef, undef, undef, undef, undef, undef, undef, undef, undef, undef, undef, undef, undef, undef, undef, undef, undef, undef, undef, undef, undef, undef, undef, undef, undef, undef, undef, undef, undef, undef, undef, undef, undef, undef, undef], []⟩ w := by
  have hmid : mid ≤ 1000 := by omega
  show (Code.seq (fC (mC 0)) (mC 1)).wp _ _ _ _
  refine wp_seq (wp_mono (nO a m b w) ?_)
  rintro x a1 w0 ⟨rfl, rfl, rfl⟩
  show (Code.seq (fC (mC 1)) (mC 2)).wp _ _ _ _
  refine wp_seq (wp_mono (nA _ a m b _ hz1 ham (by omega)) ?_)
  rintro x a1 w1 ⟨rfl, rfl, v23, v24, v25, v26, rfl⟩
  show (Code.seq (fC (mC 2)) (mC 3)).wp _ _ _ _
  refine wp_seq (wp_mono (nB _ a m b _ hz2 hmb hb) ?_)
  rintro x a1 w2 ⟨rfl, rfl, v59, v60, v61, v62, rfl⟩
  show (Code.seq (fC (mC 3)) (mC 4)).wp _ _ _ _
  refine wp_seq (wp_mono (nC _ a m b _ mid zM (by omega) hb) ?_)
  rintro x a1 w3 ⟨rfl, rfl, v95, v96, v97, v98, v99, v100, rfl⟩
  show (Code.seq (fC (mC 4)) (mC 5)).wp _ _ _ _
  refine wp_seq (wp_mono (nD _ a m b _ mid ((p + 1 : Nat) : Int) (by omega) hmid (by omega)) ?_)
  rintro x a1 w4 ⟨rfl, rfl, v101, v102, v103, rfl⟩
  show (Code.seq (fC (mC 5)) (mC 6)).wp _ _ _ _
  refine wp_seq (wp_mono (nE _ a m b _ mid ((p + 1 : Nat) : Int)) ?_)
  rintro x a1 w5 ⟨rfl, rfl, rfl⟩
  show (Code.seq (fC (mC 6)) (mC 7)).wp _ _ _ _
  refine wp_seq (wp_mono (nF _ a m b mid ((p + 1 : Nat) : Int) _ lo hi (by omega) (by omega) (by omega) hb) ?_)
  rintro x a1 w6 ⟨rfl, rfl, v104, v105, v106, v107, v108, v109, v110, v111, v112, rfl⟩
  show (Code.seq (fC (mC 7)) (mC 8)).wp _ _ _ _
  refine wp_seq (wp_mono (nG _ a m b mid ((p + 1 : Nat) : Int) _ lo hi p (by omega) (by omega) (by omega)) ?_)
  rintro x a1 w7 ⟨rfl, rfl, v113, v114, rfl⟩
  exact k v23 v24 v25 v26 v59 v60 v61 v62 v95 v96 v97 v98 v99 v100 v101 v102 v103 v104 v105 v106 v107 v108 v109 v110 v111 v112 v113 v114
set_option maxHeartbeats 8000000 in
theorem lSym_any {G : Array Nat → World → Prop} {bk : Nat} {lt : Nat → Nat → Bool} {g : Nat} {lb : Array Value} {f : Nat} {sb : Array Value} (L : LS G bk lt g lb f sb) (hSW : SWO lt) (N : Nat) (hN2 : N ≤ 1000) : ∀ (fuel : Nat) (σ : Array Nat) (w : World) (a m b : Nat), b - a ≤ fuel → G σ w → bk < w.heap.size → σ.size = N → a < m → m < b → b ≤ N → SortedIn (rL lt) a m σ → SortedIn (rL lt) m b σ → LR (fun x => x) a m b σ →
    Calls Try.prog 68 #[.agg (lsV g lb f sb), .int .i64 a, .int .i64 m, .int .i64 b] w fun e w' => e = .returned (.tuple #[]) ∧ (∃ σ', Mrg (rL lt) a b σ σ' ∧ G σ' w') ∧ Chg (fun k => k = bk) w w'
  | 0, σ, w, a, m, b, hf, _, _, _, h1, h2, _, _, _, _ => by omega
  | fuel + 1, σ, w, a, m, b, hf, hG, hbk, hN, ham, hmb, hb, h1, h2, hLR => by
    by_cases cA : m = a + 1
    · subst cA
      exact lSymA_any L hSW σ w hG hbk a b N hN (by omega) hb hN2 h2 hLR
    by_cases cB : b = m + 1
    · subst cB
      exact lSymB_any L hSW σ w hG hbk a m N hN (by omega) hb hN2 h1 hLR
    have IH := lSym_any L hSW N hN2 fuel
    have hRSW := rB_swo hSW fun x : Nat => x
    have S : LW G bk w.heap.size #[.func (.func g) #[] lb, .func (.func f) #[] sb] w σ (w.alloc (.cells #[.func (.func g) #[] lb, .func (.func f) #[] sb] 103)) := LW.start L hG hbk _ _
    have zA : (((m : Int) - (a : Int)) == 1) = false := by simp; omega
    have zB : (((b : Int) - (m : Int)) == 1) = false := by simp; omega
    obtain ⟨mid, hmid⟩ : ∃ x, x = (a + b) / 2 := ⟨_, rfl⟩
    have zM : ((a : Int) + (b : Int)) / 2 = (mid : Int) := by omega
    have hma : a < mid := by omega
    have hmb2 : mid < b := by omega
    obtain ⟨lo, hlo⟩ : ∃ lo : Nat, (lo = a ∧ m ≤ mid) ∨ (lo + b = mid + m ∧ mid < m) := by
      by_cases h : m ≤ mid
      · exact ⟨a, .inl ⟨rfl, h⟩⟩
      · exact ⟨mid + m - b, .inr ⟨by omega, by omega⟩⟩
    obtain ⟨r0, hr0⟩ : ∃ r0 : Nat, (r0 = m ∧ m ≤ mid) ∨ (r0 = mid ∧ mid < m) := by
      by_cases h : m ≤ mid
      · exact ⟨m, .inl ⟨rfl, h⟩⟩
      · exact ⟨mid, .inr ⟨rfl, by omega⟩⟩
    have q1 : a ≤ lo := by omega
    have q2 : lo ≤ r0 := by omega
    have q3 : r0 ≤ m := by omega
    have q4 : r0 ≤ mid := by omega
    have q5 : mid + m ≤ lo + b := by omega
    obtain ⟨p, hp⟩ : ∃ p, p + 1 = mid + m := ⟨mid + m - 1, by omega⟩
    unfold lsV
    go_enter Try.func68, Try.ntmps68
    show (mC 0).wp _ _ _ _
    refine nPro a m b mid lo r0 p w _ zA zB (by omega) (by omega) (by omega) zM hp (by omega) ?_
    intro v23 v24 v25 v26 v59 v60 v61 v62 v95 v96 v97 v98 v99 v100 v101 v102 v103 v104 v105 v106 v107 v108 v109 v110 v111 v112 v113 v114
    show (Code.seq (fC (mC 8)) (mC 9)).wp _ _ _ _
    refine wp_seq (wp_mono (mLp L σ w _ N lo r0 p S hN hN2 q2 (by omega) (fun h k e1 e2 e3 => ⟨by omega, by omega, rB_later (hLR h k (by omega) (by omega) (by omega) (by omega))⟩) (by omega)) ?_)
    rintro x a1 w1 ⟨rfl, s, hls, hsr, hS, ⟨hB1, hB2⟩, v21, v115, v116, v117, v118, v119, v120, v121, v122, v123, v124, v125, v126, v127, v128, v129, v130, v131, v132, v133, v134, rfl⟩
    obtain ⟨e, he⟩ : ∃ e, s + e = p + 1 := ⟨p + 1 - s, by omega⟩
    have hme : m ≤ e := by omega
    have heb : e ≤ b := by omega
    have hcut : ∀ d1, Rot s m e σ d1 → Cut (rL lt) (fun x => x) a s mid e b d1 := fun d1 hrot => by
      rw [hmid]
      refine cut_of hRSW h1 h2 hLR (by omega) (by rw [← hmid]; exact hlo) (by rw [← hmid]; exact hr0) (by omega) hls hsr hme heb (fun h => ?_) (fun h => ?_) hrot
      · have := hB1 h
        rwa [show p + 1 - s = e by omega] at this
      · have := hB2 h
        rwa [show p - s = e - 1 by omega] at this
    refine wp_mono (mTail (X1 := fun W => ∃ d1, Rot s m e σ d1 ∧ LW G bk w.heap.size #[.func (.func g) #[] lb, .func (.func f) #[] sb] w d1 W) (X2 := fun W => ∃ d1 d2, Rot s m e σ d1 ∧ Mrg (rL lt) a mid d1 d2 ∧ LW G bk w.heap.size #[.func (.func g) #[] lb, .func (.func f) #[] sb] w d2 W) (Z := fun W => ∃ d', Mrg (rL lt) a b σ d' ∧ LW G bk w.heap.size #[.func (.func g) #[] lb, .func (.func f) #[] sb] w d' W)
      _ a m b mid s e ((p + 1 : Nat) : Int) w1 (by omega) (by omega) (by omega) hS.b (fun W ⟨_, _, h⟩ => h.b) (fun W ⟨_, _, _, _, h⟩ => h.b) (fun c1 c2 => ?_) (fun hno => ?_) (fun W hx => ?_) (fun W hx => ?_)) ?_
    · exact (lRot_any L σ w1 hS.g (Nat.lt_of_lt_of_le hbk hS.c.size) s m e N hN c1 c2 (by omega) hN2).mono fun x w' ⟨e1, ⟨d1, e2, e3⟩, e4⟩ => ⟨e1, d1, e2, hS.chg e3 e4⟩
    · rcases Nat.lt_or_ge s m with c1 | c1
      · obtain rfl : m = e := by omega
        exact ⟨σ, Rot.none_right σ (by omega), hS⟩
      · obtain rfl : s = m := by omega
        exact ⟨σ, Rot.none_left σ (by omega), hS⟩
    · obtain ⟨d1, hrot, hS1⟩ := hx
      have hcu := hcut d1 hrot
      have hz1 : d1.size = N := by rw [hrot.1.1]; exact hN
      refine ⟨fun c1 c2 => (IH d1 W a s mid (by omega) hS1.g (Nat.lt_of_lt_of_le hbk hS1.c.size) hz1 c1 c2 (by omega) hcu.p1 hcu.p2 hcu.l1).mono fun x w' ⟨e1, ⟨d2, e2, e3⟩, e4⟩ => ⟨e1, d1, d2, hrot, e2, hS1.chg e3 e4⟩, fun hno => ?_⟩
      exact ⟨d1, d1, hrot, hcu.left_none (by omega), hS1⟩
    · obtain ⟨d1, d2, hrot, hm2, hS2⟩ := hx
      have hcu := hcut d1 hrot
      have hz1 : d1.size = N := by rw [hrot.1.1]; exact hN
      have hz2 : d2.size = N := by rw [hm2.1.1]; exact hz1
      have hr3 : SortedIn (rL lt) mid e d2 := so_rest hcu.p3 fun k hk => hm2.1.2.1 k (.inr hk)
      have fin : ∀ d3, Mrg (rL lt) mid b d2 d3 → Mrg (rL lt) a b σ d3 := fun d3 h3 => hcu.done (by omega) (by omega) (by rw [hz1]; exact hb) (permIn_mono _ _ _ _ _ _ (by omega) heb (by rw [hN]; exact hb) hrot.1) hm2 h3
      refine ⟨fun c1 c2 => ?_, fun hno => ?_⟩
      · have hr4 : SortedIn (rL lt) e b d2 := so_rest hcu.p4 fun k hk => hm2.1.2.1 k (.inr (by omega))
        have hl2 : LR (fun x => x) mid e b d2 := fun i j i1 i2 j1 j2 => by
          rw [hm2.1.2.1 i (.inr i1), hm2.1.2.1 j (.inr (by omega))]
          exact hcu.l2 i j i1 i2 j1 j2
        exact (IH d2 W mid e b (by omega) hS2.g (Nat.lt_of_lt_of_le hbk hS2.c.size) hz2 c1 c2 hb hr3 hr4 hl2).mono fun x w' ⟨e1, ⟨d3, e2, e3⟩, e4⟩ => ⟨e1, d3, fin d3 e2, hS2.chg e3 e4⟩
      · by_cases c1 : mid < e
        · have hr4 : SortedIn (rL lt) e b d2 := so_rest hcu.p4 fun k hk => hm2.1.2.1 k (.inr (by omega))
          exact ⟨d2, fin d2 (right_none hr3 hr4 (.inr (by omega))), hS2⟩
        · have hr4 : SortedIn (rL lt) mid b d2 := so_rest (so_sub hcu.p4 (by omega) (Nat.le_refl _)) fun k hk => hm2.1.2.1 k (.inr hk)
          exact ⟨d2, fin d2 ⟨permIn_refl _ _ _, hr4⟩, hS2⟩
    · rintro x a1 w4 ⟨rfl, hde, d', hz, hS4⟩
      refine bodyPost_end (results_none rfl _ _ _) hde ?_
      exact ⟨rfl, ⟨d', hz, hS4.g⟩, hS4.c⟩
end Go.Proofs.Ytanihbflgolciaa
/- sort's insertionSort_func, stable_func over any row that 'less' and 'swap' turn. -/
namespace Go.Proofs.Ytanihbflgolciaa
open Go.RowKit Go.Lib Go.Sort
set_option linter.unusedVariables false
set_option maxRecDepth 100000
set_option maxHeartbeats 8000000 in
theorem lIns_any {G : Array Nat → World → Prop} {bk : Nat} {lt : Nat → Nat → Bool} {g : Nat} {lb : Array Value} {f : Nat} {sb : Array Value} (L : LS G bk lt g lb f sb) (σ : Array Nat) (w : World) (hG : G σ w) (hbk : bk < w.heap.size) (a b N : Nat) (hN : σ.size = N) (hab : a ≤ b) (hb : b ≤ N) (hN2 : N ≤ 1000) :
    Calls Try.prog 67 #[.agg (lsV g lb f sb), .int .i64 a, .int .i64 b] w fun e w' => e = .returned (.tuple #[]) ∧ G (insertionSort lt σ a b) w' ∧ Chg (fun k => k = bk) w w' := by
  have HS0 : Hid (LW G bk w.heap.size (lsV g lb f sb) w σ (w.alloc (.cells (lsV g lb f sb) 103))) := LW.start L hG hbk _ _
  have HL := Lib.hid L
  have HN := Lib.hid hN
  have eg := L.eg
  clear hG hN L
  unfold lsV at HS0 ⊢
  obtain ⟨w1, hw1⟩ : ∃ w1, w1 = w.alloc (.cells #[.func (.func g) #[] lb, .func (.func f) #[] sb] 103) := ⟨_, rfl⟩
  rw [← hw1] at HS0
  go_enter Try.func67, Try.ntmps67
  go_wp2
  rw [← hw1]
  clear hw1
  go_loopw [6] (fun vi wr => ∃ (i : Nat) (dk : Array Nat), vi = .int .i64 i ∧ a < i ∧ i ≤ b + 1 ∧ Hid (dk.size = N) ∧ Hid (LW G bk w.heap.size #[.func (.func g) #[] lb, .func (.func f) #[] sb] w dk wr) ∧ Hid (insOuter lt a b i dk = insOuter lt a b (a + 1) σ)) (fun vi _ => b + 1 - (RowKit.intOf vi).toNat)
  case atStart => exact ⟨a + 1, σ, by go_num, by omega, by omega, HN, HS0, (show Hid _ from rfl)⟩
  case round =>
    clear HS0
    obtain ⟨i, dk, rfl, hai, hib, HZ, HS, HO⟩ := hrel
    by_cases hlt : i < b
    · have z1 : (i : Int) < (b : Int) := by omega
      have HI0 : Hid (insInner lt a i dk = insInner lt a i dk) := rfl
      go_wp2
      generalize decide ((i : Int) < (b : Int)) = bi
      go_loopw [7] (fun vj wr => ∃ (j : Nat) (dj : Array Nat), vj = .int .i64 j ∧ a ≤ j ∧ j ≤ i ∧ Hid (dj.size = N) ∧ Hid (LW G bk w.heap.size #[.func (.func g) #[] lb, .func (.func f) #[] sb] w dj wr) ∧ Hid (insInner lt a j dj = insInner lt a i dk)) (fun vj _ => (RowKit.intOf vj).toNat)
      case atStart => exact ⟨i, dk, rfl, by omega, Nat.le_refl _, HZ, HS, (show Hid _ from rfl)⟩
      case round =>
        clear HS HZ HI0
        rename World => wi
        obtain ⟨j, dj, rfl, haj, hji, HZ, HS, HI⟩ := hrel
        have HOUT : Hid ((j ≤ a ∨ lt dj[j]! dj[j - 1]! = false) → insOuter lt a b (i + 1) dj = insOuter lt a b (a + 1) σ) := fun hs => by
          rw [← HO.out, insOuter_go _ _ _ _ _ hlt, ← HI.out, insInner_stop _ _ _ _ hs]
        have e0 := HS.out.b.cell (j := 0) rfl
        by_cases hja : a < j
        · have z2 : (a : Int) < (j : Int) := by omega
          have hl := HS.out.less HL.out (i := j) (j := j - 1) (by rw [HZ.out]; omega) (by rw [HZ.out]; omega)
          rw [show (((j - 1 : Nat) : Int)) = (j : Int) - 1 by omega] at hl
          have pa : (0 : Int) ≤ (j : Int) - 1 := by omega
          have pb : (j : Int) ≤ 1000 := by omega
          cases hlv : lt dj[j]! dj[j - 1]! with
          | true =>
            rw [hlv] at hl
            have HN3 : Hid (insInner lt a (j - 1) (swp dj j (j - 1)) = insInner lt a i dk) := by
              show _ = _
              rw [← HI.out, insInner_go lt a j dj hja hlv]
            have HZ3 : Hid ((swp dj j (j - 1)).size = N) := by show _ = _; rw [size_swp]; exact HZ.out
            go_wp2_with (go_at_fn g; refine hl.mono ?_; rintro e w2 ⟨rfl, hS2⟩; have S2 := Lib.hid hS2; have e1 := hS2.b.cell (j := 1) rfl; clear hS2 e0)
            obtain ⟨w3, hs, hS3⟩ := S2.out.swap HL.out (i := j) (j := j - 1) (by rw [HZ.out]; omega) (by rw [HZ.out]; omega)
            rw [show (((j - 1 : Nat) : Int)) = (j : Int) - 1 by omega] at hs
            have H3 := Lib.hid hS3
            rw [hs, Oper.upon_value]
            clear hs hS3 S2 hl HS
            go_wp2
            exact ⟨⟨j - 1, swp dj j (j - 1), by go_num, by omega, by omega, HZ3, H3, HN3⟩, by simp [RowKit.intOf]; omega⟩
          | false =>
            rw [hlv] at hl
            have HF := Lib.hid (HOUT.out (.inr hlv))
            go_wp2_with (go_at_fn g; refine hl.mono ?_; rintro e w2 ⟨rfl, hS2⟩; have S2 := Lib.hid hS2; clear hS2 e0 HS)
            exact ⟨⟨i + 1, dj, by go_num, by omega, by omega, HZ, S2, HF⟩, by simp [RowKit.intOf]; omega⟩
        · have z2 : ¬ (a : Int) < (j : Int) := by omega
          have HF := Lib.hid (HOUT.out (.inl (by omega)))
          go_wp2
          exact ⟨⟨i + 1, dj, by go_num, by omega, by omega, HZ, HS, HF⟩, by simp [RowKit.intOf]; omega⟩
    · have z1 : ¬ (i : Int) < (b : Int) := by omega
      have HE : Hid (dk = insertionSort lt σ a b) := by
        show _ = _
        unfold insertionSort
        rw [← HO.out, insOuter_stop _ _ _ _ _ hlt]
      go_wp2
      go_end0
      exact ⟨rfl, by rw [← HE.out]; exact HS.out.g, HS.out.c⟩

end Go.Proofs.Ytanihbflgolciaa
/- sort's stable_func over any row that 'less' and 'swap' turn. -/
namespace Go.Proofs.Ytanihbflgolciaa
open Go.RowKit Go.Lib Go.Sort
set_option linter.unusedVariables false
set_option maxRecDepth 100000
/-- What is known all the while. -/
structure Lk (G : Array Nat → World → Prop) (bk Bx : Nat) (X : Array Value) (w0 : World) (N : Nat) (dk : Array Nat) (w : World) : Prop where
  sz : dk.size = N
  sw : LW G bk Bx X w0 dk w
set_option maxHeartbeats 32000000 in
theorem lStb_any {G : Array Nat → World → Prop} {bk : Nat} {lt : Nat → Nat → Bool} {g : Nat} {lb : Array Value} {f : Nat} {sb : Array Value} (L : LS G bk lt g lb f sb) (hSW : SWO lt) (d : Array Nat) (w : World) (hG : G d w) (hbk : bk < w.heap.size) (N : Nat) (hN : d.size = N) (hN2 : N ≤ 1000) (hasc : ∀ p q, p < q → q < N → d[p]! < d[q]!) :
    Calls Try.prog 54 #[.agg (lsV g lb f sb), .int .i64 N] w fun e w' => e = .returned (.tuple #[]) ∧ (∃ d', PermIn 0 N d d' ∧ SortedIn (rL lt) 0 N d' ∧ G d' w') ∧ Chg (fun k => k = bk) w w' := by
  have HIN : Hid (∀ (dk : Array Nat) (W : World) (a b : Nat), Lk G bk w.heap.size #[.func (.func g) #[] lb, .func (.func f) #[] sb] w N dk W → a ≤ b → b ≤ N → Calls Try.prog 67 #[.agg #[.func (.func g) #[] lb, .func (.func f) #[] sb], .int .i64 a, .int .i64 b] W fun e w' => e = .returned (.tuple #[]) ∧ LW G bk w.heap.size #[.func (.func g) #[] lb, .func (.func f) #[] sb] w (insertionSort lt dk a b) w') := fun dk W a b hk hab hb =>
    (lIns_any L dk W hk.sw.g (Nat.lt_of_lt_of_le hbk hk.sw.c.size) a b N hk.sz hab hb hN2).mono fun e w' ⟨e1, e2, e3⟩ => ⟨e1, hk.sw.chg e2 e3⟩
  have HSY : Hid (∀ (dk : Array Nat) (W : World) (a m b : Nat), Lk G bk w.heap.size #[.func (.func g) #[] lb, .func (.func f) #[] sb] w N dk W → a < m → m < b → b ≤ N → SortedIn (rL lt) a m dk → SortedIn (rL lt) m b dk → LR (fun x => x) a m b dk → Calls Try.prog 68 #[.agg #[.func (.func g) #[] lb, .func (.func f) #[] sb], .int .i64 a, .int .i64 m, .int .i64 b] W fun e w' => e = .returned (.tuple #[]) ∧ ∃ d', Mrg (rL lt) a b dk d' ∧ LW G bk w.heap.size #[.func (.func g) #[] lb, .func (.func f) #[] sb] w d' w') := fun dk W a m b hk h1 h2 h3 h4 h5 h6 =>
    (lSym_any L hSW N hN2 (b - a) dk W a m b (Nat.le_refl _) hk.sw.g (Nat.lt_of_lt_of_le hbk hk.sw.c.size) hk.sz h1 h2 h3 h4 h5 h6).mono fun e w' ⟨e1, ⟨d', e2, e3⟩, e4⟩ => ⟨e1, d', e2, hk.sw.chg e3 e4⟩
  have HIS : Hid (∀ (t : Nat) (dk : Array Nat) (b : Nat), Fst (rL lt) (fun x => x) 20 N t d dk → dk.size = N → t * 20 ≤ b → b ≤ N → PermIn (t * 20) b dk (insertionSort lt dk (t * 20) b) ∧ SortedIn (rL lt) (t * 20) b (insertionSort lt dk (t * 20) b)) := fun t dk b hF hz h1 h2 =>
    ins_stable (idx := fun x => x) hSW h1 (by rw [hz]; exact h2) fun p q hp hpq hq => by
      rw [hF.rest p hp, hF.rest q (by omega)]
      exact hasc p q hpq (by omega)
  have HF0 : Hid (Fst (rL lt) (fun x => x) 20 N 0 d d) := Fst.start (ord_asc hasc)
  have HK0 : Hid (Lk G bk w.heap.size #[.func (.func g) #[] lb, .func (.func f) #[] sb] w N d (w.alloc (.cells #[.func (.func g) #[] lb, .func (.func f) #[] sb] 103))) := ⟨hN, LW.start L hG hbk _ _⟩
  have HSZ := Lib.hid (lsSize g lb f sb)
  clear L hG hN hasc hSW
  unfold lsV
  obtain ⟨w1, hw1⟩ : ∃ w1, w1 = w.alloc (.cells #[.func (.func g) #[] lb, .func (.func f) #[] sb] 103) := ⟨_, rfl⟩
  rw [← hw1] at HK0
  go_enter Try.func54, Try.ntmps54
  go_wp2
  rw [← hw1]
  clear hw1
  go_loopw [5, 6] (fun va vb wr => ∃ (t a : Nat) (dk : Array Nat), Hid (a = t * 20) ∧ a ≤ N ∧ va = .int .i64 a ∧ vb = .int .i64 ((a : Int) + 20) ∧ Hid (Fst (rL lt) (fun x => x) 20 N t d dk) ∧ Hid (Lk G bk w.heap.size #[.func (.func g) #[] lb, .func (.func f) #[] sb] w N dk wr)) (fun va _ _ => N - (RowKit.intOf va).toNat)
  case atStart => exact ⟨0, 0, d, (show Hid _ from rfl), Nat.zero_le _, rfl, rfl, HF0, HK0⟩
  case round =>
    clear HF0 HK0
    obtain ⟨t, a, dk, HA, haN, rfl, rfl, HF, HK⟩ := hrel
    by_cases hlt : a + 20 ≤ N
    · have z1 : (a : Int) + 20 ≤ (N : Int) := by omega
      have HC := Lib.hid (HIN.out dk wr a (a + 20) HK.out (by omega) hlt)
      have HP : Hid (PermIn a (a + 20) dk (insertionSort lt dk a (a + 20)) ∧ SortedIn (rL lt) a (a + 20) (insertionSort lt dk a (a + 20))) := by
        have := HIS.out t dk (a + 20) HF.out HK.out.sz (by have := HA.out; omega) hlt
        rw [← HA.out] at this
        exact this
      have HF2 : Hid (Fst (rL lt) (fun x => x) 20 N (t + 1) d (insertionSort lt dk a (a + 20))) := by
        have h1 := HP.out
        rw [HA.out] at h1 ⊢
        exact HF.out.step (by have := HA.out; omega) (by rw [HK.out.sz]; exact Nat.le_refl _) h1.1 h1.2
      have HZ2 : Hid ((insertionSort lt dk a (a + 20)).size = N) := by show _ = _; rw [HP.out.1.1]; exact HK.out.sz
      clear HP
      generalize insertionSort lt dk a (a + 20) = dn at *
      rw [show (((a + 20 : Nat) : Int)) = (a : Int) + 20 by omega] at HC
      go_wp2_with (first
        | (with_reducible refine wpList_loadB _ rfl 103 (.tmp 2) rfl _ Try.underlying103 rfl w.heap.size rfl _ HK.out.sw.b HSZ.out ?_)
        | (go_at_call 67; (with_reducible refine HC.out.mono ?_); rintro e w2 ⟨rfl, hs2⟩; have HS2 := Lib.hid hs2; clear hs2))
      go_roundw
      case rel => exact ⟨t + 1, a + 20, dn, (show Hid _ from by show _ = _; rw [HA.out]; omega), hlt, by go_num, by go_num, HF2, ⟨HZ2.out, HS2.out⟩⟩
      case measure => simp [RowKit.intOf]; omega
    · have z1 : ¬ (a : Int) + 20 ≤ (N : Int) := by omega
      have HC := Lib.hid (HIN.out dk wr a N HK.out haN (Nat.le_refl _))
      have HP : Hid (PermIn a N dk (insertionSort lt dk a N) ∧ SortedIn (rL lt) a N (insertionSort lt dk a N)) := by
        have := HIS.out t dk N HF.out HK.out.sz (by have := HA.out; omega) (Nat.le_refl _)
        rw [← HA.out] at this
        exact this
      have HD : Hid (BlkS (rL lt) 20 N (insertionSort lt dk a N) ∧ Ord (fun x => x) 20 N (insertionSort lt dk a N) ∧ PermIn 0 N d (insertionSort lt dk a N)) := by
        have h1 := HP.out
        rw [HA.out] at h1 ⊢
        exact HF.out.done (by have := HA.out; omega) (by have := HA.out; omega) (by rw [HK.out.sz]; exact Nat.le_refl _) h1.1 h1.2
      have HZ2 : Hid ((insertionSort lt dk a N).size = N) := by show _ = _; rw [HP.out.1.1]; exact HK.out.sz
      clear HP
      generalize insertionSort lt dk a N = dn at *
      go_wp2_with (first
        | (with_reducible refine wpList_loadB _ rfl 103 (.tmp 2) rfl _ Try.underlying103 rfl w.heap.size rfl _ HK.out.sw.b HSZ.out ?_)
        | (go_at_call 67; (with_reducible refine HC.out.mono ?_); rintro e w2 ⟨rfl, hs2⟩; have HS2 := Lib.hid hs2; clear hs2))
      have HK2 : Hid (Lk G bk w.heap.size #[.func (.func g) #[] lb, .func (.func f) #[] sb] w N dn w2) := ⟨HZ2.out, HS2.out⟩
      clear HC HF HK HZ2 HS2 HIN HIS HA
      obtain ⟨HB, HO, HPM⟩ : Hid (BlkS (rL lt) 20 N dn) ∧ Hid (Ord (fun x => x) 20 N dn) ∧ Hid (PermIn 0 N d dn) := ⟨HD.out.1, HD.out.2.1, HD.out.2.2⟩
      clear HD z1 hlt haN
      go_loopw [4] (fun vz wr => ∃ (z : Nat) (dk : Array Nat), 20 ≤ z ∧ z ≤ 2000 ∧ vz = .int .i64 z ∧ Hid (BlkS (rL lt) z N dk) ∧ Hid (Ord (fun x => x) z N dk) ∧ Hid (PermIn 0 N d dk) ∧ Hid (Lk G bk w.heap.size #[.func (.func g) #[] lb, .func (.func f) #[] sb] w N dk wr)) (fun vz _ => N - (RowKit.intOf vz).toNat)
      case atStart => exact ⟨20, dn, Nat.le_refl _, by omega, rfl, HB, HO, HPM, HK2⟩
      case round =>
        clear HB HO HPM HK2
        obtain ⟨z, dz, hz20, hz2, rfl, HB, HO, HPM, HK⟩ := hrel
        by_cases hzn : z < N
        · have zz : (z : Int) < (N : Int) := by omega
          have HG0 : Hid (Stg (rL lt) (fun x => x) z N 0 dz dz) := Stg.start HO.out
          go_wp2
          go_loopw [5, 6] (fun va vb wr => ∃ (t a : Nat) (dk : Array Nat), Hid (a = t * (2 * z)) ∧ a ≤ N ∧ va = .int .i64 a ∧ vb = .int .i64 ((a : Int) + 2 * (z : Int)) ∧ Hid (Stg (rL lt) (fun x => x) z N t dz dk) ∧ Hid (Lk G bk w.heap.size #[.func (.func g) #[] lb, .func (.func f) #[] sb] w N dk wr)) (fun va _ _ => N - (RowKit.intOf va).toNat)
          case atStart => exact ⟨0, 0, dz, (show Hid _ from (by show 0 = 0 * (2 * z); omega)), Nat.zero_le _, rfl, by go_num, HG0, HK⟩
          case round =>
            clear HG0 HK
            obtain ⟨t, a, dk, HA, haN, rfl, rfl, HG, HK⟩ := hrel
            by_cases hlt : a + 2 * z ≤ N
            · have z1 : (a : Int) + 2 * (z : Int) ≤ (N : Int) := by omega
              have HN3 : Hid (SortedIn (rL lt) a (a + z) dk ∧ SortedIn (rL lt) (a + z) (a + 2 * z) dk ∧ LR (fun x => x) a (a + z) (a + 2 * z) dk) := by
                have h1 := HG.out.next (b := a + 2 * z) HB.out HO.out hlt (by have := HA.out; omega) (by have := HA.out; omega)
                rw [← HA.out] at h1
                exact h1
              have HC := Lib.hid (HSY.out dk wr a (a + z) (a + 2 * z) HK.out (by omega) (by omega) hlt HN3.out.1 HN3.out.2.1 HN3.out.2.2)
              have HST : Hid (∀ d', Mrg (rL lt) a (a + 2 * z) dk d' → Stg (rL lt) (fun x => x) z N (t + 1) dz d' ∧ d'.size = N) := fun d' hm => by
                refine ⟨?_, by rw [hm.1.1]; exact HK.out.sz⟩
                have hm1 := hm.1
                have hm2 := hm.2
                rw [HA.out] at hm1 hm2
                exact HG.out.step (by have := HA.out; omega) (by rw [HK.out.sz]; exact Nat.le_refl _) hm1 hm2
              clear HN3
              rw [show (((a + z : Nat) : Int)) = (a : Int) + (z : Int) by omega, show (((a + 2 * z : Nat) : Int)) = (a : Int) + 2 * (z : Int) by omega] at HC
              go_wp2_with (first
                | (with_reducible refine wpList_loadB _ rfl 103 (.tmp 2) rfl _ Try.underlying103 rfl w.heap.size rfl _ HK.out.sw.b HSZ.out ?_)
                | (go_at_call 68; (with_reducible refine HC.out.mono ?_); rintro e w4 ⟨rfl, d2, hm2, hs2⟩; have HM2 := Lib.hid hm2; have HS2 := Lib.hid hs2; clear hm2 hs2))
              go_roundw
              case rel => exact ⟨t + 1, a + 2 * z, d2, (show Hid _ from by show _ = _; rw [Nat.add_mul, Nat.one_mul, ← HA.out]), hlt, by go_num, by go_num, (HST.out d2 HM2.out).1, ⟨(HST.out d2 HM2.out).2, HS2.out⟩⟩
              case measure => simp [RowKit.intOf]; omega
            · have z1 : ¬ (a : Int) + 2 * (z : Int) ≤ (N : Int) := by omega
              have HDN : Hid (∀ d', Mrg (rL lt) a N dk d' → (BlkS (rL lt) (2 * z) N d' ∧ Ord (fun x => x) (2 * z) N d' ∧ PermIn 0 N dz d') ∧ d'.size = N) := fun d' hm => by
                refine ⟨?_, by rw [hm.1.1]; exact HK.out.sz⟩
                have hm1 := hm.1
                have hm2 := hm.2
                rw [HA.out] at hm1 hm2
                exact HG.out.done (by omega) (by have := HA.out; omega) (by have := HA.out; omega) (by rw [HK.out.sz]; exact Nat.le_refl _) hm1 hm2
              by_cases hm : a + z < N
              · have z3 : (a : Int) + (z : Int) < (N : Int) := by omega
                have HN3 : Hid (SortedIn (rL lt) a (a + z) dk ∧ SortedIn (rL lt) (a + z) N dk ∧ LR (fun x => x) a (a + z) N dk) := by
                  have h1 := HG.out.next (b := N) HB.out HO.out (Nat.le_refl _) (by have := HA.out; omega) (by have := HA.out; omega)
                  rw [← HA.out] at h1
                  exact h1
                have HC := Lib.hid (HSY.out dk wr a (a + z) N HK.out (by omega) hm (Nat.le_refl _) HN3.out.1 HN3.out.2.1 HN3.out.2.2)
                clear HN3
                rw [show (((a + z : Nat) : Int)) = (a : Int) + (z : Int) by omega] at HC
                go_wp2_with (first
                | (with_reducible refine wpList_loadB _ rfl 103 (.tmp 2) rfl _ Try.underlying103 rfl w.heap.size rfl _ HK.out.sw.b HSZ.out ?_)
                | (go_at_call 68; (with_reducible refine HC.out.mono ?_); rintro e w4 ⟨rfl, d2, hm2, hs2⟩; have HM2 := Lib.hid hm2; have HS2 := Lib.hid hs2; clear hm2 hs2))
                go_roundw
                case rel => exact ⟨2 * z, d2, by omega, by omega, by go_num, (HDN.out d2 HM2.out).1.1, (HDN.out d2 HM2.out).1.2.1, permIn_trans _ _ _ _ _ HPM.out (HDN.out d2 HM2.out).1.2.2, ⟨(HDN.out d2 HM2.out).2, HS2.out⟩⟩
                case measure => simp [RowKit.intOf]; omega
              · have z3 : ¬ (a : Int) + (z : Int) < (N : Int) := by omega
                have HM2 : Hid (Mrg (rL lt) a N dk dk) := ⟨permIn_refl _ _ _, by
                  have := HG.out.tail HB.out (by have := HA.out; omega)
                  rw [← HA.out] at this
                  exact this⟩
                go_wp2
                go_roundw
                case rel => exact ⟨2 * z, dk, by omega, by omega, by go_num, (HDN.out dk HM2.out).1.1, (HDN.out dk HM2.out).1.2.1, permIn_trans _ _ _ _ _ HPM.out (HDN.out dk HM2.out).1.2.2, HK⟩
                case measure => simp [RowKit.intOf]; omega
        · have zz : ¬ (z : Int) < (N : Int) := by omega
          go_wp2
          go_end0
          exact ⟨rfl, ⟨dz, HPM.out, HB.out.all (by omega), HK.out.sw.g⟩, HK.out.sw.c⟩
end Go.Proofs.Ytanihbflgolciaa
/- limited's row of groups: 'less' (limited's closure) and 'swap' (reflectlite's Swapper); sort.SliceStable. -/
namespace Go.Proofs.Ytanihbflgolciaa
open Go.RowKit Go.Lib Go.Sort
set_option linter.unusedVariables false
set_option maxRecDepth 100000
def gp (gs : List (Int × Value)) (i : Nat) : Int × Value := gs.getD i (0, .slice none 0 0)
def gsL (gs : List (Int × Value)) (σ : Array Nat) : List (Int × Value) := σ.toList.map (gp gs)
/-- The row of groups in the order σ; the captured variable that holds it. -/
structure GP (gs : List (Int × Value)) (pk c pv : Nat) (σ : Array Nat) (W : World) : Prop where
  sz : σ.size = gs.length
  gr : Gr W pk c (gsL gs σ)
  var : Blk W pv #[.slice (some ⟨pk, 0, none⟩) gs.length c]
  ne : pv ≠ pk
def ltG (gs : List (Int × Value)) (x y : Nat) : Bool := decide ((gp gs x).1 < (gp gs y).1)
theorem ltG_swo (gs : List (Int × Value)) : SWO (ltG gs) where
  irrefl := fun x => by simp [ltG]
  trans := fun x y z h1 h2 => by simp only [ltG, decide_eq_true_eq] at *; omega
  ntrans := fun x y z h1 h2 => by simp only [ltG, decide_eq_false_iff_not] at *; omega
theorem gsL_len (gs : List (Int × Value)) (σ : Array Nat) : (gsL gs σ).length = σ.size := by simp [gsL]
theorem gsL_at (gs : List (Int × Value)) (σ : Array Nat) {i : Nat} (h : i < σ.size) : (gsL gs σ)[i]? = some (gp gs σ[i]!) := by
  unfold gsL
  rw [List.getElem?_map, Array.getElem?_toList, Array.getElem?_eq_getElem h, getElem!_pos σ i h]
  rfl
theorem GP.below {gs : List (Int × Value)} {pk c pv : Nat} {σ : Array Nat} {W W' : World} (h : GP gs pk c pv σ W) (hb : Below W.heap.size W W') : GP gs pk c pv σ W' := ⟨h.sz, h.gr.chg (Chg.of_below (S := fun _ => False) hb) fun e => e, h.var.below hb, h.ne⟩
theorem gless_any (gs : List (Int × Value)) (pk c pv : Nat) (σ : Array Nat) (W : World) (h : GP gs pk c pv σ W) (hn : gs.length ≤ 1000) (i j : Nat) (hi : i < σ.size) (hj : j < σ.size) :
    Calls Try.prog 45 #[.int .i64 i, .int .i64 j, .pointer (some ⟨pv, 0, none⟩)] W fun e w' => e = .returned (.bool (ltG gs σ[i]! σ[j]!)) ∧ Below W.heap.size W w' := by
  have ci := (h.gr.cells (gsL_at gs σ hi)).1
  have cj := (h.gr.cells (gsL_at gs σ hj)).1
  have cv := h.var.cell (j := 0) rfl
  have hsz := h.sz
  obtain ⟨n, hN⟩ : ∃ n, n = gs.length := ⟨_, rfl⟩
  rw [← hN] at cv hsz hn
  rw [hsz] at hi hj
  have HL : Hid (ltG gs σ[i]! σ[j]! = decide ((gp gs σ[i]!).1 < (gp gs σ[j]!).1)) := rfl
  generalize (gp gs σ[i]!).1 = x at *
  generalize (gp gs σ[j]!).1 = y at *
  have hi2 : (i : Int) < (n : Int) := by omega
  have hj2 : (j : Int) < (n : Int) := by omega
  have HB := Lib.hid (Below.refl W.heap.size W)
  clear h hsz hN
  go_enter Try.func45, Try.ntmps45
  go_wp2
  go_quiet (fail)
  go_wp2
  go_ret
  exact ⟨by rw [HL.out]; rfl, dN HB.out _⟩
noncomputable def gInf : TypeInfo := (Try.prog.info? 68).get (by kernel_rfl)
noncomputable def sInf : TypeInfo := (Try.prog.info? 66).get (by kernel_rfl)
theorem gsL_swp (gs : List (Int × Value)) (σ : Array Nat) {i j : Nat} (hi : i < σ.size) (hj : j < σ.size) : gsL gs (swp σ i j) = ((gsL gs σ).set i (gp gs σ[j]!)).set j (gp gs σ[i]!) := by
  apply List.ext_getElem?
  intro k
  by_cases hk : k < σ.size
  · rw [gsL_at gs _ (by rw [size_swp]; exact hk), List.getElem?_set, List.getElem?_set, gsL_at gs σ hk]
    simp only [List.length_set, gsL_len, swp_get σ hi hj]
    by_cases h1 : j = k
    · subst h1
      by_cases h2 : i = j
      · subst h2; simp [hi]
      · simp [hj]
    · by_cases h2 : i = k
      · subst h2; simp [hi, h1, Ne.symm h1]
      · simp [h1, h2, Ne.symm h1, Ne.symm h2]
  · rw [List.getElem?_eq_none (by rw [gsL_len, size_swp]; omega), List.getElem?_eq_none (by rw [List.length_set, List.length_set, gsL_len]; omega)]
theorem gswap_any (gs : List (Int × Value)) (pk c pv : Nat) (σ : Array Nat) (W : World) (h : GP gs pk c pv σ W) (i j : Nat) (hi : i < σ.size) (hj : j < σ.size) :
    ∃ w', (callFunc 66 (#[.int .i64 i, .int .i64 j] ++ #[.slice (some ⟨pk, 0, none⟩) gs.length c, typeHandle Try.prog 68])).run Try.prog W = .ok (.value (.tuple #[])) w' ∧ GP gs pk c pv (swp σ i j) w' ∧ Chg (fun k => k = pk) W w' := by
  have hx : ∀ args W, (callFunc 66 args).run Try.prog W = ((Extern.ReflectliteSwapper.swap false args).run Try.prog W).andThen fun v w' => .ok (.value v) w' := fun args W =>
    run_callFunc_extern Try.func66 (by kernel_rfl) (by kernel_rfl) (by kernel_rfl) (e := Extern.ReflectliteSwapper.swap false) (by kernel_rfl) args W
  have hI : Try.prog.info? 68 = some gInf := by kernel_rfl
  have hsz2 : gInf.size = 2 := by kernel_rfl
  have ai := gsL_at gs σ hi
  have aj := gsL_at gs σ hj
  have ci := h.gr.cells ai
  have cj := h.gr.cells aj
  have si := h.gr.sl _ (List.mem_of_getElem? ai)
  have sj := h.gr.sl _ (List.mem_of_getElem? aj)
  have oi : (gp gs σ[i]!).2.oneCell' = true := by obtain ⟨A, n, c, e⟩ := si; rw [e]; rfl
  have oj : (gp gs σ[j]!).2.oneCell' = true := by obtain ⟨A, n, c, e⟩ := sj; rw [e]; rfl
  have hL : ∀ x : Int × Value, [Value.int .i64 x.1, x.2].length = gInf.size := fun x => by rw [hsz2]; rfl
  have hone : ∀ x : Int × Value, x.2.oneCell' = true → ∀ v ∈ [Value.int .i64 x.1, x.2], v.oneCell' = true := fun x hx v hv => by
    rcases List.mem_cons.1 hv with rfl | hv
    · rfl
    · rw [List.mem_singleton] at hv; rw [hv]; exact hx
  have hcell : ∀ (x : Nat) (p : Int × Value), W.cell? ⟨pk, x * 2, none⟩ = some (.int .i64 p.1) ∧ W.cell? ⟨pk, x * 2 + 1, none⟩ = some p.2 → ∀ u v, [Value.int .i64 p.1, p.2][u]? = some v → W.cell? ⟨pk, 0 + x * gInf.size + u, none⟩ = some v := fun x p hp u v hv => by
    rw [hsz2, Nat.zero_add]
    match u, hv with
    | 0, hv => injection hv with hv; rw [← hv]; exact hp.1
    | 1, hv => injection hv with hv; rw [← hv]; exact hp.2
    | u + 2, hv => simp at hv
  have hr := run_swap_cells (P := Try.prog) false 68 gInf hI (fun w => by kernel_rfl) pk 0 gs.length c i j (by rw [← h.sz]; exact hi) (by rw [← h.sz]; exact hj) [.int .i64 (gp gs σ[i]!).1, (gp gs σ[i]!).2] [.int .i64 (gp gs σ[j]!).1, (gp gs σ[j]!).2] (hL _) (hL _) (hone _ oi) (hone _ oj) W
    (hcell i _ ci) (hcell j _ cj) (fun u hu => h.gr.frozen _) (fun u hu => h.gr.frozen _)
  refine ⟨_, by rw [hx]; show Result.andThen (Sem.run Try.prog (Extern.ReflectliteSwapper.swap false #[.int .i64 i, .int .i64 j, .slice (some ⟨pk, 0, none⟩) gs.length c, typeHandle Try.prog 68]) W) _ = _; rw [hr]; rfl, ⟨by rw [size_swp]; exact h.sz, ?_, ?_, h.ne⟩, ?_⟩
  · rw [gsL_swp gs σ hi hj, hsz2]
    simp only [World.setCells, Nat.zero_add]
    exact (h.gr.set (by rw [gsL_len]; exact hi) sj).set (by rw [List.length_set, gsL_len]; exact hj) si
  · simp only [World.setCells]
    exact (((h.var.other h.ne _).other h.ne _).other h.ne _).other h.ne _
  · simp only [World.setCells]
    exact ((((Chg.refl (fun k => k = pk) W).setCell (p := ⟨pk, _, none⟩) (.inl rfl) _).setCell (p := ⟨pk, _, none⟩) (.inl rfl) _).setCell (p := ⟨pk, _, none⟩) (.inl rfl) _).setCell (p := ⟨pk, _, none⟩) (.inl rfl) _
theorem gLS (gs : List (Int × Value)) (pk c pv : Nat) (hn : gs.length ≤ 1000) : LS (GP gs pk c pv) pk (ltG gs) 45 #[.pointer (some ⟨pv, 0, none⟩)] 66 #[.slice (some ⟨pk, 0, none⟩) gs.length c, typeHandle Try.prog 68] where
  below := fun σ W W' h hb => h.below hb
  eg := enters_of Try.func45 (by kernel_rfl) rfl
  less := fun σ W i j h hi hj => gless_any gs pk c pv σ W h hn i j hi hj
  swap := fun σ W i j h hi hj => gswap_any gs pk c pv σ W h i j hi hj
end Go.Proofs.Ytanihbflgolciaa
/- sort.SliceStable over limited's row of groups. -/
namespace Go.Proofs.Ytanihbflgolciaa
open Go.RowKit Go.Lib Go.Sort
set_option linter.unusedVariables false
set_option maxRecDepth 100000
theorem swK9 (n : Nat) (h : 2 ≤ n) : Lib.swapperK n gInf 25 = 9 := by
  have a : gInf.hasPointers = true := by kernel_rfl
  have b : (gInf.bytes == 8) = false := by kernel_rfl
  have c : (n == 0) = false := by simp; omega
  have d : (n == 1) = false := by simp; omega
  simp [Lib.swapperK, a, b, c, d]
set_option maxHeartbeats 4000000 in
theorem sstb_any (gs : List (Int × Value)) (pk c pv n : Nat) (hn : n = gs.length) (h2 : 2 ≤ n) (hn2 : n ≤ 1000) (σ : Array Nat) (W : World) (h : GP gs pk c pv σ W) (hasc : ∀ p q, p < q → q < n → σ[p]! < σ[q]!) :
    Calls Try.prog 44 #[.iface 66 (.slice (some ⟨pk, 0, none⟩) n c), .func (.func 45) #[] #[.pointer (some ⟨pv, 0, none⟩)]] W fun e w' => e = .returned (.tuple #[]) ∧ (∃ σ', PermIn 0 n σ σ' ∧ SortedIn (rL (ltG gs)) 0 n σ' ∧ GP gs pk c pv σ' w') ∧ Chg (fun k => k = pk) W w' := by
  have hsz := h.sz
  have hlt := h.gr.lt
  obtain ⟨W2, hW2⟩ : ∃ W2, W2 = (W.alloc (.cells #[.slice (some ⟨pk, 0, none⟩) n c] 66)).alloc (.cells #[.pointer (some ⟨Try.prog.globals.size, 66, none⟩), .pointer (some ⟨W.heap.size, 0, none⟩), .int .u64 151] 98) := ⟨_, rfl⟩
  have hB : Below W.heap.size W W2 := by rw [hW2]; exact ((Below.refl _ W).alloc (Nat.le_refl _) _).alloc (by simp) _
  have hst := lStb_any (gLS gs pk c pv (by omega)) (ltG_swo gs) σ W2 (h.below hB) (Nat.lt_of_lt_of_le hlt hB.size) n (by rw [hsz, hn]) hn2 hasc
  have hp : Calls Try.prog 54 #[.agg #[.func (.func 45) #[] #[.pointer (some ⟨pv, 0, none⟩)], .func (.func 66) #[] #[.slice (some ⟨pk, 0, none⟩) n c, typeHandle Try.prog 68]], .int .i64 n] W2 fun e w' => e = .returned (.tuple #[]) ∧ (∃ σ', PermIn 0 n σ σ' ∧ SortedIn (rL (ltG gs)) 0 n σ' ∧ GP gs pk c pv σ' w') ∧ Chg (fun k => k = pk) W w' := by
    unfold lsV at hst
    rw [hn] at hst ⊢
    exact hst.mono fun e w' ⟨e1, e2, e3⟩ => ⟨e1, e2, (Chg.of_below (S := fun k => k = pk) hB).trans e3 fun _ _ e => e⟩
  have HP := Lib.hid hp
  have hi : Try.prog.info? 66 = some sInf := by kernel_rfl
  have hie : Try.prog.info? 68 = some gInf := by kernel_rfl
  have hd : sInf.desc = .slice 68 := by kernel_rfl
  have hv := run_valueOf_slice (P := Try.prog) 66 68 sInf hi hd (some ⟨pk, 0, none⟩) n c W
  have hs : ∀ w, (Extern.ReflectliteSwapper.swapper "internal/reflectlite" (Extern.ReflectliteValue.valueError "Swapper") #[.iface 66 (.slice (some ⟨pk, 0, none⟩) n c)]).run Try.prog w = .ok (.func (.func 66) #[] #[.slice (some ⟨pk, 0, none⟩) n c, typeHandle Try.prog 68]) w := fun w => by
    have := run_swapper_slice (P := Try.prog) 66 68 sInf gInf hi hd hie 25 (fun _ => by kernel_rfl) (some ⟨pk, 0, none⟩) n c 66 (by rw [swK9 n h2]; kernel_rfl) w
    rw [swK9 n h2] at this
    exact this
  have hl := fun a w ha => run_valueLen_slice (P := Try.prog) 66 68 sInf hi hd (by kernel_rfl) a (some ⟨pk, 0, none⟩) n c w ha
  simp only [typeHandle] at hv hl
  clear hst hp h hsz hlt hB hasc hn
  generalize typeHandle Try.prog 68 = TH at *
  generalize Try.prog.globals.size = Z at *
  go_enter Try.func44, Try.ntmps44
  go_wp2
  rw [run_callFunc_extern Try.func52 (by kernel_rfl) (by kernel_rfl) (by kernel_rfl) (e := fun args => Extern.ReflectliteValue.unpack (args.getD 0 (.tuple #[]))) (by kernel_rfl)]
  rw [show Sem.run Try.prog (Extern.ReflectliteValue.unpack ((#[.iface 66 (.slice (some ⟨pk, 0, none⟩) n c)] : Array Value).getD 0 (.tuple #[]))) W = _ from hv]
  simp only [Result.andThen]
  rw [Oper.upon_value]
  go_wp2
  rw [run_callFunc_extern Try.func53 (by kernel_rfl) (by kernel_rfl) (by kernel_rfl) (e := Extern.ReflectliteSwapper.swapper "internal/reflectlite" (Extern.ReflectliteValue.valueError "Swapper")) (by kernel_rfl), hs]
  simp only [Result.andThen]
  rw [Oper.upon_value]
  go_wp2
  rw [run_callFunc_extern Try.func55 (by kernel_rfl) (by kernel_rfl) (by kernel_rfl) (e := Extern.ReflectliteValue.method (Extern.ReflectliteValue.valueError "reflectlite.Value.Len" 0) Extern.ReflectliteValue.len) (by kernel_rfl),
    hl _ _ (by simp)]
  simp only [Result.andThen]
  rw [Oper.upon_value]
  go_wp2_with (go_at_call 54; rw [← hW2]; refine HP.out.mono ?_; rintro e w' ⟨rfl, hR1, hR2⟩)
  go_end0
  exact ⟨rfl, hR1, hR2⟩
end Go.Proofs.Ytanihbflgolciaa
