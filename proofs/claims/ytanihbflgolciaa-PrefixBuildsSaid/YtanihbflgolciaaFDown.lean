/- container/heap's down and up over a forest. -/
import Derived.Test.YtanihbflgolciaaFMet
import Derived.Test.YtanihbflgolciaaHeapP
namespace Go.Proofs.Ytanihbflgolciaa
open Go.RowKit Go.Lib Go.Sort
set_option linter.unusedVariables false
set_option maxRecDepth 100000

/-- Groups by their weights. -/
def ltw (a b : Int × Value) : Bool := decide (a.1 < b.1)
/-- A forest: the variable p holds the groups d, in block g. -/
structure Fo (w : World) (p g c : Nat) (d : Array (Int × Value)) : Prop where
  var : w.cell? ⟨p, 0, none⟩ = some (.slice (some ⟨g, 0, none⟩) d.size c)
  fr : w.frozen? ⟨p, 0, none⟩ = false
  gr : Gr w g c d.toList
  ne : p ≠ g
theorem arr_at {d : Array (Int × Value)} {i : Nat} (h : i < d.size) : d.toList[i]? = some d[i]! := by
  rw [Array.getElem?_toList, Array.getElem?_eq_getElem h, getElem!_pos d i h]
theorem swL_swp {d : Array (Int × Value)} {i j : Nat} : swL d.toList i j d[i]! d[j]! = (swp d i j).toList := by
  simp [swL, swp]
theorem Fo.swap {w w' : World} {p g c : Nat} {d : Array (Int × Value)} (h : Fo w p g c d) {i j : Nat} (h1 : Gr w' g c (swL d.toList i j d[i]! d[j]!)) (h2 : Chg (fun k => k = g) w w') : Fo w' p g c (swp d i j) := by
  refine ⟨?_, ?_, by rw [← swL_swp]; exact h1, h.ne⟩
  · rw [size_swp]
    exact h2.cellv h.var h.ne
  · rw [h2.frozen (World.block_lt_of_cell? _ _ h.var) h.ne]
    exact h.fr
theorem find_meth {name : String} {f : Nat} (T : TypeId) (b : Bool) (i : TypeInfo) (hi : Try.prog.info? T = some i) (h : (i.methods.find? (·.name == name)).map (fun m => (m.path.toList, m.func)) = some ([], some (f, b))) :
    ∃ m, i.methods.find? (·.name == name) = some m ∧ m.path.toList = [] ∧ m.func = some (f, b) := by
  obtain ⟨m, h1, h2⟩ := Option.map_eq_some_iff.1 h
  simp only [Prod.mk.injEq] at h2
  exact ⟨m, h1, h2.1, h2.2⟩
theorem method_val {name : String} {f n : Nat} {w : World} {p : Nat} {v : Value} (hf : ((Try.prog.info? 75).bind fun i => (i.methods.find? (·.name == name)).map fun m => (m.path.toList, m.func)) = some ([], some (f, false)))
    (hv : w.cell? ⟨p, 0, none⟩ = some v) : (method (n + 1) 75 (.pointer (some ⟨p, 0, none⟩)) name).run Try.prog w = .ok (f, v) w := by
  obtain ⟨i, hi, h2⟩ := Option.bind_eq_some_iff.1 hf
  obtain ⟨m, h3, h4, h5⟩ := find_meth 75 false i hi h2
  have hp : m.path = #[] := by
    have := congrArg List.toArray h4
    simpa using this
  have hu := Try.underlying75
  have hu2 := Try.underlying72
  have hag : ∀ w, (isAgg 72).run Try.prog w = .ok false w := fun w => by unfold isAgg; rw [Sem.run_bind, run_underlying hu2]; rfl
  have hl : (loadVar 72 ⟨p, 0, none⟩).run Try.prog w = .ok v w := by
    simp [loadVar, Sem.run_bind, hag, Result.andThen, hv]
  have hw : ∀ (ts : Array TypeId) (t : TypeId) (x y : ByteArray) (a : Addr) (w : World), (Builtin.ssaWrapNilChk_ ts t #[.pointer (some a), .string x, .string y]).run Try.prog w = .ok (.pointer (some a)) w := fun _ _ _ _ _ _ => rfl
  unfold method
  simp [typeInfo, hi, h3, h5, hp, follow, receiverAt, Place.get, run_underlying hu, hw, asAddr, hl, Result.andThen, strVal]
theorem meth_less {w : World} {p : Nat} {v : Value} (hv : w.cell? ⟨p, 0, none⟩ = some v) : (method 227 75 (.pointer (some ⟨p, 0, none⟩)) "Less").run Try.prog w = .ok (88, v) w := method_val (by kernel_rfl) hv
theorem meth_swap {w : World} {p : Nat} {v : Value} (hv : w.cell? ⟨p, 0, none⟩ = some v) : (method 227 75 (.pointer (some ⟨p, 0, none⟩)) "Swap").run Try.prog w = .ok (89, v) w := method_val (by kernel_rfl) hv
theorem meth_len {w : World} {p : Nat} {v : Value} (hv : w.cell? ⟨p, 0, none⟩ = some v) : (method 227 75 (.pointer (some ⟨p, 0, none⟩)) "Len").run Try.prog w = .ok (38, v) w := method_val (by kernel_rfl) hv
theorem nil_less (a : Addr) (w : World) : (nilAhead 227 75 (.pointer (some a)) "Less").run Try.prog w = .ok (some false) w := by kernel_rfl
theorem nil_swap (a : Addr) (w : World) : (nilAhead 227 75 (.pointer (some a)) "Swap").run Try.prog w = .ok (some false) w := by kernel_rfl
theorem nil_len (a : Addr) (w : World) : (nilAhead 227 75 (.pointer (some a)) "Len").run Try.prog w = .ok (some false) w := by kernel_rfl
theorem Fo.drewN {w : World} {p g c : Nat} {d : Array (Int × Value)} (h : Fo w p g c d) (n : Nat) : Fo (w.drewN n) p g c d := by
  obtain ⟨h1, h2, ⟨h3, h4, h5, h6⟩, h7⟩ := h
  exact ⟨h1, h2, ⟨h3, h4, h5, h6⟩, h7⟩
theorem chg_drewN {S : Nat → Prop} {w : World} (n : Nat) : Chg S w (w.drewN n) := (Chg.refl S w).drewN n
theorem fLess_at {w : World} {p g c : Nat} {d : Array (Int × Value)} (h : Fo w p g c d) {i j : Nat} (hi : i < d.size) (hj : j < d.size) (hc : c ≤ 9223372036854775807) {x y : Int} (hx : x = (i : Int)) (hy : y = (j : Int)) :
    Calls Try.prog 88 #[.slice (some ⟨g, 0, none⟩) d.size c, .int .i64 x, .int .i64 y] w fun e w' => e = .returned (.bool (ltw d[i]! d[j]!)) ∧ Fo w' p g c d ∧ Chg (fun k => k = g) w w' ∧ w'.heap.size = w.heap.size := by
  subst hx hy
  refine (fLess_any g d.size c i j d[i]! d[j]! d.toList w h.gr (by simp) hi hj (arr_at hi) (arr_at hj) hc).mono ?_
  rintro e w' ⟨rfl, m, rfl⟩
  exact ⟨rfl, h.drewN m, chg_drewN m, rfl⟩
theorem fSwap_at {w : World} {p g c : Nat} {d : Array (Int × Value)} (h : Fo w p g c d) {i j : Nat} (hi : i < d.size) (hj : j < d.size) (hc : c ≤ 9223372036854775807) {x y : Int} (hx : x = (i : Int)) (hy : y = (j : Int)) :
    Calls Try.prog 89 #[.slice (some ⟨g, 0, none⟩) d.size c, .int .i64 x, .int .i64 y] w fun e w' => e = .returned (.tuple #[]) ∧ Fo w' p g c (swp d i j) ∧ Chg (fun k => k = g) w w' ∧ w'.heap.size = w.heap.size := by
  subst hx hy
  exact (fSwap_any g d.size c i j d[i]! d[j]! d.toList w h.gr (by simp) hi hj (arr_at hi) (arr_at hj) hc).mono fun e w' ⟨h1, h2, h3, h4⟩ => ⟨h1, h.swap h2 h3, h3, h4⟩
def IsB (e : Ending) : Prop := ∃ b, e = .returned (.bool b)
theorem Chg.then {S : Nat → Prop} {a b c : World} (h : Chg S a b) (k : Chg S b c) : Chg S a c := h.trans k fun _ _ e => e

set_option maxHeartbeats 2000000 in
theorem fDown_any (p g c : Nat) (d : Array (Int × Value)) (i0 n : Nat) (w : World) (h : Fo w p g c d) (hn : n ≤ d.size) (hi0 : i0 ≤ 100000) (hc : c ≤ 9223372036854775807) (hd : d.size ≤ 100000) :
    Calls Try.prog 48 #[.iface 75 (.pointer (some ⟨p, 0, none⟩)), .int .i64 i0, .int .i64 n] w fun e w' => IsB e ∧ Fo w' p g c (siftDown (gt' ltw) n 0 i0 d) ∧ Chg (fun k => k = g) w w' ∧ w'.heap.size = w.heap.size := by
  have nl := nil_less
  have ns := nil_swap
  have H := Lib.hid h
  clear h
  go_enter Try.func48, Try.ntmps48
  go_wp2
  go_loopw [7] (fun i wr => ∃ (r : Nat) (dr : Array (Int × Value)), r ≤ 100000 ∧ i = .int .i64 r ∧ dr.size = d.size ∧ Hid (siftDown (gt' ltw) n 0 r dr = siftDown (gt' ltw) n 0 i0 d) ∧ Hid (Fo wr p g c dr) ∧ Hid (Chg (fun k => k = g) w wr) ∧ wr.heap.size = w.heap.size) (fun i _ => 200000 - (RowKit.intOf i).toNat)
  case atStart => exact ⟨i0, d, hi0, rfl, rfl, rfl, H, Chg.refl _ _, rfl⟩
  case round =>
    clear H
    obtain ⟨r, dr, hr, rfl, hsz, HE, HF, HC, hws⟩ := hrel
    have ev := HF.out.var
    have mL := meth_less ev
    rw [siftDown] at HE
    simp only [Nat.zero_add] at HE
    by_cases h1 : n ≤ 2 * r + 1
    · rw [dif_pos (by omega)] at HE
      go_wp2
      go_ret
      exact ⟨⟨_, rfl⟩, HE.out ▸ HF.out, HC.out, hws⟩
    · rw [dif_neg (by omega)] at HE
      have hrd : r < dr.size := by omega
      have h2r : 2 * r + 1 < dr.size := by omega
      have hnd : n ≤ dr.size := by omega
      have HSZ := Lib.hid hsz
      clear hsz
      cases ha : (decide (2 * r + 1 + 1 < n) && gt' ltw dr[2 * r + 1]! dr[2 * r + 1 + 1]!) with
      | true =>
        rw [ha] at HE
        simp only [if_true] at HE
        rw [Bool.and_eq_true, decide_eq_true_eq] at ha
        obtain ⟨hj2, hlt⟩ := ha
        have HV1 := Lib.hid (show ltw dr[2 * r + 1 + 1]! dr[2 * r + 1]! = true from hlt)
        clear hlt
        cases hb : ltw dr[2 * r + 2]! dr[r]! with
        | true =>
          have hg : gt' ltw dr[r]! dr[2 * r + 2]! = true := hb
          rw [hg] at HE
          simp only [Bool.not_true, Bool.false_eq_true, if_false] at HE
          rw [dif_pos (by omega)] at HE
          have HV2 := Lib.hid hb
          clear hb hg
          have C1 : Hid (∀ w2, Fo w2 p g c dr → Calls Try.prog 88 #[.slice (some ⟨g, 0, none⟩) dr.size c, .int .i64 (2 * (r : Int) + 1 + 1), .int .i64 (2 * (r : Int) + 1)] w2 fun e w' => e = .returned (.bool true) ∧ Fo w' p g c dr ∧ Chg (fun k => k = g) w2 w' ∧ w'.heap.size = w2.heap.size) := fun w2 h2 => (fLess_at h2 (i := 2 * r + 1 + 1) (j := 2 * r + 1) (by omega) (by omega) hc (by omega) (by omega)).mono fun e w' h => ⟨h.1.trans (by rw [HV1.out]), h.2⟩
          have C2 : Hid (∀ w2, Fo w2 p g c dr → Calls Try.prog 88 #[.slice (some ⟨g, 0, none⟩) dr.size c, .int .i64 (2 * (r : Int) + 1 + 1), .int .i64 ((r : Int))] w2 fun e w' => e = .returned (.bool true) ∧ Fo w' p g c dr ∧ Chg (fun k => k = g) w2 w' ∧ w'.heap.size = w2.heap.size) := fun w2 h2 => (fLess_at h2 (i := 2 * r + 2) (j := r) (by omega) (by omega) hc (by omega) (by omega)).mono fun e w' h => ⟨h.1.trans (by rw [HV2.out]), h.2⟩
          have CS : Hid (∀ w2, Fo w2 p g c dr → Calls Try.prog 89 #[.slice (some ⟨g, 0, none⟩) dr.size c, .int .i64 ((r : Int)), .int .i64 (2 * (r : Int) + 1 + 1)] w2 fun e w' => e = .returned (.tuple #[]) ∧ Fo w' p g c (swp dr r (2 * r + 2)) ∧ Chg (fun k => k = g) w2 w' ∧ w'.heap.size = w2.heap.size) := fun w2 h2 => fSwap_at h2 (i := r) (j := 2 * r + 2) (by omega) (by omega) hc (by omega) (by omega)
          go_wp2_with (first
            | ((with_reducible refine (C1.out _ HF.out).mono ?_)
               rintro e w2 ⟨rfl, hF, hC, hS⟩
               have HF1 := Lib.hid hF
               have HC1 := Lib.hid (HC.out.then hC)
               have hs1 : w2.heap.size = w.heap.size := hS.trans hws
               have ev1 := hF.var
               have mL1 := meth_less ev1
               have mS1 := meth_swap ev1
               clear hF hC hS)
            | ((with_reducible refine (C2.out _ HF1.out).mono ?_)
               rintro e w3 ⟨rfl, hF, hC, hS⟩
               have HF2 := Lib.hid hF
               have HC2 := Lib.hid (HC1.out.then hC)
               have hs2 : w3.heap.size = w.heap.size := hS.trans hs1
               have ev2 := hF.var
               have mL2 := meth_less ev2
               have mS2 := meth_swap ev2
               clear hF hC hS)
            | ((with_reducible refine (CS.out _ HF2.out).mono ?_)
               rintro e w9 ⟨rfl, hF, hC, hS⟩
               have HF9 := Lib.hid hF
               have HC9 := Lib.hid (HC2.out.then hC)
               have hs9 : w9.heap.size = w.heap.size := hS.trans hs2
               clear hF hC hS))
          go_roundw
          case rel => exact ⟨2 * r + 2, swp dr r (2 * r + 2), by omega, by go_num, (size_swp dr r (2 * r + 2)).trans HSZ.out, HE, HF9, HC9, hs9⟩
          case measure => simp [RowKit.intOf]; omega
        | false =>
          have hg : gt' ltw dr[r]! dr[2 * r + 2]! = false := hb
          rw [hg] at HE
          simp only [Bool.not_false, if_true] at HE
          have HV2 := Lib.hid hb
          clear hb hg
          have C1 : Hid (∀ w2, Fo w2 p g c dr → Calls Try.prog 88 #[.slice (some ⟨g, 0, none⟩) dr.size c, .int .i64 (2 * (r : Int) + 1 + 1), .int .i64 (2 * (r : Int) + 1)] w2 fun e w' => e = .returned (.bool true) ∧ Fo w' p g c dr ∧ Chg (fun k => k = g) w2 w' ∧ w'.heap.size = w2.heap.size) := fun w2 h2 => (fLess_at h2 (i := 2 * r + 1 + 1) (j := 2 * r + 1) (by omega) (by omega) hc (by omega) (by omega)).mono fun e w' h => ⟨h.1.trans (by rw [HV1.out]), h.2⟩
          have C2 : Hid (∀ w2, Fo w2 p g c dr → Calls Try.prog 88 #[.slice (some ⟨g, 0, none⟩) dr.size c, .int .i64 (2 * (r : Int) + 1 + 1), .int .i64 ((r : Int))] w2 fun e w' => e = .returned (.bool false) ∧ Fo w' p g c dr ∧ Chg (fun k => k = g) w2 w' ∧ w'.heap.size = w2.heap.size) := fun w2 h2 => (fLess_at h2 (i := 2 * r + 2) (j := r) (by omega) (by omega) hc (by omega) (by omega)).mono fun e w' h => ⟨h.1.trans (by rw [HV2.out]), h.2⟩
          go_wp2_with (first
            | ((with_reducible refine (C1.out _ HF.out).mono ?_)
               rintro e w2 ⟨rfl, hF, hC, hS⟩
               have HF1 := Lib.hid hF
               have HC1 := Lib.hid (HC.out.then hC)
               have hs1 : w2.heap.size = w.heap.size := hS.trans hws
               have ev1 := hF.var
               have mL1 := meth_less ev1
               have mS1 := meth_swap ev1
               clear hF hC hS)
            | ((with_reducible refine (C2.out _ HF1.out).mono ?_)
               rintro e w3 ⟨rfl, hF, hC, hS⟩
               have HF2 := Lib.hid hF
               have HC2 := Lib.hid (HC1.out.then hC)
               have hs2 : w3.heap.size = w.heap.size := hS.trans hs1
               have ev2 := hF.var
               have mL2 := meth_less ev2
               have mS2 := meth_swap ev2
               clear hF hC hS))
          go_ret
          exact ⟨⟨_, rfl⟩, HE.out ▸ HF2.out, HC2.out, hs2⟩
      | false =>
        rw [ha] at HE
        simp only [Bool.false_eq_true, if_false] at HE
        rw [Bool.and_eq_false_iff] at ha
        by_cases hj2 : 2 * r + 1 + 1 < n
        · have hlt : ltw dr[2 * r + 1 + 1]! dr[2 * r + 1]! = false := by
            rcases ha with ha | ha
            · exact absurd hj2 (of_decide_eq_false ha)
            · exact ha
          have HV1 := Lib.hid hlt
          clear hlt ha
          cases hb : ltw dr[2 * r + 1]! dr[r]! with
          | true =>
            have hg : gt' ltw dr[r]! dr[2 * r + 1]! = true := hb
            rw [hg] at HE
            simp only [Bool.not_true, Bool.false_eq_true, if_false] at HE
            have HV2 := Lib.hid hb
            clear hb hg
            have C1 : Hid (∀ w2, Fo w2 p g c dr → Calls Try.prog 88 #[.slice (some ⟨g, 0, none⟩) dr.size c, .int .i64 (2 * (r : Int) + 1 + 1), .int .i64 (2 * (r : Int) + 1)] w2 fun e w' => e = .returned (.bool false) ∧ Fo w' p g c dr ∧ Chg (fun k => k = g) w2 w' ∧ w'.heap.size = w2.heap.size) := fun w2 h2 => (fLess_at h2 (i := 2 * r + 1 + 1) (j := 2 * r + 1) (by omega) (by omega) hc (by omega) (by omega)).mono fun e w' h => ⟨h.1.trans (by rw [HV1.out]), h.2⟩
            have C2 : Hid (∀ w2, Fo w2 p g c dr → Calls Try.prog 88 #[.slice (some ⟨g, 0, none⟩) dr.size c, .int .i64 (2 * (r : Int) + 1), .int .i64 ((r : Int))] w2 fun e w' => e = .returned (.bool true) ∧ Fo w' p g c dr ∧ Chg (fun k => k = g) w2 w' ∧ w'.heap.size = w2.heap.size) := fun w2 h2 => (fLess_at h2 (i := 2 * r + 1) (j := r) (by omega) (by omega) hc (by omega) (by omega)).mono fun e w' h => ⟨h.1.trans (by rw [HV2.out]), h.2⟩
            have CS : Hid (∀ w2, Fo w2 p g c dr → Calls Try.prog 89 #[.slice (some ⟨g, 0, none⟩) dr.size c, .int .i64 ((r : Int)), .int .i64 (2 * (r : Int) + 1)] w2 fun e w' => e = .returned (.tuple #[]) ∧ Fo w' p g c (swp dr r (2 * r + 1)) ∧ Chg (fun k => k = g) w2 w' ∧ w'.heap.size = w2.heap.size) := fun w2 h2 => fSwap_at h2 (i := r) (j := 2 * r + 1) (by omega) (by omega) hc (by omega) (by omega)
            go_wp2_with (first
              | ((with_reducible refine (C1.out _ HF.out).mono ?_)
                 rintro e w2 ⟨rfl, hF, hC, hS⟩
                 have HF1 := Lib.hid hF
                 have HC1 := Lib.hid (HC.out.then hC)
                 have hs1 : w2.heap.size = w.heap.size := hS.trans hws
                 have ev1 := hF.var
                 have mL1 := meth_less ev1
                 have mS1 := meth_swap ev1
                 clear hF hC hS)
              | ((with_reducible refine (C2.out _ HF1.out).mono ?_)
                 rintro e w3 ⟨rfl, hF, hC, hS⟩
                 have HF2 := Lib.hid hF
                 have HC2 := Lib.hid (HC1.out.then hC)
                 have hs2 : w3.heap.size = w.heap.size := hS.trans hs1
                 have ev2 := hF.var
                 have mL2 := meth_less ev2
                 have mS2 := meth_swap ev2
                 clear hF hC hS)
              | ((with_reducible refine (CS.out _ HF2.out).mono ?_)
                 rintro e w9 ⟨rfl, hF, hC, hS⟩
                 have HF9 := Lib.hid hF
                 have HC9 := Lib.hid (HC2.out.then hC)
                 have hs9 : w9.heap.size = w.heap.size := hS.trans hs2
                 clear hF hC hS))
            go_roundw
            case rel => exact ⟨2 * r + 1, swp dr r (2 * r + 1), by omega, by go_num, (size_swp dr r (2 * r + 1)).trans HSZ.out, HE, HF9, HC9, hs9⟩
            case measure => simp [RowKit.intOf]; omega
          | false =>
            have hg : gt' ltw dr[r]! dr[2 * r + 1]! = false := hb
            rw [hg] at HE
            simp only [Bool.not_false, if_true] at HE
            have HV2 := Lib.hid hb
            clear hb hg
            have C1 : Hid (∀ w2, Fo w2 p g c dr → Calls Try.prog 88 #[.slice (some ⟨g, 0, none⟩) dr.size c, .int .i64 (2 * (r : Int) + 1 + 1), .int .i64 (2 * (r : Int) + 1)] w2 fun e w' => e = .returned (.bool false) ∧ Fo w' p g c dr ∧ Chg (fun k => k = g) w2 w' ∧ w'.heap.size = w2.heap.size) := fun w2 h2 => (fLess_at h2 (i := 2 * r + 1 + 1) (j := 2 * r + 1) (by omega) (by omega) hc (by omega) (by omega)).mono fun e w' h => ⟨h.1.trans (by rw [HV1.out]), h.2⟩
            have C2 : Hid (∀ w2, Fo w2 p g c dr → Calls Try.prog 88 #[.slice (some ⟨g, 0, none⟩) dr.size c, .int .i64 (2 * (r : Int) + 1), .int .i64 ((r : Int))] w2 fun e w' => e = .returned (.bool false) ∧ Fo w' p g c dr ∧ Chg (fun k => k = g) w2 w' ∧ w'.heap.size = w2.heap.size) := fun w2 h2 => (fLess_at h2 (i := 2 * r + 1) (j := r) (by omega) (by omega) hc (by omega) (by omega)).mono fun e w' h => ⟨h.1.trans (by rw [HV2.out]), h.2⟩
            go_wp2_with (first
              | ((with_reducible refine (C1.out _ HF.out).mono ?_)
                 rintro e w2 ⟨rfl, hF, hC, hS⟩
                 have HF1 := Lib.hid hF
                 have HC1 := Lib.hid (HC.out.then hC)
                 have hs1 : w2.heap.size = w.heap.size := hS.trans hws
                 have ev1 := hF.var
                 have mL1 := meth_less ev1
                 have mS1 := meth_swap ev1
                 clear hF hC hS)
              | ((with_reducible refine (C2.out _ HF1.out).mono ?_)
                 rintro e w3 ⟨rfl, hF, hC, hS⟩
                 have HF2 := Lib.hid hF
                 have HC2 := Lib.hid (HC1.out.then hC)
                 have hs2 : w3.heap.size = w.heap.size := hS.trans hs1
                 have ev2 := hF.var
                 have mL2 := meth_less ev2
                 have mS2 := meth_swap ev2
                 clear hF hC hS))
            go_ret
            exact ⟨⟨_, rfl⟩, HE.out ▸ HF2.out, HC2.out, hs2⟩
        · clear ha
          have hj2i : ¬ (2 * (r : Int) + 1 + 1 < (n : Int)) := by omega
          cases hb : ltw dr[2 * r + 1]! dr[r]! with
          | true =>
            have hg : gt' ltw dr[r]! dr[2 * r + 1]! = true := hb
            rw [hg] at HE
            simp only [Bool.not_true, Bool.false_eq_true, if_false] at HE
            have HV1 := Lib.hid hb
            clear hb hg
            have C1 : Hid (∀ w2, Fo w2 p g c dr → Calls Try.prog 88 #[.slice (some ⟨g, 0, none⟩) dr.size c, .int .i64 (2 * (r : Int) + 1), .int .i64 ((r : Int))] w2 fun e w' => e = .returned (.bool true) ∧ Fo w' p g c dr ∧ Chg (fun k => k = g) w2 w' ∧ w'.heap.size = w2.heap.size) := fun w2 h2 => (fLess_at h2 (i := 2 * r + 1) (j := r) (by omega) (by omega) hc (by omega) (by omega)).mono fun e w' h => ⟨h.1.trans (by rw [HV1.out]), h.2⟩
            have CS : Hid (∀ w2, Fo w2 p g c dr → Calls Try.prog 89 #[.slice (some ⟨g, 0, none⟩) dr.size c, .int .i64 ((r : Int)), .int .i64 (2 * (r : Int) + 1)] w2 fun e w' => e = .returned (.tuple #[]) ∧ Fo w' p g c (swp dr r (2 * r + 1)) ∧ Chg (fun k => k = g) w2 w' ∧ w'.heap.size = w2.heap.size) := fun w2 h2 => fSwap_at h2 (i := r) (j := 2 * r + 1) (by omega) (by omega) hc (by omega) (by omega)
            go_wp2_with (first
              | ((with_reducible refine (C1.out _ HF.out).mono ?_)
                 rintro e w2 ⟨rfl, hF, hC, hS⟩
                 have HF1 := Lib.hid hF
                 have HC1 := Lib.hid (HC.out.then hC)
                 have hs1 : w2.heap.size = w.heap.size := hS.trans hws
                 have ev1 := hF.var
                 have mL1 := meth_less ev1
                 have mS1 := meth_swap ev1
                 clear hF hC hS)
              | ((with_reducible refine (CS.out _ HF1.out).mono ?_)
                 rintro e w9 ⟨rfl, hF, hC, hS⟩
                 have HF9 := Lib.hid hF
                 have HC9 := Lib.hid (HC1.out.then hC)
                 have hs9 : w9.heap.size = w.heap.size := hS.trans hs1
                 clear hF hC hS))
            go_roundw
            case rel => exact ⟨2 * r + 1, swp dr r (2 * r + 1), by omega, by go_num, (size_swp dr r (2 * r + 1)).trans HSZ.out, HE, HF9, HC9, hs9⟩
            case measure => simp [RowKit.intOf]; omega
          | false =>
            have hg : gt' ltw dr[r]! dr[2 * r + 1]! = false := hb
            rw [hg] at HE
            simp only [Bool.not_false, if_true] at HE
            have HV1 := Lib.hid hb
            clear hb hg
            have C1 : Hid (∀ w2, Fo w2 p g c dr → Calls Try.prog 88 #[.slice (some ⟨g, 0, none⟩) dr.size c, .int .i64 (2 * (r : Int) + 1), .int .i64 ((r : Int))] w2 fun e w' => e = .returned (.bool false) ∧ Fo w' p g c dr ∧ Chg (fun k => k = g) w2 w' ∧ w'.heap.size = w2.heap.size) := fun w2 h2 => (fLess_at h2 (i := 2 * r + 1) (j := r) (by omega) (by omega) hc (by omega) (by omega)).mono fun e w' h => ⟨h.1.trans (by rw [HV1.out]), h.2⟩
            go_wp2_with (first
              | ((with_reducible refine (C1.out _ HF.out).mono ?_)
                 rintro e w2 ⟨rfl, hF, hC, hS⟩
                 have HF1 := Lib.hid hF
                 have HC1 := Lib.hid (HC.out.then hC)
                 have hs1 : w2.heap.size = w.heap.size := hS.trans hws
                 have ev1 := hF.var
                 have mL1 := meth_less ev1
                 have mS1 := meth_swap ev1
                 clear hF hC hS))
            go_ret
            exact ⟨⟨_, rfl⟩, HE.out ▸ HF1.out, HC1.out, hs1⟩
end Go.Proofs.Ytanihbflgolciaa
