/- cmp.Compare at ints, and counted's closure. -/
import Derived.Test.YtanihbflgolciaaFLgs
import Derived.Test.YtanihbflgolciaaShelf
namespace Go.Proofs.Ytanihbflgolciaa
open Go.RowKit Go.Lib Go.Sort
set_option linter.unusedVariables false
set_option maxRecDepth 100000
theorem fNaN_any (x : Int) (w : World) : Calls Try.prog 35 #[.int .i64 x] w fun e w' => e = .returned (.bool false) ∧ w = w' := by
  go_enter Try.func35, Try.ntmps35
  go_wp2_with fail
  go_ret
  exact ⟨rfl, rfl⟩
/-- What cmp.Compare says. -/
def cmpV (x y : Int) : Int := if x < y then -1 else if y < x then 1 else 0
theorem fCmp_any (x y : Int) (w : World) : Calls Try.prog 30 #[.int .i64 x, .int .i64 y] w fun e w' => e = .returned (.int .i64 (cmpV x y)) ∧ w = w' := by
  go_enter Try.func30, Try.ntmps30
  by_cases h1 : x < y
  · go_wp2_with (first
      | ((with_reducible refine (fNaN_any x _).mono ?_)
         rintro e w5 ⟨rfl, rfl⟩)
      | ((with_reducible refine (fNaN_any y _).mono ?_)
         rintro e w5 ⟨rfl, rfl⟩))
    go_ret
    exact ⟨by unfold cmpV; rw [if_pos h1]; rfl, rfl⟩
  · by_cases h2 : y < x
    · go_wp2_with (first
        | ((with_reducible refine (fNaN_any x _).mono ?_)
           rintro e w5 ⟨rfl, rfl⟩)
        | ((with_reducible refine (fNaN_any y _).mono ?_)
           rintro e w5 ⟨rfl, rfl⟩))
      go_ret
      exact ⟨by unfold cmpV; rw [if_neg (by omega), if_pos h2]; rfl, rfl⟩
    · go_wp2_with (first
        | ((with_reducible refine (fNaN_any x _).mono ?_)
           rintro e w5 ⟨rfl, rfl⟩)
        | ((with_reducible refine (fNaN_any y _).mono ?_)
           rintro e w5 ⟨rfl, rfl⟩))
      go_ret
      exact ⟨by unfold cmpV; rw [if_neg (by omega), if_neg (by omega)]; rfl, rfl⟩
theorem fCl_any (T : List Int) (g a b : Nat) (w : World) (ha : a < 256) (hb : b < 256) (e1 : w.cell? ⟨g, a, none⟩ = some (.int .i64 (T.getD a 0))) (e2 : w.cell? ⟨g, b, none⟩ = some (.int .i64 (T.getD b 0))) :
    Calls Try.prog 29 #[.int .i64 (a : Nat), .int .i64 (b : Nat), .pointer (some ⟨g, 0, none⟩)] w fun e w' => e = .returned (.int .i64 (cmpV (T.getD b 0) (T.getD a 0))) ∧ ∃ q, w' = w.drewN q := by
  obtain ⟨x, hx⟩ : ∃ x, x = T.getD a 0 := ⟨_, rfl⟩
  obtain ⟨y, hy⟩ : ∃ y, y = T.getD b 0 := ⟨_, rfl⟩
  rw [← hx] at e1
  rw [← hy] at e2
  rw [← hx, ← hy]
  clear hx hy
  have ha' : (a : Int) < 256 := by omega
  have hb' : (b : Int) < 256 := by omega
  go_enter Try.func29, Try.ntmps29
  go_wp2_with fail
  go_region_held3 (fun w' => w'.cell? ⟨g, a, none⟩ = some (.int .i64 x) ∧ w'.cell? ⟨g, b, none⟩ = some (.int .i64 y) ∧ ∃ q, w' = w.drewN q)
    ((first
      | exact ⟨e1, e2, 0, rfl⟩
      | exact ⟨e1, e2, 1, rfl⟩
      | exact ⟨e1, e2, 2, rfl⟩
      | exact ⟨e1, e2, 3, rfl⟩))
    (first
      | ((with_reducible refine (fCmp_any y x _).mono ?_); rintro e w5 ⟨rfl, rfl⟩))
  all_goals
    go_wp2_with fail
    go_ret
    exact ⟨rfl, 1, rfl⟩
/-- A symbol as a value. -/
def encF (i : Fin 256) : Value := .int .i64 ((i.val : Nat) : Int)
theorem encF_one : OneCell encF := fun _ => rfl
def cfT (T : List Int) (x y : Fin 256) : Int := cmpV (T.getD y.val 0) (T.getD x.val 0)
def clB (g : Nat) : Array Value := #[.pointer (some ⟨g, 0, none⟩)]
theorem fCl_lays (T : List Int) (gA blk n : Nat) (w : World) (hA : Blk w gA (ia T)) (hne : gA ≠ blk) (hT : T.length = 256) : CmpLays1 Try.prog 29 (clB gA) encF (cfT T) blk 0 n w := by
  refine CmpReads.lays ?_
  intro m os dk hs x y
  have hc : ∀ i : Fin 256, (sortWorld encF w blk 0 m dk os).cell? ⟨gA, i.val, none⟩ = some (.int .i64 (T.getD i.val 0)) := by
    intro i
    have : (sortWorld encF w blk 0 m dk os).cell? ⟨gA, i.val, none⟩ = w.cell? ⟨gA, i.val, none⟩ := by
      unfold sortWorld
      rw [cell?_grow _ _ _ (by rw [size_putRow]; exact hA.lt), cell?_putRow_other _ _ _ _ _ _ (Or.inl hne), cell?_ahead]
    rw [this]
    exact hA.cell (ia_at (by rw [hT]; exact i.isLt))
  exact fCl_any T gA x.val y.val _ x.isLt y.isLt (hc x) (hc y)
theorem eg_cl : ∀ args w, (callFunc 29 args).run Try.prog w = .ok (.enter 29 args) w := fun _ _ => rfl
theorem fIns_any (T : List Int) (gA blk c : Nat) (d : Array (Fin 256)) (w : World) (hH : Holds encF w blk 0 d) (hblk : blk < w.heap.size) (hA : Blk w gA (ia T)) (hne : gA ≠ blk) (hT : T.length = 256) (hd : d.size ≤ 1000) :
    Calls Try.prog 46 #[.slice (some ⟨blk, 0, none⟩) d.size c, .int .i64 0, .int .i64 (d.size : Nat), .func (.func 29) #[] (clB gA)] w fun e w' => e = .returned (.tuple #[]) ∧ SW encF w blk 0 (insertionSort (ltOf (cfT T)) d 0 d.size) w' :=
  Any.insertionSortCmpFunc_s Try.ins encF (cfT T) 29 (clB gA) blk 0 c 0 d.size d d w w eg_cl (fCl_lays T gA blk d.size w hA hne hT) ⟨encF_one, hH, hblk⟩ rfl (SW.start hH) (Nat.zero_le _) (Nat.le_refl _) (by omega)
theorem fStb_any (T : List Int) (gA blk c : Nat) (d : Array (Fin 256)) (w : World) (hH : Holds encF w blk 0 d) (hblk : blk < w.heap.size) (hA : Blk w gA (ia T)) (hne : gA ≠ blk) (hT : T.length = 256) (hd : d.size < 20) :
    Calls Try.prog 34 #[.slice (some ⟨blk, 0, none⟩) d.size c, .int .i64 (d.size : Nat), .func (.func 29) #[] (clB gA)] w fun e w' => e = .returned (.tuple #[]) ∧ SW encF w blk 0 (insertionSort (ltOf (cfT T)) d 0 d.size) w' := by
  have CI := Lib.hid (fIns_any T gA blk c d w hH hblk hA hne hT (by omega))
  obtain ⟨n, hn⟩ : ∃ n, n = d.size := ⟨_, rfl⟩
  obtain ⟨f, hf⟩ : ∃ f, f = Value.func (.func 29) #[] (clB gA) := ⟨_, rfl⟩
  rw [← hn, ← hf] at CI ⊢
  rw [← hn] at hd
  clear hn hf hH hA
  have hd' : ¬ (20 : Int) ≤ (n : Int) := by omega
  have hd2 : ¬ (20 : Int) < (n : Int) := by omega
  go_enter Try.func34, Try.ntmps34
  go_wp2_with fail
  refine wp_loop_rounds 1 ?_
  rw [rounds_succ]
  go_wp2_with (first
    | ((with_reducible refine CI.out.mono ?_)
       rintro e w5 ⟨rfl, hS⟩
       have HS := Lib.hid hS
       clear hS))
  refine wp_loop_rounds 1 ?_
  rw [rounds_succ]
  go_wp2_with fail
  go_end0
  exact ⟨rfl, HS.out⟩
theorem fSsf_any (T : List Int) (gA blk c : Nat) (d : Array (Fin 256)) (w : World) (hH : Holds encF w blk 0 d) (hblk : blk < w.heap.size) (hA : Blk w gA (ia T)) (hne : gA ≠ blk) (hT : T.length = 256) (hd : d.size < 20) :
    Calls Try.prog 28 #[.slice (some ⟨blk, 0, none⟩) d.size c, .func (.func 29) #[] (clB gA)] w fun e w' => e = .returned (.tuple #[]) ∧ SW encF w blk 0 (insertionSort (ltOf (cfT T)) d 0 d.size) w' := by
  have CI := Lib.hid (fStb_any T gA blk c d w hH hblk hA hne hT hd)
  obtain ⟨n, hn⟩ : ∃ n, n = d.size := ⟨_, rfl⟩
  obtain ⟨f, hf⟩ : ∃ f, f = Value.func (.func 29) #[] (clB gA) := ⟨_, rfl⟩
  rw [← hn, ← hf] at CI ⊢
  rw [← hn] at hd
  clear hn hf hH hA
  go_enter Try.func28, Try.ntmps28
  go_wp2_with (first
    | ((with_reducible refine CI.out.mono ?_)
       rintro e w5 ⟨rfl, hS⟩
       have HS := Lib.hid hS
       clear hS))
  go_end0
  exact ⟨rfl, HS.out⟩
/-- The symbols that are counted. -/
def posS (T : List Int) (m : Nat) : List Nat := (List.range m).filter fun i => decide (0 < T.getD i 0)
theorem posS_succ_yes {T : List Int} {m : Nat} (h : 0 < T.getD m 0) : posS T (m + 1) = posS T m ++ [m] := by unfold posS; rw [List.range_succ, List.filter_append, List.filter_cons, if_pos (decide_eq_true h)]; rfl
theorem posS_succ_no {T : List Int} {m : Nat} (h : ¬ 0 < T.getD m 0) : posS T (m + 1) = posS T m := by unfold posS; rw [List.range_succ, List.filter_append, List.filter_cons, if_neg (by rw [decide_eq_false h]; decide)]; simp
theorem posS_le (T : List Int) (m : Nat) : (posS T m).length ≤ m := by
  unfold posS
  exact Nat.le_trans (List.length_filter_le _ _) (by simp)
theorem posS_lt {T : List Int} {m : Nat} : ∀ i ∈ posS T m, i < m := by
  intro i hi
  unfold posS at hi
  exact List.mem_range.1 (List.mem_filter.1 hi).1
def posI (T : List Int) (m : Nat) : List Int := (posS T m).map fun (i : Nat) => (i : Int)
theorem SW.chg' {enc : Fin 256 → Value} {w0 W : World} {blk off : Nat} {dk : Array (Fin 256)} (h : SW enc w0 blk off dk W) : Chg (fun k => k = blk) w0 W := by
  have hle := h.le
  obtain ⟨n, os, rfl⟩ := h
  refine ⟨rfl, rfl, rfl, hle, fun k hk hne => ?_⟩
  show ((w0.heap.modify blk _) ++ os)[k]? = w0.heap[k]?
  rw [Array.getElem?_append_left (by simpa using hk), Array.getElem?_modify]
  rw [if_neg (fun e => hne e.symm)]
def fin256 (i : Nat) : Fin 256 := ⟨i % 256, Nat.mod_lt _ (by decide)⟩
/-- The symbols that are counted, for the sort. -/
def dS (T : List Int) : Array (Fin 256) := ((posS T 256).map fin256).toArray
theorem dS_size (T : List Int) : (dS T).size = (posS T 256).length := by simp [dS]
theorem dS_at (T : List Int) (i : Nat) (hi : i < (posS T 256).length) : encF (dS T)[i]! = .int .i64 ((posI T 256).getD i 0) := by
  rw [getElem!_pos (dS T) i (by rw [dS_size]; exact hi)]
  unfold encF posI dS
  rw [List.getD_eq_getElem?_getD, List.getElem?_map, List.getElem?_eq_getElem hi]
  simp only [List.getElem_toArray, List.getElem_map, Option.map_some, Option.getD_some, fin256]
  have := posS_lt (T := T) _ (List.getElem_mem hi)
  rw [Nat.mod_eq_of_lt this]
/-- The symbols by decreasing count. -/
def srtS (T : List Int) : List Nat := (insertionSort (ltOf (cfT T)) (dS T) 0 (dS T).size).toList.map Fin.val
theorem ltOf_cf (T : List Int) (x y : Fin 256) : ltOf (cfT T) x y = decide (T.getD y.val 0 < T.getD x.val 0) := by
  unfold ltOf cfT cmpV
  by_cases h : T.getD y.val 0 < T.getD x.val 0
  · rw [if_pos h, decide_eq_true h]; rfl
  · rw [if_neg h, decide_eq_false h]
    split <;> rfl
theorem cf_swo (T : List Int) : SWO (ltOf (cfT T)) := by
  refine ⟨fun x => ?_, fun x y z => ?_, fun x y z => ?_⟩
  · rw [ltOf_cf, decide_eq_false_iff_not]; omega
  · rw [ltOf_cf, ltOf_cf, ltOf_cf]; simp only [decide_eq_true_eq]; omega
  · rw [ltOf_cf, ltOf_cf, ltOf_cf]; simp only [decide_eq_false_iff_not]; omega
theorem srt_perm (T : List Int) : PermIn 0 (dS T).size (dS T) (insertionSort (ltOf (cfT T)) (dS T) 0 (dS T).size) := (insertionSort_holds (cf_swo T) (dS T) 0 (dS T).size (Nat.zero_le _) (Nat.le_refl _)).1
set_option maxHeartbeats 4000000 in
theorem fCtd_few (w : World) (T : List Int) (hT : T.length = 256) (h1 : 1 ≤ (posS T 256).length) (h2 : (posS T 256).length < 20) :
    Calls Try.prog 26 #[.agg (ia T)] w fun e w' => ∃ A c, e = .returned (.slice A (posS T 256).length c) ∧ Below w.heap.size w w' ∧ (∀ b o s, A = some ⟨b, o, s⟩ → w.heap.size ≤ b) ∧ Ri w' A ((srtS T).map fun (i : Nat) => (i : Int)) := by
  obtain ⟨X, hX⟩ : ∃ X, X = ia T := ⟨_, rfl⟩
  rw [← hX]
  have HSZ : Hid ((Try.prog.info? 55).map (·.size) = some X.size) := by show _ = _; rw [hX]; exact size256 T hT
  have HX := Lib.hid hX
  have HBe := Lib.hid ((Below.refl w.heap.size w).alloc (Nat.le_refl _) (.cells X 55))
  have HBlk := Lib.hid (Blk.new w X 55)
  have HTL := Lib.hid hT
  clear hX hT
  go_enter Try.func26, Try.ntmps26
  go_wp2_with (first
    | (with_reducible refine wpList_loadB _ rfl 55 (.tmp 1) rfl _ Try.underlying55 rfl w.heap.size rfl X HBlk.out HSZ.out ?_))
  have HB0 : Hid (w.heap.size + 1 ≤ (w.alloc (.cells X 55)).heap.size) := by show _ ≤ _; simp
  generalize w.alloc (.cells X 55) = w1 at *
  go_loopg [3, 7] 256 (fun gm v3 v7 wr => ∃ (j : Nat), v7 = .int .i64 j ∧ j ≤ 256 ∧ 256 - j ≤ gm ∧ Hid (Oi wr (w.heap.size + 1) v3 (posI T j)) ∧ Hid (Below w.heap.size w wr) ∧ Hid (Blk wr w.heap.size X) ∧ Hid (w.heap.size + 1 ≤ wr.heap.size))
  case atStart => exact ⟨0, rfl, Nat.zero_le _, by omega, Oi.nil _ _, HBe, HBlk, HB0⟩
  case round =>
    obtain ⟨j, rfl, hj, hgm, HO, HB, HK, HB1⟩ := hrel
    by_cases hlt : j < 256
    · have e1 : X[j]? = some (.int .i64 (T.getD j 0)) := by rw [HX.out]; exact ia_at (by rw [HTL.out]; exact hlt)
      obtain ⟨z, hz⟩ : ∃ z, z = T.getD j 0 := ⟨_, rfl⟩
      rw [← hz] at e1
      have HZ := Lib.hid hz
      have hlt' : (j : Int) < 256 := by omega
      by_cases hz0 : 0 < z
      · have HP : Hid (posI T (j + 1) = posI T j ++ [(j : Int)]) := by show _ = _; unfold posI; rw [posS_succ_yes (by rw [← hz]; exact hz0), List.map_append]; rfl
        have hlen : (posI T j).length ≤ 256 := by unfold posI; rw [List.length_map]; have := posS_le T j; omega
        clear hz
        have hOA : Oi (wr.alloc (.cells #[.int .i64 (j : Nat)] 3)) (w.heap.size + 1) u3 (posI T j) := HO.out.below ((Below.refl _ _).alloc (Nat.le_refl _) _)
        have HOA := Lib.hid hOA
        have HR1 := Lib.hid (Ri.one wr 3 (j : Nat))
        have hlt3 := HO.out.at
        have HL3 := Lib.hid hlt3
        clear hOA hlt3
        go_wp2_with (first
          | (with_reducible refine wpList_indexA _ rfl 55 (.tmp 6) (.tmp 7) rfl 256 3 .i64 Try.underlying55 Try.underlying3 (by kernel_rfl) X rfl j rfl hlt _ e1 ?_)
          | ((with_reducible refine wpList_appI _ rfl (.tmp 13) (.tmp 15) rfl (w.heap.size + 1) u3 (posI T j) rfl HOA.out (some ⟨wr.heap.size, 0, none⟩) 1 1 [(j : Int)] rfl rfl HR1.out (by rw [List.length_singleton]; omega) (by simp; have := HB1.out; omega) ?_)
             intro v1 w1 ho1 hg1 _
             have HO2 := Lib.hid ho1
             have hcg : Chg (fun k => u3.ownBlock = some k) wr w1 := (((Chg.refl _ wr).alloc _).grown hg1 (fun k e => .inl e))
             have HB2 := Lib.hid (HB.out.trans (hcg.below HB.out.size (fun k e => by have := HL3.out k e; omega)))
             have HK2 := Lib.hid (HK.out.chg hcg (fun e => by have := HL3.out _ e; omega))
             have HS2 : Hid (w.heap.size + 1 ≤ w1.heap.size) := Nat.le_trans HB1.out hcg.size
             clear ho1 hg1 hcg))
        go_roundg (gk - 1)
        case measure => omega
        case rel => exact ⟨j + 1, by push_cast; rfl, by omega, by omega, (show Hid _ from by show Oi _ _ _ _; rw [HP.out]; exact HO2.out), HB2, HK2, HS2⟩
      · have HP : Hid (posI T (j + 1) = posI T j) := by show _ = _; unfold posI; rw [posS_succ_no (by rw [← hz]; exact hz0)]
        clear hz
        go_wp2_with (first
          | (with_reducible refine wpList_indexA _ rfl 55 (.tmp 6) (.tmp 7) rfl 256 3 .i64 Try.underlying55 Try.underlying3 (by kernel_rfl) X rfl j rfl hlt _ e1 ?_))
        go_roundg (gk - 1)
        case measure => omega
        case rel => exact ⟨j + 1, by push_cast; rfl, by omega, by omega, (show Hid _ from by show Oi _ _ _ _; rw [HP.out]; exact HO.out), HB, HK, HB1⟩
    · have hje : j = 256 := by omega
      subst hje
      have hsz := (srt_perm T).1
      have hds := dS_size T
      have hpl : (posI T 256).length = (posS T 256).length := by unfold posI; rw [List.length_map]
      obtain ⟨g, c, hv, hbg, hgl, hfc, hcm, hcell, hfr⟩ := HO.out.form.resolve_left (fun e => by have := congrArg List.length e.2; rw [hpl] at this; simp at this; rw [this] at h1; simp at h1)
      subst hv
      have hH : Holds encF wr g 0 (dS T) := fun j hj => by
        rw [hds] at hj
        refine ⟨?_, hfr _⟩
        rw [Nat.zero_add, dS_at T j hj]
        exact hcell j (by rw [hpl]; exact hj)
      have CS := Lib.hid (fSsf_any T w.heap.size g c (dS T) wr hH hgl (by have := HK.out; rw [HX.out] at this; exact this) (by omega) HTL.out (by rw [hds]; exact h2))
      rw [hpl]
      rw [← hds] at h1 h2 ⊢
      have HH := Lib.hid hH
      have HSZ2 := Lib.hid hsz
      obtain ⟨n, hn⟩ : ∃ n, n = (dS T).size := ⟨_, rfl⟩
      have HN := Lib.hid hn
      obtain ⟨R, hR⟩ : ∃ R, R = insertionSort (ltOf (cfT T)) (dS T) 0 (dS T).size := ⟨_, rfl⟩
      have HRR := Lib.hid hR
      rw [← hR] at CS HSZ2
      rw [← hn] at CS HSZ2 h1 h2 ⊢
      clear hfc hcm hcell hfr hH hsz hds hpl HO hn hR
      unfold clB at CS
      go_wp2_with (first
        | ((with_reducible refine CS.out.mono ?_)
           rintro e w5 ⟨rfl, hS⟩
           have HS := Lib.hid hS
           clear hS))
      go_ret
      refine ⟨some ⟨g, 0, none⟩, c, by rw [← dS_size, ← HN.out]; rfl, HB.out.trans ((SW.chg' HS.out).below HB.out.size (fun i e => by rw [e]; omega)), (fun b o s e => by cases e; omega), ?_⟩
      have hhd := HS.out.holds hgl HH.out (by rw [HSZ2.out, HN.out])
      refine .inr ⟨g, 0, rfl, fun i hi => ?_⟩
      unfold srtS at hi ⊢
      rw [← HRR.out] at hi ⊢
      rw [List.length_map, List.length_map, Array.length_toList] at hi
      have := (hhd i hi).1
      rw [this, getElem!_pos R i hi]
      unfold encF
      rw [List.getD_eq_getElem?_getD, List.getElem?_map, List.getElem?_map, Array.getElem?_toList, Array.getElem?_eq_getElem hi]
      rfl
end Go.Proofs.Ytanihbflgolciaa
