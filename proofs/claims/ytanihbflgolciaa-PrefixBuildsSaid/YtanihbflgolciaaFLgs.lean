/- Contract of prefix.lengths. -/
import Derived.Test.YtanihbflgolciaaFMgd
import Derived.Test.YtanihbflgolciaaFTal
namespace Go.Proofs.Ytanihbflgolciaa
open Go.RowKit Go.Lib Go.Sort
set_option linter.unusedVariables false
set_option maxRecDepth 100000

/-- The weight of the leaf i. -/
def wfI (T : List Int) (sy : List Nat) (i : Nat) : Int := if i < sy.length then T.getD (sy.getD i 0) 0 else 0
/-- The groups of single leaves, as they are put one behind the other. -/
structure Lfs (f : Nat → Int) (B : Nat) (v : Value) (L : List (Int × Value)) (w : World) : Prop where
  own : w.ownsRow B 68 2 v L.length (gv L)
  at_ : ∀ i p, L[i]? = some p → p.1 = f i ∧ ∃ b, p.2 = .slice (some ⟨b, 0, none⟩) 1 1 ∧ B ≤ b ∧ b < w.heap.size ∧ v.ownBlock ≠ some b ∧ w.cell? ⟨b, 0, none⟩ = some (.int .i64 i)
theorem Lfs.nil (f : Nat → Int) (B : Nat) (w : World) : Lfs f B (.slice none 0 0) [] w := ⟨World.ownsRow_nil _ _ _ _, fun i p h => by simp at h⟩
theorem Lfs.chg {f : Nat → Int} {B : Nat} {v : Value} {L : List (Int × Value)} {w w' : World} (h : Lfs f B v L w) (hc : Chg (fun _ => False) w w') : Lfs f B v L w' :=
  ⟨owns_chg h.own hc (fun k _ e => e), fun i p hp => by
    obtain ⟨h1, b, h2, h3, h4, h5, h6⟩ := h.at_ i p hp
    exact ⟨h1, b, h2, h3, Nat.lt_of_lt_of_le h4 hc.size, h5, hc.cellv h6 (fun e => e)⟩⟩
theorem Lfs.app {f : Nat → Int} {B : Nat} {v v' : Value} {L : List (Int × Value)} {wr wA w' : World} {x : Int} {b : Nat} (h : Lfs f B v L wr) (hx : x = f L.length) (hc : Chg (fun _ => False) wr wA) (hb : wr.heap.size ≤ b) (hbl : b < wA.heap.size) (hcell : wA.cell? ⟨b, 0, none⟩ = some (.int .i64 (L.length : Nat)))
    (ho : w'.ownsRow B 68 2 v' (L ++ [(x, Value.slice (some ⟨b, 0, none⟩) 1 1)]).length (gv (L ++ [(x, Value.slice (some ⟨b, 0, none⟩) 1 1)]))) (hg : wA.grownBy w' v.ownBlock) (hv : v'.ownBlock = v.ownBlock ∨ v'.ownBlock = some wA.heap.size) (hB : B ≤ wr.heap.size) :
    Lfs f B v' (L ++ [(x, Value.slice (some ⟨b, 0, none⟩) 1 1)]) w' := by
  have hlt := World.ownsRow.lt h.own
  refine ⟨ho, fun i p hp => ?_⟩
  by_cases hi : i < L.length
  · rw [List.getElem?_append_left hi] at hp
    obtain ⟨h1, c, h2, h3, h4, h5, h6⟩ := h.at_ i p hp
    have hcA := Nat.lt_of_lt_of_le h4 hc.size
    refine ⟨h1, c, h2, h3, Nat.lt_of_lt_of_le hcA hg.size, ?_, hg.cell (hc.cellv h6 (fun e => e)) (fun e => h5 e.symm)⟩
    rcases hv with e | e
    · rw [e]; exact h5
    · rw [e]; intro e2; injection e2 with e2; omega
  · rw [List.getElem?_append_right (by omega)] at hp
    have hi0 : i - L.length = 0 := by
      by_cases e : i - L.length = 0
      · exact e
      · rw [List.getElem?_eq_none (by simp; omega)] at hp; cases hp
    have hiL : i = L.length := by omega
    subst hiL
    rw [Nat.sub_self] at hp
    simp only [List.getElem?_cons_zero, Option.some.injEq] at hp
    subst hp
    refine ⟨hx, b, rfl, by omega, Nat.lt_of_lt_of_le hbl hg.size, ?_, hg.cell hcell ?_⟩
    · rcases hv with e | e
      · rw [e]; intro e2; have := hlt b e2; omega
      · rw [e]; intro e2; injection e2 with e2; omega
    · intro e2; have := hlt b e2.symm; omega
theorem wfI_lt {T : List Int} {sy : List Nat} {j : Nat} (h : j < sy.length) : wfI T sy j = T.getD (sy.getD j 0) 0 := by unfold wfI; rw [if_pos h]
theorem wfI_last (T : List Int) (sy : List Nat) : wfI T sy sy.length = 0 := by unfold wfI; rw [if_neg (Nat.lt_irrefl _)]

/-- The world in which the append stands. -/
abbrev lfW (wr : World) (j : Nat) (z : Int) : World := (wr.alloc (.cells #[.int .i64 (j : Nat)] 3)).alloc (.cells #[.int .i64 z, .slice (some ⟨wr.heap.size, 0, none⟩) 1 1] 68)
theorem Lfs.step {f : Nat → Int} {w wr : World} {v : Value} {L : List (Int × Value)} {X : Array Value} {z : Int} {j : Nat} (HL : Lfs f (w.heap.size + 1) v L wr) (hLj : L.length = j) (HB : Below w.heap.size w wr) (HK : Blk wr w.heap.size X) (HB1 : w.heap.size + 1 ≤ wr.heap.size) (hz : z = f j) :
    Hid (World.ownsRow (lfW wr j z) (w.heap.size + 1) 68 2 v L.length (gv L)) ∧ Hid (RdV (lfW wr j z) (some ⟨wr.heap.size + 1, 0, none⟩) (gv [(z, .slice (some ⟨wr.heap.size, 0, none⟩) 1 1)])) ∧ w.heap.size + 1 ≤ (lfW wr j z).heap.size ∧
    Hid (∀ v' w', World.ownsRow w' (w.heap.size + 1) 68 2 v' (L ++ [(z, Value.slice (some ⟨wr.heap.size, 0, none⟩) 1 1)]).length (gv (L ++ [(z, Value.slice (some ⟨wr.heap.size, 0, none⟩) 1 1)])) →
          World.grownBy (lfW wr j z) w' v.ownBlock → (v'.ownBlock = v.ownBlock ∨ v'.ownBlock = some (lfW wr j z).heap.size) →
          Lfs f (w.heap.size + 1) v' (L ++ [(z, Value.slice (some ⟨wr.heap.size, 0, none⟩) 1 1)]) w' ∧ Below w.heap.size w w' ∧ Blk w' w.heap.size X ∧ w.heap.size + 1 ≤ w'.heap.size) := by
  have hcA : Chg (fun _ => False) wr (lfW wr j z) := ((Chg.refl _ wr).alloc _).alloc _
  have hsA : (lfW wr j z).heap.size = wr.heap.size + 2 := by simp
  refine ⟨(HL.chg hcA).own, RdV.group _ _ z _ (by simp), by omega, ?_⟩
  show ∀ v' w', _
  intro v' w' ho hg hv
  have hlt := World.ownsRow.lt HL.own
  refine ⟨HL.app (by rw [hLj]; exact hz) hcA (Nat.le_refl _) (by rw [hsA]; omega) (by rw [hLj]; go_cell) ho hg hv HB1, ?_, ?_, ?_⟩
  · refine HB.trans (Chg.below (S := fun k => v.ownBlock = some k) ((hcA.mono (fun i _ e => e.elim)).grown hg (fun k e => .inl e)) HB.size ?_)
    intro k e
    have := hlt k e
    omega
  · refine HK.chg (S := fun k => v.ownBlock = some k) ((hcA.mono (fun i _ e => e.elim)).grown hg (fun k e => .inl e)) ?_
    intro e
    have := hlt _ e
    omega
  · have h1 := hg.size
    omega

/-- Single leaves, and one weight each. -/
def lfT (ws : List Nat) : List Tr := (List.range ws.length).map fun i => ⟨ws.getD i 0, 0, [(i, 0)]⟩
theorem lfT_len (ws : List Nat) : (lfT ws).length = ws.length := by simp [lfT]
theorem lfT_f (ws : List Nat) : (lfT ws).map Tr.f = ws := by
  unfold lfT
  rw [List.map_map]
  apply List.ext_getElem
  · simp
  · intro i h1 h2
    simp only [List.getElem_map, List.getElem_range, Function.comp_def]
    rw [List.getD_eq_getElem?_getD, List.getElem?_eq_getElem h2]
    rfl
theorem lfT_lf (ws : List Nat) : (lfT ws).flatMap (fun t => t.lf.map Prod.fst) = List.range ws.length := by
  unfold lfT
  rw [List.flatMap_map]
  simp
theorem lfT_dep (ws : List Nat) : ∀ t ∈ lfT ws, ∀ q ∈ t.lf, q.2 = 0 := by
  intro t ht q hq
  obtain ⟨i, _, rfl⟩ := List.mem_map.1 ht
  simp only [List.mem_singleton] at hq
  subst hq; rfl
theorem ht_deep {ts : List Tr} {r : Tr} (h : HT ts r) : ∀ K, (∀ t ∈ ts, ∀ q ∈ t.lf, q.2 ≤ K) → ∀ q ∈ r.lf, q.2 + 1 ≤ K + ts.length := by
  unfold HT at h
  induction h with
  | one a =>
    intro K hK q hq
    have := hK a (List.mem_singleton.2 rfl) q hq
    simp; omega
  | step hp ha hb _ ih =>
    rename_i ws t a b r hh
    intro K hK q hq
    have hl := hp.length_eq
    simp only [List.length_cons] at hl ih
    have := ih (K + 1) (by
      intro u hu p hp2
      rcases List.mem_cons.1 hu with rfl | hu
      · simp only [jn] at hp2
        obtain ⟨p0, hp0, rfl⟩ := List.mem_map.1 hp2
        simp only
        rcases List.mem_append.1 hp0 with h | h
        · have := hK a (hp.symm.subset (by simp)) p0 h; omega
        · have := hK b (hp.symm.subset (by simp)) p0 h; omega
      · have := hK u (hp.symm.subset (by simp [hu])) p hp2; omega) q hq
    omega
theorem Gr.rd {w : World} {g c : Nat} {d : List (Int × Value)} (h : Gr w g c d) : RdV w (some ⟨g, 0, none⟩) (gv d) := by
  refine .inr ⟨g, 0, rfl, fun i u hu => ?_⟩
  obtain ⟨cur, h1, h2, h3⟩ := h.ex
  rw [Nat.zero_add]
  have hi := (List.getElem?_eq_some_iff.1 hu).1
  rw [gv_len] at hi
  have : cur[i]? = some u := by
    rw [← h3, List.getElem?_take_of_lt hi, Array.getElem?_toList] at hu
    exact hu
  simp [World.cell?, h1, this]
theorem Lfs.lvs {f : Nat → Int} {B : Nat} {v : Value} {L : List (Int × Value)} {w : World} {n : Nat} (h : Lfs f B v L w) (hn : L.length = n) (h1 : 1 ≤ n) (ws : List Nat) (hw : ws.length = n) (hf : ∀ i, i < n → f i = ((ws.getD i 0 : Nat) : Int)) (hsum : ws.sum ≤ 1152921504606846976) :
    ∃ g c, v = .slice (some ⟨g, 0, none⟩) n c ∧ RdV w (some ⟨g, 0, none⟩) (gv L) ∧ Lvs w L (lfT ws) n := by
  obtain ⟨g, c, hv, hb, hG⟩ := Gr.of h.own (fun p hp => by
    obtain ⟨i, hi⟩ := List.mem_iff_getElem?.1 hp
    obtain ⟨_, b, e, _⟩ := h.at_ i p hi
    exact ⟨_, _, _, e⟩) (by intro e; rw [e] at hn; simp at hn; omega)
  refine ⟨g, c, by rw [hv, hn], hG.rd, ⟨hn, by rw [lfT_len, hw], h1, ?_, by rw [lfT_f]; exact hsum, by rw [lfT_lf, hw], lfT_dep ws⟩⟩
  intro t ht
  obtain ⟨i, hi⟩ := List.mem_iff_getElem?.1 ht
  rw [List.getElem?_zip_eq_some] at hi
  obtain ⟨hi1, hi2⟩ := hi
  obtain ⟨e1, b, e2, e3, e4, e5, e6⟩ := h.at_ i t.1 hi1
  have hin : i < n := by rw [← hn]; exact (List.getElem?_eq_some_iff.1 hi1).1
  have ht2 : t.2 = ⟨ws.getD i 0, 0, [(i, 0)]⟩ := by
    unfold lfT at hi2
    rw [List.getElem?_map, List.getElem?_range (by omega)] at hi2
    simp only [Option.map_some, Option.some.injEq] at hi2
    exact hi2.symm
  rw [ht2]
  refine ⟨by rw [e1, hf i hin], some ⟨b, 0, none⟩, 1, 1, e2, rfl, .inr ⟨b, 0, rfl, ?_⟩, ?_⟩
  · intro k hk
    simp [lvI] at hk
    subst hk
    exact e6
  · intro b' o s e
    cases e
    exact e4
theorem Ri.take {w : World} {A : Option Addr} {l : List Int} (h : Ri w A l) (n : Nat) : Ri w A (l.take n) := by
  rcases h with h | ⟨b, o, hA, hc⟩
  · left; rw [h]; simp
  · refine .inr ⟨b, o, hA, fun i hi => ?_⟩
    rw [List.length_take] at hi
    rw [hc i (by omega)]
    congr 2
    rw [List.getD_eq_getElem?_getD, List.getD_eq_getElem?_getD, List.getElem?_take_of_lt (by omega)]
/-- The weights, one of 0 behind. -/
def lgW (T : List Int) (sy : List Nat) : List Nat := sy.map (fun s => (T.getD s 0).toNat) ++ [0]
theorem lgW_len (T : List Int) (sy : List Nat) : (lgW T sy).length = sy.length + 1 := by simp [lgW]
theorem lgW_at (T : List Int) (sy : List Nat) (h : ∀ j, 0 ≤ T.getD j 0) (i : Nat) (hi : i < sy.length + 1) : wfI T sy i = (((lgW T sy).getD i 0 : Nat) : Int) := by
  unfold lgW
  rw [List.getD_eq_getElem?_getD]
  by_cases e : i < sy.length
  · rw [wfI_lt e, List.getElem?_append_left (by simpa using e), List.getElem?_map, List.getElem?_eq_getElem e, List.getD_eq_getElem?_getD (l := sy), List.getElem?_eq_getElem e]
    simp only [Option.map_some, Option.getD_some]
    have := h (sy[i]'e)
    omega
  · have : i = sy.length := by omega
    subst this
    rw [wfI_last, List.getElem?_append_right (by simp)]
    simp
theorem lgW_sum (T : List Int) (h : ∀ j, 0 ≤ T.getD j 0 ∧ T.getD j 0 ≤ 1099511627776) : ∀ sy : List Nat, (lgW T sy).sum ≤ sy.length * 1099511627776
  | [] => by simp [lgW]
  | s :: sy => by
    have ih := lgW_sum T h sy
    have := h s
    simp only [lgW, List.map_cons, List.cons_append, List.sum_cons, List.length_cons] at ih ⊢
    omega

set_option maxHeartbeats 4000000 in
theorem fLengths_any (T : List Int) (A : Option Addr) (c : Nat) (sy : List Nat) (w : World) (hT : T.length = 256) (hr : Ri w A (sy.map (fun (i : Nat) => (i : Int)))) (hs : ∀ i ∈ sy, i < 256) (hl : sy.length ≤ 16) (ht : ∀ j, 0 ≤ T.getD j 0 ∧ T.getD j 0 ≤ 1099511627776) :
    Calls Try.prog 27 #[.agg (ia T), .slice A sy.length c] w fun e w' => ∃ A' c' r, ∃ dp : List Int, e = .returned (.slice A' sy.length c') ∧ Ri w' A' (dp.take sy.length) ∧ dp.length = sy.length + 1 ∧ HT (lfT (lgW T sy)) r ∧ (r.lf.map Prod.fst).Perm (List.range (sy.length + 1)) ∧ (∀ q ∈ r.lf, dp.getD q.1 0 = (q.2 : Int)) ∧ Below w.heap.size w w' ∧ (∀ b o s, A' = some ⟨b, o, s⟩ → w.heap.size ≤ b) := by
  have HTB := Lib.hid ht
  have HR := Lib.hid hr
  have HTL := Lib.hid hT
  have HSY := Lib.hid hs
  have HBe := Lib.hid ((Below.refl w.heap.size w).alloc (Nat.le_refl _) (.cells (ia T) 55))
  have HBlk := Lib.hid (Blk.new w (ia T) 55)
  obtain ⟨X, hX⟩ : ∃ X, X = ia T := ⟨_, rfl⟩
  rw [← hX] at HBe HBlk ⊢
  have HX := Lib.hid hX
  clear hX hr hT hs ht
  go_enter Try.func27, Try.ntmps27
  go_wp2_with fail
  have HB0 : Hid (w.heap.size + 1 ≤ (w.alloc (.cells X 55)).heap.size) := by show _ ≤ _; simp
  generalize w.alloc (.cells X 55) = w1 at *
  go_loopg [5, 11] sy.length (fun gm v5 v11 wr => ∃ (j : Nat) (L : List (Int × Value)), v11 = .int .i64 j ∧ j ≤ sy.length ∧ sy.length - j ≤ gm ∧ L.length = j ∧ Hid (Lfs (wfI T sy) (w.heap.size + 1) v5 L wr) ∧ Hid (Below w.heap.size w wr) ∧ Hid (Blk wr w.heap.size X) ∧ Hid (w.heap.size + 1 ≤ wr.heap.size))
  case atStart => exact ⟨0, [], rfl, Nat.zero_le _, by omega, rfl, Lfs.nil _ _ _, HBe, HBlk, HB0⟩
  case round =>
    obtain ⟨j, L, rfl, hj, hgm, hLj, HL, HB, HK, HB1⟩ := hrel
    by_cases hjl : j < sy.length
    · obtain ⟨b, o, hA, hc⟩ : ∃ b o, A = some ⟨b, o, none⟩ ∧ ∀ i, i < (sy.map (fun (i : Nat) => (i : Int))).length → w.cell? ⟨b, o + i, none⟩ = some (.int .i64 ((sy.map (fun (i : Nat) => (i : Int))).getD i 0)) := by
        rcases HR.out with h | h
        · have := congrArg List.length h
          rw [List.length_map] at this
          rw [this] at hjl
          simp at hjl
        · exact h
      subst hA
      obtain ⟨s, hs⟩ : ∃ s, s = sy[j] := ⟨_, rfl⟩
      have hsn : s < 256 := by rw [hs]; exact HSY.out _ (List.getElem_mem hjl)
      have e1 := hc j (by rw [List.length_map]; exact hjl)
      have e1' : (sy.map (fun (i : Nat) => (i : Int))).getD j 0 = (s : Int) := by rw [List.getD_eq_getElem?_getD, List.getElem?_map, List.getElem?_eq_getElem hjl, hs]; rfl
      rw [e1'] at e1
      have e2 := cell_later HB.out e1
      obtain ⟨z, hz⟩ : ∃ z, z = T.getD s 0 := ⟨_, rfl⟩
      have e3 := HK.out.cell (g := w.heap.size) (j := s) (v := .int .i64 z) (by rw [HX.out, hz]; exact ia_at (by rw [HTL.out]; exact hsn))
      have hjl' : (j : Int) < (sy.length : Int) := by omega
      have hsn' : (s : Int) < 256 := by omega
      have HZ := Lib.hid hz
      have HSE := Lib.hid hs
      clear hc e1 e1' hs hz
      have hzf : z = wfI T sy j := by
        have : sy.getD j 0 = s := by rw [List.getD_eq_getElem?_getD, List.getElem?_eq_getElem hjl, HSE.out]; rfl
        rw [wfI_lt hjl, this, HZ.out]
      obtain ⟨HLA, HRA, hbb, HFN⟩ := Lfs.step HL.out hLj HB.out HK.out HB1.out hzf
      unfold lfW at HLA HRA hbb HFN
      have hll : L.length + [(z, Value.slice (some ⟨wr.heap.size, 0, none⟩) 1 1)].length ≤ 1000000000 := by simp; omega
      clear hzf
      go_wp2_with (first
        | ((at_builtin; (refine wpList_appG Try.underlying66 _ rfl (.tmp 16) (.tmp 23) rfl (w.heap.size + 1) u5 L rfl HLA.out (some ⟨wr.heap.size + 1, 0, none⟩) 1 1 [(z, .slice (some ⟨wr.heap.size, 0, none⟩) 1 1)] rfl rfl (by intro q hq; rw [List.mem_singleton] at hq; subst hq; rfl) HRA.out hll hbb ?_))
           intro v' w' ho hg hv
           have HF := Lib.hid (HFN.out v' w' ho hg hv)
           clear ho hg hv))
      go_roundg (gk - 1)
      case measure => omega
      case rel => exact ⟨j + 1, _, by push_cast; rfl, by omega, by omega, by rw [List.length_append, hLj]; rfl, HF.out.1, HF.out.2.1, HF.out.2.2.1, HF.out.2.2.2⟩
    · have hje : j = sy.length := by omega
      subst hje
      have hjl' : ¬ (sy.length : Int) < (sy.length : Int) := by omega
      obtain ⟨HLA, HRA, hbb, HFN⟩ := Lfs.step HL.out hLj HB.out HK.out HB1.out (wfI_last T sy).symm
      unfold lfW at HLA HRA hbb HFN
      have hll : L.length + [((0 : Int), Value.slice (some ⟨wr.heap.size, 0, none⟩) 1 1)].length ≤ 1000000000 := by simp; omega
      go_wp2_with (first
        | ((at_builtin; (refine wpList_appG Try.underlying66 _ rfl (.tmp 26) (.tmp 31) rfl (w.heap.size + 1) u5 L rfl HLA.out (some ⟨wr.heap.size + 1, 0, none⟩) 1 1 [(0, .slice (some ⟨wr.heap.size, 0, none⟩) 1 1)] rfl rfl (by intro q hq; rw [List.mem_singleton] at hq; subst hq; rfl) HRA.out hll hbb ?_))
           intro v' w' ho hg hv
           have HF := Lib.hid (HFN.out v' w' ho hg hv)
           have hlt' : (L ++ [((0 : Int), Value.slice (some ⟨wr.heap.size, 0, none⟩) 1 1)]).length = sy.length + 1 := by rw [List.length_append, hLj]; rfl
           obtain ⟨g, cg, hvg, hRg, hLg⟩ := Lfs.lvs HF.out.1 hlt' (by omega) (lgW T sy) (lgW_len T sy) (fun i hi => lgW_at T sy (fun j => (HTB.out j).1) i hi) (by have := lgW_sum T HTB.out sy; have h2 : sy.length * 1099511627776 ≤ 16 * 1099511627776 := Nat.mul_le_mul_right _ hl; omega)
           subst hvg
           have CM := Lib.hid (fMerged_any _ (lfT (lgW T sy)) g (sy.length + 1) cg w' hRg hLg (by omega))
           clear ho hg hv hlt' hRg hLg)
        | ((with_reducible refine CM.out.mono ?_)
           rintro e w3 ⟨v, dp, r, rfl, hO, hdl, hh, hpm, hdp, hbm⟩
           obtain ⟨A3, c3, hv3, hc3, hm3, hR3, hb3, hz3⟩ := hO.open
           subst hv3
           rw [hdl] at hc3
           have HR3 := Lib.hid hR3
           have HDL := Lib.hid hdl
           have HH := Lib.hid hh
           have HPM := Lib.hid hpm
           have HDP := Lib.hid hdp
           have HBM := Lib.hid (HF.out.2.1.trans (Chg.below (S := fun _ => False) (Chg.of_below hbm) HF.out.2.1.size (fun i e => e.elim)))
           have hmx : ¬ 16 < mxL dp (dp.length - 1) := by
             obtain ⟨j, hj, hje⟩ := mxL_in dp (dp.length - 1)
             have hjm := hpm.symm.subset (List.mem_range.2 (show j < sy.length + 1 by omega))
             obtain ⟨q, hq, rfl⟩ := List.mem_map.1 hjm
             have h1 := ht_deep hh 0 (fun t ht q hq => Nat.le_of_eq (lfT_dep _ t ht q hq)) q hq
             rw [lfT_len, lgW_len] at h1
             rw [hje, hdp q hq]
             omega
           have CX := Lib.hid (fMax_any dp A3 dp.length c3 w3 hR3 rfl (by intro e; rw [e] at hdl; simp at hdl) (by omega))
           clear hO hdl hR3 hh hpm hdp hbm)
        | ((with_reducible refine CX.out.mono ?_)
           rintro e w4 ⟨rfl, rfl⟩))
      go_ret
      exact ⟨A3, c3, r, dp, rfl, HR3.out.take _, HDL.out, HH.out, HPM.out, HDP.out, HBM.out, fun b o s e => Nat.le_trans HF.out.2.1.size (hb3 b o s e).1⟩
end Go.Proofs.Ytanihbflgolciaa
