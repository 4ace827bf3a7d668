/- Contract of prefix.Build, of few. -/
import Derived.Test.YtanihbflgolciaaFSrt
import Derived.Test.YtanihbflgolciaaFNew
namespace Go.Proofs.Ytanihbflgolciaa
open Go.RowKit Go.Lib Go.Sort
set_option linter.unusedVariables false
set_option maxRecDepth 100000
/-- A specification's cells. -/
def hx (cs : List Int) (v : Value) : Array Value := (cs.map iv ++ [v]).toArray
theorem hx_size (cs : List Int) (v : Value) : (hx cs v).size = cs.length + 1 := by simp [hx]
theorem hx_at {cs : List Int} {v : Value} {j : Nat} (h : j < cs.length) : (hx cs v)[j]? = some (.int .i64 (cs.getD j 0)) := by
  simp only [hx, List.getElem?_toArray]
  rw [List.getElem?_append_left (by simpa using h), List.getElem?_map, List.getElem?_eq_getElem h, List.getD_eq_getElem?_getD, List.getElem?_eq_getElem h]
  rfl
theorem hx_last (cs : List Int) (v : Value) : (hx cs v)[cs.length]? = some v := by
  simp only [hx, List.getElem?_toArray]
  rw [List.getElem?_append_right (by simp)]
  simp
theorem hx_set (cs : List Int) (v : Value) (j : Nat) (x : Int) (h : j < cs.length) : (hx cs v).setIfInBounds j (.int .i64 x) = hx (cs.set j x) v := by
  unfold hx
  rw [List.setIfInBounds_toArray, List.set_append_left _ _ (by simpa using h), List.map_set]
  rfl
theorem hx_one (cs : List Int) (A : Option Addr) (n c : Nat) : ∀ v ∈ (hx cs (.slice A n c)).toList, v.oneCell' = true := by
  intro v hv
  simp only [hx, List.mem_append, List.mem_singleton] at hv
  rcases hv with h | rfl
  · exact iv_one cs v h
  · rfl
theorem infoH : (Try.prog.info? 25).map (fun i => i.zero) = some (some (.agg (hx (zeroL 16) (.slice none 0 0)))) := by kernel_rfl
theorem sizeH {X : Array Value} (h : X.size = 17) : (Try.prog.info? 25).map (·.size) = some X.size := by rw [h]; kernel_rfl
theorem hx_hv {cs : List Int} (h : cs.length = 16) (v : Value) : Hv (hx cs v) cs v := ⟨fun k hk => hx_at (by omega), by have := hx_last cs v; rw [h] at this; exact this⟩

abbrev litH (A : Option Addr) (n c : Nat) : Array Value := #[.int .i64 0, .int .i64 0, .int .i64 0, .int .i64 0, .int .i64 0, .int .i64 0, .int .i64 0, .int .i64 0, .int .i64 0, .int .i64 0, .int .i64 0, .int .i64 0, .int .i64 0, .int .i64 0, .int .i64 0, .int .i64 0, .slice A n c]
theorem litH_eq (A : Option Addr) (n c : Nat) : litH A n c = hx (zeroL 16) (.slice A n c) := rfl
theorem litH_size (A : Option Addr) (n c : Nat) : (litH A n c).size = 17 := rfl
theorem litH_one (A : Option Addr) (n c : Nat) : ∀ v ∈ (litH A n c).toList, v.oneCell' = true := hx_one (zeroL 16) A n c
theorem srtS_len (T : List Int) : (srtS T).length = (posS T 256).length := by
  unfold srtS
  rw [List.length_map, Array.length_toList, (srt_perm T).1, dS_size]
theorem srtS_lt (T : List Int) : ∀ i ∈ srtS T, i < 256 := by
  intro i hi
  unfold srtS at hi
  obtain ⟨x, _, rfl⟩ := List.mem_map.1 hi
  exact x.isLt
theorem ht_low {ts : List Tr} {r : Tr} (h : HT ts r) : 2 ≤ ts.length → ∀ q ∈ r.lf, 1 ≤ q.2 := by
  unfold HT at h
  induction h with
  | one a => intro h; simp at h
  | step hp ha hb hh ih =>
    rename_i ws t a b r
    intro _ q hq
    cases t with
    | nil =>
      have : r = jn a b := by
        cases hh with
        | one => rfl
        | step hp2 _ _ _ => have := hp2.length_eq; simp at this
      subst this
      simp only [jn] at hq
      obtain ⟨p0, _, rfl⟩ := List.mem_map.1 hq
      simp
    | cons c t => exact ih (by simp) q hq
/-- The places of the counts that are counted up. -/
def dsL (dp : List Int) (n : Nat) : List Nat := (List.range n).map fun i => (dp.getD i 0).toNat - 1
theorem dsL_len (dp : List Int) (n : Nat) : (dsL dp n).length = n := by simp [dsL]
theorem dsL_at (dp : List Int) (n i : Nat) (h : i < n) : (dsL dp n)[i]? = some ((dp.getD i 0).toNat - 1) := by unfold dsL; rw [List.getElem?_map, List.getElem?_range h]; rfl
theorem dep_rng {ws : List Nat} {r : Tr} {n : Nat} {dp : List Int} (h : HT (lfT ws) r) (hw : ws.length = n + 1) (h1 : 1 ≤ n) (hp : (r.lf.map Prod.fst).Perm (List.range (n + 1))) (hd : ∀ q ∈ r.lf, dp.getD q.1 0 = (q.2 : Int)) (i : Nat) (hi : i < n + 1) : 1 ≤ dp.getD i 0 ∧ dp.getD i 0 ≤ n := by
  obtain ⟨q, hq, rfl⟩ := List.mem_map.1 (hp.symm.subset (List.mem_range.2 hi))
  have e1 := ht_low h (by rw [lfT_len]; omega) q hq
  have e2 := ht_deep h 0 (fun t ht q hq => Nat.le_of_eq (lfT_dep _ t ht q hq)) q hq
  rw [lfT_len] at e2
  rw [hd q hq]
  omega

set_option maxHeartbeats 4000000 in
theorem fBuild_few (t : List Int) (A : Option Addr) (c : Nat) (w : World) (hr : Ri w A t) (hl : t.length ≤ 100000) (hcb : cntB t = true) (h1 : 1 ≤ (posS (talS t) 256).length) (h2 : (posS (talS t) 256).length ≤ 16) :
    Calls Try.prog 18 #[.slice A t.length c] w fun e w' => ∃ A' c' r, ∃ dp : List Int, e = .returned (.tuple #[.agg (hx (incL (zeroL 16) (dsL dp (posS (talS t) 256).length)) (.slice A' (srtS (talS t)).length c')), .int .i64 0]) ∧ Ri w' A' ((srtS (talS t)).map (fun (i : Nat) => (i : Int))) ∧
      dp.length = (posS (talS t) 256).length + 1 ∧ HT (lfT (lgW (talS t) (srtS (talS t)))) r ∧ (r.lf.map Prod.fst).Perm (List.range ((posS (talS t) 256).length + 1)) ∧ (∀ q ∈ r.lf, dp.getD q.1 0 = (q.2 : Int)) ∧ Below w.heap.size w w' := by
  have HR := Lib.hid hr
  obtain ⟨Z, hZ⟩ : ∃ Z, Z = ia (zeroL 256) := ⟨_, rfl⟩
  have HZ : Hid ((Try.prog.info? 55).map (fun i => i.zero) = some (some (.agg Z))) := by show _ = _; rw [hZ]; exact info256
  have HZS : Hid (Z.size = 256) := by show _ = _; rw [hZ, ia_size]; simp [zeroL]
  obtain ⟨Y, hY⟩ : ∃ Y, Y = hx (zeroL 16) (.slice none 0 0) := ⟨_, rfl⟩
  have HY : Hid ((Try.prog.info? 25).map (fun i => i.zero) = some (some (.agg Y))) := by show _ = _; rw [hY]; exact infoH
  have HYE := Lib.hid hY
  have HYZ : Hid (Y.size = 17) := by show _ = _; rw [hY, hx_size]; rfl
  have HB1 := Lib.hid ((Below.refl w.heap.size w).alloc (Nat.le_refl _) (.cells Y 25))
  have HK1 := Lib.hid (Blk.new w Y 25)
  clear hZ hY hr
  have HTal := Lib.hid (fun w1 (h1 : Ri w1 A t) => fTal_any t A c w1 h1 hl)
  rw [hcb] at HTal
  obtain ⟨T, hT⟩ : ∃ T, T = talS t := ⟨_, rfl⟩
  have hTl : T.length = 256 := by rw [hT]; exact talS_len t
  have HTS := Lib.hid (size256 T hTl)
  have htr := talS_in t
  have HTT := Lib.hid hT
  rw [← hT] at HTal h1 h2 htr ⊢
  have HTR := Lib.hid htr
  have HTL := Lib.hid hTl
  obtain ⟨n, hn⟩ : ∃ n, n = (posS T 256).length := ⟨_, rfl⟩
  have HC := Lib.hid (fun w1 => fCtd_few w1 T hTl h1 (by omega))
  rw [← hn] at HC h1 h2 ⊢
  have HN := Lib.hid hn
  have hsl : (srtS T).length = n := by rw [srtS_len, hn]
  have HL : Hid (∀ w1 A1 c1, Ri w1 A1 ((srtS T).map (fun (i : Nat) => (i : Int))) → Calls Try.prog 27 #[.agg (ia T), .slice A1 n c1] w1 fun e w' => ∃ A' c' r, ∃ dp : List Int, e = .returned (.slice A' n c') ∧ Ri w' A' (dp.take n) ∧ dp.length = n + 1 ∧ HT (lfT (lgW T (srtS T))) r ∧ (r.lf.map Prod.fst).Perm (List.range (n + 1)) ∧ (∀ q ∈ r.lf, dp.getD q.1 0 = (q.2 : Int)) ∧ Below w1.heap.size w1 w' ∧ (∀ b o s, A' = some ⟨b, o, s⟩ → w1.heap.size ≤ b)) := by
    show ∀ w1 A1 c1, _
    intro w1 A1 c1 hw1
    have := fLengths_any T A1 c1 (srtS T) w1 hTl hw1 (srtS_lt T) (by omega) htr
    rw [hsl] at this
    exact this
  rw [hsl]
  have HSL := Lib.hid hsl
  have hn0 : ¬ (n : Int) = 0 := by omega
  have hn1 : ((n : Int) == 0) = false := by simp; omega
  clear hT htr hcb hn hTl hsl
  go_enter Try.func18, Try.ntmps18
  go_wp2_with (first
    | (with_reducible refine wpList_allocZ _ rfl 25 rfl Y HY.out ?_)
    | (with_reducible refine wpList_allocZ _ rfl 55 rfl Z HZ.out ?_)
    | ((go_at_call 25; refine (HTal.out _ (HR.out.below HB1.out)).mono ?_)
       rintro e w3 ⟨rfl, hb3⟩
       have HB3 := Lib.hid (below_le HB1.out hb3 HB1.out.size)
       have HK3 := Lib.hid (HK1.out.below hb3)
       have HZ3 := Lib.hid (Blk.new w3 Z 55)
       have HZ4 := Lib.hid ((Below.refl w3.heap.size w3).alloc (Nat.le_refl _) (.cells Z 55))
       clear hb3)
    | ((with_reducible refine wpList_storeB _ rfl 55 (.tmp 4) (.tmp 13) rfl w3.heap.size rfl Z HZ3.out (ia T) rfl HTS.out (by rw [HZS.out, ia_size, HTL.out]) (ia_one _) ?_)
       intro w4 hb4 hc4 hs4
       have HB34 := Lib.hid (HZ4.out.trans (hc4.below (B := w3.heap.size) HZ4.out.size (fun i hi => Nat.le_of_eq hi.symm)))
       have HB4 := Lib.hid (below_le HB3.out HB34.out HB3.out.size)
       have HT4 := Lib.hid hb4
       have HK4 := Lib.hid (HK3.out.below HB34.out)
       clear hb4 hc4)
    | (with_reducible refine wpList_loadB _ rfl 55 (.tmp 4) rfl _ Try.underlying55 rfl w3.heap.size rfl (ia T) HT4.out HTS.out ?_)
    | ((go_at_call 26; refine (HC.out _).mono ?_)
       rintro e w5 ⟨A5, c5, rfl, hb5, ha5, hr5⟩
       have HB5 := Lib.hid (below_le HB4.out hb5 HB4.out.size)
       have HT5 := Lib.hid (HT4.out.below hb5)
       have HK5 := Lib.hid (HK4.out.below hb5)
       have HR5 := Lib.hid hr5
       have HAW : Hid (∀ b o s, A5 = some ⟨b, o, s⟩ → b ≠ w.heap.size) := fun b o s e => by have h1 := ha5 b o s e; have h2 := HK4.out.lt; omega
       have HK7 := Lib.hid (Blk.new w5 Y 25)
       have HB57 := Lib.hid ((Below.refl w5.heap.size w5).alloc (Nat.le_refl _) (.cells Y 25))
       clear hb5 hr5 ha5)
    | ((with_reducible refine wpList_storeB _ rfl 25 (.tmp 7) (.tmp 26) rfl w5.heap.size rfl Y HK7.out (litH A5 n c5) rfl (sizeH (litH_size A5 n c5)) (HYZ.out.trans (litH_size A5 n c5).symm) (litH_one A5 n c5) ?_)
       intro w6 hb6 hc6 hs6
       have hB56 := HB57.out.trans (hc6.below (B := w5.heap.size) HB57.out.size (fun i hi => Nat.le_of_eq hi.symm))
       have HB6 := Lib.hid (below_le HB5.out hB56 HB5.out.size)
       have HT6 := Lib.hid (HT5.out.below hB56)
       have HK6 := Lib.hid (HK5.out.below hB56)
       have HR6 := Lib.hid (HR5.out.below hB56)
       have HQ6 : Hid (Blk w6 w5.heap.size (hx (zeroL 16) (.slice A5 n c5))) := hb6
       clear hb6 hc6 hs6 hB56)
    | (with_reducible refine wpList_loadB _ rfl 55 (.tmp 4) rfl _ Try.underlying55 rfl w3.heap.size rfl (ia T) HT6.out HTS.out ?_)
    | ((go_at_call 27; refine (HL.out _ _ _ HR6.out).mono ?_)
       rintro e w7 ⟨A7, c7, r, dp, rfl, hr7, hdl, hht, hpm, hdp, hb7, hA7⟩
       have HB7 := Lib.hid (below_le HB6.out hb7 HB6.out.size)
       have HA7 : Hid (∀ b o s, A7 = some ⟨b, o, s⟩ → b ≠ w5.heap.size) := fun b o s e => by have h1 := hA7 b o s e; have h2 := HQ6.out.lt; omega
       have HK8 := Lib.hid (HK6.out.below hb7)
       have HR7 := Lib.hid (HR6.out.below hb7)
       have HQ7 := Lib.hid (HQ6.out.below hb7)
       have HD7 := Lib.hid hr7
       have HDL := Lib.hid hdl
       have HHT := Lib.hid hht
       have HPM := Lib.hid hpm
       have HDP := Lib.hid hdp
       clear hr7 hdl hht hpm hdp hb7 hA7))
  obtain ⟨ds, hds⟩ : ∃ ds, ds = dsL dp n := ⟨_, rfl⟩
  have hdl : ds.length = n := by rw [hds, dsL_len]
  have hrng := dep_rng HHT.out (by rw [lgW_len, HSL.out]) h1 HPM.out HDP.out
  have HAT : Hid (∀ j, j < n → ∃ k : Nat, ds[j]? = some k ∧ k < 16 ∧ (dp.take n).getD j 0 = (k : Int) + 1) := by
    show ∀ j, _
    intro j hj
    have h3 := hrng j (by omega)
    refine ⟨(dp.getD j 0).toNat - 1, by rw [hds, dsL_at dp n j hj], by omega, ?_⟩
    rw [List.getD_eq_getElem?_getD, List.getElem?_take_of_lt hj, ← List.getD_eq_getElem?_getD]
    omega
  have HDS := Lib.hid hds
  have h5w := HQ7.out.lt
  have hn16 : w.heap.size ≠ w5.heap.size := by have := HK5.out.lt; omega
  have HA5 : Hid (∀ b o s, A5 = some ⟨b, o, s⟩ → b ≠ w5.heap.size) := by
    show ∀ b o s, _
    intro b o s e
    rcases HR5.out with h | ⟨b', o', h, hc⟩
    · have := congrArg List.length h
      rw [List.length_map, HSL.out] at this
      simp at this
      omega
    · rw [e] at h
      cases h
      have := World.block_lt_of_cell? _ _ (hc 0 (by rw [List.length_map, HSL.out]; omega))
      simp only at this
      omega
  clear hds hrng
  go_loopg [31] n (fun gm v31 wr => ∃ (j : Nat), v31 = .int .i64 j ∧ j ≤ n ∧ n - j ≤ gm ∧ Hid (Blk wr w5.heap.size (hx (incL (zeroL 16) (ds.take j)) (.slice A5 n c5))) ∧ Hid (Chg (fun k => k = w5.heap.size) w7 wr))
  case atStart => exact ⟨0, rfl, Nat.zero_le _, by omega, HQ7, Chg.refl _ _⟩
  case round =>
    obtain ⟨j, rfl, hj, hgm, HQ, HCg⟩ := hrel
    by_cases hjn : j < n
    · obtain ⟨k, hk1, hk2, hk3⟩ := HAT.out j hjn
      have hzl : (zeroL 16).length = 16 := by simp [zeroL]
      have hlc : (incL (zeroL 16) (ds.take j)).length = 16 := by rw [incL_len]; exact hzl
      obtain ⟨cs, hcs⟩ : ∃ cs, cs = incL (zeroL 16) (ds.take j) := ⟨_, rfl⟩
      have HST : Hid (cs.set k (cs.getD k 0 + 1) = incL (zeroL 16) (ds.take (j + 1))) := by
        show _ = _
        rw [List.take_add_one, hk1, Option.toList_some, incL_snoc, ← hcs]
      have hcb : 0 ≤ cs.getD k 0 ∧ cs.getD k 0 ≤ 100 := by
        rw [hcs, incL_at _ _ _ (fun i hi => by
          obtain ⟨m, hm⟩ := List.mem_iff_getElem?.1 (List.mem_of_mem_take hi)
          have hmn : m < n := by rw [← hdl]; exact (List.getElem?_eq_some_iff.1 hm).1
          obtain ⟨k2, e1, e2, _⟩ := HAT.out m hmn
          rw [e1] at hm
          cases hm
          rw [hzl]; exact e2)]
        have hz0 : (zeroL 16).getD k 0 = 0 := by rw [List.getD_eq_getElem?_getD]; unfold zeroL; rw [List.getElem?_replicate]; split <;> rfl
        have hc1 : (ds.take j).count k ≤ (ds.take j).length := List.count_le_length
        rw [List.length_take] at hc1
        omega
      rw [← hcs] at HQ hlc
      obtain ⟨z, hz⟩ : ∃ z, z = cs.getD k 0 := ⟨_, rfl⟩
      have e3 := HQ.out.cell (hx_at (v := .slice A5 n c5) (show k < cs.length by omega))
      have e4 := HQ.out.frozen k
      rw [← hz] at e3 hcb HST
      obtain ⟨b, o, hA, hc⟩ : ∃ b o, A7 = some ⟨b, o, none⟩ ∧ ∀ i, i < (dp.take n).length → w7.cell? ⟨b, o + i, none⟩ = some (.int .i64 ((dp.take n).getD i 0)) := by
        rcases HD7.out with h | h
        · have := congrArg List.length h
          rw [List.length_take, HDL.out] at this
          simp at this
          omega
        · exact h
      have e5 := hc j (by rw [List.length_take, HDL.out]; omega)
      rw [hk3] at e5
      have e6 := HCg.out.cellv e5 (HA7.out b o none hA)
      subst hA
      have hjn' : (j : Int) < (n : Int) := by omega
      have hk2' : (k : Int) < 16 := by omega
      have hk5 : ((k : Int) + 1 - 1) = (k : Int) := by omega
      have HCL := Lib.hid hlc
      clear hc e5 hcs hz hlc hzl
      go_wp2
      go_roundg (gk - 1)
      case measure => omega
      case rel =>
        refine ⟨j + 1, by push_cast; rfl, by omega, by omega, ?_, ?_⟩
        · show Blk _ _ _
          rw [← HST.out, ← hx_set cs _ k (z + 1) (by rw [HCL.out]; exact hk2)]
          exact HQ.out.set k (.int .i64 (z + 1))
        · show Chg _ _ _
          exact HCg.out.setCell (.inl rfl) _
    · have hje : j = n := by omega
      subst hje
      have hjn' : ¬ (j : Int) < (j : Int) := by omega
      have HQE : Hid (Blk wr w5.heap.size (hx (incL (zeroL 16) ds) (.slice A5 j c5))) := by
        have := HQ.out
        rw [← hdl, List.take_length] at this
        rw [hdl] at this
        exact this
      obtain ⟨cs, hcs⟩ : ∃ cs, cs = incL (zeroL 16) ds := ⟨_, rfl⟩
      have hlc : cs.length = 16 := by rw [hcs, incL_len]; simp [zeroL]
      rw [← hcs] at HQE
      have HCS := Lib.hid hcs
      have hxs : (hx cs (.slice A5 j c5)).size = 17 := by rw [hx_size, hlc]
      have HXS := Lib.hid hxs
      have HK9 := Lib.hid (HK8.out.chg HCg.out hn16)
      have HR9 := Lib.hid (HR7.out.chg HCg.out (fun b o s e h => HA5.out b o s e h))
      have HB9 := Lib.hid (HB7.out.trans (HCg.out.below HB7.out.size (fun i e => by rw [e]; exact HB5.out.size)))
      clear HQ hcs hlc hxs
      go_wp2_with (first
        | (with_reducible refine wpList_loadB _ rfl 25 (.tmp 7) rfl _ Try.underlying25 rfl w5.heap.size rfl (hx cs (.slice A5 j c5)) HQE.out (sizeH HXS.out) ?_)
        | ((with_reducible refine wpList_storeB _ rfl 25 (.tmp 2) (.tmp 44) rfl w.heap.size rfl Y HK9.out (hx cs (.slice A5 j c5)) rfl (sizeH HXS.out) (HYZ.out.trans HXS.out.symm) (hx_one cs A5 j c5) ?_)
           intro w10 hb10 hc10 hs10
           have HQ10 := Lib.hid hb10
           have HC10 := Lib.hid hc10
           clear hb10 hc10 hs10))
      (try simp only [Exit.inBlock, Exit.then])
      refine bodyPost_ret (results_cell_tmp rfl _ _ _ Try.underlying25 rfl w.heap.size (hx cs (.slice A5 j c5)) (.int .i64 0) rfl rfl (fun j v hv => HQ10.out.cell hv) (sizeH HXS.out)) rfl ?_
      refine ⟨A5, c5, r, dp, by rw [← HDS.out, ← HCS.out], HR9.out.chg HC10.out (fun b o s e h => HAW.out b o s e h), HDL.out, HHT.out, ?_, ?_, HB9.out.trans (HC10.out.below HB9.out.size (fun i e => Nat.le_of_eq e.symm))⟩
      · have := HPM.out
        rw [List.range_succ] at this
        exact this
      · intro a b h
        have := HDP.out (a, b) h
        rw [List.getD_eq_getElem?_getD] at this
        exact this
end Go.Proofs.Ytanihbflgolciaa
