/- Contract of the document's Codes. -/
import Derived.Test.YtanihbflgolciaaMemP
import Derived.Test.YtanihbflgolciaaPMay
import Derived.Test.YtanihbflgolciaaCodP
namespace Go.Proofs.Ytanihbflgolciaa
open Go.RowKit Go.Lib
set_option linter.unusedVariables false
set_option maxRecDepth 100000

/-- The lengths of the codes, by the first i counts. -/
def lensOf (cs : List Int) : Nat → List Nat
  | 0 => []
  | i + 1 => lensOf cs i ++ List.replicate (cs.getD i 0).toNat (i + 1)
theorem lens_le (cs : List Int) : ∀ i, ∀ x ∈ lensOf cs i, 1 ≤ x ∧ x ≤ i
  | 0, x, h => by cases h
  | i + 1, x, h => by
    rw [lensOf, List.mem_append] at h
    rcases h with h | h
    · have := lens_le cs i x h; omega
    · rw [List.mem_replicate] at h; omega
theorem rise_more {ds : List Nat} {i k : Nat} (h : ds.Pairwise (fun a b => a ≤ b)) (hb : ∀ x ∈ ds, x ≤ i + 1) : (ds ++ List.replicate k (i + 1)).Pairwise (fun a b => a ≤ b) := by
  rw [List.pairwise_append]
  refine ⟨h, ?_, fun a ha b hb' => ?_⟩
  · rw [List.pairwise_replicate]
    exact .inr (Nat.le_refl _)
  · rw [List.mem_replicate] at hb'
    have := hb a ha
    omega
theorem lens_rise (cs : List Int) : ∀ i, (lensOf cs i).Pairwise (fun a b => a ≤ b)
  | 0 => .nil
  | i + 1 => rise_more (lens_rise cs i) (fun x hx => by have := lens_le cs i x hx; omega)
theorem kraft_app (L : Nat) (a b : List Nat) : kraft L (a ++ b) = kraft L a + kraft L b := by unfold kraft; rw [List.map_append, List.sum_append_nat]
theorem kraft_rep (L e : Nat) : ∀ k, kraft L (List.replicate k e) = k * 2 ^ (L - e)
  | 0 => by simp [kraft]
  | k + 1 => by rw [List.replicate_succ, kraft_cons, kraft_rep L e k, Nat.succ_mul]; omega
theorem lens_kraft {cs : List Int} : ∀ i, i ≤ 16 → (∀ j, j < i → 0 ≤ cs.getD j 0) → ((kraft 16 (lensOf cs i) : Nat) : Int) = sumS cs i
  | 0, _, _ => rfl
  | i + 1, hi, h => by
    have h1 := h i (by omega)
    rw [lensOf, kraft_app, kraft_rep, Int.natCast_add, lens_kraft i (by omega) (fun j hj => h j (by omega)), sumS, show 16 - (i + 1) = 15 - i by omega, Int.natCast_mul, Int.toNat_of_nonneg h1]
    simp
theorem lens_many {cs : List Int} : ∀ i, (∀ j, j < i → 0 ≤ cs.getD j 0) → ((lensOf cs i).length : Int) = manyS cs i
  | 0, _ => rfl
  | i + 1, h => by
    have h1 := h i (by omega)
    rw [lensOf, List.length_append, List.length_replicate, Int.natCast_add, lens_many i (fun j hj => h j (by omega)), manyS, Int.toNat_of_nonneg h1]
theorem lens_pre (cs : List Int) {i : Nat} : ∀ n, ∃ r, lensOf cs (i + n) = lensOf cs i ++ r
  | 0 => ⟨[], by simp⟩
  | n + 1 => by
    obtain ⟨r, h⟩ := lens_pre cs (i := i) n
    exact ⟨r ++ List.replicate (cs.getD (i + n) 0).toNat (i + n + 1), by rw [← Nat.add_assoc, lensOf, h, List.append_assoc]⟩
/-- So far, of a specification that may be. -/
theorem lens_so_far {cs l : List Int} (hm : MayP cs l) {i k : Nat} (hi : i < 16) (hk : (k : Int) ≤ cs.getD i 0) : kraft 16 (lensOf cs i ++ List.replicate k (i + 1)) < 2 ^ 16 ∧ (lensOf cs i ++ List.replicate k (i + 1)).length ≤ l.length := by
  have hk1 := lens_kraft 16 (Nat.le_refl _) (fun j hj => (hm.cnt j hj).1)
  have hk2 := lens_many 16 (fun j hj => (hm.cnt j hj).1)
  have h1 := hm.sum
  have h2 := hm.many
  obtain ⟨r, hr⟩ := lens_pre cs (i := i + 1) (16 - (i + 1))
  have e0 : lensOf cs (i + 1) = lensOf cs i ++ List.replicate (cs.getD i 0).toNat (i + 1) := rfl
  rw [show i + 1 + (16 - (i + 1)) = 16 by omega, e0] at hr
  obtain ⟨m, hm'⟩ : ∃ m, (cs.getD i 0).toNat = k + m := ⟨(cs.getD i 0).toNat - k, by omega⟩
  rw [hm', ← List.replicate_append_replicate, ← List.append_assoc, List.append_assoc] at hr
  have e1 := congrArg (kraft 16) hr
  have e2 := congrArg List.length hr
  rw [kraft_app] at e1
  rw [List.length_append] at e2
  have e3 : (2 : Nat) ^ 16 = 65536 := by decide
  omega

theorem Oq.open {w : World} {base : Nat} {v : Value} {l : List (Int × Nat)} (h : Oq w base v l) :
    ∃ A c, v = .slice A l.length c ∧ ∀ i p, l[i]? = some p → ∃ g, A = some ⟨g, 0, none⟩ ∧ base ≤ g ∧ g < w.heap.size ∧ w.cell? ⟨g, i * 2, none⟩ = some (.int .i64 p.1) ∧ w.cell? ⟨g, i * 2 + 1, none⟩ = some (.int .i64 (p.2 : Int)) := by
  rcases h.form with ⟨rfl, rfl⟩ | ⟨g, c, rfl, h1, h2, h3, h4, h5⟩
  · exact ⟨none, 0, rfl, fun i p hp => by simp at hp⟩
  · exact ⟨_, c, rfl, fun i p hp => ⟨g, rfl, h1, h2, h5 i p hp⟩⟩

theorem Oq.mono {w : World} {base base' : Nat} {v : Value} {l : List (Int × Nat)} (h : Oq w base v l) (hb : base' ≤ base) : Oq w base' v l := by
  obtain ⟨h1, h2⟩ := h
  refine ⟨h1, ?_⟩
  rcases h2 with h2 | ⟨g, cap, cur, hv, hg, r⟩
  · exact .inl h2
  · exact .inr ⟨g, cap, cur, hv, by omega, r⟩
theorem RdV.pair (w : World) (T : TypeId) (a : Int) (n : Nat) {g : Nat} (hg : g = w.heap.size) {z : Int} (hz : z = (n : Int)) : RdV (w.alloc (.cells #[.int .i64 a, .int .i64 z] T)) (some ⟨g, 0, none⟩) (pv [(a, n)]) := by
  subst hg
  subst hz
  refine .inr ⟨w.heap.size, 0, rfl, fun i u hu => ?_⟩
  rw [World.cell?_alloc_at _ _ _ _ rfl, Nat.zero_add]
  rw [← hu]
  simp [pv]
theorem Oq.alloc {w : World} {base : Nat} {v : Value} {l : List (Int × Nat)} (h : Oq w base v l) (o : Obj) : Oq (w.alloc o) base v l := h.below ((Below.refl _ _).alloc (Nat.le_refl _) o)
theorem Oq.grown {w0 w w1 : World} {base : Nat} {v : Value} {l : List (Int × Nat)} (ho : Oq w base v l) (hb : Below base w0 w) (hg : w.grownBy w1 v.ownBlock) (hs : base ≤ w.heap.size) : Below base w0 w1 := hb.grown hg hs (fun k hk => (ho.at k hk).1)
theorem more_one (cs : List Int) (k m : Nat) : lensOf cs k ++ List.replicate (m + 1) (k + 1) = (lensOf cs k ++ List.replicate m (k + 1)) ++ [k + 1] := by
  rw [List.replicate_succ', ← List.append_assoc]
theorem cds_none {ds : List Nat} (h : cds ds = []) (e : Nat) : cds (ds ++ [e]) = cds ds ++ [(0, e)] := by
  cases ds with
  | nil => rfl
  | cons d t => simp [cds] at h

theorem p65 {n : Nat} (h : n ≤ 16) : (2 : Int) ^ n ≤ 65536 := by
  have h1 : (2 : Nat) ^ n ≤ 2 ^ 16 := Nat.pow_le_pow_right (by omega) h
  have h2 : ((2 ^ n : Nat) : Int) ≤ ((2 ^ 16 : Nat) : Int) := Int.ofNat_le.2 h1
  rw [Int.natCast_pow] at h2
  exact h2
set_option maxHeartbeats 2000000 in
theorem rCod_any (X : Array Value) (cs : List Int) (l : List Int) (A : Option Addr) (c : Nat) (w : World) (hX : Hv X cs (.slice A l.length c)) (hm : MayP cs l) (hl : l.length ≤ 300) :
    Calls Try.prog 17 #[.agg X] w fun e w' => ∃ v, e = .returned v ∧ Oq w' w.heap.size v (cds (lensOf cs 16)) ∧ Below w.heap.size w w' := by
  have HX := Lib.hid hX
  clear hX
  have HM := Lib.hid hm
  clear hm
  go_enter Try.func17, Try.ntmps17
  go_wp2
  have HB := Lib.hid (HX.out.box w 25)
  have HW := Lib.hid ((Below.refl w.heap.size w).alloc (Nat.le_refl _) (.cells X 25))
  generalize w.alloc (.cells X 25) = w1 at *
  go_loopw [3, 4] (fun o i wr => ∃ (k : Nat) (v : Value), k ≤ 16 ∧ i = .int .i64 k ∧ v = o ∧ Hid (Oq wr w1.heap.size v (cds (lensOf cs k))) ∧ Hid (Below w1.heap.size w1 wr)) (fun _ i _ => 16 - (RowKit.intOf i).toNat)
  case atStart => exact ⟨0, _, Nat.zero_le _, rfl, rfl, Oq.nil _ _, Below.refl _ _⟩
  case round =>
    obtain ⟨k, v, hk, rfl, rfl, HO, HB1⟩ := hrel
    by_cases hlt : k < 16
    · have hc := HM.out.cnt k hlt
      have HE := Lib.hid (HB.out.cnt k hlt)
      generalize hx : cs.getD k 0 = x at *
      have HXk := Lib.hid hx
      clear hx
      go_wp2
      generalize decide ((k : Int) < 16) = b9
      go_loopw [3, 5] (fun o i wr => ∃ (m : Nat) (v : Value), (m : Int) ≤ x ∧ i = .int .i64 m ∧ v = o ∧ Hid (Oq wr w1.heap.size v (cds (lensOf cs k ++ List.replicate m (k + 1)))) ∧ Hid (Below w1.heap.size w1 wr)) (fun _ i _ => x.toNat - (RowKit.intOf i).toNat)
      case atStart => exact ⟨0, _, hc.1, rfl, rfl, (show Hid _ from by show Oq _ _ _ _; rw [List.replicate_zero, List.append_nil]; exact HO.out), HB1⟩
      case round =>
        obtain ⟨m, v2, hm, rfl, rfl, HO2, HB2⟩ := hrel
        have e1 := cell_later HB2.out HE.out
        by_cases hmx : (m : Int) < x
        · clear HO HB1
          have hfar := lens_so_far HM.out hlt (k := m) (by rw [HXk.out]; omega)
          have hfit := Lib.hid hfar.1
          have hlen := hfar.2
          clear hfar
          generalize hds : lensOf cs k ++ List.replicate m (k + 1) = ds at *
          have HDS := Lib.hid hds
          clear hds
          obtain ⟨A2, c2, hv, hrd⟩ := HO2.out.open
          subst hv
          by_cases hnil : cds ds = []
          · have hz : (cds ds).length = 0 := by rw [hnil]; rfl
            have HN := Lib.hid hnil
            have HR := Lib.hid hrd
            clear hnil hrd
            generalize (cds ds).length = n2 at *
            subst hz
            have z1 := HB2.out.size
            have HO3 := Lib.hid ((HO2.out.alloc (.cells #[.int .i64 0, .int .i64 ((k : Int) + 1)] 33)).alloc (.cells #[.int .i64 0, .int .i64 ((k : Int) + 1)] 33))
            have HB3 := Lib.hid ((HB2.out.alloc z1 (.cells #[.int .i64 0, .int .i64 ((k : Int) + 1)] 33)).alloc (by simp; omega) (.cells #[.int .i64 0, .int .i64 ((k : Int) + 1)] 33))
            have HR3 := Lib.hid (RdV.pair (wr.alloc (.cells #[.int .i64 0, .int .i64 ((k : Int) + 1)] 33)) 33 0 (k + 1) (g := wr.heap.size + 1) (by simp) (z := (k : Int) + 1) (by omega))
            go_wp2_with (
              ((with_reducible refine wpList_appQ _ rfl (.tmp 42) (.tmp 44) rfl w1.heap.size (.slice A2 0 c2) (cds ds) rfl HO3.out (some ⟨wr.heap.size + 1, 0, none⟩) 1 1 [(0, k + 1)] rfl rfl HR3.out (by rw [cds_len]; simp; omega) (by simp; omega) ?_)
               intro v3 w3 ho3 hg3 _
               have HB4 := Lib.hid (HO3.out.grown HB3.out hg3 (by simp; omega))
               have HO4 := Lib.hid ho3
               clear ho3 hg3))
            go_roundw
            case rel => exact ⟨m + 1, v3, by omega, by go_num, rfl, (show Hid _ from by show Oq _ _ _ _; rw [more_one, HDS.out, cds_none HN.out]; exact HO4.out), HB4⟩
            case measure => simp [RowKit.intOf]; omega
          · have hlast : (cds ds)[(cds ds).length - 1]? = some ((cds ds).getLast hnil) := by rw [List.getLast_eq_getElem, List.getElem?_eq_getElem (by have := List.length_pos_iff.2 hnil; omega)]
            obtain ⟨g, hA2, hg1, hg2, hc1, hc2⟩ := hrd _ _ hlast
            have hsn := Lib.hid (cds_snoc ds hnil (k + 1))
            have hnew := lens_so_far HM.out hlt (k := m + 1) (by rw [HXk.out]; omega)
            rw [more_one, HDS.out] at hnew
            have hpm : (cds ds).getLast hnil ∈ cds ds := List.getLast_mem hnil
            have hris : (ds ++ [k + 1]).Pairwise (fun a b => a ≤ b) := by
              rw [← HDS.out, ← more_one]
              exact rise_more (lens_rise cs k) (fun x hx => by have := lens_le cs k x hx; omega)
            have hall : ∀ x ∈ ds ++ [k + 1], x ≤ 16 := by
              intro x hx
              rw [← HDS.out, ← more_one, List.mem_append] at hx
              rcases hx with hx | hx
              · have := lens_le cs k x hx; omega
              · rw [List.mem_replicate] at hx; omega
            have hf1 := cds_fit (L := 16) hris hall hnew.1
            have hp1 := hf1 _ (by rw [hsn.out]; exact List.mem_append_left _ hpm)
            have hp2 := hf1 _ (by rw [hsn.out]; exact List.mem_append_right _ (List.mem_singleton.2 rfl))
            have hpn : ((cds ds).getLast hnil).2 ≤ k + 1 := by
              have h1 : ((cds ds).getLast hnil).2 ∈ ds := by
                have := List.mem_map_of_mem (f := Prod.snd) hpm
                rwa [cds_snd] at this
              have h2 := (List.pairwise_append.1 hris).2.2 _ h1 (k + 1) (List.mem_singleton.2 rfl)
              exact h2
            have hpl : 1 ≤ (cds ds).length := List.length_pos_iff.2 hnil
            clear hf1 hall hris hpm hlast hrd hnew
            generalize (cds ds).getLast hnil = p at *
            obtain ⟨pv1, pn⟩ := p
            clear hnil
            simp only at hpn hc1 hc2 hp1 hp2 hsn
            have hp65 := p65 (n := k + 1) (by omega)
            have hpn65 := p65 (n := pn) (by omega)
            have hpp : (0 : Int) < 2 ^ (k + 1 - pn) := Int.pow_pos (by decide)
            have hpq := p65 (n := k + 1 - pn) (by omega)
            have hb1 := hp1.1
            have hb2 := hp1.2.1
            have hb3 := hp2.1
            have hb4 := hp2.2.1
            clear hp1 hp2
            generalize hP : (2 : Int) ^ (k + 1 - pn) = P at *
            generalize hG : (pv1 + 1) * P = G at *
            have hlen2 : (cds ds).length ≤ 300 := by rw [cds_len]; omega
            have hb5 : pv1 ≤ 65536 := by omega
            have hb6 : G ≤ 65536 := by omega
            clear hb2 hb4 hp65 hpn65
            subst hA2
            have e2 := hc1
            have e3 := hc2
            clear hc1 hc2
            generalize hn2 : (cds ds).length = n2 at *
            obtain ⟨q, rfl⟩ : ∃ q, n2 = q + 1 := ⟨n2 - 1, by omega⟩
            rw [Nat.add_sub_cancel] at e2 e3
            have HN2 := Lib.hid hn2
            clear hn2
            have z1 := HB2.out.size
            have HO3 := Lib.hid (((HO2.out.alloc (.cells #[.int .i64 G, .int .i64 ((k : Int) + 1)] 33)).alloc (.cells #[.int .i64 pv1, .int .i64 (pn : Int)] 33)).alloc (.cells #[.int .i64 G, .int .i64 ((k : Int) + 1)] 33))
            have HB3 := Lib.hid (((HB2.out.alloc z1 (.cells #[.int .i64 G, .int .i64 ((k : Int) + 1)] 33)).alloc (by simp; omega) (.cells #[.int .i64 pv1, .int .i64 (pn : Int)] 33)).alloc (by simp; omega) (.cells #[.int .i64 G, .int .i64 ((k : Int) + 1)] 33))
            have HR3 := Lib.hid (RdV.pair ((wr.alloc (.cells #[.int .i64 G, .int .i64 ((k : Int) + 1)] 33)).alloc (.cells #[.int .i64 pv1, .int .i64 (pn : Int)] 33)) 33 G (k + 1) (g := wr.heap.size + 1 + 1) (by simp) (z := (k : Int) + 1) (by omega))
            go_wp2_with (
              ((with_reducible refine wpList_appQ _ rfl (.tmp 42) (.tmp 44) rfl w1.heap.size (.slice (some ⟨g, 0, none⟩) (q + 1) c2) (cds ds) rfl HO3.out (some ⟨wr.heap.size + 1 + 1, 0, none⟩) 1 1 [(G, k + 1)] rfl rfl HR3.out (by rw [cds_len]; simp; omega) (by simp; omega) ?_)
               intro v3 w3 ho3 hg3 _
               have HB4 := Lib.hid (HO3.out.grown HB3.out hg3 (by simp; omega))
               have HO4 := Lib.hid ho3
               clear ho3 hg3))
            go_roundw
            case rel => exact ⟨m + 1, v3, by omega, by go_num, rfl, (show Hid _ from by show Oq _ _ _ _; rw [more_one, HDS.out, hsn.out]; exact HO4.out), HB4⟩
            case measure => simp [RowKit.intOf]; omega
        · obtain rfl : x = (m : Int) := by omega
          go_wp2
          go_roundw
          case rel => exact ⟨k + 1, v2, by omega, by go_num, rfl, (show Hid _ from by show Oq _ _ _ _; rw [lensOf, HXk.out]; exact HO2.out), HB2⟩
          case measure => simp [RowKit.intOf]; omega
    · obtain rfl : k = 16 := by omega
      go_wp2
      go_ret
      exact ⟨_, rfl, HO.out.mono HW.out.size, HW.out.trans ⟨HB1.out.os, HB1.out.tape, HB1.out.output, HB1.out.size, fun k hk => HB1.out.block k (Nat.lt_of_lt_of_le hk HW.out.size)⟩⟩
end Go.Proofs.Ytanihbflgolciaa
