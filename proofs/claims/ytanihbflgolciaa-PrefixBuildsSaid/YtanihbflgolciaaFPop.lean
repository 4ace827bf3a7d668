/- A forest's Pop and Push; container/heap's Init, Pop, Push over it. -/
import Derived.Test.YtanihbflgolciaaFUp
import Derived.Deep.RegionLaw
namespace Go.Proofs.Ytanihbflgolciaa
open Go.RowKit Go.Lib Go.Sort
set_option linter.unusedVariables false
set_option maxRecDepth 100000

theorem meth_pop (a : Addr) (w : World) : (method 227 75 (.pointer (some a)) "Pop").run Try.prog w = .ok (90, .pointer (some a)) w := by kernel_rfl
theorem meth_push (a : Addr) (w : World) : (method 227 75 (.pointer (some a)) "Push").run Try.prog w = .ok (91, .pointer (some a)) w := by kernel_rfl
theorem nil_pop (a : Addr) (w : World) : (nilAhead 227 75 (.pointer (some a)) "Pop").run Try.prog w = .ok (some false) w := by kernel_rfl
theorem nil_push (a : Addr) (w : World) : (nilAhead 227 75 (.pointer (some a)) "Push").run Try.prog w = .ok (some false) w := by kernel_rfl

theorem siftDown_size {α : Type} [Inhabited α] (lt : α → α → Bool) (hi first : Nat) : ∀ (m root : Nat) (d : Array α), hi - root ≤ m → (siftDown lt hi first root d).size = d.size
  | m, root, d => by
    intro hm
    unfold siftDown
    split
    · rfl
    · rename_i h
      split
      · split
        · rfl
        · split
          · have := siftDown_size lt hi first (hi - (2 * root + 2)) (2 * root + 2) (swp d (first + root) (first + (2 * root + 2))) (Nat.le_refl _)
            rw [this, size_swp]
          · rfl
      · split
        · rfl
        · have := siftDown_size lt hi first (hi - (2 * root + 1)) (2 * root + 1) (swp d (first + root) (first + (2 * root + 1))) (Nat.le_refl _)
          rw [this, size_swp]
termination_by _ root => hi - root
set_option maxHeartbeats 2000000 in
theorem fInit_any (p g c : Nat) (d : Array (Int × Value)) (w : World) (h : Fo w p g c d) (hc : c ≤ 9223372036854775807) (hd : d.size ≤ 100000) :
    Calls Try.prog 37 #[.iface 75 (.pointer (some ⟨p, 0, none⟩))] w fun e w' => e = .returned (.tuple #[]) ∧ Fo w' p g c (heapBuild (gt' ltw) d.size 0 (d.size / 2) d) ∧ Chg (fun k => k = g) w w' ∧ w'.heap.size = w.heap.size := by
  have nl := nil_len
  have ev := h.var
  have mL := meth_len ev
  have hz : ¬ (2 : Int) = 0 := by decide
  have hz2 : ((2 : Int) == 0) = false := by decide
  have hq : (d.size : Int).tdiv 2 = ((d.size / 2 : Nat) : Int) := by
    rw [Int.tdiv_eq_ediv_of_nonneg (by omega)]
    omega
  have H := Lib.hid h
  obtain ⟨n, hn⟩ : ∃ n, n = d.size := ⟨_, rfl⟩
  obtain ⟨m, hm⟩ : ∃ m, m = d.size / 2 := ⟨_, rfl⟩
  rw [← hm, ← hn] at hq ⊢
  rw [← hn] at mL ev
  have hmn : 2 * m ≤ n := by omega
  have hnl : n ≤ 100000 := by omega
  have HN := Lib.hid hn
  clear h hn hm hd
  go_enter Try.func37, Try.ntmps37
  go_wp2_with (first
    | ((with_reducible refine (fLenM_any (some ⟨g, 0, none⟩) n c w).mono ?_)
       rintro e w2 ⟨rfl, rfl⟩))
  go_loopw [3] (fun i wr => ∃ (k : Nat) (dr : Array (Int × Value)), k ≤ m ∧ i = .int .i64 ((k : Int) - 1) ∧ Hid (dr.size = n) ∧ Hid (heapBuild (gt' ltw) n 0 k dr = heapBuild (gt' ltw) n 0 m d) ∧ Hid (Fo wr p g c dr) ∧ Hid (Chg (fun k => k = g) w wr) ∧ wr.heap.size = w.heap.size) (fun i _ => (RowKit.intOf i + 1).toNat)
  case atStart => exact ⟨m, d, Nat.le_refl _, rfl, HN.out.symm, rfl, H, Chg.refl _ _, rfl⟩
  case round =>
    clear H
    obtain ⟨k, dr, hk, rfl, hsz, HE, HF, HC, hws⟩ := hrel
    by_cases h0 : k = 0
    · subst h0
      have hge : decide (((0 : Nat) : Int) - 1 ≥ 0) = false := by decide
      go_wp2
      go_end0
      have e : dr = heapBuild (gt' ltw) n 0 m d := HE.out
      exact ⟨rfl, e ▸ HF.out, HC.out, hws⟩
    · obtain ⟨r, rfl⟩ : ∃ r, k = r + 1 := ⟨k - 1, by omega⟩
      have hr1 : (((r + 1 : Nat) : Int) - 1) = (r : Int) := by omega
      rw [hr1]
      have CD := Lib.hid (fDown_any p g c dr r n wr HF.out (by rw [hsz.out]; exact Nat.le_refl _) (by omega) hc (by rw [hsz.out]; omega))
      have hE2 : Hid (heapBuild (gt' ltw) n 0 r (siftDown (gt' ltw) n 0 r dr) = heapBuild (gt' ltw) n 0 m d) := HE
      have hS2 : Hid ((siftDown (gt' ltw) n 0 r dr).size = n) := by show _ = _; rw [siftDown_size _ _ _ _ _ _ (Nat.le_refl _)]; exact hsz.out
      go_wp2_with (first
        | ((with_reducible refine CD.out.mono ?_)
           rintro e w2 ⟨⟨b, rfl⟩, hF, hC, hS⟩
           have HF2 := Lib.hid hF
           have HC2 := Lib.hid (HC.out.then hC)
           have hs2 : w2.heap.size = w.heap.size := hS.trans hws
           clear hF hC hS))
      go_roundw
      case rel => exact ⟨r, _, by omega, by go_num, hS2, hE2, HF2, HC2, hs2⟩
      case measure => simp [RowKit.intOf]

theorem Gr.take {w : World} {g c n : Nat} {d : List (Int × Value)} (h : Gr w g c d) : Gr w g c (d.take n) := by
  obtain ⟨cur, h1, h2, h3⟩ := h.ex
  refine ⟨⟨cur, h1, h2, ?_⟩, by rw [List.length_take]; have := h.fits; omega, h.cap, fun p hp => h.sl p (List.mem_of_mem_take hp)⟩
  have hgt : ∀ (l : List (Int × Value)) (n : Nat), gv (l.take n) = (gv l).take (n * 2) := by
    intro l
    induction l with
    | nil => intro n; simp [gv]
    | cons p t ih =>
      intro n
      cases n with
      | zero => simp [gv]
      | succ n => rw [List.take_succ_cons, gv, ih n, gv, show (n + 1) * 2 = n * 2 + 1 + 1 by omega]; rfl
  rw [hgt, ← h3, List.take_take, List.length_take]
  congr 1
  have := h.fits
  rcases Nat.lt_or_ge n d.length with hl | hl
  · rw [Nat.min_eq_left (by omega), Nat.min_eq_left (by omega)]
  · rw [Nat.min_eq_right (by omega), Nat.min_eq_right (by omega)]
theorem Fo.popped {w : World} {p g c n : Nat} {d : Array (Int × Value)} (h : Fo w p g c d) (hn : d.size = n + 1) (o : Obj) :
    Fo ((w.setCell ⟨p, 0, none⟩ (.slice (some ⟨g, 0, none⟩) n c)).alloc o) p g c d.pop ∧ Chg (fun k => k = p) w ((w.setCell ⟨p, 0, none⟩ (.slice (some ⟨g, 0, none⟩) n c)).alloc o) := by
  have hpl := World.block_lt_of_cell? _ _ h.var
  simp only at hpl
  have hC : Chg (fun k => k = p) w ((w.setCell ⟨p, 0, none⟩ (.slice (some ⟨g, 0, none⟩) n c)).alloc o) := ((Chg.refl (fun k => k = p) w).setCell (p := ⟨p, 0, none⟩) (.inl rfl) _).alloc o
  refine ⟨⟨?_, ?_, ?_, h.ne⟩, hC⟩
  · rw [Array.size_pop, hn, Nat.add_sub_cancel, World.cell?_alloc_old _ _ _ (by simp only [World.size_setCell]; omega)]
    exact World.cell?_setCell_same _ _ _ h.var
  · rw [World.frozen?_alloc_old _ _ _ (by simp only [World.size_setCell]; omega), World.frozen?_setCell]
    exact h.fr
  · have h1 := (h.gr.chg hC (fun e => h.ne e.symm)).take (n := n)
    have e : d.pop.toList = d.toList.take n := by
      rw [Array.toList_pop, List.dropLast_eq_take, Array.length_toList, hn, Nat.add_sub_cancel]
    rw [e]
    exact h1
/-- A value in an interface: a group. -/
def gval (p : Int × Value) : Value := .iface 68 (.agg #[.int .i64 p.1, p.2])
set_option maxHeartbeats 2000000 in
theorem fPopM_any (p g c n : Nat) (d : Array (Int × Value)) (w : World) (h : Fo w p g c d) (hn : d.size = n + 1) (hc : c ≤ 9223372036854775807) :
    Calls Try.prog 90 #[.pointer (some ⟨p, 0, none⟩)] w fun e w' => e = .returned (gval d[n]!) ∧ Fo w' p g c d.pop ∧ Chg (fun k => k = p) w w' := by
  have ev := h.var
  have ef := h.fr
  have hp := arr_at (d := d) (i := n) (by omega)
  obtain ⟨e1, e2⟩ := h.gr.cells hp
  obtain ⟨A, m, k, hsl⟩ := h.gr.sl _ (List.mem_of_getElem? hp)
  obtain ⟨q, hq⟩ : ∃ q, q = d[n]! := ⟨_, rfl⟩
  rw [← hq] at e1 e2 hsl ⊢
  obtain ⟨q1, q2⟩ := q
  simp only at hsl e1 e2
  subst hsl
  have hfit := h.gr.fits
  rw [Array.length_toList, hn] at hfit
  rw [hn] at ev
  have H := Lib.hid h
  have HN := Lib.hid hn
  have hpl := World.block_lt_of_cell? _ _ ev
  simp only at hpl
  clear h hp hq hn
  go_enter Try.func90, Try.ntmps90
  go_wp2_with (first
    | ((with_reducible refine (fLenM_any (some ⟨g, 0, none⟩) (n + 1) c w).mono ?_)
       rintro e w2 ⟨rfl, rfl⟩))
  go_ret
  exact ⟨rfl, H.out.popped HN.out _⟩

theorem fo_store {w : World} {p g c m : Nat} {d : Array (Int × Value)} {v : Value} (hG : Gr w g c d.toList) (e : w.cell? ⟨p, 0, none⟩ = some v) (f : w.frozen? ⟨p, 0, none⟩ = false) (hne : p ≠ g) (hm : d.size = m) : Fo (w.setCell ⟨p, 0, none⟩ (.slice (some ⟨g, 0, none⟩) m c)) p g c d := by
  subst hm
  exact ⟨World.cell?_setCell_same _ _ _ e, by rw [World.frozen?_setCell]; exact f, hG.chg ((Chg.refl (fun k => k = p) w).setCell (p := ⟨p, 0, none⟩) (.inl rfl) _) (fun h => hne h.symm), hne⟩
/-- append of a group at a step of a region that draws its order. -/
theorem Try.infoG : (Try.prog.info? 68).map (fun i => (i.zero, i.size, i.bytes)) = some (some (.agg #[.int .i64 0, .slice none 0 0]), 2, 32) := by kernel_rfl
theorem RdV.group (w : World) (T : TypeId) (a : Int) (v : Value) {g : Nat} (hg : g = w.heap.size) : RdV (w.alloc (.cells #[.int .i64 a, v] T)) (some ⟨g, 0, none⟩) (gv [(a, v)]) := by
  subst hg
  refine .inr ⟨w.heap.size, 0, rfl, fun i u hu => ?_⟩
  rw [World.cell?_alloc_at _ _ _ _ rfl, Nat.zero_add]
  rw [← hu]
  simp [gv]
theorem step_appG {tS : TypeId} (ht : Try.prog.underlying tS = some (.slice 68)) {w : World} {ops : Array Oper} {o : Oper} {a : Act} {K : Act → World → Prop} {Q : Exit → Act → World → Prop} {E : Prop} (hgd : o.guard = none) (s x : Operand)
    (ho : o.op = .call { callee := .builtin .append, args := #[s, x], argTypes := #[tS, tS] })
    (base : Nat) (v u : Value) (l : List (Int × Value)) (hs : a.eval s = v) (A : Option Addr) (n c : Nat) (m : List (Int × Value)) (hx : a.eval x = u) (hu : u = .slice A n c) (hn : n = m.length) (hown : w.ownsRow base 68 2 v l.length (gv l)) (hm : ∀ p ∈ m, p.2.oneCell' = true) (hr : RdV w A (gv m))
    (hlen : l.length + m.length ≤ 1000000000) (hbase : base ≤ w.heap.size)
    (h : ∀ v' w', w'.ownsRow base 68 2 v' (l ++ m).length (gv (l ++ m)) → w.grownBy w' v.ownBlock → (v'.ownBlock = v.ownBlock ∨ v'.ownBlock = some w.heap.size) → K (a.put o.dst v') w') :
    if Region.wanted o (yielded ops a.tmps) = true then Oper.wp Try.prog o a w K Q else E := by
  have hw : Region.wanted o (yielded ops a.tmps) = true := by simp [Region.wanted, hgd]
  rw [if_pos hw]
  subst hu hn
  obtain ⟨v', w', hrun, h2, h3, h4⟩ := run_appK ht Try.infoG rfl (by decide) w base v l.length (gv l) hown A m.length c (gv m) (gv_len m) (gv_one m hm) hr o.type hlen (by decide) hbase
  unfold Oper.wp
  simp [execOp, ho, resolve, invoke, builtin, hs, hx, hrun, Result.andThen]
  exact h v' w' (by rw [List.length_append, gv_append]; exact h2) h3 h4
theorem assert_group (x : Int × Value) (w : World) : (Instr.typeAssert (gval x) 20 68 false).run Try.prog w = .ok (.agg #[.int .i64 x.1, x.2]) w := by
  unfold gval
  rfl
set_option maxHeartbeats 2000000 in
theorem fPushM_any (p g c : Nat) (d : Array (Int × Value)) (x : Int × Value) (w : World) (h : Fo w p g c d) (hx : ∃ A n c, x.2 = Value.slice A n c) (hd : d.size ≤ 100000) (B : Nat) (hB : B ≤ g) (hBw : B ≤ w.heap.size) :
    Calls Try.prog 91 #[.pointer (some ⟨p, 0, none⟩), gval x] w fun e w' => e = .returned (.tuple #[]) ∧ ∃ g' c', Fo w' p g' c' (d.push x) ∧ (g' = g ∨ w.heap.size ≤ g') ∧ Chg (fun k => k = p ∨ k = g) w w' := by
  have ev := h.var
  have ef := h.fr
  obtain ⟨x1, x2⟩ := x
  obtain ⟨A, n, k, hsl⟩ := hx
  simp only at hsl
  subst hsl
  have H := Lib.hid h
  have HG := Lib.hid (h.gr.owns hB)
  have hpl := World.block_lt_of_cell? _ _ ev
  simp only at hpl
  have hz : d.size = d.toList.length := by simp
  unfold gval
  clear h
  have hpg : p ≠ g := H.out.ne
  have hne1 : ¬ p = w.heap.size := by omega
  have e8 : Hid ((w.alloc (.cells #[.int .i64 x1, .slice A n k] 68)).drew.cell? ⟨p, 0, none⟩ = some (.slice (some ⟨g, 0, none⟩) d.size c)) :=
    (World.cell?_alloc_old w (.cells #[.int .i64 x1, .slice A n k] 68) ⟨p, 0, none⟩ (by simp only; omega)).trans ev
  have f8 : Hid ((w.alloc (.cells #[.int .i64 x1, .slice A n k] 68)).drew.frozen? ⟨p, 0, none⟩ = false) := by
    have := World.frozen?_alloc_old w (.cells #[.int .i64 x1, .slice A n k] 68) ⟨p, 0, none⟩ (by simp only; omega)
    exact this.trans ef
  have HO : Hid (World.ownsRow (w.alloc (.cells #[.int .i64 x1, .slice A n k] 68)).drew B 68 2 (.slice (some ⟨g, 0, none⟩) d.size c) d.toList.length (gv d.toList)) := by
    have hg1 : Gr (w.alloc (.cells #[.int .i64 x1, .slice A n k] 68)).drew g c d.toList := H.out.gr.chg (S := fun _ => False) ((Chg.refl _ w).alloc _).drew (fun e => e)
    have := hg1.owns hB
    rw [Array.length_toList] at this ⊢
    exact this
  have HR : Hid (RdV (w.alloc (.cells #[.int .i64 x1, .slice A n k] 68)).drew (some ⟨w.heap.size, 0, none⟩) (gv [(x1, .slice A n k)])) := RdV.group w _ x1 _ rfl
  have h1s : (w.alloc (.cells #[.int .i64 x1, .slice A n k] 68)).drew.heap.size = w.heap.size + 1 := by show (w.alloc _).heap.size = _; simp
  have HS1 := Lib.hid h1s
  have HC1 : Hid (Chg (fun k => k = p ∨ k = g) w (w.alloc (.cells #[.int .i64 x1, .slice A n k] 68)).drew) := ((Chg.refl _ w).alloc _).drew
  -- what the append leaves
  have FIN : Hid (∀ (v' : Value) (w' : World), World.ownsRow w' B 68 2 v' (d.toList ++ [(x1, Value.slice A n k)]).length (gv (d.toList ++ [(x1, Value.slice A n k)])) → World.grownBy (w.alloc (.cells #[.int .i64 x1, .slice A n k] 68)).drew w' (some g) → (v'.ownBlock = some g ∨ v'.ownBlock = some (w.alloc (.cells #[.int .i64 x1, .slice A n k] 68)).drew.heap.size) →
      ∃ g' c', v' = Value.slice (some ⟨g', 0, none⟩) (d.size + 1) c' ∧ w'.cell? ⟨p, 0, none⟩ = some (.slice (some ⟨g, 0, none⟩) d.size c) ∧ w'.frozen? ⟨p, 0, none⟩ = false ∧ Gr w' g' c' (d.push (x1, Value.slice A n k)).toList ∧ (g' = g ∨ w.heap.size ≤ g') ∧ p ≠ g' ∧ Chg (fun k => k = p ∨ k = g) w w') := by
    show ∀ (v' : Value) (w' : World), _
    intro v' w' ho hg hv
    have hd1 : d.toList ++ [(x1, Value.slice A n k)] = (d.push (x1, Value.slice A n k)).toList := by simp
    rw [hd1] at ho
    obtain ⟨g', c', rfl, hBg, hG'⟩ := Gr.of ho (by
      intro q hq
      rw [← hd1, List.mem_append, List.mem_singleton] at hq
      rcases hq with hq | rfl
      · exact H.out.gr.sl q hq
      · exact ⟨_, _, _, rfl⟩) (by simp)
    have hgp : g' = g ∨ w.heap.size ≤ g' := by
      rcases hv with hv | hv
      · left; simpa [Value.ownBlock] using hv
      · right
        have : g' = (w.alloc (.cells #[.int .i64 x1, .slice A n k] 68)).drew.heap.size := by simpa [Value.ownBlock] using hv
        rw [HS1.out] at this
        omega
    refine ⟨g', c', ?_, hg.cell e8.out (by show some p ≠ some g; intro he; injection he with he; exact hpg he), ?_, hG', hgp, ?_, HC1.out.grown hg (fun j hj => by cases hj; exact .inl (.inr rfl))⟩
    · congr 1; simp
    · have := hg.block p (by rw [HS1.out]; omega) (by show some p ≠ some g; intro he; injection he with he; exact hpg he)
      exact (World.frozen?_of_block (a := ⟨p, 0, none⟩) this).trans f8.out
    · rcases hgp with h | h
      · rw [h]; exact hpg
      · omega
  have hta := fun w => assert_group (x1, .slice A n k) w
  unfold gval at hta
  simp only at hta
  have hl1 : d.toList.length + 1 ≤ 1000000000 := by simp; omega
  have hB1 : B ≤ (w.alloc (.cells #[.int .i64 x1, .slice A n k] 68)).drew.heap.size := by rw [h1s]; omega
  clear hz h1s HG
  go_enter Try.func91, Try.ntmps91
  go_wp2
  go_region_law (refine step_appG Try.underlying72 (by rfl) (.tmp 7) (.tmp 10) (by rfl) B (.slice (some ⟨g, 0, none⟩) d.size c) (.slice (some ⟨w.heap.size, 0, none⟩) 1 1) d.toList (by go_simp) (some ⟨w.heap.size, 0, none⟩) 1 1 [(x1, .slice A n k)] (by go_simp) rfl rfl HO.out (by intro q hq; rw [List.mem_singleton] at hq; subst hq; rfl) HR.out hl1 hB1 ?_; intro v' w' ho hg hv; obtain ⟨g', c', hv', e9, f9, hG, hgp, hgp2, hC⟩ := FIN.out v' w' ho hg hv; subst hv'; have HG9 := Lib.hid hG; have HC9 := Lib.hid hC; clear ho hg hv hG hC)
  all_goals
    go_end0
    exact ⟨rfl, _, _, fo_store HG9.out e9 f9 hgp2 (by simp), hgp, HC9.out.setCell (p := ⟨p, 0, none⟩) (.inl (.inl rfl)) _⟩

/-- container/heap's Pop: the least one comes out. -/
theorem popped_size {α : Type} [Inhabited α] (lt : α → α → Bool) (n : Nat) (d : Array α) : (popped lt n d).size = d.size := by
  unfold popped
  rw [siftDown_size _ _ _ _ _ _ (Nat.le_refl _), size_swp]
set_option maxHeartbeats 2000000 in
theorem fPop_any (p g c n : Nat) (d : Array (Int × Value)) (w : World) (h : Fo w p g c d) (hn : d.size = n + 1) (hc : c ≤ 9223372036854775807) (hd : d.size ≤ 100000) :
    Calls Try.prog 39 #[.iface 75 (.pointer (some ⟨p, 0, none⟩))] w fun e w' => e = .returned (gval (popped ltw n d)[n]!) ∧ Fo w' p g c (popped ltw n d).pop ∧ Chg (fun k => k = p ∨ k = g) w w' := by
  have nl := nil_len
  have ns := nil_swap
  have np := nil_pop
  have mp := meth_pop
  have ev := h.var
  have mL := meth_len ev
  have mS := meth_swap ev
  have H := Lib.hid h
  have CS := Lib.hid (fSwap_at h (i := 0) (j := n) (by omega) (by omega) hc (x := 0) (y := (n : Int)) rfl rfl)
  have CD : Hid (∀ w2, Fo w2 p g c (swp d 0 n) → Calls Try.prog 48 #[.iface 75 (.pointer (some ⟨p, 0, none⟩)), .int .i64 0, .int .i64 n] w2 fun e w' => IsB e ∧ Fo w' p g c (popped ltw n d) ∧ Chg (fun k => k = g) w2 w' ∧ w'.heap.size = w2.heap.size) :=
    fun w2 h2 => fDown_any p g c (swp d 0 n) 0 n w2 h2 (by rw [size_swp]; omega) (by omega) hc (by rw [size_swp]; exact hd)
  have CP : Hid (∀ w2, Fo w2 p g c (popped ltw n d) → Calls Try.prog 90 #[.pointer (some ⟨p, 0, none⟩)] w2 fun e w' => e = .returned (gval (popped ltw n d)[n]!) ∧ Fo w' p g c (popped ltw n d).pop ∧ Chg (fun k => k = p) w2 w') :=
    fun w2 h2 => fPopM_any p g c n (popped ltw n d) w2 h2 (by rw [popped_size]; exact hn) hc
  rw [hn] at mL mS CS
  rw [hn] at ev hd
  clear h hn
  go_enter Try.func39, Try.ntmps39
  go_wp2_with (first
    | ((with_reducible refine (fLenM_any (some ⟨g, 0, none⟩) (n + 1) c w).mono ?_)
       rintro e w2 ⟨rfl, rfl⟩)
    | ((with_reducible refine CS.out.mono ?_)
       rintro e w2 ⟨rfl, hF, hC, hS⟩
       have HF2 := Lib.hid hF
       have HC2 := Lib.hid hC
       clear hF hC hS)
    | ((with_reducible refine (CD.out _ HF2.out).mono ?_)
       rintro e w3 ⟨⟨b, rfl⟩, hF, hC, hS⟩
       have HF3 := Lib.hid hF
       have HC3 := Lib.hid (HC2.out.then hC)
       clear hF hC hS)
    | ((with_reducible refine (CP.out _ HF3.out).mono ?_)
       rintro e w4 ⟨rfl, hF, hC⟩
       have HF4 := Lib.hid hF
       have HC4 : Hid (Chg (fun k => k = p ∨ k = g) w w4) := Chg.trans (S := fun k => k = p ∨ k = g) (HC3.out.mono fun i _ hi => .inr hi) hC (fun i _ hi => .inl hi)
       clear hF hC))
  go_ret
  exact ⟨rfl, HF4.out, HC4.out⟩
set_option maxHeartbeats 2000000 in
theorem fPush_any (p g c : Nat) (d : Array (Int × Value)) (x : Int × Value) (w : World) (h : Fo w p g c d) (hx : ∃ A n c, x.2 = Value.slice A n c) (hd : d.size ≤ 90000) (B : Nat) (hB : B ≤ g) (hBw : B ≤ w.heap.size) :
    Calls Try.prog 41 #[.iface 75 (.pointer (some ⟨p, 0, none⟩)), gval x] w fun e w' => e = .returned (.tuple #[]) ∧ ∃ g' c', Fo w' p g' c' (siftUp ltw d.size (d.push x)) ∧ (g' = g ∨ w.heap.size ≤ g') ∧ Chg (fun k => k = p ∨ k = g) w w' := by
  have nl := nil_len
  have np := nil_push
  have mp := meth_push
  have CM := Lib.hid (fPushM_any p g c d x w h hx (by omega) B hB hBw)
  have CU : Hid (∀ w2 g' c', Fo w2 p g' c' (d.push x) → Calls Try.prog 50 #[.iface 75 (.pointer (some ⟨p, 0, none⟩)), .int .i64 (d.size : Int)] w2 fun e w' => e = .returned (.tuple #[]) ∧ Fo w' p g' c' (siftUp ltw d.size (d.push x)) ∧ Chg (fun k => k = g') w2 w' ∧ w'.heap.size = w2.heap.size) :=
    fun w2 g' c' h2 => fUp_any p g' c' (d.push x) d.size w2 h2 (by simp) (by have := h2.gr.cap; unfold maxLen at this; omega) (by simp; omega)
  have hsz : Hid ((d.push x).size = d.size + 1) := by show _ = _; simp
  clear h hx
  go_enter Try.func41, Try.ntmps41
  go_wp2_with (first
    | ((with_reducible refine CM.out.mono ?_)
       rintro e w2 ⟨rfl, g', c', hF, hg, hC⟩
       have HF2 := Lib.hid hF
       have HC2 := Lib.hid hC
       have HG2 := Lib.hid hg
       have ev := hF.var
       rw [hsz.out] at ev
       have mL := meth_len ev
       clear hF hC hg)
    | ((with_reducible refine (fLenM_any (some ⟨g', 0, none⟩) (d.size + 1) c' w2).mono ?_)
       rintro e w3 ⟨rfl, rfl⟩)
    | ((with_reducible refine (CU.out _ _ _ HF2.out).mono ?_)
       rintro e w3 ⟨rfl, hF, hC, hS⟩
       have HF3 := Lib.hid hF
       have HC3 : Hid (Chg (fun k => k = p ∨ k = g) w w3) := Chg.trans (S := fun k => k = p ∨ k = g) HC2.out hC (fun i hi he => by rcases HG2.out with h | h; exact .inr (he.trans h); omega)
       clear hF hC hS))
  go_end0
  exact ⟨rfl, g', c', HF3.out, HG2.out, HC3.out⟩
end Go.Proofs.Ytanihbflgolciaa
