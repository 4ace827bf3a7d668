/- Contract of prefix.join. -/
import Derived.Test.YtanihbflgolciaaFCnc
import Derived.Deep.RegionHeld3
namespace Go.Proofs.Ytanihbflgolciaa
open Go.RowKit Go.Lib
set_option linter.unusedVariables false
set_option maxRecDepth 100000

theorem results_cell {fn : Func} {p : Tmp} {ty : TypeId} (h : fn.results = #[.cell p ty]) (tmps : Array Value) (w : World) (d : TypeDesc) (hu : Try.prog.underlying ty = some d) (hd : aggD d = true) (g : Nat) (X : Array Value)
    (hp : tmps.getD p undef = .pointer (some ⟨g, 0, none⟩)) (hg : ∀ (j : Nat) (v : Value), X[j]? = some v → w.cell? ⟨g, j, none⟩ = some v) (hi : (Try.prog.info? ty).map (·.size) = some X.size) :
    (results fn tmps).run Try.prog w = .ok (.agg X) w := by
  have hp' : tmps[p]?.getD undef = .pointer (some ⟨g, 0, none⟩) := by simpa using hp
  have hl := run_loadVarP w ty d hu hd g 0 X (fun j v hv => by rw [Nat.zero_add]; exact hg j v hv) hi
  simp [results, h, hp', asAddr, hl]

def Jx (h : Nat) (w0 : World) (x y : Int) (u v : Value) (w' : World) : Prop := w'.cell? ⟨h, 0, none⟩ = some (.int .i64 x) ∧ w'.cell? ⟨h, 1, none⟩ = some u ∧ w'.cell? ⟨h + 1, 0, none⟩ = some (.int .i64 y) ∧ w'.cell? ⟨h + 1, 1, none⟩ = some v ∧
  w'.cell? ⟨h + 1 + 1, 0, none⟩ = some (.int .i64 0) ∧ w'.cell? ⟨h + 1 + 1, 1, none⟩ = some (.slice none 0 0) ∧ w'.frozen? ⟨h + 1 + 1, 0, none⟩ = false ∧ w'.frozen? ⟨h + 1 + 1, 1, none⟩ = false ∧ h + 3 ≤ w'.heap.size ∧ Below w0.heap.size w0 w'
theorem Jx.below {h : Nat} {w0 w1 w2 : World} {x y : Int} {u v : Value} (k : Jx h w0 x y u v w1) (hb : Below w1.heap.size w1 w2) : Jx h w0 x y u v w2 := by
  obtain ⟨h1, h2, h3, h4, h5, h6, h7, h8, h9, h10⟩ := k
  refine ⟨cell_later hb h1, cell_later hb h2, cell_later hb h3, cell_later hb h4, cell_later hb h5, cell_later hb h6, ?_, ?_, Nat.le_trans h9 hb.size, h10.trans ⟨hb.os, hb.tape, hb.output, hb.size, fun k hk => hb.block k (Nat.lt_of_lt_of_le hk h10.size)⟩⟩
  · exact (World.frozen?_of_block (a := ⟨h + 1 + 1, 0, none⟩) (hb.block (h + 1 + 1) (by omega))).trans h7
  · exact (World.frozen?_of_block (a := ⟨h + 1 + 1, 1, none⟩) (hb.block (h + 1 + 1) (by omega))).trans h8
theorem Jx.drew {h : Nat} {w0 w1 : World} {x y : Int} {u v : Value} (k : Jx h w0 x y u v w1) : Jx h w0 x y u v w1.drew := by
  obtain ⟨h1, h2, h3, h4, h5, h6, h7, h8, h9, h10⟩ := k
  exact ⟨h1, h2, h3, h4, h5, h6, h7, h8, h9, h10.drew⟩
theorem Jx.allocd {h : Nat} {w0 w1 : World} {x y : Int} {u v : Value} (k : Jx h w0 x y u v w1) (o : Obj) : Jx h w0 x y u v (w1.alloc o).drew := Jx.drew (Jx.below k ((Below.refl _ _).alloc (Nat.le_refl _) o))
def Jy (h : Nat) (w0 : World) (x y : Int) (u v : Value) (w' : World) : Prop := w'.cell? ⟨h, 0, none⟩ = some (.int .i64 x) ∧ w'.cell? ⟨h, 1, none⟩ = some u ∧ w'.cell? ⟨h + 1, 0, none⟩ = some (.int .i64 y) ∧ w'.cell? ⟨h + 1, 1, none⟩ = some v ∧ Below h w0 w'
theorem Jx.y {w0 w1 : World} {x y : Int} {u v : Value} (k : Jx w0.heap.size w0 x y u v w1) : Jy w0.heap.size w0 x y u v w1 := by
  obtain ⟨h1, h2, h3, h4, h5, h6, h7, h8, h9, h10⟩ := k
  exact ⟨h1, h2, h3, h4, h10⟩
theorem Jy.set {w0 w1 : World} {x y : Int} {u v : Value} (k : Jy w0.heap.size w0 x y u v w1) (a b : Value) : Jy w0.heap.size w0 x y u v ((w1.setCell ⟨w0.heap.size + 1 + 1, 0, none⟩ a).setCell ⟨w0.heap.size + 1 + 1, 1, none⟩ b) := by
  obtain ⟨h1, h2, h3, h4, h10⟩ := k
  have o : ∀ (c i : Nat) (z : Value), c ≠ w0.heap.size + 1 + 1 → w1.cell? ⟨c, i, none⟩ = some z → ((w1.setCell ⟨w0.heap.size + 1 + 1, 0, none⟩ a).setCell ⟨w0.heap.size + 1 + 1, 1, none⟩ b).cell? ⟨c, i, none⟩ = some z := by
    intro c i z hc hz
    rw [World.cell?_setCell_other _ _ _ _ (by intro e; simp only [Addr.mk.injEq] at e; omega), World.cell?_setCell_other _ _ _ _ (by intro e; simp only [Addr.mk.injEq] at e; omega)]
    exact hz
  exact ⟨o _ _ _ (by omega) h1, o _ _ _ (by omega) h2, o _ _ _ (by omega) h3, o _ _ _ (by omega) h4, (h10.setCell (by simp only; omega) _).setCell (by simp only; omega) _⟩
set_option maxHeartbeats 4000000 in
theorem fJoin_any (x y : Int) (A B : Option Addr) (n m c e : Nat) (l r : List Int) (w : World) (hl : Ri w A l) (hr : Ri w B r) (hn : n = l.length) (hm : m = r.length) (hln : n ≤ 1000000) (hmn : m ≤ 1000000) (hx : 0 ≤ x ∧ x ≤ 1152921504606846976) (hy : 0 ≤ y ∧ y ≤ 1152921504606846976) :
    Calls Try.prog 40 #[.agg #[.int .i64 x, .slice A n c], .agg #[.int .i64 y, .slice B m e]] w fun q w' => ∃ A' k' c', q = .returned (.agg #[.int .i64 (x + y), .slice A' k' c']) ∧ Oi w' w.heap.size (.slice A' k' c') (l ++ r) ∧ Below w.heap.size w w' := by
  obtain ⟨w1, hw1⟩ : ∃ w1, w1 = ((w.alloc (.cells #[.int .i64 x, .slice A n c] 68)).alloc (.cells #[.int .i64 y, .slice B m e] 68)).alloc (.cells #[.int .i64 0, .slice none 0 0] 68) := ⟨_, rfl⟩
  have HW1 := Lib.hid hw1
  have hB1 : Below w.heap.size w w1 := by rw [hw1]; exact (((Below.refl _ _).alloc (Nat.le_refl _) _).alloc (by simp) _).alloc (by simp; omega) _
  have hs1 : w1.heap.size = w.heap.size + 3 := by rw [hw1]; simp
  have c1 : w1.cell? ⟨w.heap.size, 0, none⟩ = some (.int .i64 x) := by rw [hw1]; go_cell
  have c2 : w1.cell? ⟨w.heap.size, 1, none⟩ = some (.slice A n c) := by rw [hw1]; go_cell
  have c3 : w1.cell? ⟨w.heap.size + 1, 0, none⟩ = some (.int .i64 y) := by rw [hw1]; go_cell
  have c4 : w1.cell? ⟨w.heap.size + 1, 1, none⟩ = some (.slice B m e) := by rw [hw1]; go_cell
  have c5 : w1.cell? ⟨w.heap.size + 1 + 1, 0, none⟩ = some (.int .i64 0) := by rw [hw1]; go_cell
  have c6 : w1.cell? ⟨w.heap.size + 1 + 1, 1, none⟩ = some (.slice none 0 0) := by rw [hw1]; go_cell
  have f5 : w1.frozen? ⟨w.heap.size + 1 + 1, 0, none⟩ = false := by rw [hw1]; go_cell
  have f6 : w1.frozen? ⟨w.heap.size + 1 + 1, 1, none⟩ = false := by rw [hw1]; go_cell
  have HL := Lib.hid hl
  have HR := Lib.hid hr
  have HN := Lib.hid hn
  have HM := Lib.hid hm
  clear hl hr hw1 hn hm
  have J1 : Hid (Jx w.heap.size w x y (.slice A n c) (.slice B m e) w1) := by show Jx _ _ _ _ _ _ _; exact ⟨c1, c2, c3, c4, c5, c6, f5, f6, by omega, hB1⟩
  have hadd : ¬ (x + y < -9223372036854775808) := by omega
  clear c1 c2 c3 c4 c5 c6 f5 f6 hB1 hs1
  have CC : Hid (∀ g W, W.cell? ⟨g, 0, none⟩ = some (.slice A n c) → W.cell? ⟨g, 1, none⟩ = some (.slice B m e) → Jx w.heap.size w x y (.slice A n c) (.slice B m e) W → Calls Try.prog 49 #[.slice (some ⟨g, 0, none⟩) 2 2] W fun q w' => ∃ A' k' c', q = .returned (.slice A' k' c') ∧ Oi w' (w.heap.size + 3) (.slice A' k' c') (l ++ r) ∧ Jx w.heap.size w x y (.slice A n c) (.slice B m e) w') := by
    show ∀ g W, _
    intro g W h0 h1 hJ
    have hb := hJ.2.2.2.2.2.2.2.2.2
    refine (gConcat2_any A B n m c e l r g W h0 h1 (HL.out.below hb) (HR.out.below hb) HN.out HM.out hln hmn).mono ?_
    rintro q w' ⟨v, rfl, hO, hB⟩
    have hz := hJ.2.2.2.2.2.2.2.2.1
    obtain ⟨A', c', rfl, _⟩ := hO.open
    obtain ⟨o1, o2⟩ := hO
    refine ⟨A', _, c', rfl, ⟨o1, ?_⟩, Jx.below hJ hB⟩
    rcases o2 with o2 | ⟨g2, cap, cur, hv, hg, r2⟩
    · exact .inl o2
    · exact .inr ⟨g2, cap, cur, hv, by omega, r2⟩
  go_enter Try.func40, Try.ntmps40
  go_wp2_with fail
  rw [← HW1.out]
  go_region_held3 (fun w' => w'.cell? ⟨w.heap.size, 0, none⟩ = some (.int .i64 x) ∧ w'.cell? ⟨w.heap.size, 1, none⟩ = some (.slice A n c) ∧ w'.cell? ⟨w.heap.size + 1, 0, none⟩ = some (.int .i64 y) ∧ w'.cell? ⟨w.heap.size + 1, 1, none⟩ = some (.slice B m e) ∧ Below w.heap.size w w')
    ((show Jy w.heap.size w x y (.slice A n c) (.slice B m e) _
      with_reducible first
        | exact Jx.y kk.out
        | exact Jx.y (Jx.drew J1.out)
        | exact Jx.y (Jx.allocd J1.out _)
        | exact Jy.set (Jx.y kk.out) _ _))
    (first
      | (go_at_call 49; refine (CC.out _ _ (by go_cell) (by go_cell) (by exact Jx.allocd J1.out _)).mono ?_; rintro q w3 ⟨A', k', c', rfl, hO, hJ⟩; have HO := Lib.hid hO; have kk : Hid (Jx w.heap.size w x y (.slice A n c) (.slice B m e) w3) := hJ; have e5 := hJ.2.2.2.2.1; have e6 := hJ.2.2.2.2.2.1; have f5 := hJ.2.2.2.2.2.2.1; have f6 := hJ.2.2.2.2.2.2.2.1; clear hO hJ))
  all_goals
    go_wp2
    (try simp only [Exit.inBlock, Exit.then])
    refine bodyPost_ret (results_cell rfl _ _ _ Try.underlying68 rfl (w.heap.size + 1 + 1) #[.int .i64 (IntKind.i64.wrap (x + y)), .slice A' k' c'] rfl (pair_cells (by go_cell) (by go_cell)) (by kernel_rfl)) rfl ?_
    have hw : IntKind.i64.wrap (x + y) = x + y := by rw [IntKind.wrap_i64]; omega
    rw [hw]
    have hO := HO.out.chg (S := fun k => k = w.heap.size + 1 + 1) (((Chg.refl (fun k => k = w.heap.size + 1 + 1) w3).setCell (p := ⟨w.heap.size + 1 + 1, 0, none⟩) (.inl rfl) (.int .i64 (x + y))).setCell (p := ⟨w.heap.size + 1 + 1, 1, none⟩) (.inl rfl) (.slice A' k' c')) (fun k hk => by have := (HO.out.at k hk).1; omega)
    refine ⟨A', k', c', rfl, ?_, (Jy.set (Jx.y kk.out) _ _).2.2.2.2⟩
    obtain ⟨o1, o2⟩ := hO
    refine ⟨o1, ?_⟩
    rcases o2 with o2 | ⟨g2, cap, cur, hv, hg, r2⟩
    · exact .inl o2
    · exact .inr ⟨g2, cap, cur, hv, by omega, r2⟩
end Go.Proofs.Ytanihbflgolciaa
