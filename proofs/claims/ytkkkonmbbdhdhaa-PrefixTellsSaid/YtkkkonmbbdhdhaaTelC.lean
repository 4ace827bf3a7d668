/- PrefixTells: the contracts of all that the law calls, at what stands in memory. -/
import Derived.Test.YtkkkonmbbdhdhaaTelA
namespace Go.Proofs.Ytkkkonmbbdhdhaa
open Go.RowKit Go.Lib Go.Sort
set_option linter.unusedVariables false
set_option linter.unusedSectionVars false
set_option maxRecDepth 100000
section
variable {w : World} {g : Nat} {cs l t : List Int} {A Bd A1 A2 : Option Addr} {n c m d c1 c2 : Nat}
theorem MayP.codes_len {cs l : List Int} (h : MayP cs l) : (cds (lensOf cs 16)).length = l.length := by
  have := lens_many (cs := cs) 16 (fun j hj => (h.cnt j hj).1)
  rw [h.many] at this
  rw [cds_len]
  omega
theorem codeAt_not (h : mayB cs l = false) (s : Int) : codeAt cs l s = (0, 0) := by unfold codeAt; rw [h]; rfl
variable (hn : n = l.length) (hm : m = t.length) (hcs : cs.length = 16) (h3 : ¬ 300 < n) (h4 : ¬ 300 < m)
include hn hm hcs h3 h4
theorem KT.newY (h : mayB cs l = true) (W : World) (k : KT w g cs l t A Bd A1 A2 n c m d c1 c2 W) : Calls Try.prog 7 #[.agg (hx cs (.slice A1 n c1))] W fun e w' => ∃ b, e = .returned (.tuple #[.pointer (some ⟨b, 0, none⟩), .int .i64 0]) ∧ Tbl w' b cs l ∧ KT w g cs l t A Bd A1 A2 n c m d c1 c2 w' := by
  subst hn
  exact (fNew_yes _ cs l A1 c1 W (hx_hv hcs _) k.r1 (by omega) h (hx17 hcs _)).mono fun e w' ⟨b, h1, _, h2, h3⟩ => ⟨b, h1, h2, k.call h3⟩
theorem KT.newN (h : mayB cs l = false) (W : World) (k : KT w g cs l t A Bd A1 A2 n c m d c1 c2 W) : Calls Try.prog 7 #[.agg (hx cs (.slice A1 n c1))] W fun e w' => e = .returned (.tuple #[.pointer none, .int .i64 2]) ∧ KT w g cs l t A Bd A1 A2 n c m d c1 c2 w' := by
  subst hn
  exact (fNew_no _ cs l A1 c1 W (hx_hv hcs _) k.r1 (by omega) h (hx17 hcs _)).mono fun e w' ⟨h1, h3⟩ => ⟨h1, k.call h3⟩
theorem KT.rMay (W : World) (k : KT w g cs l t A Bd A1 A2 n c m d c1 c2 W) : Calls Try.prog 8 #[.agg (hx cs (.slice A n c))] W fun e w' => e = .returned (.bool (mayB cs l)) ∧ Below W.heap.size W w' := by
  subst hn
  exact rMay_any _ cs l A c W (hx_hv hcs _) k.r (by omega)
theorem KT.fMay (W : World) (k : KT w g cs l t A Bd A1 A2 n c m d c1 c2 W) : Calls Try.prog 11 #[.agg (hx cs (.slice A1 n c1))] W fun e w' => e = .returned (.bool (mayB cs l)) ∧ Below W.heap.size W w' := by
  subst hn
  exact fMay_any _ cs l A1 c1 W (hx_hv hcs _) k.r1 (by omega)
theorem KT.rCode (s : Int) (W : World) (k : KT w g cs l t A Bd A1 A2 n c m d c1 c2 W) : Calls Try.prog 10 #[.agg (hx cs (.slice A n c)), .int .i64 s] W fun e w' => e = .returned (.agg #[.int .i64 (codeAt cs l s).1, .int .i64 ((codeAt cs l s).2 : Int)]) ∧ Below W.heap.size W w' := by
  subst hn
  exact rCode_any _ cs l A c s W (hx_hv hcs _) k.r (by omega)
theorem KT.fCost (W : World) (k : KT w g cs l t A Bd A1 A2 n c m d c1 c2 W) : Calls Try.prog 12 #[.agg (hx cs (.slice A1 n c1)), .slice A2 m c2] W fun e w' => e = .returned (.int .i64 (costB cs l t)) ∧ Below W.heap.size W w' := by
  subst hn hm
  exact fCost_any _ cs l A1 c1 t A2 c2 W (hx_hv hcs _) k.r1 (by omega) (hx17 hcs _) k.t2 (by omega)
theorem KT.rCost (W : World) (k : KT w g cs l t A Bd A1 A2 n c m d c1 c2 W) : Calls Try.prog 13 #[.agg (hx cs (.slice A n c)), .slice Bd m d] W fun e w' => e = .returned (.int .i64 (costB cs l t)) ∧ Below W.heap.size W w' := by
  subst hn hm
  exact rCost_any _ cs l A c t Bd d W (hx_hv hcs _) k.r (by omega) (hx17 hcs _) k.tt (by omega)
theorem KT.rSame (W : World) (k : KT w g cs l t A Bd A1 A2 n c m d c1 c2 W) : Calls Try.prog 14 #[.agg (hx cs (.slice A1 n c1)), .agg (hx cs (.slice A n c))] W fun e w' => e = .returned (.bool true) ∧ Below W.heap.size W w' := by
  subst hn
  have := rSame_any _ _ cs cs l l A1 A c1 c W (hx_hv hcs _) (hx_hv hcs _) hcs hcs k.r1 k.r (by omega) (by omega)
  rw [sameB_yes ⟨rfl, rfl⟩] at this
  exact this
theorem KT.codY (h : mayB cs l = true) (W : World) (k : KT w g cs l t A Bd A1 A2 n c m d c1 c2 W) : Calls Try.prog 15 #[.agg (hx cs (.slice A1 n c1))] W fun e w' => ∃ v, e = .returned v ∧ Oq w' W.heap.size v (cds (lensOf cs 16)) ∧ KT w g cs l t A Bd A1 A2 n c m d c1 c2 w' := by
  subst hn
  exact (fCod_any _ cs l A1 c1 W (hx_hv hcs _) k.r1 (by omega) h (hx17 hcs _)).mono fun e w' ⟨v, h1, h2, h3⟩ => ⟨v, h1, h2, k.call h3⟩
theorem KT.codN (h : mayB cs l = false) (W : World) (k : KT w g cs l t A Bd A1 A2 n c m d c1 c2 W) : Calls Try.prog 15 #[.agg (hx cs (.slice A1 n c1))] W fun e w' => e = .returned (.slice none 0 0) ∧ KT w g cs l t A Bd A1 A2 n c m d c1 c2 w' := by
  subst hn
  exact (fCod_no _ cs l A1 c1 W (hx_hv hcs _) k.r1 (by omega) h (hx17 hcs _)).mono fun e w' ⟨h1, h3⟩ => ⟨h1, k.call h3⟩
theorem KT.rCod (h : mayB cs l = true) (W : World) (k : KT w g cs l t A Bd A1 A2 n c m d c1 c2 W) : Calls Try.prog 17 #[.agg (hx cs (.slice A n c))] W fun e w' => ∃ v, e = .returned v ∧ Oq w' W.heap.size v (cds (lensOf cs 16)) ∧ Below W.heap.size W w' := by
  subst hn
  exact rCod_any _ cs l A c W (hx_hv hcs _) (mayB_iff.1 h) (by omega)
end
/-- What stands in memory ahead of the great test: besides, the two codes. -/
structure KB (w : World) (g : Nat) (cs l t : List Int) (A Bd A1 A2 : Option Addr) (n c m d c1 c2 : Nat) (b1 b2 : Nat) (pv : Int) (pn : Nat) (W : World) : Prop where
  k : KT w g cs l t A Bd A1 A2 n c m d c1 c2 W
  x : Blk W b1 #[.int .i64 pv, .int .i64 (pn : Int)]
  y : Blk W b2 #[.int .i64 pv, .int .i64 (pn : Int)]
section
variable {w : World} {g : Nat} {cs l t : List Int} {A Bd A1 A2 : Option Addr} {n c m d c1 c2 : Nat} {b1 b2 : Nat} {pv : Int} {pn : Nat} {W : World}
theorem KB.call {W' : World} (k : KB w g cs l t A Bd A1 A2 n c m d c1 c2 b1 b2 pv pn W) (hb : Below W.heap.size W W') : KB w g cs l t A Bd A1 A2 n c m d c1 c2 b1 b2 pv pn W' := ⟨k.k.call hb, k.x.below hb, k.y.below hb⟩
theorem KB.drew (k : KB w g cs l t A Bd A1 A2 n c m d c1 c2 b1 b2 pv pn W) : KB w g cs l t A Bd A1 A2 n c m d c1 c2 b1 b2 pv pn W.drew := ⟨k.k.drew, k.x, k.y⟩
end
theorem ld_b {W : World} {g : Nat} {x y : Value} (h : Blk W g #[x, y]) : (Instr.loadAt 33 (.pointer (some ⟨g, 0, none⟩))).run Try.prog W = .ok (.agg #[x, y]) W :=
  run_loadAt_mid W g 0 33 [x, y] _ (fun j u hu => by rw [Nat.zero_add]; exact h.cell (by simpa using hu)) Try.underlying33 rfl (by show _ = some 2; kernel_rfl)
end Go.Proofs.Ytkkkonmbbdhdhaa
