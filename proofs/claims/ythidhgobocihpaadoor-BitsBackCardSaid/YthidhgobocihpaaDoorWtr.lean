/- Contracts of a Writer's calls. -/
import Derived.Test.YthidhgobocihpaaDoorRdr
namespace Go.Proofs.YthidhgobocihpaaDoor
open Go.RowKit Go.Lib
set_option linter.unusedVariables false

theorem and_pow (x : Int) (n : Nat) (hn : n ≤ 16) : bits .and .i64 x (2 ^ n - 1) = x % 2 ^ n := by
  have h1 : ∀ n, n < 17 → (BitVec.ofInt 64 ((2 : Int) ^ n - 1)).toNat = 2 ^ n - 1 := by decide
  have h2 : ∀ n, n < 17 → (2 : Int) ^ n ∣ 18446744073709551616 := by decide
  exact and_mask x (2 ^ n - 1) n (h1 n (by omega)) (h2 n (by omega)) (by have := pow_le16 hn; omega)
theorem wraps32 (n : Int) (h₀ : 0 ≤ n) (h₁ : n < 2 ^ 32) : IntKind.u32.wrap n = n := by rw [IntKind.wrap_u32]; omega
theorem last_step (V x : Int) (n : Nat) (hn : n ≤ 16) : bits .or .u32 (V % 4294967296 * 2 ^ n % 4294967296) (x % 2 ^ n) = (V * 2 ^ n + x % 2 ^ n) % 4294967296 := by
  have hp := pow_le16 hn
  have hd : (2 : Int) ^ n ∣ 4294967296 := by
    have : ∀ n, n < 17 → (2 : Int) ^ n ∣ 4294967296 := by decide
    exact this n (by omega)
  have hy0 := Int.emod_nonneg x (show (2 : Int) ^ n ≠ 0 by omega)
  have hy1 := Int.emod_lt_of_pos x (show (0 : Int) < 2 ^ n by omega)
  generalize x % 2 ^ n = y at *
  have e1 : V % 4294967296 * 2 ^ n % 4294967296 = V * 2 ^ n % 4294967296 := by rw [Int.mul_emod, Int.emod_emod_of_dvd V (Int.dvd_refl _), ← Int.mul_emod]
  rw [e1]
  have e2 : V * 2 ^ n % 4294967296 % 2 ^ n = 0 := by
    rw [Int.emod_emod_of_dvd _ hd]
    exact Int.mul_emod_left ..
  have h0 := Int.emod_nonneg (V * 2 ^ n) (show (4294967296 : Int) ≠ 0 by decide)
  have h1 := Int.emod_lt_of_pos (V * 2 ^ n) (show (0 : Int) < 4294967296 by decide)
  rw [bits_join .u32 32 (by decide) wraps32 n _ y h0 e2 (by omega) hy0 hy1 (by omega)]
  have h2 : V * 2 ^ n % 4294967296 + y < 4294967296 := by
    obtain ⟨t, ht⟩ := hd
    generalize V * 2 ^ n % 4294967296 = a at *
    obtain ⟨s, hs⟩ : ∃ s, a = 2 ^ n * s := ⟨a / 2 ^ n, by have := Int.mul_ediv_add_emod a (2 ^ n); omega⟩
    generalize (2 : Int) ^ n = p at *
    subst hs
    rw [ht] at h1 ⊢
    have hst : s < t := Int.lt_of_mul_lt_mul_left h1 (by omega)
    have : p * (s + 1) ≤ p * t := Int.mul_le_mul_of_nonneg_left (by omega) (by omega)
    rw [Int.mul_add, Int.mul_one] at this
    omega
  rw [Int.add_emod, Int.emod_eq_of_lt hy0 (by omega), Int.emod_eq_of_lt (by omega) h2]

/-- A Writer in block p: its bits; its bytes lie in block g. -/
structure Wtr (w : World) (base p : Nat) (l : List Int) (g : Option Nat) : Prop where
  ex : ∃ v, w.cell? ⟨p, 0, none⟩ = some v ∧ Ob w base v (pack l) ∧ v.ownBlock = g
  la : w.cell? ⟨p, 1, none⟩ = some (.int .u32 (val l % 4294967296))
  ct : w.cell? ⟨p, 2, none⟩ = some (.int .i64 l.length)
  f0 : w.frozen? ⟨p, 0, none⟩ = false
  f1 : w.frozen? ⟨p, 1, none⟩ = false
  f2 : w.frozen? ⟨p, 2, none⟩ = false
  gp : g ≠ some p
  bp : base ≤ p
  bit : Bit l
theorem Wtr.lt {w : World} {base p : Nat} {l : List Int} {g : Option Nat} (h : Wtr w base p l g) : p < w.heap.size := World.block_lt_of_cell? w _ h.ct
theorem Wtr.gt {w : World} {base p : Nat} {l : List Int} {g : Option Nat} (h : Wtr w base p l g) : ∀ k, g = some k → base ≤ k ∧ k < w.heap.size := by
  obtain ⟨v, _, h2, h3⟩ := h.ex
  intro k hk
  exact h2.at k (h3.trans hk)
theorem Wtr.chg {S : Nat → Prop} {w w' : World} {base p : Nat} {l : List Int} {g : Option Nat} (h : Wtr w base p l g) (hc : Chg S w w') (hp : ¬ S p) (hg : ∀ k, g = some k → ¬ S k) : Wtr w' base p l g := by
  obtain ⟨v, e1, e2, e3⟩ := h.ex
  have hl := h.lt
  exact ⟨⟨v, hc.cellv e1 hp, e2.chg hc (fun k hk => hg k (e3.symm.trans hk)), e3⟩, hc.cellv h.la hp, hc.cellv h.ct hp, (hc.frozen (p := ⟨p, 0, none⟩) hl hp).trans h.f0, (hc.frozen (p := ⟨p, 1, none⟩) hl hp).trans h.f1, (hc.frozen (p := ⟨p, 2, none⟩) hl hp).trans h.f2, h.gp, h.bp, h.bit⟩
theorem Wtr.below {w w' : World} {base p : Nat} {l : List Int} {g : Option Nat} (h : Wtr w base p l g) (hb : Below w.heap.size w w') : Wtr w' base p l g := h.chg (Chg.of_below (S := fun _ => False) hb) (fun e => e) fun _ _ e => e
theorem Wtr.drewN {w : World} {base p : Nat} {l : List Int} {g : Option Nat} (h : Wtr w base p l g) (n : Nat) : Wtr (w.drewN n) base p l g := h.below (below_drewN w n)

theorem len_any (base p : Nat) (l : List Int) (g : Option Nat) (w : World) (h : Wtr w base p l g) :
    Calls Tryd.prog 10 #[.pointer (some ⟨p, 0, none⟩)] w fun e w' => e = .returned (.int .i64 l.length) ∧ w = w' := by
  have h1 := h.ct
  go_enter Tryd.func10, Tryd.ntmps10
  go_wp2
  go_ret
  exact ⟨rfl, rfl⟩
theorem len_nil (w : World) : Calls Tryd.prog 10 #[.pointer none] w fun e w' => e = .returned (.int .i64 0) ∧ w = w' := by
  go_enter Tryd.func10, Tryd.ntmps10
  go_wp2
  go_ret
  exact ⟨rfl, rfl⟩
theorem put_nil (x n : Int) (w : World) : Calls Tryd.prog 8 #[.pointer none, .int .i64 x, .int .i64 n] w fun e w' => e = .returned (.bool false) ∧ w = w' := by
  go_enter Tryd.func8, Tryd.ntmps8
  go_wp2
  go_ret
  exact ⟨rfl, rfl⟩
theorem put_bad (p : Nat) (x n : Int) (w : World) (h : n < 0 ∨ 16 < n) : Calls Tryd.prog 8 #[.pointer (some ⟨p, 0, none⟩), .int .i64 x, .int .i64 n] w fun e w' => e = .returned (.bool false) ∧ w = w' := by
  have h0 := fun W => isCount_no n W h
  clear h
  go_enter Tryd.func8, Tryd.ntmps8
  go_wp2_with ((with_reducible refine (h0 _).mono ?_); rintro e w1 ⟨rfl, rfl⟩)
  go_ret
  exact ⟨rfl, rfl⟩
theorem done_nil (w : World) : Calls Tryd.prog 12 #[.pointer none] w fun e w' => e = .returned (.slice none 0 0) ∧ w = w' := by
  go_enter Tryd.func12, Tryd.ntmps12
  go_wp2
  go_ret
  exact ⟨rfl, rfl⟩

/-- append at a step of a region that draws its order. -/
theorem step_appB {w : World} {ops : Array Oper} {o : Oper} {a : Act} {K : Act → World → Prop} {Q : Exit → Act → World → Prop} {E : Prop} (hgd : o.guard = none) (s x : Operand)
    (ho : o.op = .call { callee := .builtin .append, args := #[s, x], argTypes := #[24, 24] })
    (base : Nat) (v u : Value) (l : List UInt8) (hs : a.eval s = v) (A : Option Addr) (n c : Nat) (m : List UInt8) (hx : a.eval x = u) (hu : u = .slice A n c) (hn : n = m.length) (hown : Ob w base v l) (hr : Rd w A m)
    (hlen : l.length + m.length ≤ 1000000000) (hbase : base ≤ w.heap.size)
    (h : ∀ v' w', Ob w' base v' (l ++ m) → w.grownBy w' v.ownBlock → (v'.ownBlock = v.ownBlock ∨ v'.ownBlock = some w.heap.size) → K (a.put o.dst v') w') :
    if Region.wanted o (yielded ops a.tmps) = true then Oper.wp Tryd.prog o a w K Q else E := by
  have hw : Region.wanted o (yielded ops a.tmps) = true := by simp [Region.wanted, hgd]
  rw [if_pos hw]
  subst hu hn
  obtain ⟨v', w', hrun, h2, h3, h4⟩ := run_appV Tryd.underlying24 Tryd.info5 rfl w base v l.length (l.map bv) hown A c (m.map bv) (bv_one m) hr.v o.type (by simpa using hlen) (by decide) hbase
  rw [List.length_map] at hrun
  unfold Oper.wp
  simp [execOp, ho, resolve, invoke, builtin, hs, hx, hrun, Result.andThen]
  exact h v' w' (Ob.app h2) h3 h4

theorem Ob.slice {w : World} {base : Nat} {v : Value} {l : List UInt8} (h : Ob w base v l) : ∃ A n c, v = .slice A n c := by
  obtain ⟨A, c, e, _⟩ := h.open'
  exact ⟨A, _, c, e⟩
/-- In the midst of Put: the bits are counted, j bytes of them are whole. -/
structure PutS (w0 w : World) (base p : Nat) (m : List Int) (g : Option Nat) (v : Value) (j : Nat) : Prop where
  c0 : w.cell? ⟨p, 0, none⟩ = some v
  c1 : w.cell? ⟨p, 1, none⟩ = some (.int .u32 (val m % 4294967296))
  c2 : w.cell? ⟨p, 2, none⟩ = some (.int .i64 m.length)
  f0 : w.frozen? ⟨p, 0, none⟩ = false
  f1 : w.frozen? ⟨p, 1, none⟩ = false
  f2 : w.frozen? ⟨p, 2, none⟩ = false
  ob : Ob w base v ((pack m).take j)
  gp : v.ownBlock ≠ some p
  gg : v.ownBlock = g ∨ ∃ k, v.ownBlock = some k ∧ w0.heap.size ≤ k
  ch : Chg (fun i => i = p ∨ g = some i) w0 w
theorem PutS.lt {w0 w : World} {base p : Nat} {m : List Int} {g : Option Nat} {v : Value} {j : Nat} (h : PutS w0 w base p m g v j) : p < w.heap.size := World.block_lt_of_cell? w _ h.c2
theorem PutS.below {w0 w w' : World} {base p : Nat} {m : List Int} {g : Option Nat} {v : Value} {j : Nat} (h : PutS w0 w base p m g v j) (hb : Below w.heap.size w w') : PutS w0 w' base p m g v j := by
  have hl := h.lt
  exact ⟨cell_later hb h.c0, cell_later hb h.c1, cell_later hb h.c2, (hb.frozen (p := ⟨p, 0, none⟩) hl).trans h.f0, (hb.frozen (p := ⟨p, 1, none⟩) hl).trans h.f1, (hb.frozen (p := ⟨p, 2, none⟩) hl).trans h.f2, h.ob.below hb, h.gp, h.gg, h.ch.trans (Chg.of_below (S := fun _ => False) hb) fun _ _ e => e.elim⟩
theorem PutS.start {w : World} {base p : Nat} {l m : List Int} {g : Option Nat} {v : Value} {X Y : Int} (h : Wtr w base p l g) (hv : w.cell? ⟨p, 0, none⟩ = some v) (hX : X = val m % 4294967296) (hY : Y = m.length) (hm : (pack m).take (l.length / 8) = pack l) :
    PutS w (((w.setCell ⟨p, 1, none⟩ (.int .u32 X)).setCell ⟨p, 2, none⟩ (.int .i64 Y)).drew) base p m g v (l.length / 8) := by
  subst hX hY
  obtain ⟨v', e1, e2, e3⟩ := h.ex
  rw [hv] at e1
  injection e1 with e1
  subst e1
  have hc1 : Chg (fun i => i = p) w (((w.setCell ⟨p, 1, none⟩ (.int .u32 (val m % 4294967296))).setCell ⟨p, 2, none⟩ (.int .i64 m.length)).drew) :=
    (Chg.setCell (S := fun i => i = p) (Chg.setCell (S := fun i => i = p) (Chg.refl _ w) (p := ⟨p, 1, none⟩) (.inl rfl) _) (p := ⟨p, 2, none⟩) (.inl rfl) _).drew
  have a0 := h.la
  have a1 := h.ct
  have f0 := h.f0
  have f1 := h.f1
  have f2 := h.f2
  refine ⟨by go_cell, by go_cell, by go_cell, by go_cell, by go_cell, by go_cell, ?_, ?_, .inl e3, hc1.mono fun i _ e => .inl e⟩
  · rw [hm]
    exact e2.chg hc1 fun k hk e => h.gp (by rw [← e3, hk]; exact congrArg some e)
  · rw [e3]; exact h.gp
theorem PutS.step {w0 w w3 : World} {base p : Nat} {m : List Int} {g : Option Nat} {v v3 : Value} {j : Nat} {x : UInt8} (h : PutS w0 w base p m g v j) (hx : (pack m).take (j + 1) = (pack m).take j ++ [x]) (hw0 : w0.heap.size ≤ w.heap.size)
    (ho : Ob w3 base v3 ((pack m).take j ++ [x])) (hg : w.grownBy w3 v.ownBlock) (hb : v3.ownBlock = v.ownBlock ∨ v3.ownBlock = some w.heap.size) : PutS w0 (w3.setCell ⟨p, 0, none⟩ v3) base p m g v3 (j + 1) := by
  have hl := h.lt
  have hgp : v3.ownBlock ≠ some p := by
    rcases hb with e | e
    · rw [e]; exact h.gp
    · rw [e]; intro e2; injection e2 with e2; omega
  have hcg : Chg (fun i => v.ownBlock = some i) w w3 := (Chg.refl _ w).grown hg fun k hk => .inl hk
  have k0 := hcg.cellv h.c0 h.gp
  have k1 := hcg.cellv h.c1 h.gp
  have k2 := hcg.cellv h.c2 h.gp
  have q0 := (hcg.frozen (p := ⟨p, 0, none⟩) hl h.gp).trans h.f0
  have q1 := (hcg.frozen (p := ⟨p, 1, none⟩) hl h.gp).trans h.f1
  have q2 := (hcg.frozen (p := ⟨p, 2, none⟩) hl h.gp).trans h.f2
  have hc3 : Chg (fun i => i = p) w3 (w3.setCell ⟨p, 0, none⟩ v3) := Chg.setCell (S := fun i => i = p) (Chg.refl _ w3) (p := ⟨p, 0, none⟩) (.inl rfl) _
  refine ⟨by go_cell, by go_cell, by go_cell, by go_cell, by go_cell, by go_cell, ?_, hgp, ?_, ?_⟩
  · rw [hx]
    exact ho.chg hc3 fun k hk e => hgp (by rw [hk]; exact congrArg some e)
  · rcases hb with e | e
    · rw [e]; exact h.gg
    · exact .inr ⟨_, e, hw0⟩
  · refine (h.ch.trans hcg fun i hi e => ?_).trans hc3 fun i _ e => .inl e
    rcases h.gg with e2 | ⟨k, e2, e3⟩
    · exact .inr (e2.symm.trans e)
    · rw [e2] at e; injection e with e; omega
theorem PutS.kept {w0 w w3 : World} {base p : Nat} {m : List Int} {g : Option Nat} {v : Value} {j : Nat} (h : PutS w0 w base p m g v j) (hg : w.grownBy w3 v.ownBlock) : w3.cell? ⟨p, 0, none⟩ = some v ∧ w3.frozen? ⟨p, 0, none⟩ = false := by
  have hcg : Chg (fun i => v.ownBlock = some i) w w3 := (Chg.refl _ w).grown hg fun k hk => .inl hk
  exact ⟨hcg.cellv h.c0 h.gp, (hcg.frozen (p := ⟨p, 0, none⟩) h.lt h.gp).trans h.f0⟩
theorem PutS.done {w0 w : World} {base p : Nat} {m : List Int} {g : Option Nat} {v : Value} {j : Nat} (h : PutS w0 w base p m g v j) (hj : j = m.length / 8) (hm : Bit m) (hb : base ≤ p) : Wtr w base p m v.ownBlock := by
  have ho := h.ob
  rw [hj, List.take_of_length_le (by rw [pack_len]; exact Nat.le_refl _)] at ho
  exact ⟨⟨v, h.c0, ho, rfl⟩, h.c1, h.c2, h.f0, h.f1, h.f2, h.gp, hb, hm⟩
theorem shr_oct {m : List Int} (hm : Bit m) {j s : Nat} (hj : 8 * j + 8 + s = m.length) (hs : s ≤ 15) : val m % 4294967296 / 2 ^ s % 256 = oct m j := by
  have h := oct_val hm (k := j) (by omega)
  rw [show m.length - (8 * j + 8) = s by omega] at h
  rw [← h]
  generalize val m = V
  have : s = 0 ∨ s = 1 ∨ s = 2 ∨ s = 3 ∨ s = 4 ∨ s = 5 ∨ s = 6 ∨ s = 7 ∨ s = 8 ∨ s = 9 ∨ s = 10 ∨ s = 11 ∨ s = 12 ∨ s = 13 ∨ s = 14 ∨ s = 15 := by omega
  rcases this with rfl | rfl | rfl | rfl | rfl | rfl | rfl | rfl | rfl | rfl | rfl | rfl | rfl | rfl | rfl | rfl <;> simp <;> omega
set_option maxHeartbeats 1600000 in
theorem put_yes (base p : Nat) (l : List Int) (g : Option Nat) (x : Int) (n : Nat) (w : World) (h : Wtr w base p l g) (hn : n ≤ 16) (hl : l.length ≤ 10000000) (hbw : base ≤ w.heap.size) :
    Calls Tryd.prog 8 #[.pointer (some ⟨p, 0, none⟩), .int .i64 x, .int .i64 n] w fun e w' => ∃ g', e = .returned (.bool true) ∧ Wtr w' base p (l ++ lo x n) g' ∧ (g' = g ∨ ∃ k, g' = some k ∧ w.heap.size ≤ k) ∧ Chg (fun i => i = p ∨ g = some i) w w' := by
  obtain ⟨v, e0, e0o, e0g⟩ := h.ex
  have e1 := h.la
  have e2 := h.ct
  have f0 := h.f0
  have f1 := h.f1
  have f2 := h.f2
  obtain ⟨A, c, rfl, hc0, hc1, r0, hb0, _⟩ := e0o.open'
  have hn16 : decide ((n : Int) ≤ 16) = true := by rw [decide_eq_true_iff]; omega
  go_enter Tryd.func8, Tryd.ntmps8
  go_wp2_with ((with_reducible refine (isCount_yes n _ hn).mono ?_); rintro e w1 ⟨rfl, rfl⟩)
  go_still_tail 15, (by kernel_rfl)
  still_call ((ones_any n _ hn).mono fun _ _ h => ⟨h.1, h.2.symm⟩)
  repeat still_step
  refine wpStill_nil ?_
  change wpList _ _ _ _ _ (World.drew _)
  go_wp2
  obtain ⟨m, hm⟩ : ∃ m, m = l ++ lo x n := ⟨_, rfl⟩
  have hml : m.length = l.length + n := by rw [hm]; simp
  have hmb : Bit m := by rw [hm]; exact h.bit.append (lo_bit x n)
  have hp := pow_le16 hn
  have hxm := Int.emod_lt_of_pos x (show (0 : Int) < 2 ^ n by omega)
  have hxm0 := Int.emod_nonneg x (show (2 : Int) ^ n ≠ 0 by omega)
  have hX : bits BinOp.or IntKind.u32 (val l % 4294967296 * 2 ^ n % 4294967296) (bits BinOp.and IntKind.i64 x (2 ^ n - 1) % 4294967296) = val m % 4294967296 := by
    rw [and_pow x n hn, Int.emod_eq_of_lt hxm0 (by omega), last_step _ _ _ hn, hm, val_append, val_lo, lo_len]
  have PS := Lib.hid (PutS.start (m := m) (Y := (l.length : Int) + (n : Int)) h e0 hX (by omega) (by rw [hm]; exact pack_append l _))
  have HMB := Lib.hid hmb
  have HM := Lib.hid hm
  have hml1 : m.length ≤ l.length + n := by omega
  have hml2 : l.length + n ≤ m.length := by omega
  clear hX hm hml hmb hp hxm hxm0 e0 e0o e0g e1 e2 f0 f1 f2 r0 hb0
  go_loopw [7] (fun s7 wr => ∃ (j : Nat) (v : Value), l.length / 8 ≤ j ∧ j ≤ m.length / 8 ∧ s7 = .int .i64 (((j : Int) + 1) * 8) ∧ Hid (PutS w wr base p m g v j)) (fun s7 _ => 8 * m.length + 16 - (RowKit.intOf s7).toNat)
  case atStart => exact ⟨l.length / 8, _, Nat.le_refl _, by omega, by go_num, PS⟩
  case round =>
    clear PS
    obtain ⟨j, v, hj0, hj1, rfl, PS⟩ := hrel
    have c0 := PS.out.c0
    have c1 := PS.out.c1
    have c2 := PS.out.c2
    have f0 := PS.out.f0
    by_cases hlt : j < m.length / 8
    · obtain ⟨s, hs⟩ : ∃ s, 8 * j + 8 + s = m.length := ⟨m.length - (8 * j + 8), by omega⟩
      have hs15 : s ≤ 15 := by omega
      have HO := Lib.hid (shr_oct HMB.out hs hs15)
      have hsub : (m.length : Int) - ((j : Int) + 1) * 8 = (s : Int) := by omega
      have hsub2 : IntKind.i64.wrap ((m.length : Int) - ((j : Int) + 1) * 8) = (s : Int) := by rw [hsub]; exact IntWalk.i64_in _ (by omega)
      clear hs
      have HT := Lib.hid (pack_take_succ (l := m) (k := j) hlt)
      have hlp : ((pack m).take j).length ≤ j := List.length_take_le ..
      have hw0 := PS.out.ch.size
      have PSA := Lib.hid (PS.out.below ((Below.refl wr.heap.size wr).alloc (Nat.le_refl _) (.cells #[.int .u8 (IntKind.u8.wrap (val m % 4294967296 / 2 ^ s))] 5)).drew)
      have ca0 := (PS.out.below ((Below.refl wr.heap.size wr).alloc (Nat.le_refl _) (.cells #[.int .u8 (IntKind.u8.wrap (val m % 4294967296 / 2 ^ s))] 5))).c0
      have r1 := Lib.hid (Rd.one wr 5 (IntKind.u8.wrap (val m % 4294967296 / 2 ^ s)) (UInt8.ofNat (oct m j).toNat) (by
        have := oct_rng HMB.out j
        rw [IntKind.wrap_u8, HO.out]
        exact (ofNat_num this.1 this.2).symm)).drew
      have hbw2 : base ≤ wr.heap.size := by omega
      clear PS
      go_wp2_with fail
      clear hsub
      go_region_law (refine step_appB (by rfl) (.tmp 57) (.tmp 70) (by rfl) base v (.slice (some ⟨wr.heap.size, 0, none⟩) 1 1) ((pack m).take j) (by go_simp) (some ⟨wr.heap.size, 0, none⟩) 1 1 [UInt8.ofNat (oct m j).toNat] (by go_simp) rfl rfl PSA.out.ob r1.out (by simp; omega) (by simp; omega) ?_; intro v3 w3 ho3 hg3 hb3; obtain ⟨k0, q0⟩ := PSA.out.kept hg3; have PS3 := Lib.hid (PSA.out.step HT.out (by simp; omega) ho3 hg3 hb3); obtain ⟨A3, n3, c3, hv3⟩ := ho3.slice; clear ho3 hg3 hb3; subst hv3)
      all_goals
        go_wp2
        go_roundw
        case rel => exact ⟨j + 1, _, by omega, by omega, by go_num, PS3⟩
        case measure => simp [RowKit.intOf]; omega
    · go_wp2
      go_ret
      have hw := PS.out.done (by omega) HMB.out h.bp
      rw [HM.out] at hw
      exact ⟨v.ownBlock, rfl, hw, PS.out.gg, PS.out.ch⟩
end Go.Proofs.YthidhgobocihpaaDoor
