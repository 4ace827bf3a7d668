/- bytes.Replace of all instances of one byte by two, of two by one: new memory, the bytes by Lib.replaceK. -/
import Derived.Test.YtkkkonmbbdhdhaaGreatDoorBEnv
import Derived.Deep.RegionLaw
namespace Go.Proofs.YtkkkonmbbdhdhaaGreatDoor
open Go.RowKit Go.Lib
set_option linter.unusedVariables false
set_option maxRecDepth 100000

/-- n zero bytes. -/
def zeroRow (n : Nat) : Array Value := ((List.range n).map fun _ => Value.int .u8 0).toArray
theorem zeroRow_size (n : Nat) : (zeroRow n).size = n := by simp [zeroRow]
theorem zero_made (n : Nat) : madeCells #[Value.int .u8 0] (n * 1) = zeroRow n := by
  apply Array.ext
  · simp [zeroRow, size_madeCells]
  · intro i h1 h2
    simp [zeroRow, madeCells, Nat.mod_one]
theorem run_makeB (n : Nat) (x : Int) (hx : x = (n : Int)) (hn : n ≤ 1000000000) (w : World) :
    (Instr.makeSlice 26 (.int .i64 x) (.int .i64 x)).run Tryz.prog w = .ok (.slice (some ⟨w.heap.size, 0, none⟩) n n) (w.alloc (.cells (zeroRow n) 5)) := by
  subst hx
  obtain ⟨i0, hi, hz0, hz1, hz2⟩ := info_parts Tryz.info5
  have hr := run_make (P := Tryz.prog) w 26 5 i0 (.int .u8 0) Tryz.underlying26 hi hz0 .i64 .i64 n n (by omega) (by omega) (by rw [hz2]; omega) (by omega)
  simp only [Int.toNat_natCast, hz1] at hr
  rw [← zero_made]
  exact hr

/-- Nothing to replace: a copy. -/
theorem repl_none (l : List UInt8) (A : Option Addr) (c b2 o2 d b3 o3 e3 : Nat) (o nw : List UInt8) (w : World) (hw : Env w) (hr : Rd w A l) (hcap : l.length ≤ c) (hA : A = none → c = 0) (ho : 1 ≤ o.length) (hol : o.length ≤ 2)
    (hr2 : Rd w (some ⟨b2, o2, none⟩) o) (hl : l.length ≤ 100000000) (hK : Hid (count l o = 0)) :
    Calls Tryz.prog 50 #[.slice A l.length c, .slice (some ⟨b2, o2, none⟩) o.length d, .slice (some ⟨b3, o3, none⟩) nw.length e3, .int .i64 (-1)] w fun e w' => ∃ v, e = .returned v ∧ Ob w' w.heap.size v l ∧ Below w.heap.size w w' := by
  have hc := count_any l A c b2 o2 d o w hw hr hcap hA ho hol hr2 (by omega)
  rw [hK.out, Int.natCast_zero] at hc
  go_enter Tryz.func50, Tryz.ntmps50
  go_wp2_with (first
    | ((with_reducible refine hc.mono ?_); rintro e w' ⟨rfl, q, hq⟩; subst hq)
    | (at_builtin
       (with_reducible refine wpList_appB _ rfl _ _ rfl w.heap.size (.slice none 0 0) [] rfl (Ob.nil _ _) A l.length c l rfl rfl (hr.drewN _) (by simp; omega) (by simp) ?_)
       intro v1 w1 hown1 hb1 _))
  go_ret
  exact ⟨v1, rfl, hown1, (below_drewN w q).grown hb1 (by simp) (by simp [Value.ownBlock])⟩

/-- A new row of N bytes of which the first are written. -/
def BufR (w : World) (g N : Nat) (acc : List UInt8) : Prop := acc.length ≤ N ∧ w.heap[g]? = some (.cells (acc.map bv ++ List.replicate (N - acc.length) (Value.int .u8 0)).toArray 5 (0, 0))
theorem BufR.drewN {w : World} {g N : Nat} {acc : List UInt8} (h : BufR w g N acc) (n : Nat) : BufR (w.drewN n) g N acc := ⟨h.1, h.2⟩
theorem BufR.drew {w : World} {g N : Nat} {acc : List UInt8} (h : BufR w g N acc) : BufR w.drew g N acc := ⟨h.1, h.2⟩
theorem BufR.start (w : World) (N : Nat) : BufR (w.alloc (.cells (zeroRow N) 5)) w.heap.size N [] := by
  refine ⟨Nat.zero_le _, ?_⟩
  rw [heap_alloc_new]
  congr 2
  apply Array.ext
  · simp [zeroRow]
  · intro i h1 h2
    simp [zeroRow]
theorem BufR.full {w : World} {g base : Nat} {l : List UInt8} (h : BufR w g l.length l) (hb : base ≤ g) (hm : l.length ≤ maxLen) : Ob w base (.slice (some ⟨g, 0, none⟩) l.length l.length) l := by
  refine ⟨by simp, .inr ⟨g, l.length, _, rfl, hb, h.2, Nat.le_refl _, hm, by simp, by simp; exact List.take_of_length_le (by simp)⟩⟩
theorem BufR.lt {w : World} {g N : Nat} {acc : List UInt8} (h : BufR w g N acc) : g < w.heap.size := by
  rcases Nat.lt_or_ge g w.heap.size with k | k
  · exact k
  · have := h.2; rw [Array.getElem?_eq_none k] at this; cases this
theorem sizeU8 : (Tryz.prog.info? 5).map (·.size) = some 1 := by kernel_rfl
theorem splice_buf (acc l : List UInt8) (N : Nat) (h : acc.length + l.length ≤ N) :
    splice (acc.map bv ++ List.replicate (N - acc.length) (Value.int .u8 0)) acc.length (l.map bv) = (acc ++ l).map bv ++ List.replicate (N - (acc ++ l).length) (Value.int .u8 0) := by
  unfold splice
  rw [List.take_append_of_le_length (by simp), List.take_of_length_le (by simp), List.drop_append, List.length_map, List.drop_eq_nil_of_le (by simp), List.nil_append, List.drop_replicate, List.map_append, List.append_assoc, List.length_map, List.length_append]
  congr 3
  omega
/-- copy(t[k:], v), k bytes of t being written. -/
theorem wpList_copyT (w : World) {ops : Array Oper} {rest : List Oper} {o : Oper} {a : Act} {Q : Exit → Act → World → Prop} (hgd : o.guard = none) (d s : Operand)
    (ho : o.op = .call { callee := .builtin .copy, args := #[d, s], argTypes := #[26, 26] })
    (g N k : Nat) (acc : List UInt8) (A : Option Addr) (l : List UInt8) (n c : Nat) (v u : Value) (hd : a.eval d = v) (hs : a.eval s = u) (hv : v = tailV g N k) (hu : u = .slice A n c) (hk : k = acc.length) (hn : n = l.length)
    (hb : BufR w g N acc) (hr : Rd w A l) (hfit : acc.length + l.length ≤ N) (B : Nat) (w0 : World) (hbel : Below B w0 w) (hBg : B ≤ g)
    (h : ∀ w', BufR w' g N (acc ++ l) → Below B w0 w' → wpList Tryz.prog ops Q rest (a.put o.dst (.int .i64 n)) w') : wpList Tryz.prog ops Q (o :: rest) a w := by
  subst hv hu hk hn
  refine wpList_copy_splice hgd d s 26 26 ho 5 Tryz.underlying26 sizeU8 _ A _ _ l.length c (by rw [hd]; unfold tailV; rfl) hs g acc.length _ 5 hb.2 (l.map bv) ?_ ?_ ?_ (bv_one l) B w0 hbel hBg ?_
  · rw [List.length_map]; exact (Nat.min_eq_left (by omega)).symm
  · intro hpos
    rw [List.length_map] at hpos
    obtain ⟨b, off, rfl, hc⟩ := hr.at hpos
    refine ⟨by rw [if_neg (by omega)], _, rfl, fun j v hv => ?_⟩
    obtain ⟨hj, rfl⟩ := bv_at hv
    rw [Addr.add_lit]
    exact hc j hj
  · simp; omega
  · intro w' hh hbel'
    have := h w' ⟨by rw [List.length_append]; exact hfit, by rw [← splice_buf acc l N hfit]; exact hh⟩ hbel'
    rw [List.length_map]
    exact this
/-- The same at a step of a region that draws its order. -/
theorem step_copyT {w : World} {ops : Array Oper} {o : Oper} {a : Act} {K : Act → World → Prop} {Q : Exit → Act → World → Prop} {E : Prop} (hgd : o.guard = none) (d s : Operand)
    (ho : o.op = .call { callee := .builtin .copy, args := #[d, s], argTypes := #[26, 26] })
    (g N k : Nat) (acc : List UInt8) (A : Option Addr) (l : List UInt8) (n c : Nat) (v u : Value) (hd : a.eval d = v) (hs : a.eval s = u) (hv : v = tailV g N k) (hu : u = .slice A n c) (hk : k = acc.length) (hn : n = l.length)
    (hb : BufR w g N acc) (hr : Rd w A l) (hfit : acc.length + l.length ≤ N) (B : Nat) (w0 : World) (hbel : Below B w0 w) (hBg : B ≤ g)
    (h : ∀ w', BufR w' g N (acc ++ l) → Below B w0 w' → K (a.put o.dst (.int .i64 n)) w') : if Region.wanted o (yielded ops a.tmps) = true then Oper.wp Tryz.prog o a w K Q else E := by
  subst hv hu hk hn
  refine step_copy_splice hgd d s 26 26 ho 5 Tryz.underlying26 sizeU8 _ A _ _ l.length c (by rw [hd]; unfold tailV; rfl) hs g acc.length _ 5 hb.2 (l.map bv) ?_ ?_ ?_ (bv_one l) B w0 hbel hBg ?_
  · rw [List.length_map]; exact (Nat.min_eq_left (by omega)).symm
  · intro hpos
    rw [List.length_map] at hpos
    obtain ⟨b, off, rfl, hc⟩ := hr.at hpos
    refine ⟨by rw [if_neg (by omega)], _, rfl, fun j v hv => ?_⟩
    obtain ⟨hj, rfl⟩ := bv_at hv
    rw [Addr.add_lit]
    exact hc j hj
  · simp; omega
  · intro w' hh hbel'
    have := h w' ⟨by rw [List.length_append]; exact hfit, by rw [← splice_buf acc l N hfit]; exact hh⟩ hbel'
    rw [List.length_map]
    exact this
/-- Where a part of a slice begins. -/
def winA (A : Option Addr) (c x : Nat) : Option Addr := if c = x then A else A.map (·.add x)
theorem run_win_l (A : Option Addr) (n c x : Nat) (z : Int) (hz : z = (x : Int)) (hx : x ≤ n) (W : World) : (Instr.slice 26 (.slice A n c) (some (.int .i64 z)) none none).run Tryz.prog W = .ok (.slice (winA A c x) (n - x) (c - x)) W := by
  subst hz
  have ht' : Tryz.prog.underlying 26 = some (.slice (Tryz.prog.elem 26)) := by kernel_rfl
  have he : Tryz.prog.elem 26 = 5 := by kernel_rfl
  rw [run_slice_l W 26 _ _ _ ht' .i64 _ (by omega) (by omega), he, Go.sizeOf]
  obtain ⟨i0, hi, hz0, hz1, hz2⟩ := info_parts Tryz.info5
  simp [typeInfo, hi, hz1, Result.andThen, sliced, winA]
theorem run_win_lh (A : Option Addr) (n c x y : Nat) (z u : Int) (hz : z = (x : Int)) (hu : u = (y : Int)) (hx : x ≤ y) (hy : y ≤ c) (W : World) : (Instr.slice 26 (.slice A n c) (some (.int .i64 z)) (some (.int .i64 u)) none).run Tryz.prog W = .ok (.slice (winA A c x) (y - x) (c - x)) W := by
  subst hz hu
  have ht' : Tryz.prog.underlying 26 = some (.slice (Tryz.prog.elem 26)) := by kernel_rfl
  have he : Tryz.prog.elem 26 = 5 := by kernel_rfl
  rw [run_slice_lh W 26 _ _ _ ht' .i64 .i64 _ _ (by omega) (by omega) (by omega), he, Go.sizeOf]
  obtain ⟨i0, hi, hz0, hz1, hz2⟩ := info_parts Tryz.info5
  simp [typeInfo, hi, hz1, Result.andThen, sliced, winA]
theorem run_win_h (A : Option Addr) (n c y : Nat) (u : Int) (hu : u = (y : Int)) (hy : y ≤ c) (W : World) : (Instr.slice 26 (.slice A n c) none (some (.int .i64 u)) none).run Tryz.prog W = .ok (.slice (winA A c 0) y c) W := by
  subst hu
  have ht' : Tryz.prog.underlying 26 = some (.slice (Tryz.prog.elem 26)) := by kernel_rfl
  have he : Tryz.prog.elem 26 = 5 := by kernel_rfl
  rw [run_slice_h W 26 _ _ _ ht' .i64 _ (by omega) (by omega), he, Go.sizeOf]
  obtain ⟨i0, hi, hz0, hz1, hz2⟩ := info_parts Tryz.info5
  simp [typeInfo, hi, hz1, Result.andThen, sliced, winA]
theorem tailV_eq (g N k : Nat) : (.slice (winA (some ⟨g, 0, none⟩) N k) (N - k) (N - k) : Value) = tailV g N k := by
  unfold winA tailV
  split
  · rfl
  · by_cases h0 : k = 0
    · subst h0; simp [Addr.add]
    · simp [Addr.add, h0]
theorem Rd.win {w : World} {A : Option Addr} {l : List UInt8} (h : Rd w A l) (c x n : Nat) (hc : l.length ≤ c) : Rd w (winA A c x) ((l.drop x).take n) := by
  by_cases h0 : (l.drop x).take n = []
  · exact .inl h0
  · have hx : x < l.length := by
      rcases Nat.lt_or_ge x l.length with k | k
      · exact k
      · exact absurd (by rw [List.drop_eq_nil_of_le k]; simp) h0
    obtain ⟨b, o, rfl, hcell⟩ := h.at (by omega)
    refine .inr ⟨b, o + x, ?_, fun i hi => ?_⟩
    · unfold winA
      rw [if_neg (by omega)]
      show some (Addr.add _ _) = _
      rw [Addr.add_lit]
    · have hi2 : i < n ∧ x + i < l.length := by rw [List.length_take, List.length_drop] at hi; omega
      rw [Nat.add_assoc, hcell (x + i) hi2.2]
      congr 2
      unfold bt
      congr 2
      rw [List.getD_eq_getElem?_getD, List.getD_eq_getElem?_getD, List.getElem?_take_of_lt hi2.1, List.getElem?_drop]
end Go.Proofs.YtkkkonmbbdhdhaaGreatDoor
