/- What the library's calls ask of the world (three of its tables and errors, one number), kept below the call's own blocks; those calls, by the shelf's contracts. -/
import Derived.Test.YtnhophjahjphiaaDoorShelf
import Derived.Test.YtnhophjahjphiaaDoorRows
import Derived.Test.YtnhophjahjphiaaDoorTxtP
import Derived.Lib.AtoiErrMem
import Derived.Lib.ConvBytes
import Derived.Sort.Grow
import Derived.Below
import Derived.Lib.Hide
import Derived.Handy
namespace Go.Proofs.YtnhophjahjphiaaDoor
open Go.RowKit

/-- The cells of a block. -/
def blk (w : World) (g : Nat) : Option (Array Value) := match w.heap[g]? with
  | some (.cells cs _ _) => some cs
  | _ => none
theorem blk_lt {w : World} {g : Nat} {cs : Array Value} (h : blk w g = some cs) : g < w.heap.size := by
  rcases Nat.lt_or_ge g w.heap.size with k | k
  · exact k
  · unfold blk at h; rw [Array.getElem?_eq_none k] at h; cases h
theorem blk_below {w w' : World} {g : Nat} {cs : Array Value} (h : blk w g = some cs) (hb : Below w.heap.size w w') : blk w' g = some cs := by
  have := blk_lt h
  unfold blk at h ⊢
  rw [hb.block g this]
  exact h
theorem blk_cell {w : World} {g : Nat} {v : Value} (h : blk w g = some #[v]) : w.cell? ⟨g, 0, none⟩ = some v := by
  unfold blk at h
  unfold World.cell?
  split at h
  · rename_i heq
    injection h with h
    subst h
    simp [heq]
  · cases h
theorem var_of {P : Program} {w : World} {n : String} {g : Nat} {cs : Array Value} (hg : P.globalNamed n = some g) (h : blk w g = some cs) : w.var? P n = some cs := by
  unfold World.var?
  rw [hg]
  exact h
theorem tab_of {P : Program} {w : World} {n : String} {g : Nat} {k : IntKind} {zs : List Int} (hg : P.globalNamed n = some g) (h : blk w g = some (zs.map fun z => Value.int k z).toArray) : Lib.TabIs P w n k zs := var_of hg h
theorem blk_of_var {P : Program} {w : World} {n : String} {g : Nat} {cs : Array Value} (hg : P.globalNamed n = some g) (h : w.var? P n = some cs) : blk w g = some cs := by
  unfold World.var? at h
  rw [hg] at h
  exact h

structure Env (w : World) : Prop where
  tab : blk w 3 = some (Lib.pow10Tab.map fun z => Value.int .u64 z).toArray
  syn : ∃ tp p, blk w 0 = some #[.iface tp p]
  rng : ∃ tp p, blk w 1 = some #[.iface tp p]
  mx : ∃ m, blk w 2 = some #[.int .i64 m]
theorem Env.below {w w' : World} (h : Env w) (hb : Below w.heap.size w w') : Env w' := by
  obtain ⟨h1, ⟨t2, p2, h2⟩, ⟨t3, p3, h3⟩, ⟨m, h4⟩⟩ := h
  exact ⟨blk_below h1 hb, ⟨t2, p2, blk_below h2 hb⟩, ⟨t3, p3, blk_below h3 hb⟩, ⟨m, blk_below h4 hb⟩⟩
theorem Env.alloc {w : World} (h : Env w) (o : Obj) : Env (w.alloc o) := h.below ((Below.refl _ _).alloc (Nat.le_refl _) o)
theorem Env.drew {w : World} (h : Env w) : Env w.drew := h.below (Below.refl _ _).drew

theorem below_drewN (w : World) (n : Nat) : Below w.heap.size w (w.drewN n) := ⟨rfl, rfl, rfl, Nat.le_refl _, fun _ _ => rfl⟩
theorem below_grow (w : World) (k : Nat) (os : Array Obj) : Below w.heap.size w (Sort.grow (w.drewN k) os) :=
  ⟨rfl, rfl, rfl, by simp [Sort.grow, World.drewN], fun i hi => by rw [Sort.heap_grow_old (w.drewN k) os hi]; rfl⟩

def strB (l : List UInt8) : ByteArray := ⟨l.toArray⟩
theorem strB_list (l : List UInt8) : (strB l).data.toList = l := rfl
theorem strB_size (l : List UInt8) : (strB l).size = l.length := by show l.toArray.size = _; simp

/-- strconv.Itoa. -/
theorem itoa_any (n : Int) (w : World) (hw : Env w) (h0 : -9223372036854775808 ≤ n) (h1 : n ≤ 9223372036854775807) :
    Calls Tryd.prog 26 #[.int .i64 n] w fun e w' => e = .returned (.string (strB (Lib.itoa n))) ∧ Below w.heap.size w w' := by
  refine (Any.strconv_Itoa Tryd.laysm171 n h0 h1 w (tab_of (g := 3) (by kernel_rfl) hw.tab)).mono ?_
  rintro e w' ⟨rfl, k, os, rfl⟩
  exact ⟨rfl, below_grow _ _ _⟩

/-- strings.Cut at a slash. -/
theorem cut_any (s : ByteArray) (w : World) (hw : Env w) (hs : s.size ≤ 4000000000) :
    Calls Tryd.prog 27 #[.string s, .string ⟨#[47]⟩] w fun e w' => (∃ b, e = .returned (.tuple #[.string (strB (befS s.data.toList)), .string (strB (aftS s.data.toList)), .bool b])) ∧ Below w.heap.size w w' := by
  obtain ⟨m, hm⟩ := hw.mx
  refine (Any.strings_Cut Tryd.lays145 s ⟨#[47]⟩ m w (by omega) (blk_cell hm)).mono ?_
  rintro e w' ⟨rfl, n, rfl⟩
  obtain ⟨e1, e2⟩ := cut_slash s.data.toList
  refine ⟨⟨(Lib.cut s.data.toList [47]).2.2, ?_⟩, below_drewN _ _⟩
  show Ending.returned (.tuple #[.string ⟨(Lib.cut s.data.toList [47]).1.toArray⟩, .string ⟨(Lib.cut s.data.toList [47]).2.1.toArray⟩, .bool (Lib.cut s.data.toList [47]).2.2]) = _
  rw [e1, e2]
  rfl

/-- The number that strconv.Atoi hands over, and whether it is one. -/
def atoiN (l : List UInt8) : Int := match Lib.atoiAll l with
  | .ok v => v
  | .range => Lib.atoiSat l
  | _ => 0
def atoiB (l : List UInt8) : Bool := match Lib.atoiAll l with
  | .ok _ => true
  | _ => false
/-- What strconv.Atoi answers: a number, and nil or an error. -/
def Atoid (l : List UInt8) (w : World) (e : Ending) (w' : World) : Prop := (∃ ev, e = .returned (.tuple #[.int .i64 (atoiN l), ev]) ∧ ((atoiB l = true ∧ ev = .nilIface) ∨ (atoiB l = false ∧ ∃ t v, ev = .iface t v))) ∧ Below w.heap.size w w'
theorem atoi_any (s : ByteArray) (w : World) (hw : Env w) (hs : s.size ≤ 4000000000) :
    Calls Tryd.prog 25 #[.string s] w (Atoid s.data.toList w) := by
  obtain ⟨ts, ps, hsyn⟩ := hw.syn
  obtain ⟨tr, pr, hrng⟩ := hw.rng
  rcases h : Lib.atoiAll s.data.toList with v | _ | _
  · have e1 : atoiN s.data.toList = v := by unfold atoiN; rw [h]
    have e2 : atoiB s.data.toList = true := by unfold atoiB; rw [h]
    refine (Any.strconv_Atoi_ok Tryd.laysc172 s (by omega) v h w).mono ?_
    rintro e w' ⟨rfl, hwx⟩
    refine ⟨⟨_, by rw [e1], .inl ⟨e2, rfl⟩⟩, ?_⟩
    rcases hwx with rfl | ⟨t, rfl⟩
    · exact Below.refl _ _
    · exact Lib.bytesWorld_below _ _ _
  · have e1 : atoiN s.data.toList = 0 := by unfold atoiN; rw [h]
    have e2 : atoiB s.data.toList = false := by unfold atoiB; rw [h]
    refine (Any.strconv_Atoi_syntax_var Tryd.laysc172 s (by omega) h ts ps w (var_of (g := 0) (by kernel_rfl) hsyn)).mono ?_
    rintro e w' ⟨N, rfl, _, _, hb⟩
    exact ⟨⟨_, by rw [e1], .inr ⟨e2, _, _, rfl⟩⟩, hb⟩
  · have e1 : atoiN s.data.toList = Lib.atoiSat s.data.toList := by unfold atoiN; rw [h]
    have e2 : atoiB s.data.toList = false := by unfold atoiB; rw [h]
    refine (Any.strconv_Atoi_range_var Tryd.laysc172 s (by omega) h tr pr w (var_of (g := 1) (by kernel_rfl) hrng)).mono ?_
    rintro e w' ⟨N, rfl, _, _, hb⟩
    exact ⟨⟨_, by rw [e1], .inr ⟨e2, _, _, rfl⟩⟩, hb⟩
theorem atoi_rng (l : List UInt8) : -9223372036854775808 ≤ atoiN l ∧ atoiN l ≤ 9223372036854775807 := by
  unfold atoiN
  split
  · rename_i h; exact Lib.atoiAll_bounds h
  · unfold Lib.atoiSat; split <;> omega
  · omega
theorem numC_atoi (l : List UInt8) : numC l = if atoiB l = true ∧ Lib.itoa (atoiN l) = l then some (atoiN l) else none := by
  unfold numC atoiB atoiN
  rcases Lib.atoiAll l with v | _ | _
  · show (if Lib.itoa v = l then some v else none) = if true = true ∧ Lib.itoa v = l then some v else none
    simp
  · show none = if false = true ∧ _ then _ else _
    simp
  · show none = if false = true ∧ _ then _ else _
    simp

/-- cmp.Compare at int; math/bits.Mul64. -/
theorem cmpInt_any (x y : Int) (w : World) : Calls Tryd.prog 36 #[.int .i64 x, .int .i64 y] w fun e w' => e = .returned (.int .i64 (Lib.compareInt x y)) ∧ w = w' := by
  refine (Any.cmp_Compare_int Tryd.lays122 x y w).mono ?_
  rintro e w' ⟨rfl, rfl⟩
  exact ⟨rfl, rfl⟩
theorem mul64_any (x y : Nat) (hx : x < 18446744073709551616) (hy : y < 18446744073709551616) (w : World) :
    Calls Tryd.prog 53 #[.int .u64 x, .int .u64 y] w fun e w' => e = .returned (.tuple #[.int .u64 ((x * y / 18446744073709551616 : Nat) : Int), .int .u64 ((x * y % 18446744073709551616 : Nat) : Int)]) ∧ w = w' := by
  refine (Any.bits_Mul64 Tryd.lays264 x y hx hy w).mono ?_
  rintro e w' ⟨rfl, rfl⟩
  exact ⟨rfl, rfl⟩
/-- A block of the call's own that holds a pair of numbers. -/
structure Bx (w : World) (b : Nat) (n d : Int) : Prop where
  c0 : w.cell? ⟨b, 0, none⟩ = some (.int .i64 n)
  c1 : w.cell? ⟨b, 1, none⟩ = some (.int .i64 d)
  lt : b < w.heap.size
theorem Bx.new (w : World) (n d : Int) (T : TypeId) : Bx (w.alloc (.cells #[.int .i64 n, .int .i64 d] T)) w.heap.size n d := ⟨by go_cell, by go_cell, by simp⟩
theorem Bx.below {w w' : World} {b : Nat} {n d : Int} (h : Bx w b n d) (hb : Below w.heap.size w w') : Bx w' b n d :=
  ⟨(hb.cell (p := ⟨b, 0, none⟩) h.lt).trans h.c0, (hb.cell (p := ⟨b, 1, none⟩) h.lt).trans h.c1, Nat.lt_of_lt_of_le h.lt hb.size⟩
theorem Bx.alloc {w : World} {b : Nat} {n d : Int} (h : Bx w b n d) (o : Obj) : Bx (w.alloc o) b n d := h.below ((Below.refl _ _).alloc (Nat.le_refl _) o)
theorem Bx.drew {w : World} {b : Nat} {n d : Int} (h : Bx w b n d) : Bx w.drew b n d := h.below (Below.refl _ _).drew
/-- Old cells, old marks, old blocks: as rules for the walk. -/
theorem bcell {W w1 : World} (hb : Below W.heap.size W w1) : (∀ b o, b < W.heap.size → w1.cell? ⟨b, o, none⟩ = W.cell? ⟨b, o, none⟩) ∧ (∀ b o, b < W.heap.size → w1.frozen? ⟨b, o, none⟩ = W.frozen? ⟨b, o, none⟩) ∧ (∀ b, b < W.heap.size → b < w1.heap.size) :=
  ⟨fun b o h => hb.cell (p := ⟨b, o, none⟩) h, fun b o h => hb.frozen (p := ⟨b, o, none⟩) h, fun _ h => Nat.lt_of_lt_of_le h hb.size⟩
theorem sz_alloc (w : World) (o : Obj) : (w.alloc o).heap.size = w.heap.size + 1 := by simp
theorem Bx.two (w : World) (n d m e : Int) (T U : TypeId) : Bx ((w.alloc (.cells #[.int .i64 n, .int .i64 d] T)).alloc (.cells #[.int .i64 m, .int .i64 e] U)) w.heap.size n d ∧ Bx ((w.alloc (.cells #[.int .i64 n, .int .i64 d] T)).alloc (.cells #[.int .i64 m, .int .i64 e] U)) (w.heap.size + 1) m e :=
  ⟨(Bx.new w n d T).alloc _, by have := Bx.new (w.alloc (.cells #[.int .i64 n, .int .i64 d] T)) m e U; rwa [sz_alloc] at this⟩
/-- Two steps of what a call leaves as it was. -/
theorem bstep {w w1 w2 : World} (h : Below w.heap.size w w1) (k : Below w1.heap.size w1 w2) : Below w.heap.size w w2 := h.trans (k.mono h.size)
theorem bboxed {w w1 : World} {o : Obj} (k : Below (w.alloc o).heap.size (w.alloc o) w1) : Below w.heap.size w w1 := ((Below.refl w.heap.size w).alloc (Nat.le_refl _) o).trans (k.mono (by simp))
end Go.Proofs.YtnhophjahjphiaaDoor
