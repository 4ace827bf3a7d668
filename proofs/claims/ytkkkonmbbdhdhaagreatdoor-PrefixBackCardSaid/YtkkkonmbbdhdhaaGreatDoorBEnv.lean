/- What bytes.Count and bytes.Index ask of the world (a number stands in internal/bytealg.MaxLen); their contracts over rows of bytes; bytes as a string. -/
import Derived.Test.YtkkkonmbbdhdhaaGreatDoorShelf
import Derived.Test.YtkkkonmbbdhdhaaGreatDoorMem
import Derived.Test.YtkkkonmbbdhdhaaGreatDoorStfP
import Derived.Shelf.Bytes.SlSplit
import Derived.Shelf.Bytes.SlEqualAll
import Derived.Lib.SlBuf
namespace Go.Proofs.YtkkkonmbbdhdhaaGreatDoor
open Go.RowKit Go.Lib
set_option linter.unusedVariables false
set_option maxRecDepth 100000

/-- The cells of a block. -/
def blk (w : World) (g : Nat) : Option (Array Value) := match w.heap[g]? with
  | some (.cells cs _ _) => some cs
  | _ => none
theorem blk_lt {w : World} {g : Nat} {cs : Array Value} (h : blk w g = some cs) : g < w.heap.size := by
  rcases Nat.lt_or_ge g w.heap.size with k | k
  · exact k
  · unfold blk at h; rw [Array.getElem?_eq_none k] at h; cases h
theorem blk_cell {w : World} {g : Nat} {v : Value} (h : blk w g = some #[v]) : w.cell? ⟨g, 0, none⟩ = some v := by
  unfold blk at h
  unfold World.cell?
  split at h
  · rename_i heq
    injection h with h
    subst h
    simp [heq]
  · cases h
/-- What the library's calls ask of the world. -/
structure Env (w : World) : Prop where
  mx : ∃ m, blk w 0 = some #[.int .i64 m]
theorem Env.lt {w : World} (h : Env w) : 0 < w.heap.size := by
  obtain ⟨m, h⟩ := h.mx
  exact blk_lt h
theorem Env.chg {w w' : World} {S : Nat → Prop} (h : Env w) (hb : Chg S w w') (hn : ¬ S 0) : Env w' := by
  obtain ⟨m, h⟩ := h.mx
  refine ⟨m, ?_⟩
  have := blk_lt h
  unfold blk at h ⊢
  rw [hb.block _ this hn]
  exact h
theorem Env.below {w w' : World} (h : Env w) (hb : Below w.heap.size w w') : Env w' := h.chg (Chg.of_below (S := fun _ => False) hb) fun e => e
theorem Env.alloc {w : World} (h : Env w) (o : Obj) : Env (w.alloc o) := h.below ((Below.refl _ _).alloc (Nat.le_refl _) o)
theorem below_drewN (w : World) (n : Nat) : Below w.heap.size w (w.drewN n) := ⟨rfl, rfl, rfl, Nat.le_refl _, fun _ _ => rfl⟩
theorem Env.drewN {w : World} (h : Env w) (n : Nat) : Env (w.drewN n) := h.below (below_drewN w n)
theorem ret_bool {a b : Bool} (h : a = b) : Ending.returned (.bool a) = .returned (.bool b) := by rw [h]
theorem ret_int {k : IntKind} {a b : Int} (h : a = b) : Ending.returned (.int k a) = .returned (.int k b) := by rw [h]

theorem numsL_getD (l : List UInt8) (i : Nat) : (numsL l).getD i 0 = bt l i := by
  unfold numsL bt
  rw [List.getD_eq_getElem?_getD, List.getElem?_map, List.getD_eq_getElem?_getD]
  cases l[i]? <;> rfl
theorem Rd.in {w : World} {A : Option Addr} {l : List UInt8} (h : Rd w A l) : BytesIn w A l.length (numsL l) := fun hn => by
  rcases h with h | ⟨b, o, hA, hc⟩
  · rw [h] at hn; simp at hn
  · exact ⟨b, o, hA, fun i hi => by rw [numsL_getD]; exact hc i hi⟩
theorem Rd.at {w : World} {A : Option Addr} {l : List UInt8} (h : Rd w A l) (hn : 0 < l.length) : ∃ b o, A = some ⟨b, o, none⟩ ∧ ∀ i, i < l.length → w.cell? ⟨b, o + i, none⟩ = some (.int .u8 (bt l i)) :=
  h.resolve_left fun e => by rw [e] at hn; simp at hn

/-- string(b). -/
theorem run_strB (w : World) (l : List UInt8) (A : Option Addr) (c : Nat) (h : Rd w A l) : (convert 26 9 (.slice A l.length c)).run Tryz.prog w = .ok (.string ⟨l.toArray⟩) w := by
  have := h.in.convert (P := Tryz.prog) (numsL_length l) c 26 5 9 Tryz.underlying26 Tryz.underlying5 Tryz.underlying9
  rw [this]
  congr 2
  apply ByteArray.ext
  apply Array.toList_inj.1
  exact bytesOf_numsL l

theorem count_any (l : List UInt8) (A : Option Addr) (c b2 o2 d : Nat) (o : List UInt8) (w : World) (hw : Env w) (hr : Rd w A l) (hcap : l.length ≤ c) (hA : A = none → c = 0) (ho : 1 ≤ o.length) (hol : o.length ≤ 2)
    (hr2 : Rd w (some ⟨b2, o2, none⟩) o) (hl : l.length ≤ 4000000000) :
    Calls Tryz.prog 64 #[.slice A l.length c, .slice (some ⟨b2, o2, none⟩) o.length d] w fun e w' => e = .returned (.int .i64 (count l o)) ∧ ∃ q, w' = w.drewN q := by
  obtain ⟨m, hm⟩ := hw.mx
  obtain ⟨b2', o2', e2, hc2⟩ := hr2.at (by omega)
  injection e2 with e2
  injection e2 with e2 e3
  subst e2 e3
  rcases A with _ | a
  · have hl0 : l = [] := by
      rcases hr with h | ⟨b, o, h, _⟩
      · exact h
      · cases h
    subst hl0
    obtain rfl := hA rfl
    have h0 : count [] o = 0 := ct_nil fun e => by rw [e] at ho; simp at ho
    rw [h0]
    by_cases h1 : o.length = 1
    · rw [h1]
      exact (Any.bytes_Count_one_nil Tryz.sllaysc13.small b2 o2 d _ w (hc2 0 (by omega))).mono fun e w' ⟨he, hw'⟩ => ⟨he, 0, hw'⟩
    · exact (Any.bytes_Count_nil Tryz.sllaysc13 (some ⟨b2, o2, none⟩) o.length d w (by omega) (by omega)).mono fun e w' ⟨he, hw'⟩ => ⟨he, 0, hw'⟩
  · have k := Any.bytes_Count_any Tryz.sllaysc13 a ⟨b2, o2, none⟩ l.length c o.length d (numsL l) (numsL o) m w (numsL_length l) (numsL_length o) (numsL_range l) (numsL_range o)
      (fun i hi => by
        obtain ⟨b, o', h, hc⟩ := hr.at (by omega)
        injection h with h
        subst h
        rw [Addr.add_lit, numsL_getD]; exact hc i hi)
      (fun i hi => by rw [Addr.add_lit, numsL_getD]; exact hc2 i hi) hcap (by omega) (by omega) ho (blk_cell hm)
    rwa [bytesOf_numsL, bytesOf_numsL] at k

theorem index_any (l : List UInt8) (A : Option Addr) (c b2 o2 d : Nat) (o : List UInt8) (w : World) (hw : Env w) (hr : Rd w A l) (hcap : l.length ≤ c) (h0 : 0 < l.length) (ho : 1 ≤ o.length) (hol : o.length ≤ 2)
    (hr2 : Rd w (some ⟨b2, o2, none⟩) o) (hl : l.length ≤ 4000000000) :
    Calls Tryz.prog 65 #[.slice A l.length c, .slice (some ⟨b2, o2, none⟩) o.length d] w fun e w' => e = .returned (.int .i64 (index l o)) ∧ ∃ q, w' = w.drewN q := by
  obtain ⟨m, hm⟩ := hw.mx
  obtain ⟨b2', o2', e2, hc2⟩ := hr2.at (by omega)
  injection e2 with e2
  injection e2 with e2 e3
  subst e2 e3
  obtain ⟨b, o', rfl, hc⟩ := hr.at h0
  have k := Any.bytes_Index_at Tryz.lays185 ⟨b, o', none⟩ ⟨b2, o2, none⟩ l.length c o.length d (numsL l) (numsL o) m w (numsL_length l) (numsL_length o) (numsL_range l) (numsL_range o)
    (fun i hi => by rw [Addr.add_lit, numsL_getD]; exact hc i hi)
    (fun i hi => by rw [Addr.add_lit, numsL_getD]; exact hc2 i hi) hcap (by omega) (by omega) (blk_cell hm)
  rwa [bytesOf_numsL, bytesOf_numsL] at k

theorem hasp (l : List UInt8) (x : UInt8) : hasPrefix l [x] = decide (l.head? = some x) := by
  cases l with
  | nil => rfl
  | cons a l =>
    rw [Bool.eq_iff_iff]
    simp only [hasPrefix, List.isPrefixOf_iff_prefix, List.cons_prefix_cons, List.nil_prefix, and_true, decide_eq_true_eq, List.head?_cons, Option.some.injEq]
    exact eq_comm
theorem hasPrefix_any (l : List UInt8) (A B : Option Addr) (c d : Nat) (x : UInt8) (w : World) (hr : Rd w A l) (hcap : l.length ≤ c) (hr2 : Rd w B [x]) :
    Calls Tryz.prog 41 #[.slice A l.length c, .slice B 1 d] w fun e w' => e = .returned (.bool (decide (l.head? = some x))) ∧ w' = w := by
  have k := Any.bytes_HasPrefix_all Tryz.lays116 A B l.length c 1 d (numsL l) (numsL [x]) w (numsL_length l) rfl hcap hr.in hr2.in
  rwa [bytesOf_numsL, bytesOf_numsL, hasp] at k
end Go.Proofs.YtkkkonmbbdhdhaaGreatDoor
