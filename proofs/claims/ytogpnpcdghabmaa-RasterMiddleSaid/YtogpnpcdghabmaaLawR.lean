/- For plain seats with pictures (api.Raster): what one that came in gives. REUSABLE in each seat with api.Raster. -/
import Derived.Test.YtogpnpcdghabmaaLawB
namespace Go.Proofs.Ytogpnpcdghabmaa
open Go.ChangeShapes Go.WideShapes Go.ChangeAt Go.RowKit
set_option linter.unusedVariables false
theorem Try.cellsRI : Try.prog.cellsOf 3 = 1 := by kernel_rfl
theorem Try.cellsRB : Try.prog.cellsOf 22 = 1 := by kernel_rfl
theorem Try.cellsRR : Try.prog.cellsOf 24 = 3 := by kernel_rfl
section
variable {H : Type} {enc : TypeId × Value → H}
/-- A slice of bytes in a cell that was read. -/
theorem open_cellB {W : World} {u : Value} {fuel : Nat} {x : DataW H × List MemPlace} (hf : DataW.trod enc Try.prog W 0 (fun _ => true) true fuel 22 [u] = some x) :
    ∃ (A : Option Addr) (l : List UInt8) (c : Nat), u = .slice A l.length c ∧ l.length ≤ c ∧ c ≤ maxLen ∧ Rd W A l := by
  rcases open_ints Try.underlying22 Try.underlying5 Try.cells5 hf with ⟨hcs, hx⟩ | ⟨a, len, cap, zs, hcs, _, hl, hm, hz, hx, hcell, hwz⟩
  · simp at hcs
    subst hcs
    exact ⟨none, [], 0, rfl, Nat.le_refl _, Nat.zero_le _, .inl rfl⟩
  · simp at hcs
    subst hcs
    simp only [if_true] at hz
    have hlen : ((zs.take len).map fun n => UInt8.ofNat n.toNat).length = len := by simp; omega
    refine ⟨some a, (zs.take len).map fun n => UInt8.ofNat n.toNat, cap, by rw [hlen], by rw [hlen]; exact hl, hm, ?_⟩
    rcases Nat.eq_zero_or_pos len with h0 | h0
    · exact .inl (List.eq_nil_of_length_eq_zero (by rw [hlen]; exact h0))
    · right
      obtain ⟨ab, ao, spot⟩ := a
      have hspot : spot = none := by simpa [Addr.add] using World.cell?_spot (hcell 0 (by omega))
      subst hspot
      refine ⟨ab, ao, rfl, fun i hi => ?_⟩
      rw [hlen] at hi
      have hc := hcell i (by omega)
      rw [Addr.add_lit] at hc
      rw [hc]
      have hb := range_u8 hwz i
      rw [← List.getD_eq_getElem?_getD] at hb
      have hmi : ((zs.take len).map fun n => UInt8.ofNat n.toNat).getD i 0 = UInt8.ofNat (zs.getD i 0).toNat := by
        have hz2 : i < zs.length := by omega
        simp [List.getD, hi, hz2]
      congr 2
      unfold bt
      rw [hmi, UInt8.toNat_ofNat']
      omega
/-- A picture's value that came in. -/
theorem open_raster {W : World} {base : Nat} {v : Value} {d : DataW H} {p : List MemPlace} (hval : Value.okWide Try.prog W .any base 24 v) (h : DataW.Trod enc Try.prog W 0 (fun _ => true) true 24 v d p) :
    ∃ (a b : Int) (A : Option Addr) (l : List UInt8) (c : Nat), v = .agg #[.int .i64 a, .int .i64 b, .slice A l.length c] ∧ l.length ≤ c ∧ c ≤ maxLen ∧ Rd W A l := by
  obtain ⟨X, rfl, hsz, _⟩ : ∃ X, v = .agg X ∧ X.size = Try.prog.cellsOf 24 ∧ Row.okWide Try.prog W .any base 24 X := by
    simpa [Value.okWide, Try.underlying24] using hval
  rw [Try.cellsRR] at hsz
  obtain ⟨fuel, hf⟩ := h
  obtain ⟨xs, m, _, _, _, hxl, hall⟩ := DataW.trod_struct Try.underlying24 hf
  have hxl2 : xs.length = 3 := hxl
  have h0 := hall 0 { name := "W", type := 3, offset := 0, embedded := false, tag := "", pkgPath := "", byteOffset := 0 } rfl
  have h1 := hall 1 { name := "H", type := 3, offset := 1, embedded := false, tag := "", pkgPath := "", byteOffset := 8 } rfl
  have h2 := hall 2 { name := "Pix", type := 22, offset := 2, embedded := false, tag := "", pkgPath := "", byteOffset := 16 } rfl
  rw [List.getElem?_eq_getElem (by omega)] at h0 h1 h2
  obtain ⟨Y⟩ := X
  rcases Y with _ | ⟨y0, _ | ⟨y1, _ | ⟨y2, _ | ⟨y3, Y⟩⟩⟩⟩
  · simp at hsz
  · simp at hsz
  · simp at hsz
  · simp only [Try.cellsRI, Try.cellsRB, Value.cells, List.drop_zero, List.drop_succ_cons, List.take_succ_cons, List.take_zero] at h0 h1 h2
    obtain ⟨a, e0, _, _⟩ := DataW.trod_int Try.underlying3 h0
    obtain ⟨b, e1, _, _⟩ := DataW.trod_int Try.underlying3 h1
    obtain ⟨A, l, c, e2, hl, hm, hr⟩ := open_cellB h2
    simp only [List.cons.injEq, and_true] at e0 e1
    subst e0 e1 e2
    exact ⟨a, b, A, l, c, rfl, hl, hm, hr⟩
  · simp at hsz
end
end Go.Proofs.Ytogpnpcdghabmaa
