/-
  DERIVED. GIVEN WITH THE SEED: THE CARDS: each row of YtlchdelhhnlgbaaDoorRows.lean that lists a variable, with what it lists TIED to the program's text (the seventh form; the later family's looks); each row that meets fmt, with fmt's text TOLD by the authors' own Lean function (tested against real Go, not proved from fmt's source: count such statements apart). THE CARD IS WHAT COUNTS. Prove the row's statement (the work); the ties are given (YtlchdelhhnlgbaaDoorTie.lean); close each card by the builder's one call (the guide's Derived/Test/ToyasCard.lean, 'card_holds'). Laid BY PROGRAM, IN A SANDBOX (cutbox-door.mjs). By AI agents, Wed Nov 11 2026. No macro, syntax, notation, axiom, sorry.
-/
import Derived.Test.YtlchdelhhnlgbaaDoorRows
import GoSem.ClaimSeven
namespace Go.Proofs.YtlchdelhhnlgbaaDoor
namespace Rows

/-- THE TIED CARD OF 'tintypelaw07.CosineFactors'. -/
def cosineFactorsCard : Claim7 := { stood := { row := cosineFactorsRow, standIns := [], harness := (true, "de805b93aa0cea75f918a79aa2e3e938ac813d0ebe4f4d990e7e05e72426522f"), looks := false }, kinds := [], alts := [], laidByText := true, laidKinds := [.data], laidTests := true, laidLooks := .later }
def CosineFactorsCardSaid : Prop := Claim7.holds Tryd.pinned (.plain (OpenSpec.ofChange cosineFactorsSpec)) cosineFactorsCard

/-- THE TIED CARD OF 'tintypelaw07.CosineDoes'. -/
def cosineDoesCard : Claim7 := { stood := { row := cosineDoesRow, standIns := [], harness := (true, "de805b93aa0cea75f918a79aa2e3e938ac813d0ebe4f4d990e7e05e72426522f"), looks := false }, kinds := [], alts := [], laidByText := true, laidKinds := [.data], laidTests := true, laidLooks := .later }
def CosineDoesCardSaid : Prop := Claim7.holds Tryd.pinned (.plain (OpenSpec.ofChange cosineDoesSpec)) cosineDoesCard

/-- THE TIED CARD OF 'tintypelaw07.CosineNear'. -/
def cosineNearCard : Claim7 := { stood := { row := cosineNearRow, standIns := [], harness := (true, "de805b93aa0cea75f918a79aa2e3e938ac813d0ebe4f4d990e7e05e72426522f"), looks := false }, kinds := [], alts := [], laidByText := true, laidKinds := [.data], laidTests := true, laidLooks := .later }
def CosineNearCardSaid : Prop := Claim7.holds Tryd.pinned (.plain (OpenSpec.ofChange cosineNearSpec)) cosineNearCard

/-- THE TIED CARD OF 'tintypelaw07.CosineBack'. -/
def cosineBackCard : Claim7 := { stood := { row := cosineBackRow, standIns := [], harness := (true, "de805b93aa0cea75f918a79aa2e3e938ac813d0ebe4f4d990e7e05e72426522f"), looks := false }, kinds := [], alts := [], laidByText := true, laidKinds := [.data], laidTests := true, laidLooks := .later }
def CosineBackCardSaid : Prop := Claim7.holds Tryd.pinned (.plain (OpenSpec.ofChange cosineBackSpec)) cosineBackCard

/-- THE SECOND FORM's CARD OF 'tintypelaw07.CosineFactors'. -/
def cosineFactorsUptoCard : Claim7 := { stood := { row := cosineFactorsUptoRow, standIns := [], harness := (true, "de805b93aa0cea75f918a79aa2e3e938ac813d0ebe4f4d990e7e05e72426522f"), looks := false }, kinds := [], alts := [], laidByText := true, laidKinds := [.data], laidTests := true, laidLooks := .later }
def CosineFactorsUptoCardSaid : Prop := Claim7.holds Tryd.pinned (.plain (OpenSpec.upto cosineFactorsSpec)) cosineFactorsUptoCard

/-- THE SECOND FORM's CARD OF 'tintypelaw07.CosineDoes'. -/
def cosineDoesUptoCard : Claim7 := { stood := { row := cosineDoesUptoRow, standIns := [], harness := (true, "de805b93aa0cea75f918a79aa2e3e938ac813d0ebe4f4d990e7e05e72426522f"), looks := false }, kinds := [], alts := [], laidByText := true, laidKinds := [.data], laidTests := true, laidLooks := .later }
def CosineDoesUptoCardSaid : Prop := Claim7.holds Tryd.pinned (.plain (OpenSpec.upto cosineDoesSpec)) cosineDoesUptoCard

/-- THE SECOND FORM's CARD OF 'tintypelaw07.CosineNear'. -/
def cosineNearUptoCard : Claim7 := { stood := { row := cosineNearUptoRow, standIns := [], harness := (true, "de805b93aa0cea75f918a79aa2e3e938ac813d0ebe4f4d990e7e05e72426522f"), looks := false }, kinds := [], alts := [], laidByText := true, laidKinds := [.data], laidTests := true, laidLooks := .later }
def CosineNearUptoCardSaid : Prop := Claim7.holds Tryd.pinned (.plain (OpenSpec.upto cosineNearSpec)) cosineNearUptoCard

/-- THE SECOND FORM's CARD OF 'tintypelaw07.CosineBack'. -/
def cosineBackUptoCard : Claim7 := { stood := { row := cosineBackUptoRow, standIns := [], harness := (true, "de805b93aa0cea75f918a79aa2e3e938ac813d0ebe4f4d990e7e05e72426522f"), looks := false }, kinds := [], alts := [], laidByText := true, laidKinds := [.data], laidTests := true, laidLooks := .later }
def CosineBackUptoCardSaid : Prop := Claim7.holds Tryd.pinned (.plain (OpenSpec.upto cosineBackSpec)) cosineBackUptoCard
end Rows
end Go.Proofs.YtlchdelhhnlgbaaDoor
