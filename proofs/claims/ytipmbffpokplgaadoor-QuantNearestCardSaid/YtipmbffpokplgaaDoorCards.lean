/-
  DERIVED. GIVEN WITH THE SEED: THE CARDS: each row of YtipmbffpokplgaaDoorRows.lean that lists a variable, with what it lists TIED to the program's text (the seventh form; the later family's looks); each row that meets fmt, with fmt's text TOLD by the authors' own Lean function (tested against real Go, not proved from fmt's source: count such statements apart). THE CARD IS WHAT COUNTS. Prove the row's statement (the work); the ties are given (YtipmbffpokplgaaDoorTie.lean); close each card by the builder's one call (the guide's Derived/Test/ToyasCard.lean, 'card_holds'). Laid BY PROGRAM, IN A SANDBOX (cutbox-door.mjs). By AI agents, Wed Nov 11 2026. No macro, syntax, notation, axiom, sorry.
-/
import Derived.Test.YtipmbffpokplgaaDoorRows
import GoSem.ClaimSeven
namespace Go.Proofs.YtipmbffpokplgaaDoor
namespace Rows

/-- THE TIED CARD OF 'tintypelaw06.QuantTables'. -/
def quantTablesCard : Claim7 := { stood := { row := quantTablesRow, standIns := [], harness := (true, "bf404666f8cff2417568658c2ed1945bf4484f6efa24aa6b0a50fd3403a38a4d"), looks := false }, kinds := [], alts := [], laidByText := true, laidKinds := [.data], laidTests := true, laidLooks := .later }
def QuantTablesCardSaid : Prop := Claim7.holds Tryd.pinned (.plain (OpenSpec.ofChange quantTablesSpec)) quantTablesCard

/-- THE TIED CARD OF 'tintypelaw06.QuantDoes'. -/
def quantDoesCard : Claim7 := { stood := { row := quantDoesRow, standIns := [], harness := (true, "bf404666f8cff2417568658c2ed1945bf4484f6efa24aa6b0a50fd3403a38a4d"), looks := false }, kinds := [], alts := [], laidByText := true, laidKinds := [.data], laidTests := true, laidLooks := .later }
def QuantDoesCardSaid : Prop := Claim7.holds Tryd.pinned (.plain (OpenSpec.ofChange quantDoesSpec)) quantDoesCard

/-- THE TIED CARD OF 'tintypelaw06.QuantNearest'. -/
def quantNearestCard : Claim7 := { stood := { row := quantNearestRow, standIns := [], harness := (true, "bf404666f8cff2417568658c2ed1945bf4484f6efa24aa6b0a50fd3403a38a4d"), looks := false }, kinds := [], alts := [], laidByText := true, laidKinds := [.data], laidTests := true, laidLooks := .later }
def QuantNearestCardSaid : Prop := Claim7.holds Tryd.pinned (.plain (OpenSpec.ofChange quantNearestSpec)) quantNearestCard

/-- THE TIED CARD OF 'tintypelaw06.QuantOrder'. -/
def quantOrderCard : Claim7 := { stood := { row := quantOrderRow, standIns := [], harness := (true, "bf404666f8cff2417568658c2ed1945bf4484f6efa24aa6b0a50fd3403a38a4d"), looks := false }, kinds := [], alts := [], laidByText := true, laidKinds := [.data], laidTests := true, laidLooks := .later }
def QuantOrderCardSaid : Prop := Claim7.holds Tryd.pinned (.plain (OpenSpec.ofChange quantOrderSpec)) quantOrderCard

/-- THE SECOND FORM's CARD OF 'tintypelaw06.QuantTables'. -/
def quantTablesUptoCard : Claim7 := { stood := { row := quantTablesUptoRow, standIns := [], harness := (true, "bf404666f8cff2417568658c2ed1945bf4484f6efa24aa6b0a50fd3403a38a4d"), looks := false }, kinds := [], alts := [], laidByText := true, laidKinds := [.data], laidTests := true, laidLooks := .later }
def QuantTablesUptoCardSaid : Prop := Claim7.holds Tryd.pinned (.plain (OpenSpec.upto quantTablesSpec)) quantTablesUptoCard

/-- THE SECOND FORM's CARD OF 'tintypelaw06.QuantDoes'. -/
def quantDoesUptoCard : Claim7 := { stood := { row := quantDoesUptoRow, standIns := [], harness := (true, "bf404666f8cff2417568658c2ed1945bf4484f6efa24aa6b0a50fd3403a38a4d"), looks := false }, kinds := [], alts := [], laidByText := true, laidKinds := [.data], laidTests := true, laidLooks := .later }
def QuantDoesUptoCardSaid : Prop := Claim7.holds Tryd.pinned (.plain (OpenSpec.upto quantDoesSpec)) quantDoesUptoCard

/-- THE SECOND FORM's CARD OF 'tintypelaw06.QuantNearest'. -/
def quantNearestUptoCard : Claim7 := { stood := { row := quantNearestUptoRow, standIns := [], harness := (true, "bf404666f8cff2417568658c2ed1945bf4484f6efa24aa6b0a50fd3403a38a4d"), looks := false }, kinds := [], alts := [], laidByText := true, laidKinds := [.data], laidTests := true, laidLooks := .later }
def QuantNearestUptoCardSaid : Prop := Claim7.holds Tryd.pinned (.plain (OpenSpec.upto quantNearestSpec)) quantNearestUptoCard

/-- THE SECOND FORM's CARD OF 'tintypelaw06.QuantOrder'. -/
def quantOrderUptoCard : Claim7 := { stood := { row := quantOrderUptoRow, standIns := [], harness := (true, "bf404666f8cff2417568658c2ed1945bf4484f6efa24aa6b0a50fd3403a38a4d"), looks := false }, kinds := [], alts := [], laidByText := true, laidKinds := [.data], laidTests := true, laidLooks := .later }
def QuantOrderUptoCardSaid : Prop := Claim7.holds Tryd.pinned (.plain (OpenSpec.upto quantOrderSpec)) quantOrderUptoCard
end Rows
end Go.Proofs.YtipmbffpokplgaaDoor
