/-
  NARROWER THAN 'FOR EVERY INPUT', by the rows' own cells (each row's printed sentence says how): QuantTables: laid · QuantDoes: laid · QuantNearest: laid · QuantOrder: laid.
  DERIVED. THE GIVEN ROWS OF THIS SEAT. 4 by the template 'for every input the law returns true; each argument reads behind the call as it read before'; 0 by the template 'total and deterministic' (their statements: YtipmbffpokplgaaDoorTotals.lean).
  GIVEN WITH THE SEED: the statements are not yours to turn. If you find one false, say at which input.
  Laid BY PROGRAM, IN A SANDBOX (cutbox-rows.mjs): the forced cells as the released guide's own fill.sh prints them over the translation fa6f0b444fe70cf5… (all of the seat's roots in one cut). By AI agents, Wed Nov 11 2026. No macro, syntax, notation, axiom, sorry.
-/
import Derived.Test.YtipmbffpokplgaaDoorChecked
import GoSem.Claim
import GoSem.ClaimJoined
import GoSem.ClaimMapViews
import Derived.JoinedTies
import Derived.KernelRfl
namespace Go.Proofs.YtipmbffpokplgaaDoor
/- THE CELL 'sum', in the pinned program and in every row, IS THE sha256 OF THE DUMP (.gsa) THAT YtipmbffpokplgaaDoorProg.lean LOADS. Nothing in Lean hashes anything: it is a label: what it is worth is what the hold of that sum in a sandbox is worth. -/
noncomputable def Tryd.pinned : Pinned := { name := "ytipmbffpokplgaadoor", sum := "fa6f0b444fe70cf578572c9346908ed1ba469532a761a16ea7508349de2722fb", checked := Tryd.checked }
namespace Rows
def none {H : Type} : Left H := { results := [], args := [] }

/- WHAT THE LISTED PACKAGE-LEVEL VARIABLES READ AS WHEN THE CALL BEGINS. Each datum BY PROGRAM (the guide's laid-datum.mjs) off the statement by which the dump's own 'gosem.cut.vars' lays the variable. In a bare row this is a premise. The card (YtipmbffpokplgaaDoorCards.lean) ties it to the program's text. -/
def laid_tintype_quant_bases {H : Type} : DataW H := .agg [.agg [.lit (.int .i64 16), .lit (.int .i64 11), .lit (.int .i64 12), .lit (.int .i64 14), .lit (.int .i64 12), .lit (.int .i64 10), .lit (.int .i64 16), .lit (.int .i64 14), .lit (.int .i64 13), .lit (.int .i64 14), .lit (.int .i64 18), .lit (.int .i64 17), .lit (.int .i64 16), .lit (.int .i64 19), .lit (.int .i64 24), .lit (.int .i64 40), .lit (.int .i64 26), .lit (.int .i64 24), .lit (.int .i64 22), .lit (.int .i64 22), .lit (.int .i64 24), .lit (.int .i64 49), .lit (.int .i64 35), .lit (.int .i64 37), .lit (.int .i64 29), .lit (.int .i64 40), .lit (.int .i64 58), .lit (.int .i64 51), .lit (.int .i64 61), .lit (.int .i64 60), .lit (.int .i64 57), .lit (.int .i64 51), .lit (.int .i64 56), .lit (.int .i64 55), .lit (.int .i64 64), .lit (.int .i64 72), .lit (.int .i64 92), .lit (.int .i64 78), .lit (.int .i64 64), .lit (.int .i64 68), .lit (.int .i64 87), .lit (.int .i64 69), .lit (.int .i64 55), .lit (.int .i64 56), .lit (.int .i64 80), .lit (.int .i64 109), .lit (.int .i64 81), .lit (.int .i64 87), .lit (.int .i64 95), .lit (.int .i64 98), .lit (.int .i64 103), .lit (.int .i64 104), .lit (.int .i64 103), .lit (.int .i64 62), .lit (.int .i64 77), .lit (.int .i64 113), .lit (.int .i64 121), .lit (.int .i64 112), .lit (.int .i64 100), .lit (.int .i64 120), .lit (.int .i64 92), .lit (.int .i64 101), .lit (.int .i64 103), .lit (.int .i64 99)], .agg [.lit (.int .i64 17), .lit (.int .i64 18), .lit (.int .i64 18), .lit (.int .i64 24), .lit (.int .i64 21), .lit (.int .i64 24), .lit (.int .i64 47), .lit (.int .i64 26), .lit (.int .i64 26), .lit (.int .i64 47), .lit (.int .i64 99), .lit (.int .i64 66), .lit (.int .i64 56), .lit (.int .i64 66), .lit (.int .i64 99), .lit (.int .i64 99), .lit (.int .i64 99), .lit (.int .i64 99), .lit (.int .i64 99), .lit (.int .i64 99), .lit (.int .i64 99), .lit (.int .i64 99), .lit (.int .i64 99), .lit (.int .i64 99), .lit (.int .i64 99), .lit (.int .i64 99), .lit (.int .i64 99), .lit (.int .i64 99), .lit (.int .i64 99), .lit (.int .i64 99), .lit (.int .i64 99), .lit (.int .i64 99), .lit (.int .i64 99), .lit (.int .i64 99), .lit (.int .i64 99), .lit (.int .i64 99), .lit (.int .i64 99), .lit (.int .i64 99), .lit (.int .i64 99), .lit (.int .i64 99), .lit (.int .i64 99), .lit (.int .i64 99), .lit (.int .i64 99), .lit (.int .i64 99), .lit (.int .i64 99), .lit (.int .i64 99), .lit (.int .i64 99), .lit (.int .i64 99), .lit (.int .i64 99), .lit (.int .i64 99), .lit (.int .i64 99), .lit (.int .i64 99), .lit (.int .i64 99), .lit (.int .i64 99), .lit (.int .i64 99), .lit (.int .i64 99), .lit (.int .i64 99), .lit (.int .i64 99), .lit (.int .i64 99), .lit (.int .i64 99), .lit (.int .i64 99), .lit (.int .i64 99), .lit (.int .i64 99), .lit (.int .i64 99)]]

/-- 'tintypelaw06.QuantTables': WHATEVER THE INPUT: true; the input reads as it did. -/
def quantTablesSpec : ChangeSpec := { name := "quantTables", fn := fun _ => fun
  | [d1, d2, d3] => { results := [.lit (.bool true)], args := [d1, d2, d3] }
  | _ => none }
def quantTablesRow : OpenClaim := { program := "ytipmbffpokplgaadoor", sum := "fa6f0b444fe70cf578572c9346908ed1ba469532a761a16ea7508349de2722fb", func := "tintype/tintypelaw06.QuantTables", spec := "quantTables", unfollowed := true, recurses := true, named := ["tintype/quant.bases"], apart := false, laid := [("tintype/quant.bases", laid_tintype_quant_bases)] }
def QuantTablesSaid : Prop := quantTablesRow.holds Tryd.pinned (OpenSpec.ofChange quantTablesSpec)

/-- ITS FALSE NEIGHBOUR: 'it returns false'. Refute it at one input. -/
def quantTablesWrong : ChangeSpec := { name := "quantTables", fn := fun _ => fun
  | [d1, d2, d3] => { results := [.lit (.bool false)], args := [d1, d2, d3] }
  | _ => none }
def QuantTablesWrongFalsely : Prop := quantTablesRow.holds Tryd.pinned (OpenSpec.ofChange quantTablesWrong)

/-- 'tintypelaw06.QuantDoes': WHATEVER THE INPUT: true; the input reads as it did. -/
def quantDoesSpec : ChangeSpec := { name := "quantDoes", fn := fun _ => fun
  | [d1, d2] => { results := [.lit (.bool true)], args := [d1, d2] }
  | _ => none }
def quantDoesRow : OpenClaim := { program := "ytipmbffpokplgaadoor", sum := "fa6f0b444fe70cf578572c9346908ed1ba469532a761a16ea7508349de2722fb", func := "tintype/tintypelaw06.QuantDoes", spec := "quantDoes", unfollowed := true, recurses := true, named := ["tintype/quant.bases"], apart := false, laid := [("tintype/quant.bases", laid_tintype_quant_bases)] }
def QuantDoesSaid : Prop := quantDoesRow.holds Tryd.pinned (OpenSpec.ofChange quantDoesSpec)

/-- ITS FALSE NEIGHBOUR: 'it returns false'. Refute it at one input. -/
def quantDoesWrong : ChangeSpec := { name := "quantDoes", fn := fun _ => fun
  | [d1, d2] => { results := [.lit (.bool false)], args := [d1, d2] }
  | _ => none }
def QuantDoesWrongFalsely : Prop := quantDoesRow.holds Tryd.pinned (OpenSpec.ofChange quantDoesWrong)

/-- 'tintypelaw06.QuantNearest': WHATEVER THE INPUT: true; the input reads as it did. -/
def quantNearestSpec : ChangeSpec := { name := "quantNearest", fn := fun _ => fun
  | [d1, d2] => { results := [.lit (.bool true)], args := [d1, d2] }
  | _ => none }
def quantNearestRow : OpenClaim := { program := "ytipmbffpokplgaadoor", sum := "fa6f0b444fe70cf578572c9346908ed1ba469532a761a16ea7508349de2722fb", func := "tintype/tintypelaw06.QuantNearest", spec := "quantNearest", unfollowed := true, recurses := true, named := ["tintype/quant.bases"], apart := false, laid := [("tintype/quant.bases", laid_tintype_quant_bases)] }
def QuantNearestSaid : Prop := quantNearestRow.holds Tryd.pinned (OpenSpec.ofChange quantNearestSpec)

/-- ITS FALSE NEIGHBOUR: 'it returns false'. Refute it at one input. -/
def quantNearestWrong : ChangeSpec := { name := "quantNearest", fn := fun _ => fun
  | [d1, d2] => { results := [.lit (.bool false)], args := [d1, d2] }
  | _ => none }
def QuantNearestWrongFalsely : Prop := quantNearestRow.holds Tryd.pinned (OpenSpec.ofChange quantNearestWrong)

/-- 'tintypelaw06.QuantOrder': WHATEVER THE INPUT: true; the input reads as it did. -/
def quantOrderSpec : ChangeSpec := { name := "quantOrder", fn := fun _ => fun
  | [d1, d2, d3, d4, d5] => { results := [.lit (.bool true)], args := [d1, d2, d3, d4, d5] }
  | _ => none }
def quantOrderRow : OpenClaim := { program := "ytipmbffpokplgaadoor", sum := "fa6f0b444fe70cf578572c9346908ed1ba469532a761a16ea7508349de2722fb", func := "tintype/tintypelaw06.QuantOrder", spec := "quantOrder", unfollowed := true, recurses := true, named := ["tintype/quant.bases"], apart := false, laid := [("tintype/quant.bases", laid_tintype_quant_bases)] }
def QuantOrderSaid : Prop := quantOrderRow.holds Tryd.pinned (OpenSpec.ofChange quantOrderSpec)

/-- ITS FALSE NEIGHBOUR: 'it returns false'. Refute it at one input. -/
def quantOrderWrong : ChangeSpec := { name := "quantOrder", fn := fun _ => fun
  | [d1, d2, d3, d4, d5] => { results := [.lit (.bool false)], args := [d1, d2, d3, d4, d5] }
  | _ => none }
def QuantOrderWrongFalsely : Prop := quantOrderRow.holds Tryd.pinned (OpenSpec.ofChange quantOrderWrong)

/- THE SECOND FORM. 'bulk': how many values and letters a reading holds, each counted each time it is reached (what is shared counts as often as it is met; a slice's spare places count too). A statement '..UptoSaid' is the law's where the arguments, and the package variables that the reading takes, are together of bulk at most 1048576: NARROWER than '..Said'. Prove '..Said' where nothing that the law and all that it calls make is longer than what came in: it says more and counts as full. Else prove '..UptoSaid'. A law counts once. -/
mutual
def uptoBulk {H : Type} : DataW H → Nat
  | .lit (.string bytes) => bytes.length + 1
  | .lit _ => 1
  | .nil => 1
  | .ptr d => uptoBulk d + 1
  | .slice elems spare => uptoBulkAll elems + uptoBulkAll spare + 1
  | .agg parts => uptoBulkAll parts + 1
  | .iface _ d => uptoBulk d + 1
  | .map entries => uptoBulkEntries entries + 1
  | .held _ => 1
def uptoBulkAll {H : Type} : List (DataW H) → Nat
  | [] => 0
  | d :: r => uptoBulk d + uptoBulkAll r
def uptoBulkEntries {H : Type} : List (Lit × DataW H) → Nat
  | [] => 0
  | x :: r => uptoBulkEntry x + uptoBulkEntries r
def uptoBulkEntry {H : Type} : Lit × DataW H → Nat
  | (.string bytes, d) => bytes.length + uptoBulk d + 1
  | (_, d) => uptoBulk d + 1
 end
def uptoSmall : (H : Type) → List (DataW H) → Bool := fun _ ds => decide (uptoBulkAll ds ≤ 1048576)
def OpenSpec.upto (s : _root_.Go.ChangeSpec) : _root_.Go.OpenSpec := { _root_.Go.OpenSpec.ofChange s with cond := some uptoSmall }

/-- 'tintypelaw06.QuantTables', WHERE WHAT IT READS IS OF BULK AT MOST 1048576: true; the input reads as it did. -/
def quantTablesUptoRow : OpenClaim := { program := "ytipmbffpokplgaadoor", sum := "fa6f0b444fe70cf578572c9346908ed1ba469532a761a16ea7508349de2722fb", func := "tintype/tintypelaw06.QuantTables", spec := "quantTables", unfollowed := true, recurses := true, named := ["tintype/quant.bases"], apart := false, laid := [("tintype/quant.bases", laid_tintype_quant_bases)], narrowed := true }
def QuantTablesUptoSaid : Prop := quantTablesUptoRow.holds Tryd.pinned (OpenSpec.upto quantTablesSpec)

/-- 'tintypelaw06.QuantDoes', WHERE WHAT IT READS IS OF BULK AT MOST 1048576: true; the input reads as it did. -/
def quantDoesUptoRow : OpenClaim := { program := "ytipmbffpokplgaadoor", sum := "fa6f0b444fe70cf578572c9346908ed1ba469532a761a16ea7508349de2722fb", func := "tintype/tintypelaw06.QuantDoes", spec := "quantDoes", unfollowed := true, recurses := true, named := ["tintype/quant.bases"], apart := false, laid := [("tintype/quant.bases", laid_tintype_quant_bases)], narrowed := true }
def QuantDoesUptoSaid : Prop := quantDoesUptoRow.holds Tryd.pinned (OpenSpec.upto quantDoesSpec)

/-- 'tintypelaw06.QuantNearest', WHERE WHAT IT READS IS OF BULK AT MOST 1048576: true; the input reads as it did. -/
def quantNearestUptoRow : OpenClaim := { program := "ytipmbffpokplgaadoor", sum := "fa6f0b444fe70cf578572c9346908ed1ba469532a761a16ea7508349de2722fb", func := "tintype/tintypelaw06.QuantNearest", spec := "quantNearest", unfollowed := true, recurses := true, named := ["tintype/quant.bases"], apart := false, laid := [("tintype/quant.bases", laid_tintype_quant_bases)], narrowed := true }
def QuantNearestUptoSaid : Prop := quantNearestUptoRow.holds Tryd.pinned (OpenSpec.upto quantNearestSpec)

/-- 'tintypelaw06.QuantOrder', WHERE WHAT IT READS IS OF BULK AT MOST 1048576: true; the input reads as it did. -/
def quantOrderUptoRow : OpenClaim := { program := "ytipmbffpokplgaadoor", sum := "fa6f0b444fe70cf578572c9346908ed1ba469532a761a16ea7508349de2722fb", func := "tintype/tintypelaw06.QuantOrder", spec := "quantOrder", unfollowed := true, recurses := true, named := ["tintype/quant.bases"], apart := false, laid := [("tintype/quant.bases", laid_tintype_quant_bases)], narrowed := true }
def QuantOrderUptoSaid : Prop := quantOrderUptoRow.holds Tryd.pinned (OpenSpec.upto quantOrderSpec)

end Rows
end Go.Proofs.YtipmbffpokplgaaDoor
