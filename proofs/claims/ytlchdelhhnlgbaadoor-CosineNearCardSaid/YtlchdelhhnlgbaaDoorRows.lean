/-
  NARROWER THAN 'FOR EVERY INPUT', by the rows' own cells (each row's printed sentence says how): CosineFactors: laid · CosineDoes: laid · CosineNear: laid · CosineBack: laid.
  DERIVED. THE GIVEN ROWS OF THIS SEAT. 4 by the template 'for every input the law returns true; each argument reads behind the call as it read before'; 0 by the template 'total and deterministic' (their statements: YtlchdelhhnlgbaaDoorTotals.lean).
  GIVEN WITH THE SEED: the statements are not yours to turn. If you find one false, say at which input.
  Laid BY PROGRAM, IN A SANDBOX (cutbox-rows.mjs): the forced cells as the released guide's own fill.sh prints them over the translation fb06ccf487de75a0… (all of the seat's roots in one cut). By AI agents, Wed Nov 11 2026. No macro, syntax, notation, axiom, sorry.
-/
import Derived.Test.YtlchdelhhnlgbaaDoorChecked
import GoSem.Claim
import GoSem.ClaimJoined
import GoSem.ClaimMapViews
import Derived.JoinedTies
import Derived.KernelRfl
namespace Go.Proofs.YtlchdelhhnlgbaaDoor
/- THE CELL 'sum', in the pinned program and in every row, IS THE sha256 OF THE DUMP (.gsa) THAT YtlchdelhhnlgbaaDoorProg.lean LOADS. Nothing in Lean hashes anything: it is a label: what it is worth is what the hold of that sum in a sandbox is worth. -/
noncomputable def Tryd.pinned : Pinned := { name := "ytlchdelhhnlgbaadoor", sum := "fb06ccf487de75a01c3a896b2d3bd62f361b6d9adbf6b0515acf3191ef4ef44f", checked := Tryd.checked }
namespace Rows
def none {H : Type} : Left H := { results := [], args := [] }

/- WHAT THE LISTED PACKAGE-LEVEL VARIABLES READ AS WHEN THE CALL BEGINS. Each datum BY PROGRAM (the guide's laid-datum.mjs) off the statement by which the dump's own 'gosem.cut.vars' lays the variable. In a bare row this is a premise. The card (YtlchdelhhnlgbaaDoorCards.lean) ties it to the program's text. -/
def laid_tintype_cosine_factorOf {H : Type} : DataW H := .agg [.lit (.int .i64 23170), .lit (.int .i64 32138), .lit (.int .i64 30274), .lit (.int .i64 27246), .lit (.int .i64 23170), .lit (.int .i64 18205), .lit (.int .i64 12540), .lit (.int .i64 6393), .lit (.int .i64 0)]

/-- 'tintypelaw07.CosineFactors': WHATEVER THE INPUT: true; the input reads as it did. -/
def cosineFactorsSpec : ChangeSpec := { name := "cosineFactors", fn := fun _ => fun
  | [d1, d2] => { results := [.lit (.bool true)], args := [d1, d2] }
  | _ => none }
def cosineFactorsRow : OpenClaim := { program := "ytlchdelhhnlgbaadoor", sum := "fb06ccf487de75a01c3a896b2d3bd62f361b6d9adbf6b0515acf3191ef4ef44f", func := "tintype/tintypelaw07.CosineFactors", spec := "cosineFactors", unfollowed := true, recurses := true, named := ["tintype/cosine.factorOf"], apart := false, laid := [("tintype/cosine.factorOf", laid_tintype_cosine_factorOf)] }
def CosineFactorsSaid : Prop := cosineFactorsRow.holds Tryd.pinned (OpenSpec.ofChange cosineFactorsSpec)

/-- ITS FALSE NEIGHBOUR: 'it returns false'. Refute it at one input. -/
def cosineFactorsWrong : ChangeSpec := { name := "cosineFactors", fn := fun _ => fun
  | [d1, d2] => { results := [.lit (.bool false)], args := [d1, d2] }
  | _ => none }
def CosineFactorsWrongFalsely : Prop := cosineFactorsRow.holds Tryd.pinned (OpenSpec.ofChange cosineFactorsWrong)

/-- 'tintypelaw07.CosineDoes': WHATEVER THE INPUT: true; the input reads as it did. -/
def cosineDoesSpec : ChangeSpec := { name := "cosineDoes", fn := fun _ => fun
  | [d] => { results := [.lit (.bool true)], args := [d] }
  | _ => none }
def cosineDoesRow : OpenClaim := { program := "ytlchdelhhnlgbaadoor", sum := "fb06ccf487de75a01c3a896b2d3bd62f361b6d9adbf6b0515acf3191ef4ef44f", func := "tintype/tintypelaw07.CosineDoes", spec := "cosineDoes", unfollowed := true, recurses := true, named := ["tintype/cosine.factorOf"], apart := false, laid := [("tintype/cosine.factorOf", laid_tintype_cosine_factorOf)] }
def CosineDoesSaid : Prop := cosineDoesRow.holds Tryd.pinned (OpenSpec.ofChange cosineDoesSpec)

/-- ITS FALSE NEIGHBOUR: 'it returns false'. Refute it at one input. -/
def cosineDoesWrong : ChangeSpec := { name := "cosineDoes", fn := fun _ => fun
  | [d] => { results := [.lit (.bool false)], args := [d] }
  | _ => none }
def CosineDoesWrongFalsely : Prop := cosineDoesRow.holds Tryd.pinned (OpenSpec.ofChange cosineDoesWrong)

/-- 'tintypelaw07.CosineNear': WHATEVER THE INPUT: true; the input reads as it did. -/
def cosineNearSpec : ChangeSpec := { name := "cosineNear", fn := fun _ => fun
  | [d] => { results := [.lit (.bool true)], args := [d] }
  | _ => none }
def cosineNearRow : OpenClaim := { program := "ytlchdelhhnlgbaadoor", sum := "fb06ccf487de75a01c3a896b2d3bd62f361b6d9adbf6b0515acf3191ef4ef44f", func := "tintype/tintypelaw07.CosineNear", spec := "cosineNear", unfollowed := true, recurses := true, named := ["tintype/cosine.factorOf"], apart := false, laid := [("tintype/cosine.factorOf", laid_tintype_cosine_factorOf)] }
def CosineNearSaid : Prop := cosineNearRow.holds Tryd.pinned (OpenSpec.ofChange cosineNearSpec)

/-- ITS FALSE NEIGHBOUR: 'it returns false'. Refute it at one input. -/
def cosineNearWrong : ChangeSpec := { name := "cosineNear", fn := fun _ => fun
  | [d] => { results := [.lit (.bool false)], args := [d] }
  | _ => none }
def CosineNearWrongFalsely : Prop := cosineNearRow.holds Tryd.pinned (OpenSpec.ofChange cosineNearWrong)

/-- 'tintypelaw07.CosineBack': WHATEVER THE INPUT: true; the input reads as it did. -/
def cosineBackSpec : ChangeSpec := { name := "cosineBack", fn := fun _ => fun
  | [d1, d2] => { results := [.lit (.bool true)], args := [d1, d2] }
  | _ => none }
def cosineBackRow : OpenClaim := { program := "ytlchdelhhnlgbaadoor", sum := "fb06ccf487de75a01c3a896b2d3bd62f361b6d9adbf6b0515acf3191ef4ef44f", func := "tintype/tintypelaw07.CosineBack", spec := "cosineBack", unfollowed := true, recurses := true, named := ["tintype/cosine.factorOf"], apart := false, laid := [("tintype/cosine.factorOf", laid_tintype_cosine_factorOf)] }
def CosineBackSaid : Prop := cosineBackRow.holds Tryd.pinned (OpenSpec.ofChange cosineBackSpec)

/-- ITS FALSE NEIGHBOUR: 'it returns false'. Refute it at one input. -/
def cosineBackWrong : ChangeSpec := { name := "cosineBack", fn := fun _ => fun
  | [d1, d2] => { results := [.lit (.bool false)], args := [d1, d2] }
  | _ => none }
def CosineBackWrongFalsely : Prop := cosineBackRow.holds Tryd.pinned (OpenSpec.ofChange cosineBackWrong)

/- THE SECOND FORM. 'bulk': how many values and letters a reading holds, each counted each time it is reached (what is shared counts as often as it is met; a slice's spare places count too). A statement '..UptoSaid' is the law's where the arguments, and the package variables that the reading takes, are together of bulk at most 1048576: NARROWER than '..Said'. Prove '..Said' where nothing that the law and all that it calls make is longer than what came in: it says more and counts as full. Else prove '..UptoSaid'. A law counts once. -/
mutual
def uptoBulk {H : Type} : DataW H → Nat
  | .lit (.string bytes) => bytes.length + 1
  | .lit _ => 1
  | .nil => 1
  | .ptr d => uptoBulk d + 1
  | .slice elems spare => uptoBulkAll elems + uptoBulkAll spare + 1
  | .agg parts => uptoBulkAll parts + 1
  | .iface _ d => uptoBulk d + 1
  | .map entries => uptoBulkEntries entries + 1
  | .held _ => 1
def uptoBulkAll {H : Type} : List (DataW H) → Nat
  | [] => 0
  | d :: r => uptoBulk d + uptoBulkAll r
def uptoBulkEntries {H : Type} : List (Lit × DataW H) → Nat
  | [] => 0
  | x :: r => uptoBulkEntry x + uptoBulkEntries r
def uptoBulkEntry {H : Type} : Lit × DataW H → Nat
  | (.string bytes, d) => bytes.length + uptoBulk d + 1
  | (_, d) => uptoBulk d + 1
 end
def uptoSmall : (H : Type) → List (DataW H) → Bool := fun _ ds => decide (uptoBulkAll ds ≤ 1048576)
def OpenSpec.upto (s : _root_.Go.ChangeSpec) : _root_.Go.OpenSpec := { _root_.Go.OpenSpec.ofChange s with cond := some uptoSmall }

/-- 'tintypelaw07.CosineFactors', WHERE WHAT IT READS IS OF BULK AT MOST 1048576: true; the input reads as it did. -/
def cosineFactorsUptoRow : OpenClaim := { program := "ytlchdelhhnlgbaadoor", sum := "fb06ccf487de75a01c3a896b2d3bd62f361b6d9adbf6b0515acf3191ef4ef44f", func := "tintype/tintypelaw07.CosineFactors", spec := "cosineFactors", unfollowed := true, recurses := true, named := ["tintype/cosine.factorOf"], apart := false, laid := [("tintype/cosine.factorOf", laid_tintype_cosine_factorOf)], narrowed := true }
def CosineFactorsUptoSaid : Prop := cosineFactorsUptoRow.holds Tryd.pinned (OpenSpec.upto cosineFactorsSpec)

/-- 'tintypelaw07.CosineDoes', WHERE WHAT IT READS IS OF BULK AT MOST 1048576: true; the input reads as it did. -/
def cosineDoesUptoRow : OpenClaim := { program := "ytlchdelhhnlgbaadoor", sum := "fb06ccf487de75a01c3a896b2d3bd62f361b6d9adbf6b0515acf3191ef4ef44f", func := "tintype/tintypelaw07.CosineDoes", spec := "cosineDoes", unfollowed := true, recurses := true, named := ["tintype/cosine.factorOf"], apart := false, laid := [("tintype/cosine.factorOf", laid_tintype_cosine_factorOf)], narrowed := true }
def CosineDoesUptoSaid : Prop := cosineDoesUptoRow.holds Tryd.pinned (OpenSpec.upto cosineDoesSpec)

/-- 'tintypelaw07.CosineNear', WHERE WHAT IT READS IS OF BULK AT MOST 1048576: true; the input reads as it did. -/
def cosineNearUptoRow : OpenClaim := { program := "ytlchdelhhnlgbaadoor", sum := "fb06ccf487de75a01c3a896b2d3bd62f361b6d9adbf6b0515acf3191ef4ef44f", func := "tintype/tintypelaw07.CosineNear", spec := "cosineNear", unfollowed := true, recurses := true, named := ["tintype/cosine.factorOf"], apart := false, laid := [("tintype/cosine.factorOf", laid_tintype_cosine_factorOf)], narrowed := true }
def CosineNearUptoSaid : Prop := cosineNearUptoRow.holds Tryd.pinned (OpenSpec.upto cosineNearSpec)

/-- 'tintypelaw07.CosineBack', WHERE WHAT IT READS IS OF BULK AT MOST 1048576: true; the input reads as it did. -/
def cosineBackUptoRow : OpenClaim := { program := "ytlchdelhhnlgbaadoor", sum := "fb06ccf487de75a01c3a896b2d3bd62f361b6d9adbf6b0515acf3191ef4ef44f", func := "tintype/tintypelaw07.CosineBack", spec := "cosineBack", unfollowed := true, recurses := true, named := ["tintype/cosine.factorOf"], apart := false, laid := [("tintype/cosine.factorOf", laid_tintype_cosine_factorOf)], narrowed := true }
def CosineBackUptoSaid : Prop := cosineBackUptoRow.holds Tryd.pinned (OpenSpec.upto cosineBackSpec)

end Rows
end Go.Proofs.YtlchdelhhnlgbaaDoor
