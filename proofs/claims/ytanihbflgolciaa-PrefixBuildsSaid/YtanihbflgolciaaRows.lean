/-
  No cell of these rows narrows 'for every input' (looked for: loops, veiled, ifaces, maps, wideKeys, modest, calm, conditions, laid).
  DERIVED. THE GIVEN ROWS OF THIS SEAT. 3 by the template 'for every input the law returns true; each argument reads behind the call as it read before'; 0 by the template 'total and deterministic' (their statements: YtanihbflgolciaaTotals.lean).
  GIVEN WITH THE SEED: the statements are not yours to turn. If you find one false, say at which input.
  Laid BY PROGRAM, IN A SANDBOX (cutbox-rows.mjs): the forced cells as the released guide's own fill.sh prints them over the translation 9b2425a658f3bd3f… (all of the seat's roots in one cut). By AI agents, Wed Nov 11 2026. No macro, syntax, notation, axiom, sorry.
-/
import Derived.Test.YtanihbflgolciaaChecked
import GoSem.Claim
import GoSem.ClaimJoined
import GoSem.ClaimMapViews
import Derived.JoinedTies
import Derived.KernelRfl
namespace Go.Proofs.Ytanihbflgolciaa
/- THE CELL 'sum', in the pinned program and in every row, IS THE sha256 OF THE DUMP (.gsa) THAT YtanihbflgolciaaProg.lean LOADS. Nothing in Lean hashes anything: it is a label: what it is worth is what the hold of that sum in a sandbox is worth. -/
noncomputable def Try.pinned : Pinned := { name := "ytanihbflgolciaa", sum := "9b2425a658f3bd3fd4e635ded53e4ab44e0e1d528ec79594fbff75b6a72d9842", checked := Try.checked }
namespace Rows
def none {H : Type} : Left H := { results := [], args := [] }

/-- 'tintypelaw04.PrefixTells': WHATEVER THE INPUT: true; the input reads as it did. -/
def prefixTellsSpec : ChangeSpec := { name := "prefixTells", fn := fun _ => fun
  | [d1, d2, d3] => { results := [.lit (.bool true)], args := [d1, d2, d3] }
  | _ => none }
def prefixTellsRow : OpenClaim := { program := "ytanihbflgolciaa", sum := "9b2425a658f3bd3fd4e635ded53e4ab44e0e1d528ec79594fbff75b6a72d9842", func := "tintype/tintypelaw04.PrefixTells", spec := "prefixTells", inPlace := ["internal/reflectlite.ValueOf", "internal/reflectlite.Swapper", "(internal/reflectlite.Value).Len"], unfollowed := true, recurses := true, plainKeys := false, apart := false }
def PrefixTellsSaid : Prop := prefixTellsRow.holds Try.pinned (OpenSpec.ofChange prefixTellsSpec)

/-- ITS FALSE NEIGHBOUR: 'it returns false'. Refute it at one input. -/
def prefixTellsWrong : ChangeSpec := { name := "prefixTells", fn := fun _ => fun
  | [d1, d2, d3] => { results := [.lit (.bool false)], args := [d1, d2, d3] }
  | _ => none }
def PrefixTellsWrongFalsely : Prop := prefixTellsRow.holds Try.pinned (OpenSpec.ofChange prefixTellsWrong)

/-- 'tintypelaw04.PrefixBuilds': WHATEVER THE INPUT: true; the input reads as it did. -/
def prefixBuildsSpec : ChangeSpec := { name := "prefixBuilds", fn := fun _ => fun
  | [d] => { results := [.lit (.bool true)], args := [d] }
  | _ => none }
def prefixBuildsRow : OpenClaim := { program := "ytanihbflgolciaa", sum := "9b2425a658f3bd3fd4e635ded53e4ab44e0e1d528ec79594fbff75b6a72d9842", func := "tintype/tintypelaw04.PrefixBuilds", spec := "prefixBuilds", inPlace := ["internal/reflectlite.ValueOf", "internal/reflectlite.Swapper", "(internal/reflectlite.Value).Len"], unfollowed := true, recurses := true, plainKeys := false, apart := false }
def PrefixBuildsSaid : Prop := prefixBuildsRow.holds Try.pinned (OpenSpec.ofChange prefixBuildsSpec)

/-- ITS FALSE NEIGHBOUR: 'it returns false'. Refute it at one input. -/
def prefixBuildsWrong : ChangeSpec := { name := "prefixBuilds", fn := fun _ => fun
  | [d] => { results := [.lit (.bool false)], args := [d] }
  | _ => none }
def PrefixBuildsWrongFalsely : Prop := prefixBuildsRow.holds Try.pinned (OpenSpec.ofChange prefixBuildsWrong)

/-- 'tintypelaw04.PrefixBest': WHATEVER THE INPUT: true; the input reads as it did. -/
def prefixBestSpec : ChangeSpec := { name := "prefixBest", fn := fun _ => fun
  | [d1, d2] => { results := [.lit (.bool true)], args := [d1, d2] }
  | _ => none }
def prefixBestRow : OpenClaim := { program := "ytanihbflgolciaa", sum := "9b2425a658f3bd3fd4e635ded53e4ab44e0e1d528ec79594fbff75b6a72d9842", func := "tintype/tintypelaw04.PrefixBest", spec := "prefixBest", inPlace := ["internal/reflectlite.ValueOf", "internal/reflectlite.Swapper", "(internal/reflectlite.Value).Len"], unfollowed := true, recurses := true, plainKeys := false, apart := false }
def PrefixBestSaid : Prop := prefixBestRow.holds Try.pinned (OpenSpec.ofChange prefixBestSpec)

/-- ITS FALSE NEIGHBOUR: 'it returns false'. Refute it at one input. -/
def prefixBestWrong : ChangeSpec := { name := "prefixBest", fn := fun _ => fun
  | [d1, d2] => { results := [.lit (.bool false)], args := [d1, d2] }
  | _ => none }
def PrefixBestWrongFalsely : Prop := prefixBestRow.holds Try.pinned (OpenSpec.ofChange prefixBestWrong)

/- THE SECOND FORM. 'bulk': how many values and letters a reading holds, each counted each time it is reached (what is shared counts as often as it is met; a slice's spare places count too). A statement '..UptoSaid' is the law's where the arguments, and the package variables that the reading takes, are together of bulk at most 1048576: NARROWER than '..Said'. Prove '..Said' where nothing that the law and all that it calls make is longer than what came in: it says more and counts as full. Else prove '..UptoSaid'. A law counts once. -/
mutual
def uptoBulk {H : Type} : DataW H → Nat
  | .lit (.string bytes) => bytes.length + 1
  | .lit _ => 1
  | .nil => 1
  | .ptr d => uptoBulk d + 1
  | .slice elems spare => uptoBulkAll elems + uptoBulkAll spare + 1
  | .agg parts => uptoBulkAll parts + 1
  | .iface _ d => uptoBulk d + 1
  | .map entries => uptoBulkEntries entries + 1
  | .held _ => 1
def uptoBulkAll {H : Type} : List (DataW H) → Nat
  | [] => 0
  | d :: r => uptoBulk d + uptoBulkAll r
def uptoBulkEntries {H : Type} : List (Lit × DataW H) → Nat
  | [] => 0
  | x :: r => uptoBulkEntry x + uptoBulkEntries r
def uptoBulkEntry {H : Type} : Lit × DataW H → Nat
  | (.string bytes, d) => bytes.length + uptoBulk d + 1
  | (_, d) => uptoBulk d + 1
 end
def uptoSmall : (H : Type) → List (DataW H) → Bool := fun _ ds => decide (uptoBulkAll ds ≤ 1048576)
def OpenSpec.upto (s : _root_.Go.ChangeSpec) : _root_.Go.OpenSpec := { _root_.Go.OpenSpec.ofChange s with cond := some uptoSmall }

/-- 'tintypelaw04.PrefixTells', WHERE WHAT IT READS IS OF BULK AT MOST 1048576: true; the input reads as it did. -/
def prefixTellsUptoRow : OpenClaim := { program := "ytanihbflgolciaa", sum := "9b2425a658f3bd3fd4e635ded53e4ab44e0e1d528ec79594fbff75b6a72d9842", func := "tintype/tintypelaw04.PrefixTells", spec := "prefixTells", inPlace := ["internal/reflectlite.ValueOf", "internal/reflectlite.Swapper", "(internal/reflectlite.Value).Len"], unfollowed := true, recurses := true, plainKeys := false, apart := false, narrowed := true }
def PrefixTellsUptoSaid : Prop := prefixTellsUptoRow.holds Try.pinned (OpenSpec.upto prefixTellsSpec)

/-- 'tintypelaw04.PrefixBuilds', WHERE WHAT IT READS IS OF BULK AT MOST 1048576: true; the input reads as it did. -/
def prefixBuildsUptoRow : OpenClaim := { program := "ytanihbflgolciaa", sum := "9b2425a658f3bd3fd4e635ded53e4ab44e0e1d528ec79594fbff75b6a72d9842", func := "tintype/tintypelaw04.PrefixBuilds", spec := "prefixBuilds", inPlace := ["internal/reflectlite.ValueOf", "internal/reflectlite.Swapper", "(internal/reflectlite.Value).Len"], unfollowed := true, recurses := true, plainKeys := false, apart := false, narrowed := true }
def PrefixBuildsUptoSaid : Prop := prefixBuildsUptoRow.holds Try.pinned (OpenSpec.upto prefixBuildsSpec)

/-- 'tintypelaw04.PrefixBest', WHERE WHAT IT READS IS OF BULK AT MOST 1048576: true; the input reads as it did. -/
def prefixBestUptoRow : OpenClaim := { program := "ytanihbflgolciaa", sum := "9b2425a658f3bd3fd4e635ded53e4ab44e0e1d528ec79594fbff75b6a72d9842", func := "tintype/tintypelaw04.PrefixBest", spec := "prefixBest", inPlace := ["internal/reflectlite.ValueOf", "internal/reflectlite.Swapper", "(internal/reflectlite.Value).Len"], unfollowed := true, recurses := true, plainKeys := false, apart := false, narrowed := true }
def PrefixBestUptoSaid : Prop := prefixBestUptoRow.holds Try.pinned (OpenSpec.upto prefixBestSpec)

end Rows
end Go.Proofs.Ytanihbflgolciaa
