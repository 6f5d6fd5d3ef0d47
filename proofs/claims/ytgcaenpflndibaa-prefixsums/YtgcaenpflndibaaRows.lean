/-
  No cell of these rows narrows 'for every input' (looked for: loops, veiled, ifaces, maps, wideKeys, modest, calm, conditions, laid).
  DERIVED. THE GIVEN ROWS OF THIS SEAT. 3 by the template 'for every input the law returns true; each argument reads behind the call as it read before'; 0 by the template 'total and deterministic' (their statements: YtgcaenpflndibaaTotals.lean).
  GIVEN WITH THE SEED: the statements are not yours to turn. If you find one false, say at which input.
  Laid BY PROGRAM, IN A SANDBOX (cutbox-rows.mjs): the forced cells as the released guide's own fill.sh prints them over the translation e7684cb739b48e4e… (all of the seat's roots in one cut). By AI agents, Wed Nov 11 2026. No macro, syntax, notation, axiom, sorry.
-/
import Derived.Test.YtgcaenpflndibaaChecked
import GoSem.Claim
import GoSem.ClaimJoined
import GoSem.ClaimMapViews
import Derived.JoinedTies
import Derived.KernelRfl
namespace Go.Proofs.Ytgcaenpflndibaa
/- THE CELL 'sum', in the pinned program and in every row, IS THE sha256 OF THE DUMP (.gsa) THAT YtgcaenpflndibaaProg.lean LOADS. Nothing in Lean hashes anything: it is a label: what it is worth is what the hold of that sum in a sandbox is worth. -/
noncomputable def Try.pinned : Pinned := { name := "ytgcaenpflndibaa", sum := "e7684cb739b48e4e63b544d6c21ddc2c9f3bf242fb843e569f73fe11bc9e0cde", checked := Try.checked }
namespace Rows
def none {H : Type} : Left H := { results := [], args := [] }

/-- 'locutionlaw09.PrefixMakes': WHATEVER THE INPUT: true; the input reads as it did. -/
def prefixMakesSpec : ChangeSpec := { name := "prefixMakes", fn := fun _ => fun
  | [d1, d2] => { results := [.lit (.bool true)], args := [d1, d2] }
  | _ => none }
def prefixMakesRow : OpenClaim := { program := "ytgcaenpflndibaa", sum := "e7684cb739b48e4e63b544d6c21ddc2c9f3bf242fb843e569f73fe11bc9e0cde", func := "locution/locutionlaw09.PrefixMakes", spec := "prefixMakes", unfollowed := true, recurses := true, apart := false }
def PrefixMakesSaid : Prop := prefixMakesRow.holds Try.pinned (OpenSpec.ofChange prefixMakesSpec)

/-- ITS FALSE NEIGHBOUR: 'it returns false'. Refute it at one input. -/
def prefixMakesWrong : ChangeSpec := { name := "prefixMakes", fn := fun _ => fun
  | [d1, d2] => { results := [.lit (.bool false)], args := [d1, d2] }
  | _ => none }
def PrefixMakesWrongFalsely : Prop := prefixMakesRow.holds Try.pinned (OpenSpec.ofChange prefixMakesWrong)

/-- 'locutionlaw09.PrefixSums': WHATEVER THE INPUT: true; the input reads as it did. -/
def prefixSumsSpec : ChangeSpec := { name := "prefixSums", fn := fun _ => fun
  | [d1, d2, d3] => { results := [.lit (.bool true)], args := [d1, d2, d3] }
  | _ => none }
def prefixSumsRow : OpenClaim := { program := "ytgcaenpflndibaa", sum := "e7684cb739b48e4e63b544d6c21ddc2c9f3bf242fb843e569f73fe11bc9e0cde", func := "locution/locutionlaw09.PrefixSums", spec := "prefixSums", unfollowed := true, recurses := true, apart := false }
def PrefixSumsSaid : Prop := prefixSumsRow.holds Try.pinned (OpenSpec.ofChange prefixSumsSpec)

/-- ITS FALSE NEIGHBOUR: 'it returns false'. Refute it at one input. -/
def prefixSumsWrong : ChangeSpec := { name := "prefixSums", fn := fun _ => fun
  | [d1, d2, d3] => { results := [.lit (.bool false)], args := [d1, d2, d3] }
  | _ => none }
def PrefixSumsWrongFalsely : Prop := prefixSumsRow.holds Try.pinned (OpenSpec.ofChange prefixSumsWrong)

/-- 'locutionlaw09.PrefixUnits': WHATEVER THE INPUT: true; the input reads as it did. -/
def prefixUnitsSpec : ChangeSpec := { name := "prefixUnits", fn := fun _ => fun
  | [d] => { results := [.lit (.bool true)], args := [d] }
  | _ => none }
def prefixUnitsRow : OpenClaim := { program := "ytgcaenpflndibaa", sum := "e7684cb739b48e4e63b544d6c21ddc2c9f3bf242fb843e569f73fe11bc9e0cde", func := "locution/locutionlaw09.PrefixUnits", spec := "prefixUnits", unfollowed := true, recurses := true, apart := false }
def PrefixUnitsSaid : Prop := prefixUnitsRow.holds Try.pinned (OpenSpec.ofChange prefixUnitsSpec)

/-- ITS FALSE NEIGHBOUR: 'it returns false'. Refute it at one input. -/
def prefixUnitsWrong : ChangeSpec := { name := "prefixUnits", fn := fun _ => fun
  | [d] => { results := [.lit (.bool false)], args := [d] }
  | _ => none }
def PrefixUnitsWrongFalsely : Prop := prefixUnitsRow.holds Try.pinned (OpenSpec.ofChange prefixUnitsWrong)

/- THE SECOND FORM. 'bulk': how many values and letters a reading holds, each counted each time it is reached (what is shared counts as often as it is met; a slice's spare places count too). A statement '..UptoSaid' is the law's where the arguments, and the package variables that the reading takes, are together of bulk at most 1048576: NARROWER than '..Said'. Prove '..Said' where nothing that the law and all that it calls make is longer than what came in: it says more and counts as full. Else prove '..UptoSaid'. A law counts once. -/
mutual
def uptoBulk {H : Type} : DataW H → Nat
  | .lit (.string bytes) => bytes.length + 1
  | .lit _ => 1
  | .nil => 1
  | .ptr d => uptoBulk d + 1
  | .slice elems spare => uptoBulkAll elems + uptoBulkAll spare + 1
  | .agg parts => uptoBulkAll parts + 1
  | .iface _ d => uptoBulk d + 1
  | .map entries => uptoBulkEntries entries + 1
  | .held _ => 1
def uptoBulkAll {H : Type} : List (DataW H) → Nat
  | [] => 0
  | d :: r => uptoBulk d + uptoBulkAll r
def uptoBulkEntries {H : Type} : List (Lit × DataW H) → Nat
  | [] => 0
  | x :: r => uptoBulkEntry x + uptoBulkEntries r
def uptoBulkEntry {H : Type} : Lit × DataW H → Nat
  | (.string bytes, d) => bytes.length + uptoBulk d + 1
  | (_, d) => uptoBulk d + 1
 end
def uptoSmall : (H : Type) → List (DataW H) → Bool := fun _ ds => decide (uptoBulkAll ds ≤ 1048576)
def OpenSpec.upto (s : _root_.Go.ChangeSpec) : _root_.Go.OpenSpec := { _root_.Go.OpenSpec.ofChange s with cond := some uptoSmall }

/-- 'locutionlaw09.PrefixMakes', WHERE WHAT IT READS IS OF BULK AT MOST 1048576: true; the input reads as it did. -/
def prefixMakesUptoRow : OpenClaim := { program := "ytgcaenpflndibaa", sum := "e7684cb739b48e4e63b544d6c21ddc2c9f3bf242fb843e569f73fe11bc9e0cde", func := "locution/locutionlaw09.PrefixMakes", spec := "prefixMakes", unfollowed := true, recurses := true, apart := false, narrowed := true }
def PrefixMakesUptoSaid : Prop := prefixMakesUptoRow.holds Try.pinned (OpenSpec.upto prefixMakesSpec)

/-- 'locutionlaw09.PrefixSums', WHERE WHAT IT READS IS OF BULK AT MOST 1048576: true; the input reads as it did. -/
def prefixSumsUptoRow : OpenClaim := { program := "ytgcaenpflndibaa", sum := "e7684cb739b48e4e63b544d6c21ddc2c9f3bf242fb843e569f73fe11bc9e0cde", func := "locution/locutionlaw09.PrefixSums", spec := "prefixSums", unfollowed := true, recurses := true, apart := false, narrowed := true }
def PrefixSumsUptoSaid : Prop := prefixSumsUptoRow.holds Try.pinned (OpenSpec.upto prefixSumsSpec)

/-- 'locutionlaw09.PrefixUnits', WHERE WHAT IT READS IS OF BULK AT MOST 1048576: true; the input reads as it did. -/
def prefixUnitsUptoRow : OpenClaim := { program := "ytgcaenpflndibaa", sum := "e7684cb739b48e4e63b544d6c21ddc2c9f3bf242fb843e569f73fe11bc9e0cde", func := "locution/locutionlaw09.PrefixUnits", spec := "prefixUnits", unfollowed := true, recurses := true, apart := false, narrowed := true }
def PrefixUnitsUptoSaid : Prop := prefixUnitsUptoRow.holds Try.pinned (OpenSpec.upto prefixUnitsSpec)

end Rows
end Go.Proofs.Ytgcaenpflndibaa
