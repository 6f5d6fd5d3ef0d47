/-
  No cell of these rows narrows 'for every input' (looked for: loops, veiled, ifaces, maps, wideKeys, modest, calm, conditions, laid).
  DERIVED. THE GIVEN ROWS OF THIS SEAT. 4 by the template 'for every input the law returns true; each argument reads behind the call as it read before'; 0 by the template 'total and deterministic' (their statements: YtbjdjidamocmoaaTotals.lean).
  GIVEN WITH THE SEED: the statements are not yours to turn. If you find one false, say at which input.
  Laid BY PROGRAM, IN A SANDBOX (cutbox-rows.mjs): the forced cells as the released guide's own fill.sh prints them over the translation f47b258cc37926be… (all of the seat's roots in one cut). By AI agents, Wed Nov 11 2026. No macro, syntax, notation, axiom, sorry.
-/
import Derived.Test.YtbjdjidamocmoaaChecked
import GoSem.Claim
import GoSem.ClaimJoined
import GoSem.ClaimMapViews
import Derived.JoinedTies
import Derived.KernelRfl
namespace Go.Proofs.Ytbjdjidamocmoaa
/- THE CELL 'sum', in the pinned program and in every row, IS THE sha256 OF THE DUMP (.gsa) THAT YtbjdjidamocmoaaProg.lean LOADS. Nothing in Lean hashes anything: it is a label: what it is worth is what the hold of that sum in a sandbox is worth. -/
noncomputable def Try.pinned : Pinned := { name := "ytbjdjidamocmoaa", sum := "f47b258cc37926be2eb0e8fadee4d1b2431ea6662f52f2f4e53fefaebd8f90d5", checked := Try.checked }
namespace Rows
def none {H : Type} : Left H := { results := [], args := [] }

/-- 'locutionlaw03.PackMakes': WHATEVER THE INPUT: true; the input reads as it did. -/
def packMakesSpec : ChangeSpec := { name := "packMakes", fn := fun _ => fun
  | [d1, d2, d3] => { results := [.lit (.bool true)], args := [d1, d2, d3] }
  | _ => none }
def packMakesRow : OpenClaim := { program := "ytbjdjidamocmoaa", sum := "f47b258cc37926be2eb0e8fadee4d1b2431ea6662f52f2f4e53fefaebd8f90d5", func := "locution/locutionlaw03.PackMakes", spec := "packMakes", unfollowed := true, recurses := true, apart := false }
def PackMakesSaid : Prop := packMakesRow.holds Try.pinned (OpenSpec.ofChange packMakesSpec)

/-- ITS FALSE NEIGHBOUR: 'it returns false'. Refute it at one input. -/
def packMakesWrong : ChangeSpec := { name := "packMakes", fn := fun _ => fun
  | [d1, d2, d3] => { results := [.lit (.bool false)], args := [d1, d2, d3] }
  | _ => none }
def PackMakesWrongFalsely : Prop := packMakesRow.holds Try.pinned (OpenSpec.ofChange packMakesWrong)

/-- 'locutionlaw03.PackOf': WHATEVER THE INPUT: true; the input reads as it did. -/
def packOfSpec : ChangeSpec := { name := "packOf", fn := fun _ => fun
  | [d1, d2, d3] => { results := [.lit (.bool true)], args := [d1, d2, d3] }
  | _ => none }
def packOfRow : OpenClaim := { program := "ytbjdjidamocmoaa", sum := "f47b258cc37926be2eb0e8fadee4d1b2431ea6662f52f2f4e53fefaebd8f90d5", func := "locution/locutionlaw03.PackOf", spec := "packOf", unfollowed := true, recurses := true, apart := false }
def PackOfSaid : Prop := packOfRow.holds Try.pinned (OpenSpec.ofChange packOfSpec)

/-- ITS FALSE NEIGHBOUR: 'it returns false'. Refute it at one input. -/
def packOfWrong : ChangeSpec := { name := "packOf", fn := fun _ => fun
  | [d1, d2, d3] => { results := [.lit (.bool false)], args := [d1, d2, d3] }
  | _ => none }
def PackOfWrongFalsely : Prop := packOfRow.holds Try.pinned (OpenSpec.ofChange packOfWrong)

/-- 'locutionlaw03.PackFinds': WHATEVER THE INPUT: true; the input reads as it did. -/
def packFindsSpec : ChangeSpec := { name := "packFinds", fn := fun _ => fun
  | [d1, d2, d3] => { results := [.lit (.bool true)], args := [d1, d2, d3] }
  | _ => none }
def packFindsRow : OpenClaim := { program := "ytbjdjidamocmoaa", sum := "f47b258cc37926be2eb0e8fadee4d1b2431ea6662f52f2f4e53fefaebd8f90d5", func := "locution/locutionlaw03.PackFinds", spec := "packFinds", unfollowed := true, recurses := true, apart := false }
def PackFindsSaid : Prop := packFindsRow.holds Try.pinned (OpenSpec.ofChange packFindsSpec)

/-- ITS FALSE NEIGHBOUR: 'it returns false'. Refute it at one input. -/
def packFindsWrong : ChangeSpec := { name := "packFinds", fn := fun _ => fun
  | [d1, d2, d3] => { results := [.lit (.bool false)], args := [d1, d2, d3] }
  | _ => none }
def PackFindsWrongFalsely : Prop := packFindsRow.holds Try.pinned (OpenSpec.ofChange packFindsWrong)

/-- 'locutionlaw03.PackGoes': WHATEVER THE INPUT: true; the input reads as it did. -/
def packGoesSpec : ChangeSpec := { name := "packGoes", fn := fun _ => fun
  | [d1, d2] => { results := [.lit (.bool true)], args := [d1, d2] }
  | _ => none }
def packGoesRow : OpenClaim := { program := "ytbjdjidamocmoaa", sum := "f47b258cc37926be2eb0e8fadee4d1b2431ea6662f52f2f4e53fefaebd8f90d5", func := "locution/locutionlaw03.PackGoes", spec := "packGoes", unfollowed := true, recurses := true, apart := false }
def PackGoesSaid : Prop := packGoesRow.holds Try.pinned (OpenSpec.ofChange packGoesSpec)

/-- ITS FALSE NEIGHBOUR: 'it returns false'. Refute it at one input. -/
def packGoesWrong : ChangeSpec := { name := "packGoes", fn := fun _ => fun
  | [d1, d2] => { results := [.lit (.bool false)], args := [d1, d2] }
  | _ => none }
def PackGoesWrongFalsely : Prop := packGoesRow.holds Try.pinned (OpenSpec.ofChange packGoesWrong)

/- THE SECOND FORM. 'bulk': how many values and letters a reading holds, each counted each time it is reached (what is shared counts as often as it is met; a slice's spare places count too). A statement '..UptoSaid' is the law's where the arguments, and the package variables that the reading takes, are together of bulk at most 1048576: NARROWER than '..Said'. Prove '..Said' where nothing that the law and all that it calls make is longer than what came in: it says more and counts as full. Else prove '..UptoSaid'. A law counts once. -/
mutual
def uptoBulk {H : Type} : DataW H → Nat
  | .lit (.string bytes) => bytes.length + 1
  | .lit _ => 1
  | .nil => 1
  | .ptr d => uptoBulk d + 1
  | .slice elems spare => uptoBulkAll elems + uptoBulkAll spare + 1
  | .agg parts => uptoBulkAll parts + 1
  | .iface _ d => uptoBulk d + 1
  | .map entries => uptoBulkEntries entries + 1
  | .held _ => 1
def uptoBulkAll {H : Type} : List (DataW H) → Nat
  | [] => 0
  | d :: r => uptoBulk d + uptoBulkAll r
def uptoBulkEntries {H : Type} : List (Lit × DataW H) → Nat
  | [] => 0
  | x :: r => uptoBulkEntry x + uptoBulkEntries r
def uptoBulkEntry {H : Type} : Lit × DataW H → Nat
  | (.string bytes, d) => bytes.length + uptoBulk d + 1
  | (_, d) => uptoBulk d + 1
 end
def uptoSmall : (H : Type) → List (DataW H) → Bool := fun _ ds => decide (uptoBulkAll ds ≤ 1048576)
def OpenSpec.upto (s : _root_.Go.ChangeSpec) : _root_.Go.OpenSpec := { _root_.Go.OpenSpec.ofChange s with cond := some uptoSmall }

/-- 'locutionlaw03.PackMakes', WHERE WHAT IT READS IS OF BULK AT MOST 1048576: true; the input reads as it did. -/
def packMakesUptoRow : OpenClaim := { program := "ytbjdjidamocmoaa", sum := "f47b258cc37926be2eb0e8fadee4d1b2431ea6662f52f2f4e53fefaebd8f90d5", func := "locution/locutionlaw03.PackMakes", spec := "packMakes", unfollowed := true, recurses := true, apart := false, narrowed := true }
def PackMakesUptoSaid : Prop := packMakesUptoRow.holds Try.pinned (OpenSpec.upto packMakesSpec)

/-- 'locutionlaw03.PackOf', WHERE WHAT IT READS IS OF BULK AT MOST 1048576: true; the input reads as it did. -/
def packOfUptoRow : OpenClaim := { program := "ytbjdjidamocmoaa", sum := "f47b258cc37926be2eb0e8fadee4d1b2431ea6662f52f2f4e53fefaebd8f90d5", func := "locution/locutionlaw03.PackOf", spec := "packOf", unfollowed := true, recurses := true, apart := false, narrowed := true }
def PackOfUptoSaid : Prop := packOfUptoRow.holds Try.pinned (OpenSpec.upto packOfSpec)

/-- 'locutionlaw03.PackFinds', WHERE WHAT IT READS IS OF BULK AT MOST 1048576: true; the input reads as it did. -/
def packFindsUptoRow : OpenClaim := { program := "ytbjdjidamocmoaa", sum := "f47b258cc37926be2eb0e8fadee4d1b2431ea6662f52f2f4e53fefaebd8f90d5", func := "locution/locutionlaw03.PackFinds", spec := "packFinds", unfollowed := true, recurses := true, apart := false, narrowed := true }
def PackFindsUptoSaid : Prop := packFindsUptoRow.holds Try.pinned (OpenSpec.upto packFindsSpec)

/-- 'locutionlaw03.PackGoes', WHERE WHAT IT READS IS OF BULK AT MOST 1048576: true; the input reads as it did. -/
def packGoesUptoRow : OpenClaim := { program := "ytbjdjidamocmoaa", sum := "f47b258cc37926be2eb0e8fadee4d1b2431ea6662f52f2f4e53fefaebd8f90d5", func := "locution/locutionlaw03.PackGoes", spec := "packGoes", unfollowed := true, recurses := true, apart := false, narrowed := true }
def PackGoesUptoSaid : Prop := packGoesUptoRow.holds Try.pinned (OpenSpec.upto packGoesSpec)

end Rows
end Go.Proofs.Ytbjdjidamocmoaa
