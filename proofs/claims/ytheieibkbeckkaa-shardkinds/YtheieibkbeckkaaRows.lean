/-
  No cell of these rows narrows 'for every input' (looked for: loops, veiled, ifaces, maps, wideKeys, modest, calm, conditions, laid).
  DERIVED. THE GIVEN ROWS OF THIS SEAT. 3 by the template 'for every input the law returns true; each argument reads behind the call as it read before'; 0 by the template 'total and deterministic' (their statements: YtheieibkbeckkaaTotals.lean).
  GIVEN WITH THE SEED: the statements are not yours to turn. If you find one false, say at which input.
  Laid BY PROGRAM, IN A SANDBOX (cutbox-rows.mjs): the forced cells as the released guide's own fill.sh prints them over the translation a3f55f84a7af6171… (all of the seat's roots in one cut). By AI agents, Wed Nov 11 2026. No macro, syntax, notation, axiom, sorry.
-/
import Derived.Test.YtheieibkbeckkaaChecked
import GoSem.Claim
import GoSem.ClaimJoined
import GoSem.ClaimMapViews
import Derived.JoinedTies
import Derived.KernelRfl
namespace Go.Proofs.Ytheieibkbeckkaa
/- THE CELL 'sum', in the pinned program and in every row, IS THE sha256 OF THE DUMP (.gsa) THAT YtheieibkbeckkaaProg.lean LOADS. Nothing in Lean hashes anything: it is a label: what it is worth is what the hold of that sum in a sandbox is worth. -/
noncomputable def Try.pinned : Pinned := { name := "ytheieibkbeckkaa", sum := "a3f55f84a7af617163f5ff3ff2dcd70009ba056c6d0faa0f50ecebf7767f0248", checked := Try.checked }
namespace Rows
def none {H : Type} : Left H := { results := [], args := [] }

/-- 'locutionlaw08.ShardMakes': WHATEVER THE INPUT: true; the input reads as it did. -/
def shardMakesSpec : ChangeSpec := { name := "shardMakes", fn := fun _ => fun
  | [d1, d2] => { results := [.lit (.bool true)], args := [d1, d2] }
  | _ => none }
def shardMakesRow : OpenClaim := { program := "ytheieibkbeckkaa", sum := "a3f55f84a7af617163f5ff3ff2dcd70009ba056c6d0faa0f50ecebf7767f0248", func := "locution/locutionlaw08.ShardMakes", spec := "shardMakes", unfollowed := true, recurses := true, apart := false }
def ShardMakesSaid : Prop := shardMakesRow.holds Try.pinned (OpenSpec.ofChange shardMakesSpec)

/-- ITS FALSE NEIGHBOUR: 'it returns false'. Refute it at one input. -/
def shardMakesWrong : ChangeSpec := { name := "shardMakes", fn := fun _ => fun
  | [d1, d2] => { results := [.lit (.bool false)], args := [d1, d2] }
  | _ => none }
def ShardMakesWrongFalsely : Prop := shardMakesRow.holds Try.pinned (OpenSpec.ofChange shardMakesWrong)

/-- 'locutionlaw08.ShardNext': WHATEVER THE INPUT: true; the input reads as it did. -/
def shardNextSpec : ChangeSpec := { name := "shardNext", fn := fun _ => fun
  | [d1, d2] => { results := [.lit (.bool true)], args := [d1, d2] }
  | _ => none }
def shardNextRow : OpenClaim := { program := "ytheieibkbeckkaa", sum := "a3f55f84a7af617163f5ff3ff2dcd70009ba056c6d0faa0f50ecebf7767f0248", func := "locution/locutionlaw08.ShardNext", spec := "shardNext", unfollowed := true, recurses := true, apart := false }
def ShardNextSaid : Prop := shardNextRow.holds Try.pinned (OpenSpec.ofChange shardNextSpec)

/-- ITS FALSE NEIGHBOUR: 'it returns false'. Refute it at one input. -/
def shardNextWrong : ChangeSpec := { name := "shardNext", fn := fun _ => fun
  | [d1, d2] => { results := [.lit (.bool false)], args := [d1, d2] }
  | _ => none }
def ShardNextWrongFalsely : Prop := shardNextRow.holds Try.pinned (OpenSpec.ofChange shardNextWrong)

/-- 'locutionlaw08.ShardKinds': WHATEVER THE INPUT: true; the input reads as it did. -/
def shardKindsSpec : ChangeSpec := { name := "shardKinds", fn := fun _ => fun
  | [d] => { results := [.lit (.bool true)], args := [d] }
  | _ => none }
def shardKindsRow : OpenClaim := { program := "ytheieibkbeckkaa", sum := "a3f55f84a7af617163f5ff3ff2dcd70009ba056c6d0faa0f50ecebf7767f0248", func := "locution/locutionlaw08.ShardKinds", spec := "shardKinds", unfollowed := true, recurses := true, apart := false }
def ShardKindsSaid : Prop := shardKindsRow.holds Try.pinned (OpenSpec.ofChange shardKindsSpec)

/-- ITS FALSE NEIGHBOUR: 'it returns false'. Refute it at one input. -/
def shardKindsWrong : ChangeSpec := { name := "shardKinds", fn := fun _ => fun
  | [d] => { results := [.lit (.bool false)], args := [d] }
  | _ => none }
def ShardKindsWrongFalsely : Prop := shardKindsRow.holds Try.pinned (OpenSpec.ofChange shardKindsWrong)

/- THE SECOND FORM. 'bulk': how many values and letters a reading holds, each counted each time it is reached (what is shared counts as often as it is met; a slice's spare places count too). A statement '..UptoSaid' is the law's where the arguments, and the package variables that the reading takes, are together of bulk at most 1048576: NARROWER than '..Said'. Prove '..Said' where nothing that the law and all that it calls make is longer than what came in: it says more and counts as full. Else prove '..UptoSaid'. A law counts once. -/
mutual
def uptoBulk {H : Type} : DataW H → Nat
  | .lit (.string bytes) => bytes.length + 1
  | .lit _ => 1
  | .nil => 1
  | .ptr d => uptoBulk d + 1
  | .slice elems spare => uptoBulkAll elems + uptoBulkAll spare + 1
  | .agg parts => uptoBulkAll parts + 1
  | .iface _ d => uptoBulk d + 1
  | .map entries => uptoBulkEntries entries + 1
  | .held _ => 1
def uptoBulkAll {H : Type} : List (DataW H) → Nat
  | [] => 0
  | d :: r => uptoBulk d + uptoBulkAll r
def uptoBulkEntries {H : Type} : List (Lit × DataW H) → Nat
  | [] => 0
  | x :: r => uptoBulkEntry x + uptoBulkEntries r
def uptoBulkEntry {H : Type} : Lit × DataW H → Nat
  | (.string bytes, d) => bytes.length + uptoBulk d + 1
  | (_, d) => uptoBulk d + 1
 end
def uptoSmall : (H : Type) → List (DataW H) → Bool := fun _ ds => decide (uptoBulkAll ds ≤ 1048576)
def OpenSpec.upto (s : _root_.Go.ChangeSpec) : _root_.Go.OpenSpec := { _root_.Go.OpenSpec.ofChange s with cond := some uptoSmall }

/-- 'locutionlaw08.ShardMakes', WHERE WHAT IT READS IS OF BULK AT MOST 1048576: true; the input reads as it did. -/
def shardMakesUptoRow : OpenClaim := { program := "ytheieibkbeckkaa", sum := "a3f55f84a7af617163f5ff3ff2dcd70009ba056c6d0faa0f50ecebf7767f0248", func := "locution/locutionlaw08.ShardMakes", spec := "shardMakes", unfollowed := true, recurses := true, apart := false, narrowed := true }
def ShardMakesUptoSaid : Prop := shardMakesUptoRow.holds Try.pinned (OpenSpec.upto shardMakesSpec)

/-- 'locutionlaw08.ShardNext', WHERE WHAT IT READS IS OF BULK AT MOST 1048576: true; the input reads as it did. -/
def shardNextUptoRow : OpenClaim := { program := "ytheieibkbeckkaa", sum := "a3f55f84a7af617163f5ff3ff2dcd70009ba056c6d0faa0f50ecebf7767f0248", func := "locution/locutionlaw08.ShardNext", spec := "shardNext", unfollowed := true, recurses := true, apart := false, narrowed := true }
def ShardNextUptoSaid : Prop := shardNextUptoRow.holds Try.pinned (OpenSpec.upto shardNextSpec)

/-- 'locutionlaw08.ShardKinds', WHERE WHAT IT READS IS OF BULK AT MOST 1048576: true; the input reads as it did. -/
def shardKindsUptoRow : OpenClaim := { program := "ytheieibkbeckkaa", sum := "a3f55f84a7af617163f5ff3ff2dcd70009ba056c6d0faa0f50ecebf7767f0248", func := "locution/locutionlaw08.ShardKinds", spec := "shardKinds", unfollowed := true, recurses := true, apart := false, narrowed := true }
def ShardKindsUptoSaid : Prop := shardKindsUptoRow.holds Try.pinned (OpenSpec.upto shardKindsSpec)

end Rows
end Go.Proofs.Ytheieibkbeckkaa
