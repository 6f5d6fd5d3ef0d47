/-
  No cell of these rows narrows 'for every input' (looked for: loops, veiled, ifaces, maps, wideKeys, modest, calm, conditions, laid).
  DERIVED. THE GIVEN ROWS OF THIS SEAT. 4 by the template 'for every input the law returns true; each argument reads behind the call as it read before'; 0 by the template 'total and deterministic' (their statements: YteiegedffjkbeaaTotals.lean).
  GIVEN WITH THE SEED: the statements are not yours to turn. If you find one false, say at which input.
  Laid BY PROGRAM, IN A SANDBOX (cutbox-rows.mjs): the forced cells as the released guide's own fill.sh prints them over the translation 1d8e1e0208fecdfa… (all of the seat's roots in one cut). By AI agents, Wed Nov 11 2026. No macro, syntax, notation, axiom, sorry.
-/
import Derived.Test.YteiegedffjkbeaaChecked
import GoSem.Claim
import GoSem.ClaimJoined
import GoSem.ClaimMapViews
import Derived.JoinedTies
import Derived.KernelRfl
namespace Go.Proofs.Yteiegedffjkbeaa
/- THE CELL 'sum', in the pinned program and in every row, IS THE sha256 OF THE DUMP (.gsa) THAT YteiegedffjkbeaaProg.lean LOADS. Nothing in Lean hashes anything: it is a label: what it is worth is what the hold of that sum in a sandbox is worth. -/
noncomputable def Try.pinned : Pinned := { name := "yteiegedffjkbeaa", sum := "1d8e1e0208fecdfa38a5cab1e6e2be4c3f74be6f921ae5694134eac56da6d6c1", checked := Try.checked }
namespace Rows
def none {H : Type} : Left H := { results := [], args := [] }

/-- 'locutionlaw18.GramCompares': WHATEVER THE INPUT: true; the input reads as it did. -/
def gramComparesSpec : ChangeSpec := { name := "gramCompares", fn := fun _ => fun
  | [d1, d2] => { results := [.lit (.bool true)], args := [d1, d2] }
  | _ => none }
def gramComparesRow : OpenClaim := { program := "yteiegedffjkbeaa", sum := "1d8e1e0208fecdfa38a5cab1e6e2be4c3f74be6f921ae5694134eac56da6d6c1", func := "locution/locutionlaw18.GramCompares", spec := "gramCompares", unfollowed := true, recurses := true, apart := false }
def GramComparesSaid : Prop := gramComparesRow.holds Try.pinned (OpenSpec.ofChange gramComparesSpec)

/-- ITS FALSE NEIGHBOUR: 'it returns false'. Refute it at one input. -/
def gramComparesWrong : ChangeSpec := { name := "gramCompares", fn := fun _ => fun
  | [d1, d2] => { results := [.lit (.bool false)], args := [d1, d2] }
  | _ => none }
def GramComparesWrongFalsely : Prop := gramComparesRow.holds Try.pinned (OpenSpec.ofChange gramComparesWrong)

/-- 'locutionlaw18.GramKeys': WHATEVER THE INPUT: true; the input reads as it did. -/
def gramKeysSpec : ChangeSpec := { name := "gramKeys", fn := fun _ => fun
  | [d1, d2] => { results := [.lit (.bool true)], args := [d1, d2] }
  | _ => none }
def gramKeysRow : OpenClaim := { program := "yteiegedffjkbeaa", sum := "1d8e1e0208fecdfa38a5cab1e6e2be4c3f74be6f921ae5694134eac56da6d6c1", func := "locution/locutionlaw18.GramKeys", spec := "gramKeys", unfollowed := true, recurses := true, apart := false }
def GramKeysSaid : Prop := gramKeysRow.holds Try.pinned (OpenSpec.ofChange gramKeysSpec)

/-- ITS FALSE NEIGHBOUR: 'it returns false'. Refute it at one input. -/
def gramKeysWrong : ChangeSpec := { name := "gramKeys", fn := fun _ => fun
  | [d1, d2] => { results := [.lit (.bool false)], args := [d1, d2] }
  | _ => none }
def GramKeysWrongFalsely : Prop := gramKeysRow.holds Try.pinned (OpenSpec.ofChange gramKeysWrong)

/-- 'locutionlaw18.GramParses': WHATEVER THE INPUT: true; the input reads as it did. -/
def gramParsesSpec : ChangeSpec := { name := "gramParses", fn := fun _ => fun
  | [d] => { results := [.lit (.bool true)], args := [d] }
  | _ => none }
def gramParsesRow : OpenClaim := { program := "yteiegedffjkbeaa", sum := "1d8e1e0208fecdfa38a5cab1e6e2be4c3f74be6f921ae5694134eac56da6d6c1", func := "locution/locutionlaw18.GramParses", spec := "gramParses", unfollowed := true, recurses := true, apart := false }
def GramParsesSaid : Prop := gramParsesRow.holds Try.pinned (OpenSpec.ofChange gramParsesSpec)

/-- ITS FALSE NEIGHBOUR: 'it returns false'. Refute it at one input. -/
def gramParsesWrong : ChangeSpec := { name := "gramParses", fn := fun _ => fun
  | [d] => { results := [.lit (.bool false)], args := [d] }
  | _ => none }
def GramParsesWrongFalsely : Prop := gramParsesRow.holds Try.pinned (OpenSpec.ofChange gramParsesWrong)

/-- 'locutionlaw18.GramSums': WHATEVER THE INPUT: true; the input reads as it did. -/
def gramSumsSpec : ChangeSpec := { name := "gramSums", fn := fun _ => fun
  | [d1, d2] => { results := [.lit (.bool true)], args := [d1, d2] }
  | _ => none }
def gramSumsRow : OpenClaim := { program := "yteiegedffjkbeaa", sum := "1d8e1e0208fecdfa38a5cab1e6e2be4c3f74be6f921ae5694134eac56da6d6c1", func := "locution/locutionlaw18.GramSums", spec := "gramSums", unfollowed := true, recurses := true, apart := false }
def GramSumsSaid : Prop := gramSumsRow.holds Try.pinned (OpenSpec.ofChange gramSumsSpec)

/-- ITS FALSE NEIGHBOUR: 'it returns false'. Refute it at one input. -/
def gramSumsWrong : ChangeSpec := { name := "gramSums", fn := fun _ => fun
  | [d1, d2] => { results := [.lit (.bool false)], args := [d1, d2] }
  | _ => none }
def GramSumsWrongFalsely : Prop := gramSumsRow.holds Try.pinned (OpenSpec.ofChange gramSumsWrong)

/- THE SECOND FORM. 'bulk': how many values and letters a reading holds, each counted each time it is reached (what is shared counts as often as it is met; a slice's spare places count too). A statement '..UptoSaid' is the law's where the arguments, and the package variables that the reading takes, are together of bulk at most 1048576: NARROWER than '..Said'. Prove '..Said' where nothing that the law and all that it calls make is longer than what came in: it says more and counts as full. Else prove '..UptoSaid'. A law counts once. -/
mutual
def uptoBulk {H : Type} : DataW H → Nat
  | .lit (.string bytes) => bytes.length + 1
  | .lit _ => 1
  | .nil => 1
  | .ptr d => uptoBulk d + 1
  | .slice elems spare => uptoBulkAll elems + uptoBulkAll spare + 1
  | .agg parts => uptoBulkAll parts + 1
  | .iface _ d => uptoBulk d + 1
  | .map entries => uptoBulkEntries entries + 1
  | .held _ => 1
def uptoBulkAll {H : Type} : List (DataW H) → Nat
  | [] => 0
  | d :: r => uptoBulk d + uptoBulkAll r
def uptoBulkEntries {H : Type} : List (Lit × DataW H) → Nat
  | [] => 0
  | x :: r => uptoBulkEntry x + uptoBulkEntries r
def uptoBulkEntry {H : Type} : Lit × DataW H → Nat
  | (.string bytes, d) => bytes.length + uptoBulk d + 1
  | (_, d) => uptoBulk d + 1
 end
def uptoSmall : (H : Type) → List (DataW H) → Bool := fun _ ds => decide (uptoBulkAll ds ≤ 1048576)
def OpenSpec.upto (s : _root_.Go.ChangeSpec) : _root_.Go.OpenSpec := { _root_.Go.OpenSpec.ofChange s with cond := some uptoSmall }

/-- 'locutionlaw18.GramCompares', WHERE WHAT IT READS IS OF BULK AT MOST 1048576: true; the input reads as it did. -/
def gramComparesUptoRow : OpenClaim := { program := "yteiegedffjkbeaa", sum := "1d8e1e0208fecdfa38a5cab1e6e2be4c3f74be6f921ae5694134eac56da6d6c1", func := "locution/locutionlaw18.GramCompares", spec := "gramCompares", unfollowed := true, recurses := true, apart := false, narrowed := true }
def GramComparesUptoSaid : Prop := gramComparesUptoRow.holds Try.pinned (OpenSpec.upto gramComparesSpec)

/-- 'locutionlaw18.GramKeys', WHERE WHAT IT READS IS OF BULK AT MOST 1048576: true; the input reads as it did. -/
def gramKeysUptoRow : OpenClaim := { program := "yteiegedffjkbeaa", sum := "1d8e1e0208fecdfa38a5cab1e6e2be4c3f74be6f921ae5694134eac56da6d6c1", func := "locution/locutionlaw18.GramKeys", spec := "gramKeys", unfollowed := true, recurses := true, apart := false, narrowed := true }
def GramKeysUptoSaid : Prop := gramKeysUptoRow.holds Try.pinned (OpenSpec.upto gramKeysSpec)

/-- 'locutionlaw18.GramParses', WHERE WHAT IT READS IS OF BULK AT MOST 1048576: true; the input reads as it did. -/
def gramParsesUptoRow : OpenClaim := { program := "yteiegedffjkbeaa", sum := "1d8e1e0208fecdfa38a5cab1e6e2be4c3f74be6f921ae5694134eac56da6d6c1", func := "locution/locutionlaw18.GramParses", spec := "gramParses", unfollowed := true, recurses := true, apart := false, narrowed := true }
def GramParsesUptoSaid : Prop := gramParsesUptoRow.holds Try.pinned (OpenSpec.upto gramParsesSpec)

/-- 'locutionlaw18.GramSums', WHERE WHAT IT READS IS OF BULK AT MOST 1048576: true; the input reads as it did. -/
def gramSumsUptoRow : OpenClaim := { program := "yteiegedffjkbeaa", sum := "1d8e1e0208fecdfa38a5cab1e6e2be4c3f74be6f921ae5694134eac56da6d6c1", func := "locution/locutionlaw18.GramSums", spec := "gramSums", unfollowed := true, recurses := true, apart := false, narrowed := true }
def GramSumsUptoSaid : Prop := gramSumsUptoRow.holds Try.pinned (OpenSpec.upto gramSumsSpec)

end Rows
end Go.Proofs.Yteiegedffjkbeaa
