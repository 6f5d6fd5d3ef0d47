/-
  No cell of these rows narrows 'for every input' (looked for: loops, veiled, ifaces, maps, wideKeys, modest, calm, conditions, laid).
  DERIVED. THE GIVEN ROWS OF THIS SEAT. 4 by the template 'for every input the law returns true; each argument reads behind the call as it read before'; 0 by the template 'total and deterministic' (their statements: YtbpegpgbdemomaaTotals.lean).
  GIVEN WITH THE SEED: the statements are not yours to turn. If you find one false, say at which input.
  Laid BY PROGRAM, IN A SANDBOX (cutbox-rows.mjs): the forced cells as the released guide's own fill.sh prints them over the translation 4f6ee4d769a9b936… (all of the seat's roots in one cut). By AI agents, Wed Nov 11 2026. No macro, syntax, notation, axiom, sorry.
-/
import Derived.Test.YtbpegpgbdemomaaChecked
import GoSem.Claim
import GoSem.ClaimJoined
import GoSem.ClaimMapViews
import Derived.JoinedTies
import Derived.KernelRfl
namespace Go.Proofs.Ytbpegpgbdemomaa
/- THE CELL 'sum', in the pinned program and in every row, IS THE sha256 OF THE DUMP (.gsa) THAT YtbpegpgbdemomaaProg.lean LOADS. Nothing in Lean hashes anything: it is a label: what it is worth is what the hold of that sum in a sandbox is worth. -/
noncomputable def Try.pinned : Pinned := { name := "ytbpegpgbdemomaa", sum := "4f6ee4d769a9b936eba3ce8f15f02ef0d72bbb51dfc84995652a2bae11e13c73", checked := Try.checked }
namespace Rows
def none {H : Type} : Left H := { results := [], args := [] }

/-- 'locutionlaw15.VocabOf': WHATEVER THE INPUT: true; the input reads as it did. -/
def vocabOfSpec : ChangeSpec := { name := "vocabOf", fn := fun _ => fun
  | [d1, d2] => { results := [.lit (.bool true)], args := [d1, d2] }
  | _ => none }
def vocabOfRow : OpenClaim := { program := "ytbpegpgbdemomaa", sum := "4f6ee4d769a9b936eba3ce8f15f02ef0d72bbb51dfc84995652a2bae11e13c73", func := "locution/locutionlaw15.VocabOf", spec := "vocabOf", inPlace := ["internal/bytealg.IndexByteString", "internal/bytealg.IndexString"], unfollowed := true, recurses := true, named := ["internal/bytealg.MaxLen"], apart := false }
def VocabOfSaid : Prop := vocabOfRow.holds Try.pinned (OpenSpec.ofChange vocabOfSpec)

/-- ITS FALSE NEIGHBOUR: 'it returns false'. Refute it at one input. -/
def vocabOfWrong : ChangeSpec := { name := "vocabOf", fn := fun _ => fun
  | [d1, d2] => { results := [.lit (.bool false)], args := [d1, d2] }
  | _ => none }
def VocabOfWrongFalsely : Prop := vocabOfRow.holds Try.pinned (OpenSpec.ofChange vocabOfWrong)

/-- 'locutionlaw15.VocabLearns': WHATEVER THE INPUT: true; the input reads as it did. -/
def vocabLearnsSpec : ChangeSpec := { name := "vocabLearns", fn := fun _ => fun
  | [d1, d2] => { results := [.lit (.bool true)], args := [d1, d2] }
  | _ => none }
def vocabLearnsRow : OpenClaim := { program := "ytbpegpgbdemomaa", sum := "4f6ee4d769a9b936eba3ce8f15f02ef0d72bbb51dfc84995652a2bae11e13c73", func := "locution/locutionlaw15.VocabLearns", spec := "vocabLearns", inPlace := ["internal/bytealg.IndexByteString", "internal/bytealg.IndexString"], unfollowed := true, recurses := true, named := ["internal/bytealg.MaxLen"], apart := false }
def VocabLearnsSaid : Prop := vocabLearnsRow.holds Try.pinned (OpenSpec.ofChange vocabLearnsSpec)

/-- ITS FALSE NEIGHBOUR: 'it returns false'. Refute it at one input. -/
def vocabLearnsWrong : ChangeSpec := { name := "vocabLearns", fn := fun _ => fun
  | [d1, d2] => { results := [.lit (.bool false)], args := [d1, d2] }
  | _ => none }
def VocabLearnsWrongFalsely : Prop := vocabLearnsRow.holds Try.pinned (OpenSpec.ofChange vocabLearnsWrong)

/-- 'locutionlaw15.VocabAdds': WHATEVER THE INPUT: true; the input reads as it did. -/
def vocabAddsSpec : ChangeSpec := { name := "vocabAdds", fn := fun _ => fun
  | [d1, d2] => { results := [.lit (.bool true)], args := [d1, d2] }
  | _ => none }
def vocabAddsRow : OpenClaim := { program := "ytbpegpgbdemomaa", sum := "4f6ee4d769a9b936eba3ce8f15f02ef0d72bbb51dfc84995652a2bae11e13c73", func := "locution/locutionlaw15.VocabAdds", spec := "vocabAdds", inPlace := ["internal/bytealg.IndexByteString", "internal/bytealg.IndexString"], unfollowed := true, recurses := true, named := ["internal/bytealg.MaxLen"], apart := false }
def VocabAddsSaid : Prop := vocabAddsRow.holds Try.pinned (OpenSpec.ofChange vocabAddsSpec)

/-- ITS FALSE NEIGHBOUR: 'it returns false'. Refute it at one input. -/
def vocabAddsWrong : ChangeSpec := { name := "vocabAdds", fn := fun _ => fun
  | [d1, d2] => { results := [.lit (.bool false)], args := [d1, d2] }
  | _ => none }
def VocabAddsWrongFalsely : Prop := vocabAddsRow.holds Try.pinned (OpenSpec.ofChange vocabAddsWrong)

/-- 'locutionlaw15.VocabLines': WHATEVER THE INPUT: true; the input reads as it did. -/
def vocabLinesSpec : ChangeSpec := { name := "vocabLines", fn := fun _ => fun
  | [d1, d2, d3] => { results := [.lit (.bool true)], args := [d1, d2, d3] }
  | _ => none }
def vocabLinesRow : OpenClaim := { program := "ytbpegpgbdemomaa", sum := "4f6ee4d769a9b936eba3ce8f15f02ef0d72bbb51dfc84995652a2bae11e13c73", func := "locution/locutionlaw15.VocabLines", spec := "vocabLines", inPlace := ["internal/bytealg.IndexByteString", "internal/bytealg.IndexString", "internal/abi.NoEscape", "internal/bytealg.MakeNoZero"], unfollowed := true, recurses := true, named := ["internal/bytealg.MaxLen"], apart := false }
def VocabLinesSaid : Prop := vocabLinesRow.holds Try.pinned (OpenSpec.ofChange vocabLinesSpec)

/-- ITS FALSE NEIGHBOUR: 'it returns false'. Refute it at one input. -/
def vocabLinesWrong : ChangeSpec := { name := "vocabLines", fn := fun _ => fun
  | [d1, d2, d3] => { results := [.lit (.bool false)], args := [d1, d2, d3] }
  | _ => none }
def VocabLinesWrongFalsely : Prop := vocabLinesRow.holds Try.pinned (OpenSpec.ofChange vocabLinesWrong)

/- THE SECOND FORM. 'bulk': how many values and letters a reading holds, each counted each time it is reached (what is shared counts as often as it is met; a slice's spare places count too). A statement '..UptoSaid' is the law's where the arguments, and the package variables that the reading takes, are together of bulk at most 1048576: NARROWER than '..Said'. Prove '..Said' where nothing that the law and all that it calls make is longer than what came in: it says more and counts as full. Else prove '..UptoSaid'. A law counts once. -/
mutual
def uptoBulk {H : Type} : DataW H → Nat
  | .lit (.string bytes) => bytes.length + 1
  | .lit _ => 1
  | .nil => 1
  | .ptr d => uptoBulk d + 1
  | .slice elems spare => uptoBulkAll elems + uptoBulkAll spare + 1
  | .agg parts => uptoBulkAll parts + 1
  | .iface _ d => uptoBulk d + 1
  | .map entries => uptoBulkEntries entries + 1
  | .held _ => 1
def uptoBulkAll {H : Type} : List (DataW H) → Nat
  | [] => 0
  | d :: r => uptoBulk d + uptoBulkAll r
def uptoBulkEntries {H : Type} : List (Lit × DataW H) → Nat
  | [] => 0
  | x :: r => uptoBulkEntry x + uptoBulkEntries r
def uptoBulkEntry {H : Type} : Lit × DataW H → Nat
  | (.string bytes, d) => bytes.length + uptoBulk d + 1
  | (_, d) => uptoBulk d + 1
 end
def uptoSmall : (H : Type) → List (DataW H) → Bool := fun _ ds => decide (uptoBulkAll ds ≤ 1048576)
def OpenSpec.upto (s : _root_.Go.ChangeSpec) : _root_.Go.OpenSpec := { _root_.Go.OpenSpec.ofChange s with cond := some uptoSmall }

/-- 'locutionlaw15.VocabOf', WHERE WHAT IT READS IS OF BULK AT MOST 1048576: true; the input reads as it did. -/
def vocabOfUptoRow : OpenClaim := { program := "ytbpegpgbdemomaa", sum := "4f6ee4d769a9b936eba3ce8f15f02ef0d72bbb51dfc84995652a2bae11e13c73", func := "locution/locutionlaw15.VocabOf", spec := "vocabOf", inPlace := ["internal/bytealg.IndexByteString", "internal/bytealg.IndexString"], unfollowed := true, recurses := true, named := ["internal/bytealg.MaxLen"], apart := false, narrowed := true }
def VocabOfUptoSaid : Prop := vocabOfUptoRow.holds Try.pinned (OpenSpec.upto vocabOfSpec)

/-- 'locutionlaw15.VocabLearns', WHERE WHAT IT READS IS OF BULK AT MOST 1048576: true; the input reads as it did. -/
def vocabLearnsUptoRow : OpenClaim := { program := "ytbpegpgbdemomaa", sum := "4f6ee4d769a9b936eba3ce8f15f02ef0d72bbb51dfc84995652a2bae11e13c73", func := "locution/locutionlaw15.VocabLearns", spec := "vocabLearns", inPlace := ["internal/bytealg.IndexByteString", "internal/bytealg.IndexString"], unfollowed := true, recurses := true, named := ["internal/bytealg.MaxLen"], apart := false, narrowed := true }
def VocabLearnsUptoSaid : Prop := vocabLearnsUptoRow.holds Try.pinned (OpenSpec.upto vocabLearnsSpec)

/-- 'locutionlaw15.VocabAdds', WHERE WHAT IT READS IS OF BULK AT MOST 1048576: true; the input reads as it did. -/
def vocabAddsUptoRow : OpenClaim := { program := "ytbpegpgbdemomaa", sum := "4f6ee4d769a9b936eba3ce8f15f02ef0d72bbb51dfc84995652a2bae11e13c73", func := "locution/locutionlaw15.VocabAdds", spec := "vocabAdds", inPlace := ["internal/bytealg.IndexByteString", "internal/bytealg.IndexString"], unfollowed := true, recurses := true, named := ["internal/bytealg.MaxLen"], apart := false, narrowed := true }
def VocabAddsUptoSaid : Prop := vocabAddsUptoRow.holds Try.pinned (OpenSpec.upto vocabAddsSpec)

/-- 'locutionlaw15.VocabLines', WHERE WHAT IT READS IS OF BULK AT MOST 1048576: true; the input reads as it did. -/
def vocabLinesUptoRow : OpenClaim := { program := "ytbpegpgbdemomaa", sum := "4f6ee4d769a9b936eba3ce8f15f02ef0d72bbb51dfc84995652a2bae11e13c73", func := "locution/locutionlaw15.VocabLines", spec := "vocabLines", inPlace := ["internal/bytealg.IndexByteString", "internal/bytealg.IndexString", "internal/abi.NoEscape", "internal/bytealg.MakeNoZero"], unfollowed := true, recurses := true, named := ["internal/bytealg.MaxLen"], apart := false, narrowed := true }
def VocabLinesUptoSaid : Prop := vocabLinesUptoRow.holds Try.pinned (OpenSpec.upto vocabLinesSpec)

end Rows
end Go.Proofs.Ytbpegpgbdemomaa
