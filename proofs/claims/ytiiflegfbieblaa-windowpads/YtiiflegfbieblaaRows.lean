/-
  No cell of these rows narrows 'for every input' (looked for: loops, veiled, ifaces, maps, wideKeys, modest, calm, conditions, laid).
  DERIVED. THE GIVEN ROWS OF THIS SEAT. 4 by the template 'for every input the law returns true; each argument reads behind the call as it read before'; 0 by the template 'total and deterministic' (their statements: YtiiflegfbieblaaTotals.lean).
  GIVEN WITH THE SEED: the statements are not yours to turn. If you find one false, say at which input.
  Laid BY PROGRAM, IN A SANDBOX (cutbox-rows.mjs): the forced cells as the released guide's own fill.sh prints them over the translation c15508a8f7fc58e7… (all of the seat's roots in one cut). By AI agents, Wed Nov 11 2026. No macro, syntax, notation, axiom, sorry.
-/
import Derived.Test.YtiiflegfbieblaaChecked
import GoSem.Claim
import GoSem.ClaimJoined
import GoSem.ClaimMapViews
import Derived.JoinedTies
import Derived.KernelRfl
namespace Go.Proofs.Ytiiflegfbieblaa
/- THE CELL 'sum', in the pinned program and in every row, IS THE sha256 OF THE DUMP (.gsa) THAT YtiiflegfbieblaaProg.lean LOADS. Nothing in Lean hashes anything: it is a label: what it is worth is what the hold of that sum in a sandbox is worth. -/
noncomputable def Try.pinned : Pinned := { name := "ytiiflegfbieblaa", sum := "c15508a8f7fc58e7e8bacb76a64ed61f870a97c3ad28654457c67a670667abe5", checked := Try.checked }
namespace Rows
def none {H : Type} : Left H := { results := [], args := [] }

/-- 'locutionlaw16.WindowPads': WHATEVER THE INPUT: true; the input reads as it did. -/
def windowPadsSpec : ChangeSpec := { name := "windowPads", fn := fun _ => fun
  | [d1, d2, d3] => { results := [.lit (.bool true)], args := [d1, d2, d3] }
  | _ => none }
def windowPadsRow : OpenClaim := { program := "ytiiflegfbieblaa", sum := "c15508a8f7fc58e7e8bacb76a64ed61f870a97c3ad28654457c67a670667abe5", func := "locution/locutionlaw16.WindowPads", spec := "windowPads", inPlace := ["internal/bytealg.IndexByteString", "internal/bytealg.IndexString"], unfollowed := true, recurses := true, named := ["internal/bytealg.MaxLen"], apart := false }
def WindowPadsSaid : Prop := windowPadsRow.holds Try.pinned (OpenSpec.ofChange windowPadsSpec)

/-- ITS FALSE NEIGHBOUR: 'it returns false'. Refute it at one input. -/
def windowPadsWrong : ChangeSpec := { name := "windowPads", fn := fun _ => fun
  | [d1, d2, d3] => { results := [.lit (.bool false)], args := [d1, d2, d3] }
  | _ => none }
def WindowPadsWrongFalsely : Prop := windowPadsRow.holds Try.pinned (OpenSpec.ofChange windowPadsWrong)

/-- 'locutionlaw16.WindowGrams': WHATEVER THE INPUT: true; the input reads as it did. -/
def windowGramsSpec : ChangeSpec := { name := "windowGrams", fn := fun _ => fun
  | [d1, d2, d3] => { results := [.lit (.bool true)], args := [d1, d2, d3] }
  | _ => none }
def windowGramsRow : OpenClaim := { program := "ytiiflegfbieblaa", sum := "c15508a8f7fc58e7e8bacb76a64ed61f870a97c3ad28654457c67a670667abe5", func := "locution/locutionlaw16.WindowGrams", spec := "windowGrams", unfollowed := true, recurses := true, apart := false }
def WindowGramsSaid : Prop := windowGramsRow.holds Try.pinned (OpenSpec.ofChange windowGramsSpec)

/-- ITS FALSE NEIGHBOUR: 'it returns false'. Refute it at one input. -/
def windowGramsWrong : ChangeSpec := { name := "windowGrams", fn := fun _ => fun
  | [d1, d2, d3] => { results := [.lit (.bool false)], args := [d1, d2, d3] }
  | _ => none }
def WindowGramsWrongFalsely : Prop := windowGramsRow.holds Try.pinned (OpenSpec.ofChange windowGramsWrong)

/-- 'locutionlaw16.WindowEach': WHATEVER THE INPUT: true; the input reads as it did. -/
def windowEachSpec : ChangeSpec := { name := "windowEach", fn := fun _ => fun
  | [d1, d2, d3] => { results := [.lit (.bool true)], args := [d1, d2, d3] }
  | _ => none }
def windowEachRow : OpenClaim := { program := "ytiiflegfbieblaa", sum := "c15508a8f7fc58e7e8bacb76a64ed61f870a97c3ad28654457c67a670667abe5", func := "locution/locutionlaw16.WindowEach", spec := "windowEach", unfollowed := true, recurses := true, apart := false }
def WindowEachSaid : Prop := windowEachRow.holds Try.pinned (OpenSpec.ofChange windowEachSpec)

/-- ITS FALSE NEIGHBOUR: 'it returns false'. Refute it at one input. -/
def windowEachWrong : ChangeSpec := { name := "windowEach", fn := fun _ => fun
  | [d1, d2, d3] => { results := [.lit (.bool false)], args := [d1, d2, d3] }
  | _ => none }
def WindowEachWrongFalsely : Prop := windowEachRow.holds Try.pinned (OpenSpec.ofChange windowEachWrong)

/-- 'locutionlaw16.WindowCounts': WHATEVER THE INPUT: true; the input reads as it did. -/
def windowCountsSpec : ChangeSpec := { name := "windowCounts", fn := fun _ => fun
  | [d1, d2, d3] => { results := [.lit (.bool true)], args := [d1, d2, d3] }
  | _ => none }
def windowCountsRow : OpenClaim := { program := "ytiiflegfbieblaa", sum := "c15508a8f7fc58e7e8bacb76a64ed61f870a97c3ad28654457c67a670667abe5", func := "locution/locutionlaw16.WindowCounts", spec := "windowCounts", unfollowed := true, recurses := true, apart := false }
def WindowCountsSaid : Prop := windowCountsRow.holds Try.pinned (OpenSpec.ofChange windowCountsSpec)

/-- ITS FALSE NEIGHBOUR: 'it returns false'. Refute it at one input. -/
def windowCountsWrong : ChangeSpec := { name := "windowCounts", fn := fun _ => fun
  | [d1, d2, d3] => { results := [.lit (.bool false)], args := [d1, d2, d3] }
  | _ => none }
def WindowCountsWrongFalsely : Prop := windowCountsRow.holds Try.pinned (OpenSpec.ofChange windowCountsWrong)

/- THE SECOND FORM. 'bulk': how many values and letters a reading holds, each counted each time it is reached (what is shared counts as often as it is met; a slice's spare places count too). A statement '..UptoSaid' is the law's where the arguments, and the package variables that the reading takes, are together of bulk at most 1048576: NARROWER than '..Said'. Prove '..Said' where nothing that the law and all that it calls make is longer than what came in: it says more and counts as full. Else prove '..UptoSaid'. A law counts once. -/
mutual
def uptoBulk {H : Type} : DataW H → Nat
  | .lit (.string bytes) => bytes.length + 1
  | .lit _ => 1
  | .nil => 1
  | .ptr d => uptoBulk d + 1
  | .slice elems spare => uptoBulkAll elems + uptoBulkAll spare + 1
  | .agg parts => uptoBulkAll parts + 1
  | .iface _ d => uptoBulk d + 1
  | .map entries => uptoBulkEntries entries + 1
  | .held _ => 1
def uptoBulkAll {H : Type} : List (DataW H) → Nat
  | [] => 0
  | d :: r => uptoBulk d + uptoBulkAll r
def uptoBulkEntries {H : Type} : List (Lit × DataW H) → Nat
  | [] => 0
  | x :: r => uptoBulkEntry x + uptoBulkEntries r
def uptoBulkEntry {H : Type} : Lit × DataW H → Nat
  | (.string bytes, d) => bytes.length + uptoBulk d + 1
  | (_, d) => uptoBulk d + 1
 end
def uptoSmall : (H : Type) → List (DataW H) → Bool := fun _ ds => decide (uptoBulkAll ds ≤ 1048576)
def OpenSpec.upto (s : _root_.Go.ChangeSpec) : _root_.Go.OpenSpec := { _root_.Go.OpenSpec.ofChange s with cond := some uptoSmall }

/-- 'locutionlaw16.WindowPads', WHERE WHAT IT READS IS OF BULK AT MOST 1048576: true; the input reads as it did. -/
def windowPadsUptoRow : OpenClaim := { program := "ytiiflegfbieblaa", sum := "c15508a8f7fc58e7e8bacb76a64ed61f870a97c3ad28654457c67a670667abe5", func := "locution/locutionlaw16.WindowPads", spec := "windowPads", inPlace := ["internal/bytealg.IndexByteString", "internal/bytealg.IndexString"], unfollowed := true, recurses := true, named := ["internal/bytealg.MaxLen"], apart := false, narrowed := true }
def WindowPadsUptoSaid : Prop := windowPadsUptoRow.holds Try.pinned (OpenSpec.upto windowPadsSpec)

/-- 'locutionlaw16.WindowGrams', WHERE WHAT IT READS IS OF BULK AT MOST 1048576: true; the input reads as it did. -/
def windowGramsUptoRow : OpenClaim := { program := "ytiiflegfbieblaa", sum := "c15508a8f7fc58e7e8bacb76a64ed61f870a97c3ad28654457c67a670667abe5", func := "locution/locutionlaw16.WindowGrams", spec := "windowGrams", unfollowed := true, recurses := true, apart := false, narrowed := true }
def WindowGramsUptoSaid : Prop := windowGramsUptoRow.holds Try.pinned (OpenSpec.upto windowGramsSpec)

/-- 'locutionlaw16.WindowEach', WHERE WHAT IT READS IS OF BULK AT MOST 1048576: true; the input reads as it did. -/
def windowEachUptoRow : OpenClaim := { program := "ytiiflegfbieblaa", sum := "c15508a8f7fc58e7e8bacb76a64ed61f870a97c3ad28654457c67a670667abe5", func := "locution/locutionlaw16.WindowEach", spec := "windowEach", unfollowed := true, recurses := true, apart := false, narrowed := true }
def WindowEachUptoSaid : Prop := windowEachUptoRow.holds Try.pinned (OpenSpec.upto windowEachSpec)

/-- 'locutionlaw16.WindowCounts', WHERE WHAT IT READS IS OF BULK AT MOST 1048576: true; the input reads as it did. -/
def windowCountsUptoRow : OpenClaim := { program := "ytiiflegfbieblaa", sum := "c15508a8f7fc58e7e8bacb76a64ed61f870a97c3ad28654457c67a670667abe5", func := "locution/locutionlaw16.WindowCounts", spec := "windowCounts", unfollowed := true, recurses := true, apart := false, narrowed := true }
def WindowCountsUptoSaid : Prop := windowCountsUptoRow.holds Try.pinned (OpenSpec.upto windowCountsSpec)

end Rows
end Go.Proofs.Ytiiflegfbieblaa
