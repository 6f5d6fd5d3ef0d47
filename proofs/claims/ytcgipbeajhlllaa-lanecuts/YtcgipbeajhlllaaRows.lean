/-
  No cell of these rows narrows 'for every input' (looked for: loops, veiled, ifaces, maps, wideKeys, modest, calm, conditions, laid).
  DERIVED. THE GIVEN ROWS OF THIS SEAT. 3 by the template 'for every input the law returns true; each argument reads behind the call as it read before'; 0 by the template 'total and deterministic' (their statements: YtcgipbeajhlllaaTotals.lean).
  GIVEN WITH THE SEED: the statements are not yours to turn. If you find one false, say at which input.
  Laid BY PROGRAM, IN A SANDBOX (cutbox-rows.mjs): the forced cells as the released guide's own fill.sh prints them over the translation da73f26a515dbc22… (all of the seat's roots in one cut). By AI agents, Wed Nov 11 2026. No macro, syntax, notation, axiom, sorry.
-/
import Derived.Test.YtcgipbeajhlllaaChecked
import GoSem.Claim
import GoSem.ClaimJoined
import GoSem.ClaimMapViews
import Derived.JoinedTies
import Derived.KernelRfl
namespace Go.Proofs.Ytcgipbeajhlllaa
/- THE CELL 'sum', in the pinned program and in every row, IS THE sha256 OF THE DUMP (.gsa) THAT YtcgipbeajhlllaaProg.lean LOADS. Nothing in Lean hashes anything: it is a label: what it is worth is what the hold of that sum in a sandbox is worth. -/
noncomputable def Try.pinned : Pinned := { name := "ytcgipbeajhlllaa", sum := "da73f26a515dbc227463f67c1696d871b6db02cc2bb44b62494de6ff2e791d25", checked := Try.checked }
namespace Rows
def none {H : Type} : Left H := { results := [], args := [] }

/-- 'locutionlaw01.LaneCounts': WHATEVER THE INPUT: true; the input reads as it did. -/
def laneCountsSpec : ChangeSpec := { name := "laneCounts", fn := fun _ => fun
  | [d1, d2] => { results := [.lit (.bool true)], args := [d1, d2] }
  | _ => none }
def laneCountsRow : OpenClaim := { program := "ytcgipbeajhlllaa", sum := "da73f26a515dbc227463f67c1696d871b6db02cc2bb44b62494de6ff2e791d25", func := "locution/locutionlaw01.LaneCounts", spec := "laneCounts", apart := false }
def LaneCountsSaid : Prop := laneCountsRow.holds Try.pinned (OpenSpec.ofChange laneCountsSpec)

/-- ITS FALSE NEIGHBOUR: 'it returns false'. Refute it at one input. -/
def laneCountsWrong : ChangeSpec := { name := "laneCounts", fn := fun _ => fun
  | [d1, d2] => { results := [.lit (.bool false)], args := [d1, d2] }
  | _ => none }
def LaneCountsWrongFalsely : Prop := laneCountsRow.holds Try.pinned (OpenSpec.ofChange laneCountsWrong)

/-- 'locutionlaw01.LaneSelects': WHATEVER THE INPUT: true; the input reads as it did. -/
def laneSelectsSpec : ChangeSpec := { name := "laneSelects", fn := fun _ => fun
  | [d1, d2] => { results := [.lit (.bool true)], args := [d1, d2] }
  | _ => none }
def laneSelectsRow : OpenClaim := { program := "ytcgipbeajhlllaa", sum := "da73f26a515dbc227463f67c1696d871b6db02cc2bb44b62494de6ff2e791d25", func := "locution/locutionlaw01.LaneSelects", spec := "laneSelects", apart := false }
def LaneSelectsSaid : Prop := laneSelectsRow.holds Try.pinned (OpenSpec.ofChange laneSelectsSpec)

/-- ITS FALSE NEIGHBOUR: 'it returns false'. Refute it at one input. -/
def laneSelectsWrong : ChangeSpec := { name := "laneSelects", fn := fun _ => fun
  | [d1, d2] => { results := [.lit (.bool false)], args := [d1, d2] }
  | _ => none }
def LaneSelectsWrongFalsely : Prop := laneSelectsRow.holds Try.pinned (OpenSpec.ofChange laneSelectsWrong)

/-- 'locutionlaw01.LaneCuts': WHATEVER THE INPUT: true; the input reads as it did. -/
def laneCutsSpec : ChangeSpec := { name := "laneCuts", fn := fun _ => fun
  | [d1, d2, d3] => { results := [.lit (.bool true)], args := [d1, d2, d3] }
  | _ => none }
def laneCutsRow : OpenClaim := { program := "ytcgipbeajhlllaa", sum := "da73f26a515dbc227463f67c1696d871b6db02cc2bb44b62494de6ff2e791d25", func := "locution/locutionlaw01.LaneCuts", spec := "laneCuts", apart := false }
def LaneCutsSaid : Prop := laneCutsRow.holds Try.pinned (OpenSpec.ofChange laneCutsSpec)

/-- ITS FALSE NEIGHBOUR: 'it returns false'. Refute it at one input. -/
def laneCutsWrong : ChangeSpec := { name := "laneCuts", fn := fun _ => fun
  | [d1, d2, d3] => { results := [.lit (.bool false)], args := [d1, d2, d3] }
  | _ => none }
def LaneCutsWrongFalsely : Prop := laneCutsRow.holds Try.pinned (OpenSpec.ofChange laneCutsWrong)

/- THE SECOND FORM. 'bulk': how many values and letters a reading holds, each counted each time it is reached (what is shared counts as often as it is met; a slice's spare places count too). A statement '..UptoSaid' is the law's where the arguments, and the package variables that the reading takes, are together of bulk at most 1048576: NARROWER than '..Said'. Prove '..Said' where nothing that the law and all that it calls make is longer than what came in: it says more and counts as full. Else prove '..UptoSaid'. A law counts once. -/
mutual
def uptoBulk {H : Type} : DataW H → Nat
  | .lit (.string bytes) => bytes.length + 1
  | .lit _ => 1
  | .nil => 1
  | .ptr d => uptoBulk d + 1
  | .slice elems spare => uptoBulkAll elems + uptoBulkAll spare + 1
  | .agg parts => uptoBulkAll parts + 1
  | .iface _ d => uptoBulk d + 1
  | .map entries => uptoBulkEntries entries + 1
  | .held _ => 1
def uptoBulkAll {H : Type} : List (DataW H) → Nat
  | [] => 0
  | d :: r => uptoBulk d + uptoBulkAll r
def uptoBulkEntries {H : Type} : List (Lit × DataW H) → Nat
  | [] => 0
  | x :: r => uptoBulkEntry x + uptoBulkEntries r
def uptoBulkEntry {H : Type} : Lit × DataW H → Nat
  | (.string bytes, d) => bytes.length + uptoBulk d + 1
  | (_, d) => uptoBulk d + 1
 end
def uptoSmall : (H : Type) → List (DataW H) → Bool := fun _ ds => decide (uptoBulkAll ds ≤ 1048576)
def OpenSpec.upto (s : _root_.Go.ChangeSpec) : _root_.Go.OpenSpec := { _root_.Go.OpenSpec.ofChange s with cond := some uptoSmall }

/-- 'locutionlaw01.LaneCounts', WHERE WHAT IT READS IS OF BULK AT MOST 1048576: true; the input reads as it did. -/
def laneCountsUptoRow : OpenClaim := { program := "ytcgipbeajhlllaa", sum := "da73f26a515dbc227463f67c1696d871b6db02cc2bb44b62494de6ff2e791d25", func := "locution/locutionlaw01.LaneCounts", spec := "laneCounts", apart := false, narrowed := true }
def LaneCountsUptoSaid : Prop := laneCountsUptoRow.holds Try.pinned (OpenSpec.upto laneCountsSpec)

/-- 'locutionlaw01.LaneSelects', WHERE WHAT IT READS IS OF BULK AT MOST 1048576: true; the input reads as it did. -/
def laneSelectsUptoRow : OpenClaim := { program := "ytcgipbeajhlllaa", sum := "da73f26a515dbc227463f67c1696d871b6db02cc2bb44b62494de6ff2e791d25", func := "locution/locutionlaw01.LaneSelects", spec := "laneSelects", apart := false, narrowed := true }
def LaneSelectsUptoSaid : Prop := laneSelectsUptoRow.holds Try.pinned (OpenSpec.upto laneSelectsSpec)

/-- 'locutionlaw01.LaneCuts', WHERE WHAT IT READS IS OF BULK AT MOST 1048576: true; the input reads as it did. -/
def laneCutsUptoRow : OpenClaim := { program := "ytcgipbeajhlllaa", sum := "da73f26a515dbc227463f67c1696d871b6db02cc2bb44b62494de6ff2e791d25", func := "locution/locutionlaw01.LaneCuts", spec := "laneCuts", apart := false, narrowed := true }
def LaneCutsUptoSaid : Prop := laneCutsUptoRow.holds Try.pinned (OpenSpec.upto laneCutsSpec)

end Rows
end Go.Proofs.Ytcgipbeajhlllaa
