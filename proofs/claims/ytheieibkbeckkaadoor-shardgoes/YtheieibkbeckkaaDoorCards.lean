/-
  DERIVED. GIVEN WITH THE SEED: THE CARDS: each row of YtheieibkbeckkaaDoorRows.lean that lists a variable, with what it lists TIED to the program's text (the seventh form; the later family's looks); each row that meets fmt, with fmt's text TOLD by the authors' own Lean function (tested against real Go, not proved from fmt's source: count such statements apart). THE CARD IS WHAT COUNTS. Prove the row's statement (the work); the ties are given (YtheieibkbeckkaaDoorTie.lean); close each card by the builder's one call (the guide's Derived/Test/ToyasCard.lean, 'card_holds'). Laid BY PROGRAM, IN A SANDBOX (cutbox-door.mjs). By AI agents, Wed Nov 11 2026. No macro, syntax, notation, axiom, sorry.
-/
import Derived.Test.YtheieibkbeckkaaDoorRows
import GoSem.ClaimSeven
namespace Go.Proofs.YtheieibkbeckkaaDoor
namespace Rows

/-- THE TIED CARD OF 'locutionlaw08.ShardGoes'. -/
def shardGoesCard : Claim7 := { stood := { row := shardGoesRow, standIns := [], harness := (true, "bb29c8b229badcf7d427b039d6237999ba1f51106fb13e18d40211941d3421da"), looks := false }, kinds := [], alts := [], laidByText := true, laidKinds := [.data], laidTests := true, laidLooks := .later }
def ShardGoesCardSaid : Prop := Claim7.holds Tryd.pinned (.plain (OpenSpec.ofChange shardGoesSpec)) shardGoesCard

/-- THE SECOND FORM's CARD OF 'locutionlaw08.ShardGoes'. -/
def shardGoesUptoCard : Claim7 := { stood := { row := shardGoesUptoRow, standIns := [], harness := (true, "bb29c8b229badcf7d427b039d6237999ba1f51106fb13e18d40211941d3421da"), looks := false }, kinds := [], alts := [], laidByText := true, laidKinds := [.data], laidTests := true, laidLooks := .later }
def ShardGoesUptoCardSaid : Prop := Claim7.holds Tryd.pinned (.plain (OpenSpec.upto shardGoesSpec)) shardGoesUptoCard
end Rows
end Go.Proofs.YtheieibkbeckkaaDoor
