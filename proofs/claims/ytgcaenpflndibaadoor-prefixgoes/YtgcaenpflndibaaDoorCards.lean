/-
  DERIVED. GIVEN WITH THE SEED: THE CARDS: each row of YtgcaenpflndibaaDoorRows.lean that lists a variable, with what it lists TIED to the program's text (the seventh form; the later family's looks); each row that meets fmt, with fmt's text TOLD by the authors' own Lean function (tested against real Go, not proved from fmt's source: count such statements apart). THE CARD IS WHAT COUNTS. Prove the row's statement (the work); the ties are given (YtgcaenpflndibaaDoorTie.lean); close each card by the builder's one call (the guide's Derived/Test/ToyasCard.lean, 'card_holds'). Laid BY PROGRAM, IN A SANDBOX (cutbox-door.mjs). By AI agents, Wed Nov 11 2026. No macro, syntax, notation, axiom, sorry.
-/
import Derived.Test.YtgcaenpflndibaaDoorRows
import GoSem.ClaimSeven
namespace Go.Proofs.YtgcaenpflndibaaDoor
namespace Rows

/-- THE TIED CARD OF 'locutionlaw09.PrefixGoes'. -/
def prefixGoesCard : Claim7 := { stood := { row := prefixGoesRow, standIns := [], harness := (true, "d00584bb6a9e8c37be81ec046355f0fde20a81173526a2881f41d2acb0fc127f"), looks := false }, kinds := [], alts := [], laidByText := true, laidKinds := [.data], laidTests := true, laidLooks := .later }
def PrefixGoesCardSaid : Prop := Claim7.holds Tryd.pinned (.plain (OpenSpec.ofChange prefixGoesSpec)) prefixGoesCard

/-- THE SECOND FORM's CARD OF 'locutionlaw09.PrefixGoes'. -/
def prefixGoesUptoCard : Claim7 := { stood := { row := prefixGoesUptoRow, standIns := [], harness := (true, "d00584bb6a9e8c37be81ec046355f0fde20a81173526a2881f41d2acb0fc127f"), looks := false }, kinds := [], alts := [], laidByText := true, laidKinds := [.data], laidTests := true, laidLooks := .later }
def PrefixGoesUptoCardSaid : Prop := Claim7.holds Tryd.pinned (.plain (OpenSpec.upto prefixGoesSpec)) prefixGoesUptoCard
end Rows
end Go.Proofs.YtgcaenpflndibaaDoor
