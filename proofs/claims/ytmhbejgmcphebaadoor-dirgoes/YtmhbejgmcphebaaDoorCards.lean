/-
  DERIVED. GIVEN WITH THE SEED: THE CARDS: each row of YtmhbejgmcphebaaDoorRows.lean that lists a variable, with what it lists TIED to the program's text (the seventh form; the later family's looks); each row that meets fmt, with fmt's text TOLD by the authors' own Lean function (tested against real Go, not proved from fmt's source: count such statements apart). THE CARD IS WHAT COUNTS. Prove the row's statement (the work); the ties are given (YtmhbejgmcphebaaDoorTie.lean); close each card by the builder's one call (the guide's Derived/Test/ToyasCard.lean, 'card_holds'). Laid BY PROGRAM, IN A SANDBOX (cutbox-door.mjs). By AI agents, Wed Nov 11 2026. No macro, syntax, notation, axiom, sorry.
-/
import Derived.Test.YtmhbejgmcphebaaDoorRows
import GoSem.ClaimSeven
namespace Go.Proofs.YtmhbejgmcphebaaDoor
namespace Rows

/-- THE TIED CARD OF 'locutionlaw05.DirGoes'. -/
def dirGoesCard : Claim7 := { stood := { row := dirGoesRow, standIns := [], harness := (true, "4f1e6335919d40f235e7119ac57a62bfc18ab6870a0194161b09c2111f4c63a6"), looks := false }, kinds := [], alts := [], laidByText := true, laidKinds := [.data], laidTests := true, laidLooks := .later }
def DirGoesCardSaid : Prop := Claim7.holds Tryd.pinned (.plain (OpenSpec.ofChange dirGoesSpec)) dirGoesCard

/-- THE SECOND FORM's CARD OF 'locutionlaw05.DirGoes'. -/
def dirGoesUptoCard : Claim7 := { stood := { row := dirGoesUptoRow, standIns := [], harness := (true, "4f1e6335919d40f235e7119ac57a62bfc18ab6870a0194161b09c2111f4c63a6"), looks := false }, kinds := [], alts := [], laidByText := true, laidKinds := [.data], laidTests := true, laidLooks := .later }
def DirGoesUptoCardSaid : Prop := Claim7.holds Tryd.pinned (.plain (OpenSpec.upto dirGoesSpec)) dirGoesUptoCard
end Rows
end Go.Proofs.YtmhbejgmcphebaaDoor
