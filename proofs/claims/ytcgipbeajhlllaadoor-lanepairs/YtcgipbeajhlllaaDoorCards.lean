/-
  DERIVED. GIVEN WITH THE SEED: THE CARDS: each row of YtcgipbeajhlllaaDoorRows.lean that lists a variable, with what it lists TIED to the program's text (the seventh form; the later family's looks); each row that meets fmt, with fmt's text TOLD by the authors' own Lean function (tested against real Go, not proved from fmt's source: count such statements apart). THE CARD IS WHAT COUNTS. Prove the row's statement (the work); the ties are given (YtcgipbeajhlllaaDoorTie.lean); close each card by the builder's one call (the guide's Derived/Test/ToyasCard.lean, 'card_holds'). Laid BY PROGRAM, IN A SANDBOX (cutbox-door.mjs). By AI agents, Wed Nov 11 2026. No macro, syntax, notation, axiom, sorry.
-/
import Derived.Test.YtcgipbeajhlllaaDoorRows
import GoSem.ClaimSeven
namespace Go.Proofs.YtcgipbeajhlllaaDoor
namespace Rows

/-- THE TIED CARD OF 'locutionlaw01.LanePairs'. -/
def lanePairsCard : Claim7 := { stood := { row := lanePairsRow, standIns := [], harness := (true, "0c33756f0af2a786211f14dd56ff972e9b7ea75629f67d8b15fd181dff578bea"), looks := false }, kinds := [], alts := [], laidByText := true, laidKinds := [.data], laidTests := true, laidLooks := .later }
def LanePairsCardSaid : Prop := Claim7.holds Tryd.pinned (.plain (OpenSpec.ofChange lanePairsSpec)) lanePairsCard

/-- THE SECOND FORM's CARD OF 'locutionlaw01.LanePairs'. -/
def lanePairsUptoCard : Claim7 := { stood := { row := lanePairsUptoRow, standIns := [], harness := (true, "0c33756f0af2a786211f14dd56ff972e9b7ea75629f67d8b15fd181dff578bea"), looks := false }, kinds := [], alts := [], laidByText := true, laidKinds := [.data], laidTests := true, laidLooks := .later }
def LanePairsUptoCardSaid : Prop := Claim7.holds Tryd.pinned (.plain (OpenSpec.upto lanePairsSpec)) lanePairsUptoCard
end Rows
end Go.Proofs.YtcgipbeajhlllaaDoor
