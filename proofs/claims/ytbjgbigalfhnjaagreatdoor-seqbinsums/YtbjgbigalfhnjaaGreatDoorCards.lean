/-
  DERIVED. GIVEN WITH THE SEED: THE CARDS: each row of YtbjgbigalfhnjaaGreatDoorRows.lean that lists a variable, with what it lists TIED to the program's text (the seventh form; the later family's looks); each row that meets fmt, with fmt's text TOLD by the authors' own Lean function (tested against real Go, not proved from fmt's source: count such statements apart). THE CARD IS WHAT COUNTS. Prove the row's statement (the work); the ties are given (YtbjgbigalfhnjaaGreatDoorTie.lean); close each card by the builder's one call (the guide's Derived/Test/ToyasCard.lean, 'card_holds'). Laid BY PROGRAM, IN A SANDBOX (cutbox-door.mjs). By AI agents, Wed Nov 11 2026. No macro, syntax, notation, axiom, sorry.
-/
import Derived.Test.YtbjgbigalfhnjaaGreatDoorRows
import GoSem.ClaimSeven
namespace Go.Proofs.YtbjgbigalfhnjaaGreatDoor
namespace Rows

/-- THE TIED CARD OF 'locutionlaw11.SeqbinSums'. -/
def seqbinSumsCard : Claim7 := { stood := { row := seqbinSumsRow, standIns := [], harness := (true, "5d0693a9224b29d6ae899efd7732fcd6a8d1f8ba3042dc187b9e99e01bc16acd"), looks := false }, kinds := [], alts := [], laidByText := true, laidKinds := [.data], laidTests := true, laidLooks := .later }
def SeqbinSumsCardSaid : Prop := Claim7.holds Tryz.pinned (.plain (OpenSpec.ofChange seqbinSumsSpec)) seqbinSumsCard

/-- THE SECOND FORM's CARD OF 'locutionlaw11.SeqbinSums'. -/
def seqbinSumsUptoCard : Claim7 := { stood := { row := seqbinSumsUptoRow, standIns := [], harness := (true, "5d0693a9224b29d6ae899efd7732fcd6a8d1f8ba3042dc187b9e99e01bc16acd"), looks := false }, kinds := [], alts := [], laidByText := true, laidKinds := [.data], laidTests := true, laidLooks := .later }
def SeqbinSumsUptoCardSaid : Prop := Claim7.holds Tryz.pinned (.plain (OpenSpec.upto seqbinSumsSpec)) seqbinSumsUptoCard
end Rows
end Go.Proofs.YtbjgbigalfhnjaaGreatDoor
