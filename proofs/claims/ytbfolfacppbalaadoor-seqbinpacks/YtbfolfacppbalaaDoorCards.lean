/-
  DERIVED. GIVEN WITH THE SEED: THE CARDS: each row of YtbfolfacppbalaaDoorRows.lean that lists a variable, with what it lists TIED to the program's text (the seventh form; the later family's looks); each row that meets fmt, with fmt's text TOLD by the authors' own Lean function (tested against real Go, not proved from fmt's source: count such statements apart). THE CARD IS WHAT COUNTS. Prove the row's statement (the work); the ties are given (YtbfolfacppbalaaDoorTie.lean); close each card by the builder's one call (the guide's Derived/Test/ToyasCard.lean, 'card_holds'). Laid BY PROGRAM, IN A SANDBOX (cutbox-door.mjs). By AI agents, Wed Nov 11 2026. No macro, syntax, notation, axiom, sorry.
-/
import Derived.Test.YtbfolfacppbalaaDoorRows
import GoSem.ClaimSeven
namespace Go.Proofs.YtbfolfacppbalaaDoor
namespace Rows

/-- THE TIED CARD OF 'locutionlaw11.SeqbinRows'. -/
def seqbinRowsCard : Claim7 := { stood := { row := seqbinRowsRow, standIns := [], harness := (true, "88b664d3e50cc717b2e21fe61998972307d2e6f6c49ecfbe9267c88d1d6ab587"), looks := false }, kinds := [], alts := [], laidByText := true, laidKinds := [.data], laidTests := true, laidLooks := .later }
def SeqbinRowsCardSaid : Prop := Claim7.holds Tryd.pinned (.plain (OpenSpec.ofChange seqbinRowsSpec)) seqbinRowsCard

/-- THE TIED CARD OF 'locutionlaw11.SeqbinPacks'. -/
def seqbinPacksCard : Claim7 := { stood := { row := seqbinPacksRow, standIns := [], harness := (true, "88b664d3e50cc717b2e21fe61998972307d2e6f6c49ecfbe9267c88d1d6ab587"), looks := false }, kinds := [], alts := [], laidByText := true, laidKinds := [.data], laidTests := true, laidLooks := .later }
def SeqbinPacksCardSaid : Prop := Claim7.holds Tryd.pinned (.plain (OpenSpec.ofChange seqbinPacksSpec)) seqbinPacksCard

/-- THE TIED CARD OF 'locutionlaw11.SeqbinSeqs'. -/
def seqbinSeqsCard : Claim7 := { stood := { row := seqbinSeqsRow, standIns := [], harness := (true, "88b664d3e50cc717b2e21fe61998972307d2e6f6c49ecfbe9267c88d1d6ab587"), looks := false }, kinds := [], alts := [], laidByText := true, laidKinds := [.data], laidTests := true, laidLooks := .later }
def SeqbinSeqsCardSaid : Prop := Claim7.holds Tryd.pinned (.plain (OpenSpec.ofChange seqbinSeqsSpec)) seqbinSeqsCard

/-- THE TIED CARD OF 'locutionlaw11.SeqbinGets'. -/
def seqbinGetsCard : Claim7 := { stood := { row := seqbinGetsRow, standIns := [], harness := (true, "88b664d3e50cc717b2e21fe61998972307d2e6f6c49ecfbe9267c88d1d6ab587"), looks := false }, kinds := [], alts := [], laidByText := true, laidKinds := [.data], laidTests := true, laidLooks := .later }
def SeqbinGetsCardSaid : Prop := Claim7.holds Tryd.pinned (.plain (OpenSpec.ofChange seqbinGetsSpec)) seqbinGetsCard

/-- THE SECOND FORM's CARD OF 'locutionlaw11.SeqbinRows'. -/
def seqbinRowsUptoCard : Claim7 := { stood := { row := seqbinRowsUptoRow, standIns := [], harness := (true, "88b664d3e50cc717b2e21fe61998972307d2e6f6c49ecfbe9267c88d1d6ab587"), looks := false }, kinds := [], alts := [], laidByText := true, laidKinds := [.data], laidTests := true, laidLooks := .later }
def SeqbinRowsUptoCardSaid : Prop := Claim7.holds Tryd.pinned (.plain (OpenSpec.upto seqbinRowsSpec)) seqbinRowsUptoCard

/-- THE SECOND FORM's CARD OF 'locutionlaw11.SeqbinPacks'. -/
def seqbinPacksUptoCard : Claim7 := { stood := { row := seqbinPacksUptoRow, standIns := [], harness := (true, "88b664d3e50cc717b2e21fe61998972307d2e6f6c49ecfbe9267c88d1d6ab587"), looks := false }, kinds := [], alts := [], laidByText := true, laidKinds := [.data], laidTests := true, laidLooks := .later }
def SeqbinPacksUptoCardSaid : Prop := Claim7.holds Tryd.pinned (.plain (OpenSpec.upto seqbinPacksSpec)) seqbinPacksUptoCard

/-- THE SECOND FORM's CARD OF 'locutionlaw11.SeqbinSeqs'. -/
def seqbinSeqsUptoCard : Claim7 := { stood := { row := seqbinSeqsUptoRow, standIns := [], harness := (true, "88b664d3e50cc717b2e21fe61998972307d2e6f6c49ecfbe9267c88d1d6ab587"), looks := false }, kinds := [], alts := [], laidByText := true, laidKinds := [.data], laidTests := true, laidLooks := .later }
def SeqbinSeqsUptoCardSaid : Prop := Claim7.holds Tryd.pinned (.plain (OpenSpec.upto seqbinSeqsSpec)) seqbinSeqsUptoCard

/-- THE SECOND FORM's CARD OF 'locutionlaw11.SeqbinGets'. -/
def seqbinGetsUptoCard : Claim7 := { stood := { row := seqbinGetsUptoRow, standIns := [], harness := (true, "88b664d3e50cc717b2e21fe61998972307d2e6f6c49ecfbe9267c88d1d6ab587"), looks := false }, kinds := [], alts := [], laidByText := true, laidKinds := [.data], laidTests := true, laidLooks := .later }
def SeqbinGetsUptoCardSaid : Prop := Claim7.holds Tryd.pinned (.plain (OpenSpec.upto seqbinGetsSpec)) seqbinGetsUptoCard
end Rows
end Go.Proofs.YtbfolfacppbalaaDoor
