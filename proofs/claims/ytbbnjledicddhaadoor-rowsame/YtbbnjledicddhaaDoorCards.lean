/-
  DERIVED. GIVEN WITH THE SEED: THE CARDS: each row of YtbbnjledicddhaaDoorRows.lean that lists a variable, with what it lists TIED to the program's text (the seventh form; the later family's looks); each row that meets fmt, with fmt's text TOLD by the authors' own Lean function (tested against real Go, not proved from fmt's source: count such statements apart). THE CARD IS WHAT COUNTS. Prove the row's statement (the work); the ties are given (YtbbnjledicddhaaDoorTie.lean); close each card by the builder's one call (the guide's Derived/Test/ToyasCard.lean, 'card_holds'). Laid BY PROGRAM, IN A SANDBOX (cutbox-door.mjs). By AI agents, Wed Nov 11 2026. No macro, syntax, notation, axiom, sorry.
-/
import Derived.Test.YtbbnjledicddhaaDoorRows
import GoSem.ClaimSeven
namespace Go.Proofs.YtbbnjledicddhaaDoor
namespace Rows

/-- THE TIED CARD OF 'locutionlaw02.RowAdds'. -/
def rowAddsCard : Claim7 := { stood := { row := rowAddsRow, standIns := [], harness := (true, "f434159723406c8571f81a80029a42904638407b5e7b1d2aca1d3af1cb8c04c0"), looks := false }, kinds := [], alts := [], laidByText := true, laidKinds := [.data], laidTests := true, laidLooks := .later }
def RowAddsCardSaid : Prop := Claim7.holds Tryd.pinned (.plain (OpenSpec.ofChange rowAddsSpec)) rowAddsCard

/-- THE TIED CARD OF 'locutionlaw02.RowTells'. -/
def rowTellsCard : Claim7 := { stood := { row := rowTellsRow, standIns := [], harness := (true, "f434159723406c8571f81a80029a42904638407b5e7b1d2aca1d3af1cb8c04c0"), looks := false }, kinds := [], alts := [], laidByText := true, laidKinds := [.data], laidTests := true, laidLooks := .later }
def RowTellsCardSaid : Prop := Claim7.holds Tryd.pinned (.plain (OpenSpec.ofChange rowTellsSpec)) rowTellsCard

/-- THE TIED CARD OF 'locutionlaw02.RowOf'. -/
def rowOfCard : Claim7 := { stood := { row := rowOfRow, standIns := [], harness := (true, "f434159723406c8571f81a80029a42904638407b5e7b1d2aca1d3af1cb8c04c0"), looks := false }, kinds := [], alts := [], laidByText := true, laidKinds := [.data], laidTests := true, laidLooks := .later }
def RowOfCardSaid : Prop := Claim7.holds Tryd.pinned (.plain (OpenSpec.ofChange rowOfSpec)) rowOfCard

/-- THE TIED CARD OF 'locutionlaw02.RowSame'. -/
def rowSameCard : Claim7 := { stood := { row := rowSameRow, standIns := [], harness := (true, "f434159723406c8571f81a80029a42904638407b5e7b1d2aca1d3af1cb8c04c0"), looks := false }, kinds := [], alts := [], laidByText := true, laidKinds := [.data], laidTests := true, laidLooks := .later }
def RowSameCardSaid : Prop := Claim7.holds Tryd.pinned (.plain (OpenSpec.ofChange rowSameSpec)) rowSameCard

/-- THE SECOND FORM's CARD OF 'locutionlaw02.RowAdds'. -/
def rowAddsUptoCard : Claim7 := { stood := { row := rowAddsUptoRow, standIns := [], harness := (true, "f434159723406c8571f81a80029a42904638407b5e7b1d2aca1d3af1cb8c04c0"), looks := false }, kinds := [], alts := [], laidByText := true, laidKinds := [.data], laidTests := true, laidLooks := .later }
def RowAddsUptoCardSaid : Prop := Claim7.holds Tryd.pinned (.plain (OpenSpec.upto rowAddsSpec)) rowAddsUptoCard

/-- THE SECOND FORM's CARD OF 'locutionlaw02.RowTells'. -/
def rowTellsUptoCard : Claim7 := { stood := { row := rowTellsUptoRow, standIns := [], harness := (true, "f434159723406c8571f81a80029a42904638407b5e7b1d2aca1d3af1cb8c04c0"), looks := false }, kinds := [], alts := [], laidByText := true, laidKinds := [.data], laidTests := true, laidLooks := .later }
def RowTellsUptoCardSaid : Prop := Claim7.holds Tryd.pinned (.plain (OpenSpec.upto rowTellsSpec)) rowTellsUptoCard

/-- THE SECOND FORM's CARD OF 'locutionlaw02.RowOf'. -/
def rowOfUptoCard : Claim7 := { stood := { row := rowOfUptoRow, standIns := [], harness := (true, "f434159723406c8571f81a80029a42904638407b5e7b1d2aca1d3af1cb8c04c0"), looks := false }, kinds := [], alts := [], laidByText := true, laidKinds := [.data], laidTests := true, laidLooks := .later }
def RowOfUptoCardSaid : Prop := Claim7.holds Tryd.pinned (.plain (OpenSpec.upto rowOfSpec)) rowOfUptoCard

/-- THE SECOND FORM's CARD OF 'locutionlaw02.RowSame'. -/
def rowSameUptoCard : Claim7 := { stood := { row := rowSameUptoRow, standIns := [], harness := (true, "f434159723406c8571f81a80029a42904638407b5e7b1d2aca1d3af1cb8c04c0"), looks := false }, kinds := [], alts := [], laidByText := true, laidKinds := [.data], laidTests := true, laidLooks := .later }
def RowSameUptoCardSaid : Prop := Claim7.holds Tryd.pinned (.plain (OpenSpec.upto rowSameSpec)) rowSameUptoCard
end Rows
end Go.Proofs.YtbbnjledicddhaaDoor
