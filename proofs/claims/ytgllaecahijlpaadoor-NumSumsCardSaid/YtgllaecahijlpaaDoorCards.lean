/-
  DERIVED. GIVEN WITH THE SEED: THE CARDS: each row of YtgllaecahijlpaaDoorRows.lean that lists a variable, with what it lists TIED to the program's text (the seventh form; the later family's looks); each row that meets fmt, with fmt's text TOLD by the authors' own Lean function (tested against real Go, not proved from fmt's source: count such statements apart). THE CARD IS WHAT COUNTS. Prove the row's statement (the work); the ties are given (YtgllaecahijlpaaDoorTie.lean); close each card by the builder's one call (the guide's Derived/Test/ToyasCard.lean, 'card_holds'). Laid BY PROGRAM, IN A SANDBOX (cutbox-door.mjs). By AI agents, Wed Nov 11 2026. No macro, syntax, notation, axiom, sorry.
-/
import Derived.Test.YtgllaecahijlpaaDoorRows
import GoSem.ClaimSeven
namespace Go.Proofs.YtgllaecahijlpaaDoor
namespace Rows

/-- THE TIED CARD OF 'doubletlaw01.NumShows'. -/
def numShowsCard : Claim7 := { stood := { row := numShowsRow, standIns := [], harness := (true, "94c2a7a543bb9263f5ec530a9d013ec8d3263cf40a3a075ce6227b2fe197e0bb"), looks := false }, kinds := [], alts := [], laidByText := true, laidKinds := [.data, .data, .data], laidTests := true, laidLooks := .later }
def NumShowsCardSaid : Prop := Claim7.holds Tryd.pinned (.plain (OpenSpec.ofChange numShowsSpec)) numShowsCard

/-- THE TIED CARD OF 'doubletlaw01.NumTakes'. -/
def numTakesCard : Claim7 := { stood := { row := numTakesRow, standIns := [], harness := (true, "94c2a7a543bb9263f5ec530a9d013ec8d3263cf40a3a075ce6227b2fe197e0bb"), looks := false }, kinds := [], alts := [], laidByText := true, laidKinds := [.data, .data, .data], laidTests := true, laidLooks := .later }
def NumTakesCardSaid : Prop := Claim7.holds Tryd.pinned (.plain (OpenSpec.ofChange numTakesSpec)) numTakesCard

/-- THE TIED CARD OF 'doubletlaw01.NumSums'. -/
def numSumsCard : Claim7 := { stood := { row := numSumsRow, standIns := [], harness := (true, "94c2a7a543bb9263f5ec530a9d013ec8d3263cf40a3a075ce6227b2fe197e0bb"), looks := false }, kinds := [], alts := [], laidByText := true, laidKinds := [.data, .data, .data], laidTests := true, laidLooks := .later }
def NumSumsCardSaid : Prop := Claim7.holds Tryd.pinned (.plain (OpenSpec.ofChange numSumsSpec)) numSumsCard

/-- THE TIED CARD OF 'doubletlaw01.NumBack'. -/
def numBackCard : Claim7 := { stood := { row := numBackRow, standIns := [], harness := (true, "94c2a7a543bb9263f5ec530a9d013ec8d3263cf40a3a075ce6227b2fe197e0bb"), looks := false }, kinds := [], alts := [], laidByText := true, laidKinds := [.data, .data, .data], laidTests := true, laidLooks := .later }
def NumBackCardSaid : Prop := Claim7.holds Tryd.pinned (.plain (OpenSpec.ofChange numBackSpec)) numBackCard

/-- THE SECOND FORM's CARD OF 'doubletlaw01.NumShows'. -/
def numShowsUptoCard : Claim7 := { stood := { row := numShowsUptoRow, standIns := [], harness := (true, "94c2a7a543bb9263f5ec530a9d013ec8d3263cf40a3a075ce6227b2fe197e0bb"), looks := false }, kinds := [], alts := [], laidByText := true, laidKinds := [.data, .data, .data], laidTests := true, laidLooks := .later }
def NumShowsUptoCardSaid : Prop := Claim7.holds Tryd.pinned (.plain (OpenSpec.upto numShowsSpec)) numShowsUptoCard

/-- THE SECOND FORM's CARD OF 'doubletlaw01.NumTakes'. -/
def numTakesUptoCard : Claim7 := { stood := { row := numTakesUptoRow, standIns := [], harness := (true, "94c2a7a543bb9263f5ec530a9d013ec8d3263cf40a3a075ce6227b2fe197e0bb"), looks := false }, kinds := [], alts := [], laidByText := true, laidKinds := [.data, .data, .data], laidTests := true, laidLooks := .later }
def NumTakesUptoCardSaid : Prop := Claim7.holds Tryd.pinned (.plain (OpenSpec.upto numTakesSpec)) numTakesUptoCard

/-- THE SECOND FORM's CARD OF 'doubletlaw01.NumSums'. -/
def numSumsUptoCard : Claim7 := { stood := { row := numSumsUptoRow, standIns := [], harness := (true, "94c2a7a543bb9263f5ec530a9d013ec8d3263cf40a3a075ce6227b2fe197e0bb"), looks := false }, kinds := [], alts := [], laidByText := true, laidKinds := [.data, .data, .data], laidTests := true, laidLooks := .later }
def NumSumsUptoCardSaid : Prop := Claim7.holds Tryd.pinned (.plain (OpenSpec.upto numSumsSpec)) numSumsUptoCard

/-- THE SECOND FORM's CARD OF 'doubletlaw01.NumBack'. -/
def numBackUptoCard : Claim7 := { stood := { row := numBackUptoRow, standIns := [], harness := (true, "94c2a7a543bb9263f5ec530a9d013ec8d3263cf40a3a075ce6227b2fe197e0bb"), looks := false }, kinds := [], alts := [], laidByText := true, laidKinds := [.data, .data, .data], laidTests := true, laidLooks := .later }
def NumBackUptoCardSaid : Prop := Claim7.holds Tryd.pinned (.plain (OpenSpec.upto numBackSpec)) numBackUptoCard
end Rows
end Go.Proofs.YtgllaecahijlpaaDoor
