/-
  DERIVED. GIVEN WITH THE SEED: THE CARDS: each row of YtciggkebbhineaaDoorRows.lean that lists a variable, with what it lists TIED to the program's text (the seventh form; the later family's looks); each row that meets fmt, with fmt's text TOLD by the authors' own Lean function (tested against real Go, not proved from fmt's source: count such statements apart). THE CARD IS WHAT COUNTS. Prove the row's statement (the work); the ties are given (YtciggkebbhineaaDoorTie.lean); close each card by the builder's one call (the guide's Derived/Test/ToyasCard.lean, 'card_holds'). Laid BY PROGRAM, IN A SANDBOX (cutbox-door.mjs). By AI agents, Wed Nov 11 2026. No macro, syntax, notation, axiom, sorry.
-/
import Derived.Test.YtciggkebbhineaaDoorRows
import GoSem.ClaimSeven
namespace Go.Proofs.YtciggkebbhineaaDoor
namespace Rows

/-- THE TIED CARD OF 'doubletlaw19.PartsAsks'. -/
def partsAsksCard : Claim7 := { stood := { row := partsAsksRow, standIns := [], harness := (true, "d90c0753fadae85489f3211c0f8c5b092fddb4eef7f9222488818aa636dc0193"), looks := false }, kinds := [], alts := [], laidByText := true, laidKinds := [.data], laidTests := true, laidLooks := .later }
def PartsAsksCardSaid : Prop := Claim7.holds Tryd.pinned (.plain (OpenSpec.ofChange partsAsksSpec)) partsAsksCard

/-- THE TIED CARD OF 'doubletlaw19.PartsFiner'. -/
def partsFinerCard : Claim7 := { stood := { row := partsFinerRow, standIns := [], harness := (true, "d90c0753fadae85489f3211c0f8c5b092fddb4eef7f9222488818aa636dc0193"), looks := false }, kinds := [], alts := [], laidByText := true, laidKinds := [.data], laidTests := true, laidLooks := .later }
def PartsFinerCardSaid : Prop := Claim7.holds Tryd.pinned (.plain (OpenSpec.ofChange partsFinerSpec)) partsFinerCard

/-- THE SECOND FORM's CARD OF 'doubletlaw19.PartsAsks'. -/
def partsAsksUptoCard : Claim7 := { stood := { row := partsAsksUptoRow, standIns := [], harness := (true, "d90c0753fadae85489f3211c0f8c5b092fddb4eef7f9222488818aa636dc0193"), looks := false }, kinds := [], alts := [], laidByText := true, laidKinds := [.data], laidTests := true, laidLooks := .later }
def PartsAsksUptoCardSaid : Prop := Claim7.holds Tryd.pinned (.plain (OpenSpec.upto partsAsksSpec)) partsAsksUptoCard

/-- THE SECOND FORM's CARD OF 'doubletlaw19.PartsFiner'. -/
def partsFinerUptoCard : Claim7 := { stood := { row := partsFinerUptoRow, standIns := [], harness := (true, "d90c0753fadae85489f3211c0f8c5b092fddb4eef7f9222488818aa636dc0193"), looks := false }, kinds := [], alts := [], laidByText := true, laidKinds := [.data], laidTests := true, laidLooks := .later }
def PartsFinerUptoCardSaid : Prop := Claim7.holds Tryd.pinned (.plain (OpenSpec.upto partsFinerSpec)) partsFinerUptoCard
end Rows
end Go.Proofs.YtciggkebbhineaaDoor
