/-
  NARROWER THAN 'FOR EVERY INPUT', by the rows' own cells (each row's printed sentence says how): QuoteDigits: laid · QuoteTells: laid · QuoteReads: laid · QuoteBack: laid.
  DERIVED. THE GIVEN ROWS OF THIS SEAT. 4 by the template 'for every input the law returns true; each argument reads behind the call as it read before'; 0 by the template 'total and deterministic' (their statements: YtmlheppkclppfaaDoorTotals.lean).
  GIVEN WITH THE SEED: the statements are not yours to turn. If you find one false, say at which input.
  Laid BY PROGRAM, IN A SANDBOX (cutbox-rows.mjs): the forced cells as the released guide's own fill.sh prints them over the translation 89d68b803c54aa30… (all of the seat's roots in one cut). By AI agents, Wed Nov 11 2026. No macro, syntax, notation, axiom, sorry.
-/
import Derived.Test.YtmlheppkclppfaaDoorChecked
import GoSem.Claim
import GoSem.ClaimJoined
import GoSem.ClaimMapViews
import Derived.JoinedTies
import Derived.KernelRfl
namespace Go.Proofs.YtmlheppkclppfaaDoor
/- THE CELL 'sum', in the pinned program and in every row, IS THE sha256 OF THE DUMP (.gsa) THAT YtmlheppkclppfaaDoorProg.lean LOADS. Nothing in Lean hashes anything: it is a label: what it is worth is what the hold of that sum in a sandbox is worth. -/
noncomputable def Tryd.pinned : Pinned := { name := "ytmlheppkclppfaadoor", sum := "89d68b803c54aa30c7a8225363dd4437d0ac86a460782e6c23c1209d5dfee706", checked := Tryd.checked }
namespace Rows
def none {H : Type} : Left H := { results := [], args := [] }

/- WHAT THE LISTED PACKAGE-LEVEL VARIABLES READ AS WHEN THE CALL BEGINS. Each datum BY PROGRAM (the guide's laid-datum.mjs) off the statement by which the dump's own 'gosem.cut.vars' lays the variable. In a bare row this is a premise. The card (YtmlheppkclppfaaDoorCards.lean) ties it to the program's text. -/
def laid_doublet_quote_plain {H : Type} : DataW H := .agg [.lit (.int .u32 0), .lit (.int .u32 4294967294), .lit (.int .u32 4026531839), .lit (.int .u32 2147483647), .lit (.int .u32 0), .lit (.int .u32 0), .lit (.int .u32 0), .lit (.int .u32 0)]

/-- 'doubletlaw03.QuoteDigits': WHATEVER THE INPUT: true; the input reads as it did. -/
def quoteDigitsSpec : ChangeSpec := { name := "quoteDigits", fn := fun _ => fun
  | [d1, d2] => { results := [.lit (.bool true)], args := [d1, d2] }
  | _ => none }
def quoteDigitsRow : OpenClaim := { program := "ytmlheppkclppfaadoor", sum := "89d68b803c54aa30c7a8225363dd4437d0ac86a460782e6c23c1209d5dfee706", func := "doublet/doubletlaw03.QuoteDigits", spec := "quoteDigits", inPlace := ["internal/bytealg.IndexByteString"], named := ["doublet/quote.plain"], apart := false, laid := [("doublet/quote.plain", laid_doublet_quote_plain)] }
def QuoteDigitsSaid : Prop := quoteDigitsRow.holds Tryd.pinned (OpenSpec.ofChange quoteDigitsSpec)

/-- ITS FALSE NEIGHBOUR: 'it returns false'. Refute it at one input. -/
def quoteDigitsWrong : ChangeSpec := { name := "quoteDigits", fn := fun _ => fun
  | [d1, d2] => { results := [.lit (.bool false)], args := [d1, d2] }
  | _ => none }
def QuoteDigitsWrongFalsely : Prop := quoteDigitsRow.holds Tryd.pinned (OpenSpec.ofChange quoteDigitsWrong)

/-- 'doubletlaw03.QuoteTells': WHATEVER THE INPUT: true; the input reads as it did. -/
def quoteTellsSpec : ChangeSpec := { name := "quoteTells", fn := fun _ => fun
  | [d] => { results := [.lit (.bool true)], args := [d] }
  | _ => none }
def quoteTellsRow : OpenClaim := { program := "ytmlheppkclppfaadoor", sum := "89d68b803c54aa30c7a8225363dd4437d0ac86a460782e6c23c1209d5dfee706", func := "doublet/doubletlaw03.QuoteTells", spec := "quoteTells", inPlace := ["internal/bytealg.IndexByteString"], named := ["doublet/quote.plain"], apart := false, laid := [("doublet/quote.plain", laid_doublet_quote_plain)] }
def QuoteTellsSaid : Prop := quoteTellsRow.holds Tryd.pinned (OpenSpec.ofChange quoteTellsSpec)

/-- ITS FALSE NEIGHBOUR: 'it returns false'. Refute it at one input. -/
def quoteTellsWrong : ChangeSpec := { name := "quoteTells", fn := fun _ => fun
  | [d] => { results := [.lit (.bool false)], args := [d] }
  | _ => none }
def QuoteTellsWrongFalsely : Prop := quoteTellsRow.holds Tryd.pinned (OpenSpec.ofChange quoteTellsWrong)

/-- 'doubletlaw03.QuoteReads': WHATEVER THE INPUT: true; the input reads as it did. -/
def quoteReadsSpec : ChangeSpec := { name := "quoteReads", fn := fun _ => fun
  | [d] => { results := [.lit (.bool true)], args := [d] }
  | _ => none }
def quoteReadsRow : OpenClaim := { program := "ytmlheppkclppfaadoor", sum := "89d68b803c54aa30c7a8225363dd4437d0ac86a460782e6c23c1209d5dfee706", func := "doublet/doubletlaw03.QuoteReads", spec := "quoteReads", inPlace := ["internal/bytealg.IndexByteString"], named := ["doublet/quote.plain"], apart := false, laid := [("doublet/quote.plain", laid_doublet_quote_plain)] }
def QuoteReadsSaid : Prop := quoteReadsRow.holds Tryd.pinned (OpenSpec.ofChange quoteReadsSpec)

/-- ITS FALSE NEIGHBOUR: 'it returns false'. Refute it at one input. -/
def quoteReadsWrong : ChangeSpec := { name := "quoteReads", fn := fun _ => fun
  | [d] => { results := [.lit (.bool false)], args := [d] }
  | _ => none }
def QuoteReadsWrongFalsely : Prop := quoteReadsRow.holds Tryd.pinned (OpenSpec.ofChange quoteReadsWrong)

/-- 'doubletlaw03.QuoteBack': WHATEVER THE INPUT: true; the input reads as it did. -/
def quoteBackSpec : ChangeSpec := { name := "quoteBack", fn := fun _ => fun
  | [d1, d2, d3] => { results := [.lit (.bool true)], args := [d1, d2, d3] }
  | _ => none }
def quoteBackRow : OpenClaim := { program := "ytmlheppkclppfaadoor", sum := "89d68b803c54aa30c7a8225363dd4437d0ac86a460782e6c23c1209d5dfee706", func := "doublet/doubletlaw03.QuoteBack", spec := "quoteBack", inPlace := ["internal/bytealg.IndexByteString"], named := ["doublet/quote.plain"], apart := false, laid := [("doublet/quote.plain", laid_doublet_quote_plain)] }
def QuoteBackSaid : Prop := quoteBackRow.holds Tryd.pinned (OpenSpec.ofChange quoteBackSpec)

/-- ITS FALSE NEIGHBOUR: 'it returns false'. Refute it at one input. -/
def quoteBackWrong : ChangeSpec := { name := "quoteBack", fn := fun _ => fun
  | [d1, d2, d3] => { results := [.lit (.bool false)], args := [d1, d2, d3] }
  | _ => none }
def QuoteBackWrongFalsely : Prop := quoteBackRow.holds Tryd.pinned (OpenSpec.ofChange quoteBackWrong)

/- THE SECOND FORM. 'bulk': how many values and letters a reading holds, each counted each time it is reached (what is shared counts as often as it is met; a slice's spare places count too). A statement '..UptoSaid' is the law's where the arguments, and the package variables that the reading takes, are together of bulk at most 1048576: NARROWER than '..Said'. Prove '..Said' where nothing that the law and all that it calls make is longer than what came in: it says more and counts as full. Else prove '..UptoSaid'. A law counts once. -/
mutual
def uptoBulk {H : Type} : DataW H → Nat
  | .lit (.string bytes) => bytes.length + 1
  | .lit _ => 1
  | .nil => 1
  | .ptr d => uptoBulk d + 1
  | .slice elems spare => uptoBulkAll elems + uptoBulkAll spare + 1
  | .agg parts => uptoBulkAll parts + 1
  | .iface _ d => uptoBulk d + 1
  | .map entries => uptoBulkEntries entries + 1
  | .held _ => 1
def uptoBulkAll {H : Type} : List (DataW H) → Nat
  | [] => 0
  | d :: r => uptoBulk d + uptoBulkAll r
def uptoBulkEntries {H : Type} : List (Lit × DataW H) → Nat
  | [] => 0
  | x :: r => uptoBulkEntry x + uptoBulkEntries r
def uptoBulkEntry {H : Type} : Lit × DataW H → Nat
  | (.string bytes, d) => bytes.length + uptoBulk d + 1
  | (_, d) => uptoBulk d + 1
 end
def uptoSmall : (H : Type) → List (DataW H) → Bool := fun _ ds => decide (uptoBulkAll ds ≤ 1048576)
def OpenSpec.upto (s : _root_.Go.ChangeSpec) : _root_.Go.OpenSpec := { _root_.Go.OpenSpec.ofChange s with cond := some uptoSmall }

/-- 'doubletlaw03.QuoteDigits', WHERE WHAT IT READS IS OF BULK AT MOST 1048576: true; the input reads as it did. -/
def quoteDigitsUptoRow : OpenClaim := { program := "ytmlheppkclppfaadoor", sum := "89d68b803c54aa30c7a8225363dd4437d0ac86a460782e6c23c1209d5dfee706", func := "doublet/doubletlaw03.QuoteDigits", spec := "quoteDigits", inPlace := ["internal/bytealg.IndexByteString"], named := ["doublet/quote.plain"], apart := false, laid := [("doublet/quote.plain", laid_doublet_quote_plain)], narrowed := true }
def QuoteDigitsUptoSaid : Prop := quoteDigitsUptoRow.holds Tryd.pinned (OpenSpec.upto quoteDigitsSpec)

/-- 'doubletlaw03.QuoteTells', WHERE WHAT IT READS IS OF BULK AT MOST 1048576: true; the input reads as it did. -/
def quoteTellsUptoRow : OpenClaim := { program := "ytmlheppkclppfaadoor", sum := "89d68b803c54aa30c7a8225363dd4437d0ac86a460782e6c23c1209d5dfee706", func := "doublet/doubletlaw03.QuoteTells", spec := "quoteTells", inPlace := ["internal/bytealg.IndexByteString"], named := ["doublet/quote.plain"], apart := false, laid := [("doublet/quote.plain", laid_doublet_quote_plain)], narrowed := true }
def QuoteTellsUptoSaid : Prop := quoteTellsUptoRow.holds Tryd.pinned (OpenSpec.upto quoteTellsSpec)

/-- 'doubletlaw03.QuoteReads', WHERE WHAT IT READS IS OF BULK AT MOST 1048576: true; the input reads as it did. -/
def quoteReadsUptoRow : OpenClaim := { program := "ytmlheppkclppfaadoor", sum := "89d68b803c54aa30c7a8225363dd4437d0ac86a460782e6c23c1209d5dfee706", func := "doublet/doubletlaw03.QuoteReads", spec := "quoteReads", inPlace := ["internal/bytealg.IndexByteString"], named := ["doublet/quote.plain"], apart := false, laid := [("doublet/quote.plain", laid_doublet_quote_plain)], narrowed := true }
def QuoteReadsUptoSaid : Prop := quoteReadsUptoRow.holds Tryd.pinned (OpenSpec.upto quoteReadsSpec)

/-- 'doubletlaw03.QuoteBack', WHERE WHAT IT READS IS OF BULK AT MOST 1048576: true; the input reads as it did. -/
def quoteBackUptoRow : OpenClaim := { program := "ytmlheppkclppfaadoor", sum := "89d68b803c54aa30c7a8225363dd4437d0ac86a460782e6c23c1209d5dfee706", func := "doublet/doubletlaw03.QuoteBack", spec := "quoteBack", inPlace := ["internal/bytealg.IndexByteString"], named := ["doublet/quote.plain"], apart := false, laid := [("doublet/quote.plain", laid_doublet_quote_plain)], narrowed := true }
def QuoteBackUptoSaid : Prop := quoteBackUptoRow.holds Tryd.pinned (OpenSpec.upto quoteBackSpec)

end Rows
end Go.Proofs.YtmlheppkclppfaaDoor
