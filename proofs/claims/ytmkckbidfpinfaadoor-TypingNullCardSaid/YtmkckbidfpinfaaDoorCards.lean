/-
  DERIVED. GIVEN WITH THE SEED: THE CARDS: each row of YtmkckbidfpinfaaDoorRows.lean that lists a variable, with what it lists TIED to the program's text (the seventh form; the later family's looks); each row that meets fmt, with fmt's text TOLD by the authors' own Lean function (tested against real Go, not proved from fmt's source: count such statements apart). THE CARD IS WHAT COUNTS. Prove the row's statement (the work); the ties are given (YtmkckbidfpinfaaDoorTie.lean); close each card by the builder's one call (the guide's Derived/Test/ToyasCard.lean, 'card_holds'). Laid BY PROGRAM, IN A SANDBOX (cutbox-door.mjs). By AI agents, Wed Nov 11 2026. No macro, syntax, notation, axiom, sorry.
-/
import Derived.Test.YtmkckbidfpinfaaDoorRows
import GoSem.ClaimSeven
namespace Go.Proofs.YtmkckbidfpinfaaDoor
namespace Rows

/-- THE TIED CARD OF 'decretallaw15.TypingColumns'. -/
def typingColumnsCard : Claim7 := { stood := { row := typingColumnsRow, standIns := [], harness := (true, "7101bd464a3327d233219a359fec918b47de6341a540c5d19e45bb4bf7463ed6"), looks := true }, kinds := [], alts := [], laidByText := true, laidKinds := [.data, .data, .data, .sentinel, .sentinel], laidTests := true, laidLooks := .later }
def TypingColumnsCardSaid : Prop := Claim7.holds Tryd.pinned (.plain (OpenSpec.ofChange typingColumnsSpec)) typingColumnsCard

/-- THE TIED CARD OF 'decretallaw15.TypingNull'. -/
def typingNullCard : Claim7 := { stood := { row := typingNullRow, standIns := [], harness := (true, "7101bd464a3327d233219a359fec918b47de6341a540c5d19e45bb4bf7463ed6"), looks := true }, kinds := [], alts := [], laidByText := true, laidKinds := [.data, .data, .data, .sentinel, .sentinel], laidTests := true, laidLooks := .later }
def TypingNullCardSaid : Prop := Claim7.holds Tryd.pinned (.plain (OpenSpec.ofChange typingNullSpec)) typingNullCard

/-- THE TIED CARD OF 'decretallaw16.EvalBack'. -/
def evalBackCard : Claim7 := { stood := { row := evalBackRow, standIns := [], harness := (true, "7101bd464a3327d233219a359fec918b47de6341a540c5d19e45bb4bf7463ed6"), looks := true }, kinds := [], alts := [], laidByText := true, laidKinds := [.data, .data, .data, .sentinel, .sentinel], laidTests := true, laidLooks := .later }
def EvalBackCardSaid : Prop := Claim7.holds Tryd.pinned (.plain (OpenSpec.ofChange evalBackSpec)) evalBackCard

/-- THE SECOND FORM's CARD OF 'decretallaw15.TypingColumns'. -/
def typingColumnsUptoCard : Claim7 := { stood := { row := typingColumnsUptoRow, standIns := [], harness := (true, "7101bd464a3327d233219a359fec918b47de6341a540c5d19e45bb4bf7463ed6"), looks := true }, kinds := [], alts := [], laidByText := true, laidKinds := [.data, .data, .data, .sentinel, .sentinel], laidTests := true, laidLooks := .later }
def TypingColumnsUptoCardSaid : Prop := Claim7.holds Tryd.pinned (.plain (OpenSpec.upto typingColumnsSpec)) typingColumnsUptoCard

/-- THE SECOND FORM's CARD OF 'decretallaw15.TypingNull'. -/
def typingNullUptoCard : Claim7 := { stood := { row := typingNullUptoRow, standIns := [], harness := (true, "7101bd464a3327d233219a359fec918b47de6341a540c5d19e45bb4bf7463ed6"), looks := true }, kinds := [], alts := [], laidByText := true, laidKinds := [.data, .data, .data, .sentinel, .sentinel], laidTests := true, laidLooks := .later }
def TypingNullUptoCardSaid : Prop := Claim7.holds Tryd.pinned (.plain (OpenSpec.upto typingNullSpec)) typingNullUptoCard

/-- THE SECOND FORM's CARD OF 'decretallaw16.EvalBack'. -/
def evalBackUptoCard : Claim7 := { stood := { row := evalBackUptoRow, standIns := [], harness := (true, "7101bd464a3327d233219a359fec918b47de6341a540c5d19e45bb4bf7463ed6"), looks := true }, kinds := [], alts := [], laidByText := true, laidKinds := [.data, .data, .data, .sentinel, .sentinel], laidTests := true, laidLooks := .later }
def EvalBackUptoCardSaid : Prop := Claim7.holds Tryd.pinned (.plain (OpenSpec.upto evalBackSpec)) evalBackUptoCard
end Rows
end Go.Proofs.YtmkckbidfpinfaaDoor
