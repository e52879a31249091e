/-
  DERIVED. GIVEN WITH THE SEED: THE CARDS: each row of YtekahmlppaabjaaDoorRows.lean that lists a variable, with what it lists TIED to the program's text (the seventh form; the later family's looks); each row that meets fmt, with fmt's text TOLD by the authors' own Lean function (tested against real Go, not proved from fmt's source: count such statements apart). THE CARD IS WHAT COUNTS. Prove the row's statement (the work); the ties are given (YtekahmlppaabjaaDoorTie.lean); close each card by the builder's one call (the guide's Derived/Test/ToyasCard.lean, 'card_holds'). Laid BY PROGRAM, IN A SANDBOX (cutbox-door.mjs). By AI agents, Wed Nov 11 2026. No macro, syntax, notation, axiom, sorry.
-/
import Derived.Test.YtekahmlppaabjaaDoorRows
import GoSem.ClaimSeven
namespace Go.Proofs.YtekahmlppaabjaaDoor
namespace Rows

/-- THE TIED CARD OF 'decretallaw14.SyntaxAgain'. -/
def syntaxAgainCard : Claim7 := { stood := { row := syntaxAgainRow, standIns := [], harness := (true, "577728a1b2d16821373769687a08058360ed8514fb27b03e16a99f393797a886"), looks := true }, kinds := [], alts := [], laidByText := true, laidKinds := [.data, .data, .data, .sentinel, .sentinel, .data], laidTests := true, laidLooks := .later }
def SyntaxAgainCardSaid : Prop := Claim7.holds Tryd.pinned (.plain (OpenSpec.ofChange syntaxAgainSpec)) syntaxAgainCard

/-- THE TIED CARD OF 'decretallaw14.SyntaxNames'. -/
def syntaxNamesCard : Claim7 := { stood := { row := syntaxNamesRow, standIns := [], harness := (true, "577728a1b2d16821373769687a08058360ed8514fb27b03e16a99f393797a886"), looks := true }, kinds := [], alts := [], laidByText := true, laidKinds := [.data, .data, .data, .sentinel, .sentinel, .data], laidTests := true, laidLooks := .later }
def SyntaxNamesCardSaid : Prop := Claim7.holds Tryd.pinned (.plain (OpenSpec.ofChange syntaxNamesSpec)) syntaxNamesCard

/-- THE TIED CARD OF 'decretallaw15.TypingColumns'. -/
def typingColumnsCard : Claim7 := { stood := { row := typingColumnsRow, standIns := [], harness := (true, "577728a1b2d16821373769687a08058360ed8514fb27b03e16a99f393797a886"), looks := true }, kinds := [], alts := [], laidByText := true, laidKinds := [.data, .data, .data, .sentinel, .sentinel], laidTests := true, laidLooks := .later }
def TypingColumnsCardSaid : Prop := Claim7.holds Tryd.pinned (.plain (OpenSpec.ofChange typingColumnsSpec)) typingColumnsCard

/-- THE TIED CARD OF 'decretallaw15.TypingNull'. -/
def typingNullCard : Claim7 := { stood := { row := typingNullRow, standIns := [], harness := (true, "577728a1b2d16821373769687a08058360ed8514fb27b03e16a99f393797a886"), looks := true }, kinds := [], alts := [], laidByText := true, laidKinds := [.data, .data, .data, .sentinel, .sentinel], laidTests := true, laidLooks := .later }
def TypingNullCardSaid : Prop := Claim7.holds Tryd.pinned (.plain (OpenSpec.ofChange typingNullSpec)) typingNullCard

/-- THE SECOND FORM's CARD OF 'decretallaw14.SyntaxAgain'. -/
def syntaxAgainUptoCard : Claim7 := { stood := { row := syntaxAgainUptoRow, standIns := [], harness := (true, "577728a1b2d16821373769687a08058360ed8514fb27b03e16a99f393797a886"), looks := true }, kinds := [], alts := [], laidByText := true, laidKinds := [.data, .data, .data, .sentinel, .sentinel, .data], laidTests := true, laidLooks := .later }
def SyntaxAgainUptoCardSaid : Prop := Claim7.holds Tryd.pinned (.plain (OpenSpec.upto syntaxAgainSpec)) syntaxAgainUptoCard

/-- THE SECOND FORM's CARD OF 'decretallaw14.SyntaxNames'. -/
def syntaxNamesUptoCard : Claim7 := { stood := { row := syntaxNamesUptoRow, standIns := [], harness := (true, "577728a1b2d16821373769687a08058360ed8514fb27b03e16a99f393797a886"), looks := true }, kinds := [], alts := [], laidByText := true, laidKinds := [.data, .data, .data, .sentinel, .sentinel, .data], laidTests := true, laidLooks := .later }
def SyntaxNamesUptoCardSaid : Prop := Claim7.holds Tryd.pinned (.plain (OpenSpec.upto syntaxNamesSpec)) syntaxNamesUptoCard

/-- THE SECOND FORM's CARD OF 'decretallaw15.TypingColumns'. -/
def typingColumnsUptoCard : Claim7 := { stood := { row := typingColumnsUptoRow, standIns := [], harness := (true, "577728a1b2d16821373769687a08058360ed8514fb27b03e16a99f393797a886"), looks := true }, kinds := [], alts := [], laidByText := true, laidKinds := [.data, .data, .data, .sentinel, .sentinel], laidTests := true, laidLooks := .later }
def TypingColumnsUptoCardSaid : Prop := Claim7.holds Tryd.pinned (.plain (OpenSpec.upto typingColumnsSpec)) typingColumnsUptoCard

/-- THE SECOND FORM's CARD OF 'decretallaw15.TypingNull'. -/
def typingNullUptoCard : Claim7 := { stood := { row := typingNullUptoRow, standIns := [], harness := (true, "577728a1b2d16821373769687a08058360ed8514fb27b03e16a99f393797a886"), looks := true }, kinds := [], alts := [], laidByText := true, laidKinds := [.data, .data, .data, .sentinel, .sentinel], laidTests := true, laidLooks := .later }
def TypingNullUptoCardSaid : Prop := Claim7.holds Tryd.pinned (.plain (OpenSpec.upto typingNullSpec)) typingNullUptoCard
end Rows
end Go.Proofs.YtekahmlppaabjaaDoor
