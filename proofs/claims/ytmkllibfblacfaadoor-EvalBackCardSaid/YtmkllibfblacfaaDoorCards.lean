/-
  DERIVED. GIVEN WITH THE SEED: THE CARDS: each row of YtmkllibfblacfaaDoorRows.lean that lists a variable, with what it lists TIED to the program's text (the seventh form; the later family's looks); each row that meets fmt, with fmt's text TOLD by the authors' own Lean function (tested against real Go, not proved from fmt's source: count such statements apart). THE CARD IS WHAT COUNTS. Prove the row's statement (the work); the ties are given (YtmkllibfblacfaaDoorTie.lean); close each card by the builder's one call (the guide's Derived/Test/ToyasCard.lean, 'card_holds'). Laid BY PROGRAM, IN A SANDBOX (cutbox-door.mjs). By AI agents, Wed Nov 11 2026. No macro, syntax, notation, axiom, sorry.
-/
import Derived.Test.YtmkllibfblacfaaDoorRows
import GoSem.ClaimSeven
namespace Go.Proofs.YtmkllibfblacfaaDoor
namespace Rows

/-- THE TIED CARD OF 'decretallaw16.EvalBack'. -/
def evalBackCard : Claim7 := { stood := { row := evalBackRow, standIns := [], harness := (true, "df0f293582c3118e1a25208ddb4ebe4a4bfede6ef78b93974c3eaedb89cac6aa"), looks := true }, kinds := [], alts := [], laidByText := true, laidKinds := [.data, .data, .data, .sentinel, .sentinel], laidTests := true, laidLooks := .later }
def EvalBackCardSaid : Prop := Claim7.holds Tryd.pinned (.plain (OpenSpec.ofChange evalBackSpec)) evalBackCard

/-- THE SECOND FORM's CARD OF 'decretallaw16.EvalBack'. -/
def evalBackUptoCard : Claim7 := { stood := { row := evalBackUptoRow, standIns := [], harness := (true, "df0f293582c3118e1a25208ddb4ebe4a4bfede6ef78b93974c3eaedb89cac6aa"), looks := true }, kinds := [], alts := [], laidByText := true, laidKinds := [.data, .data, .data, .sentinel, .sentinel], laidTests := true, laidLooks := .later }
def EvalBackUptoCardSaid : Prop := Claim7.holds Tryd.pinned (.plain (OpenSpec.upto evalBackSpec)) evalBackUptoCard
end Rows
end Go.Proofs.YtmkllibfblacfaaDoor
