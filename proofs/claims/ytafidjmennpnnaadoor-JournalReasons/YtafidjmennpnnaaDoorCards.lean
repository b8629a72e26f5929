/-
  DERIVED. GIVEN WITH THE SEED: THE CARDS: each row of YtafidjmennpnnaaDoorRows.lean that lists a variable, with what it lists TIED to the program's text (the seventh form; the later family's looks); each row that meets fmt, with fmt's text TOLD by the authors' own Lean function (tested against real Go, not proved from fmt's source: count such statements apart). THE CARD IS WHAT COUNTS. Prove the row's statement (the work); the ties are given (YtafidjmennpnnaaDoorTie.lean); close each card by the builder's one call (the guide's Derived/Test/ToyasCard.lean, 'card_holds'). Laid BY PROGRAM, IN A SANDBOX (cutbox-door.mjs). By AI agents, Wed Nov 11 2026. No macro, syntax, notation, axiom, sorry.
-/
import Derived.Test.YtafidjmennpnnaaDoorRows
import GoSem.ClaimSeven
namespace Go.Proofs.YtafidjmennpnnaaDoor
namespace Rows

/-- THE TIED CARD OF 'shardlaw9.JournalReasons'. -/
def journalReasonsCard : Claim7 := { stood := { row := journalReasonsRow, standIns := [], harness := (true, "04916ffdc17064ff43f37a2d2f20d65faba6cfd76a8f2e5add6b0d286d27654c"), looks := true }, kinds := [], alts := [], laidByText := true, laidKinds := [.data, .data, .data, .handle], laidTests := true, laidLooks := .later }
def JournalReasonsCardSaid : Prop := Claim7.holds Tryd.pinned (.plain (OpenSpec.ofChange journalReasonsSpec)) journalReasonsCard

/-- THE SECOND FORM's CARD OF 'shardlaw9.JournalReasons'. -/
def journalReasonsUptoCard : Claim7 := { stood := { row := journalReasonsUptoRow, standIns := [], harness := (true, "04916ffdc17064ff43f37a2d2f20d65faba6cfd76a8f2e5add6b0d286d27654c"), looks := true }, kinds := [], alts := [], laidByText := true, laidKinds := [.data, .data, .data, .handle], laidTests := true, laidLooks := .later }
def JournalReasonsUptoCardSaid : Prop := Claim7.holds Tryd.pinned (.plain (OpenSpec.upto journalReasonsSpec)) journalReasonsUptoCard
end Rows
end Go.Proofs.YtafidjmennpnnaaDoor
