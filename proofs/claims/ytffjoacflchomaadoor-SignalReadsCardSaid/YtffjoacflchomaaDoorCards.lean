/-
  DERIVED. GIVEN WITH THE SEED: THE CARDS: each row of YtffjoacflchomaaDoorRows.lean that lists a variable, with what it lists TIED to the program's text (the seventh form; the later family's looks); each row that meets fmt, with fmt's text TOLD by the authors' own Lean function (tested against real Go, not proved from fmt's source: count such statements apart). THE CARD IS WHAT COUNTS. Prove the row's statement (the work); the ties are given (YtffjoacflchomaaDoorTie.lean); close each card by the builder's one call (the guide's Derived/Test/ToyasCard.lean, 'card_holds'). Laid BY PROGRAM, IN A SANDBOX (cutbox-door.mjs). By AI agents, Wed Nov 11 2026. No macro, syntax, notation, axiom, sorry.
-/
import Derived.Test.YtffjoacflchomaaDoorRows
import GoSem.ClaimSeven
namespace Go.Proofs.YtffjoacflchomaaDoor
namespace Rows

/-- THE TIED CARD OF 'qanatlaw13.SignalReads'. -/
def signalReadsCard : Claim7 := { stood := { row := signalReadsRow, standIns := [], harness := (true, "ecdfe42e7f5878b32729086b070d91b2d7027bb5f5a3123438549653bed4527c"), looks := false }, kinds := [], alts := [], laidByText := true, laidKinds := [.data, .data, .data], laidTests := true, laidLooks := .later }
def SignalReadsCardSaid : Prop := Claim7.holds Tryd.pinned (.plain (OpenSpec.ofChange signalReadsSpec)) signalReadsCard

/-- THE TIED CARD OF 'qanatlaw13.SignalTexts'. -/
def signalTextsCard : Claim7 := { stood := { row := signalTextsRow, standIns := [], harness := (true, "ecdfe42e7f5878b32729086b070d91b2d7027bb5f5a3123438549653bed4527c"), looks := false }, kinds := [], alts := [], laidByText := true, laidKinds := [.data, .data, .data], laidTests := true, laidLooks := .later }
def SignalTextsCardSaid : Prop := Claim7.holds Tryd.pinned (.plain (OpenSpec.ofChange signalTextsSpec)) signalTextsCard

/-- THE TIED CARD OF 'qanatlaw13.SignalTurned'. -/
def signalTurnedCard : Claim7 := { stood := { row := signalTurnedRow, standIns := [], harness := (true, "ecdfe42e7f5878b32729086b070d91b2d7027bb5f5a3123438549653bed4527c"), looks := false }, kinds := [], alts := [], laidByText := true, laidKinds := [.data, .data, .data], laidTests := true, laidLooks := .later }
def SignalTurnedCardSaid : Prop := Claim7.holds Tryd.pinned (.plain (OpenSpec.ofChange signalTurnedSpec)) signalTurnedCard

/-- THE SECOND FORM's CARD OF 'qanatlaw13.SignalReads'. -/
def signalReadsUptoCard : Claim7 := { stood := { row := signalReadsUptoRow, standIns := [], harness := (true, "ecdfe42e7f5878b32729086b070d91b2d7027bb5f5a3123438549653bed4527c"), looks := false }, kinds := [], alts := [], laidByText := true, laidKinds := [.data, .data, .data], laidTests := true, laidLooks := .later }
def SignalReadsUptoCardSaid : Prop := Claim7.holds Tryd.pinned (.plain (OpenSpec.upto signalReadsSpec)) signalReadsUptoCard

/-- THE SECOND FORM's CARD OF 'qanatlaw13.SignalTexts'. -/
def signalTextsUptoCard : Claim7 := { stood := { row := signalTextsUptoRow, standIns := [], harness := (true, "ecdfe42e7f5878b32729086b070d91b2d7027bb5f5a3123438549653bed4527c"), looks := false }, kinds := [], alts := [], laidByText := true, laidKinds := [.data, .data, .data], laidTests := true, laidLooks := .later }
def SignalTextsUptoCardSaid : Prop := Claim7.holds Tryd.pinned (.plain (OpenSpec.upto signalTextsSpec)) signalTextsUptoCard

/-- THE SECOND FORM's CARD OF 'qanatlaw13.SignalTurned'. -/
def signalTurnedUptoCard : Claim7 := { stood := { row := signalTurnedUptoRow, standIns := [], harness := (true, "ecdfe42e7f5878b32729086b070d91b2d7027bb5f5a3123438549653bed4527c"), looks := false }, kinds := [], alts := [], laidByText := true, laidKinds := [.data, .data, .data], laidTests := true, laidLooks := .later }
def SignalTurnedUptoCardSaid : Prop := Claim7.holds Tryd.pinned (.plain (OpenSpec.upto signalTurnedSpec)) signalTurnedUptoCard
end Rows
end Go.Proofs.YtffjoacflchomaaDoor
