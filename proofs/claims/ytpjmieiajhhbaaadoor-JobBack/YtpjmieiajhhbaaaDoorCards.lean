/-
  DERIVED. GIVEN WITH THE SEED: THE CARDS: each row of YtpjmieiajhhbaaaDoorRows.lean that lists a variable, with what it lists TIED to the program's text (the seventh form; the later family's looks); each row that meets fmt, with fmt's text TOLD by the authors' own Lean function (tested against real Go, not proved from fmt's source: count such statements apart). THE CARD IS WHAT COUNTS. Prove the row's statement (the work); the ties are given (YtpjmieiajhhbaaaDoorTie.lean); close each card by the builder's one call (the guide's Derived/Test/ToyasCard.lean, 'card_holds'). Laid BY PROGRAM, IN A SANDBOX (cutbox-door.mjs). By AI agents, Wed Nov 11 2026. No macro, syntax, notation, axiom, sorry.
-/
import Derived.Test.YtpjmieiajhhbaaaDoorRows
import GoSem.ClaimSeven
namespace Go.Proofs.YtpjmieiajhhbaaaDoor
namespace Rows

/-- THE TIED CARD OF 'ticklerlaw19.JobTells'. -/
def jobTellsCard : Claim7 := { stood := { row := jobTellsRow, standIns := [], harness := (true, "dca58de27e651f551a2db278586f9df57802c357ee8c25cb6267efc06b0bf2f7"), looks := false }, kinds := [], alts := [], laidByText := true, laidKinds := [.data, .data, .data, .data, .data], laidTests := true, laidLooks := .later }
def JobTellsCardSaid : Prop := Claim7.holds Tryd.pinned (.plain (OpenSpec.ofChange jobTellsSpec)) jobTellsCard

/-- THE TIED CARD OF 'ticklerlaw19.JobTurns'. -/
def jobTurnsCard : Claim7 := { stood := { row := jobTurnsRow, standIns := [], harness := (true, "dca58de27e651f551a2db278586f9df57802c357ee8c25cb6267efc06b0bf2f7"), looks := false }, kinds := [], alts := [], laidByText := true, laidKinds := [.data, .data, .data, .data, .data], laidTests := true, laidLooks := .later }
def JobTurnsCardSaid : Prop := Claim7.holds Tryd.pinned (.plain (OpenSpec.ofChange jobTurnsSpec)) jobTurnsCard

/-- THE TIED CARD OF 'ticklerlaw19.JobBack'. -/
def jobBackCard : Claim7 := { stood := { row := jobBackRow, standIns := [], harness := (true, "dca58de27e651f551a2db278586f9df57802c357ee8c25cb6267efc06b0bf2f7"), looks := false }, kinds := [], alts := [], laidByText := true, laidKinds := [.data, .data, .data, .data, .data], laidTests := true, laidLooks := .later }
def JobBackCardSaid : Prop := Claim7.holds Tryd.pinned (.plain (OpenSpec.ofChange jobBackSpec)) jobBackCard

/-- THE TIED CARD OF 'ticklerlaw19.JobKeeps'. -/
def jobKeepsCard : Claim7 := { stood := { row := jobKeepsRow, standIns := [], harness := (true, "dca58de27e651f551a2db278586f9df57802c357ee8c25cb6267efc06b0bf2f7"), looks := false }, kinds := [], alts := [], laidByText := true, laidKinds := [.data, .data, .data, .data, .data], laidTests := true, laidLooks := .later }
def JobKeepsCardSaid : Prop := Claim7.holds Tryd.pinned (.plain (OpenSpec.ofChange jobKeepsSpec)) jobKeepsCard

/-- THE TIED CARD OF 'ticklerlaw19.JobDies'. -/
def jobDiesCard : Claim7 := { stood := { row := jobDiesRow, standIns := [], harness := (true, "dca58de27e651f551a2db278586f9df57802c357ee8c25cb6267efc06b0bf2f7"), looks := false }, kinds := [], alts := [], laidByText := true, laidKinds := [.data, .data, .data, .data, .data], laidTests := true, laidLooks := .later }
def JobDiesCardSaid : Prop := Claim7.holds Tryd.pinned (.plain (OpenSpec.ofChange jobDiesSpec)) jobDiesCard

/-- THE TIED CARD OF 'ticklerlaw19.JobRecurs'. -/
def jobRecursCard : Claim7 := { stood := { row := jobRecursRow, standIns := [], harness := (true, "dca58de27e651f551a2db278586f9df57802c357ee8c25cb6267efc06b0bf2f7"), looks := false }, kinds := [], alts := [], laidByText := true, laidKinds := [.data, .data, .data, .data, .data], laidTests := true, laidLooks := .later }
def JobRecursCardSaid : Prop := Claim7.holds Tryd.pinned (.plain (OpenSpec.ofChange jobRecursSpec)) jobRecursCard

/-- THE SECOND FORM's CARD OF 'ticklerlaw19.JobTells'. -/
def jobTellsUptoCard : Claim7 := { stood := { row := jobTellsUptoRow, standIns := [], harness := (true, "dca58de27e651f551a2db278586f9df57802c357ee8c25cb6267efc06b0bf2f7"), looks := false }, kinds := [], alts := [], laidByText := true, laidKinds := [.data, .data, .data, .data, .data], laidTests := true, laidLooks := .later }
def JobTellsUptoCardSaid : Prop := Claim7.holds Tryd.pinned (.plain (OpenSpec.upto jobTellsSpec)) jobTellsUptoCard

/-- THE SECOND FORM's CARD OF 'ticklerlaw19.JobTurns'. -/
def jobTurnsUptoCard : Claim7 := { stood := { row := jobTurnsUptoRow, standIns := [], harness := (true, "dca58de27e651f551a2db278586f9df57802c357ee8c25cb6267efc06b0bf2f7"), looks := false }, kinds := [], alts := [], laidByText := true, laidKinds := [.data, .data, .data, .data, .data], laidTests := true, laidLooks := .later }
def JobTurnsUptoCardSaid : Prop := Claim7.holds Tryd.pinned (.plain (OpenSpec.upto jobTurnsSpec)) jobTurnsUptoCard

/-- THE SECOND FORM's CARD OF 'ticklerlaw19.JobBack'. -/
def jobBackUptoCard : Claim7 := { stood := { row := jobBackUptoRow, standIns := [], harness := (true, "dca58de27e651f551a2db278586f9df57802c357ee8c25cb6267efc06b0bf2f7"), looks := false }, kinds := [], alts := [], laidByText := true, laidKinds := [.data, .data, .data, .data, .data], laidTests := true, laidLooks := .later }
def JobBackUptoCardSaid : Prop := Claim7.holds Tryd.pinned (.plain (OpenSpec.upto jobBackSpec)) jobBackUptoCard

/-- THE SECOND FORM's CARD OF 'ticklerlaw19.JobKeeps'. -/
def jobKeepsUptoCard : Claim7 := { stood := { row := jobKeepsUptoRow, standIns := [], harness := (true, "dca58de27e651f551a2db278586f9df57802c357ee8c25cb6267efc06b0bf2f7"), looks := false }, kinds := [], alts := [], laidByText := true, laidKinds := [.data, .data, .data, .data, .data], laidTests := true, laidLooks := .later }
def JobKeepsUptoCardSaid : Prop := Claim7.holds Tryd.pinned (.plain (OpenSpec.upto jobKeepsSpec)) jobKeepsUptoCard

/-- THE SECOND FORM's CARD OF 'ticklerlaw19.JobDies'. -/
def jobDiesUptoCard : Claim7 := { stood := { row := jobDiesUptoRow, standIns := [], harness := (true, "dca58de27e651f551a2db278586f9df57802c357ee8c25cb6267efc06b0bf2f7"), looks := false }, kinds := [], alts := [], laidByText := true, laidKinds := [.data, .data, .data, .data, .data], laidTests := true, laidLooks := .later }
def JobDiesUptoCardSaid : Prop := Claim7.holds Tryd.pinned (.plain (OpenSpec.upto jobDiesSpec)) jobDiesUptoCard

/-- THE SECOND FORM's CARD OF 'ticklerlaw19.JobRecurs'. -/
def jobRecursUptoCard : Claim7 := { stood := { row := jobRecursUptoRow, standIns := [], harness := (true, "dca58de27e651f551a2db278586f9df57802c357ee8c25cb6267efc06b0bf2f7"), looks := false }, kinds := [], alts := [], laidByText := true, laidKinds := [.data, .data, .data, .data, .data], laidTests := true, laidLooks := .later }
def JobRecursUptoCardSaid : Prop := Claim7.holds Tryd.pinned (.plain (OpenSpec.upto jobRecursSpec)) jobRecursUptoCard
end Rows
end Go.Proofs.YtpjmieiajhhbaaaDoor
