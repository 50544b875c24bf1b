/-
  DERIVED. GIVEN WITH THE SEED: THE CARDS: each row of YtnchjlimkgbfpaaGreatDoorRows.lean that lists a variable, with what it lists TIED to the program's text (the seventh form; the later family's looks); each row that meets fmt, with fmt's text TOLD by the authors' own Lean function (tested against real Go, not proved from fmt's source: count such statements apart). THE CARD IS WHAT COUNTS. Prove the row's statement (the work); the ties are given (YtnchjlimkgbfpaaGreatDoorTie.lean); close each card by the builder's one call (the guide's Derived/Test/ToyasCard.lean, 'card_holds'). Laid BY PROGRAM, IN A SANDBOX (cutbox-door.mjs). By AI agents, Wed Nov 11 2026. No macro, syntax, notation, axiom, sorry.
-/
import Derived.Test.YtnchjlimkgbfpaaGreatDoorRows
import GoSem.ClaimSeven
namespace Go.Proofs.YtnchjlimkgbfpaaGreatDoor
namespace Rows

/-- THE TIED CARD OF 'ticklerlaw14.ManifestActs'. -/
def manifestActsCard : Claim7 := { stood := { row := manifestActsRow, standIns := [], harness := (true, "0d1441311616e796c7ffde9b2bb654a3e1c09a8ca11298b0eaae14840b41af3c"), looks := true }, kinds := [], alts := [], laidByText := true, laidKinds := [.data, .data, .data, .sentinel, .sentinel], laidTests := true, laidLooks := .later }
def ManifestActsCardSaid : Prop := Claim7.holds Tryz.pinned (.plain (OpenSpec.ofChange manifestActsSpec)) manifestActsCard

/-- THE TIED CARD OF 'ticklerlaw14.ManifestLoads'. -/
def manifestLoadsCard : Claim7 := { stood := { row := manifestLoadsRow, standIns := [], harness := (true, "0d1441311616e796c7ffde9b2bb654a3e1c09a8ca11298b0eaae14840b41af3c"), looks := true }, kinds := [], alts := [], laidByText := true, laidKinds := [.data, .data, .data, .sentinel, .sentinel], laidTests := true, laidLooks := .later }
def ManifestLoadsCardSaid : Prop := Claim7.holds Tryz.pinned (.plain (OpenSpec.ofChange manifestLoadsSpec)) manifestLoadsCard

/-- THE TIED CARD OF 'ticklerlaw14.ManifestSwitches'. -/
def manifestSwitchesCard : Claim7 := { stood := { row := manifestSwitchesRow, standIns := [], harness := (true, "0d1441311616e796c7ffde9b2bb654a3e1c09a8ca11298b0eaae14840b41af3c"), looks := true }, kinds := [], alts := [], laidByText := true, laidKinds := [.data, .data, .data, .sentinel, .sentinel], laidTests := true, laidLooks := .later }
def ManifestSwitchesCardSaid : Prop := Claim7.holds Tryz.pinned (.plain (OpenSpec.ofChange manifestSwitchesSpec)) manifestSwitchesCard

/-- THE TIED CARD OF 'ticklerlaw14.ManifestNotes'. -/
def manifestNotesCard : Claim7 := { stood := { row := manifestNotesRow, standIns := [], harness := (true, "0d1441311616e796c7ffde9b2bb654a3e1c09a8ca11298b0eaae14840b41af3c"), looks := true }, kinds := [], alts := [], laidByText := true, laidKinds := [.data, .data, .data, .sentinel, .sentinel], laidTests := true, laidLooks := .later }
def ManifestNotesCardSaid : Prop := Claim7.holds Tryz.pinned (.plain (OpenSpec.ofChange manifestNotesSpec)) manifestNotesCard

/-- THE SECOND FORM's CARD OF 'ticklerlaw14.ManifestActs'. -/
def manifestActsUptoCard : Claim7 := { stood := { row := manifestActsUptoRow, standIns := [], harness := (true, "0d1441311616e796c7ffde9b2bb654a3e1c09a8ca11298b0eaae14840b41af3c"), looks := true }, kinds := [], alts := [], laidByText := true, laidKinds := [.data, .data, .data, .sentinel, .sentinel], laidTests := true, laidLooks := .later }
def ManifestActsUptoCardSaid : Prop := Claim7.holds Tryz.pinned (.plain (OpenSpec.upto manifestActsSpec)) manifestActsUptoCard

/-- THE SECOND FORM's CARD OF 'ticklerlaw14.ManifestLoads'. -/
def manifestLoadsUptoCard : Claim7 := { stood := { row := manifestLoadsUptoRow, standIns := [], harness := (true, "0d1441311616e796c7ffde9b2bb654a3e1c09a8ca11298b0eaae14840b41af3c"), looks := true }, kinds := [], alts := [], laidByText := true, laidKinds := [.data, .data, .data, .sentinel, .sentinel], laidTests := true, laidLooks := .later }
def ManifestLoadsUptoCardSaid : Prop := Claim7.holds Tryz.pinned (.plain (OpenSpec.upto manifestLoadsSpec)) manifestLoadsUptoCard

/-- THE SECOND FORM's CARD OF 'ticklerlaw14.ManifestSwitches'. -/
def manifestSwitchesUptoCard : Claim7 := { stood := { row := manifestSwitchesUptoRow, standIns := [], harness := (true, "0d1441311616e796c7ffde9b2bb654a3e1c09a8ca11298b0eaae14840b41af3c"), looks := true }, kinds := [], alts := [], laidByText := true, laidKinds := [.data, .data, .data, .sentinel, .sentinel], laidTests := true, laidLooks := .later }
def ManifestSwitchesUptoCardSaid : Prop := Claim7.holds Tryz.pinned (.plain (OpenSpec.upto manifestSwitchesSpec)) manifestSwitchesUptoCard

/-- THE SECOND FORM's CARD OF 'ticklerlaw14.ManifestNotes'. -/
def manifestNotesUptoCard : Claim7 := { stood := { row := manifestNotesUptoRow, standIns := [], harness := (true, "0d1441311616e796c7ffde9b2bb654a3e1c09a8ca11298b0eaae14840b41af3c"), looks := true }, kinds := [], alts := [], laidByText := true, laidKinds := [.data, .data, .data, .sentinel, .sentinel], laidTests := true, laidLooks := .later }
def ManifestNotesUptoCardSaid : Prop := Claim7.holds Tryz.pinned (.plain (OpenSpec.upto manifestNotesSpec)) manifestNotesUptoCard
end Rows
end Go.Proofs.YtnchjlimkgbfpaaGreatDoor
