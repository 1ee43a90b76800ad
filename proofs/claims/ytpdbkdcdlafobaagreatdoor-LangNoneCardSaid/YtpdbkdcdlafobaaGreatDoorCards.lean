/-
  DERIVED. GIVEN WITH THE SEED: THE CARDS: each row of YtpdbkdcdlafobaaGreatDoorRows.lean that lists a variable, with what it lists TIED to the program's text (the seventh form; the later family's looks); each row that meets fmt, with fmt's text TOLD by the authors' own Lean function (tested against real Go, not proved from fmt's source: count such statements apart). THE CARD IS WHAT COUNTS. Prove the row's statement (the work); the ties are given (YtpdbkdcdlafobaaGreatDoorTie.lean); close each card by the builder's one call (the guide's Derived/Test/ToyasCard.lean, 'card_holds'). Laid BY PROGRAM, IN A SANDBOX (cutbox-door.mjs). By AI agents, Wed Nov 11 2026. No macro, syntax, notation, axiom, sorry.
-/
import Derived.Test.YtpdbkdcdlafobaaGreatDoorRows
import GoSem.ClaimSeven
namespace Go.Proofs.YtpdbkdcdlafobaaGreatDoor
namespace Rows

/-- THE TIED CARD OF 'doppelgangerlaw01.LangLimits'. -/
def langLimitsCard : Claim7 := { stood := { row := langLimitsRow, standIns := [], harness := (true, "30a000908a70d80dbf0aa2be8c4dde451d758d1ee9bceb950f10e35f5968fc06"), looks := true }, kinds := [], alts := [], laidByText := true, laidKinds := [.data, .data, .data, .data, .pinned], laidTests := true, laidLooks := .later }
def LangLimitsCardSaid : Prop := Claim7.holds Tryz.pinned (.plain (OpenSpec.ofChange langLimitsSpec)) langLimitsCard

/-- THE TIED CARD OF 'doppelgangerlaw01.LangNone'. -/
def langNoneCard : Claim7 := { stood := { row := langNoneRow, standIns := [], harness := (true, "30a000908a70d80dbf0aa2be8c4dde451d758d1ee9bceb950f10e35f5968fc06"), looks := true }, kinds := [], alts := [], laidByText := true, laidKinds := [.data, .data, .data, .data, .pinned], laidTests := true, laidLooks := .later }
def LangNoneCardSaid : Prop := Claim7.holds Tryz.pinned (.plain (OpenSpec.ofChange langNoneSpec)) langNoneCard

/-- THE SECOND FORM's CARD OF 'doppelgangerlaw01.LangLimits'. -/
def langLimitsUptoCard : Claim7 := { stood := { row := langLimitsUptoRow, standIns := [], harness := (true, "30a000908a70d80dbf0aa2be8c4dde451d758d1ee9bceb950f10e35f5968fc06"), looks := true }, kinds := [], alts := [], laidByText := true, laidKinds := [.data, .data, .data, .data, .pinned], laidTests := true, laidLooks := .later }
def LangLimitsUptoCardSaid : Prop := Claim7.holds Tryz.pinned (.plain (OpenSpec.upto langLimitsSpec)) langLimitsUptoCard

/-- THE SECOND FORM's CARD OF 'doppelgangerlaw01.LangNone'. -/
def langNoneUptoCard : Claim7 := { stood := { row := langNoneUptoRow, standIns := [], harness := (true, "30a000908a70d80dbf0aa2be8c4dde451d758d1ee9bceb950f10e35f5968fc06"), looks := true }, kinds := [], alts := [], laidByText := true, laidKinds := [.data, .data, .data, .data, .pinned], laidTests := true, laidLooks := .later }
def LangNoneUptoCardSaid : Prop := Claim7.holds Tryz.pinned (.plain (OpenSpec.upto langNoneSpec)) langNoneUptoCard
end Rows
end Go.Proofs.YtpdbkdcdlafobaaGreatDoor
