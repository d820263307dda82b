/-
  DERIVED. GIVEN WITH THE SEED: THE CARDS: each row of YtalfodcjpnjmaabDoorRows.lean that lists a variable, with what it lists TIED to the program's text (the seventh form; the later family's looks); each row that meets fmt, with fmt's text TOLD by the authors' own Lean function (tested against real Go, not proved from fmt's source: count such statements apart). THE CARD IS WHAT COUNTS. Prove the row's statement (the work); the ties are given (YtalfodcjpnjmaabDoorTie.lean); close each card by the builder's one call (the guide's Derived/Test/ToyasCard.lean, 'card_holds'). Laid BY PROGRAM, IN A SANDBOX (cutbox-door.mjs). By AI agents, Wed Nov 11 2026. No macro, syntax, notation, axiom, sorry.
-/
import Derived.Test.YtalfodcjpnjmaabDoorRows
import GoSem.ClaimSeven
namespace Go.Proofs.YtalfodcjpnjmaabDoor
namespace Rows

/-- THE TIED CARD OF 'lanyardlaw01.UcellSpans'. -/
def ucellSpansCard : Claim7 := { stood := { row := ucellSpansRow, standIns := [], harness := (true, "e7b97f04fd4655e130babd294dd886b4a4653f45cbd381b3bd592f99688999a7"), looks := false }, kinds := [], alts := [], laidByText := true, laidKinds := [.data, .data, .pinned], laidTests := true, laidLooks := .later }
def UcellSpansCardSaid : Prop := Claim7.holds Tryd.pinned (.plain (OpenSpec.ofChange ucellSpansSpec)) ucellSpansCard

/-- THE TIED CARD OF 'lanyardlaw01.UcellWide'. -/
def ucellWideCard : Claim7 := { stood := { row := ucellWideRow, standIns := [], harness := (true, "e7b97f04fd4655e130babd294dd886b4a4653f45cbd381b3bd592f99688999a7"), looks := false }, kinds := [], alts := [], laidByText := true, laidKinds := [.data, .data, .pinned], laidTests := true, laidLooks := .later }
def UcellWideCardSaid : Prop := Claim7.holds Tryd.pinned (.plain (OpenSpec.ofChange ucellWideSpec)) ucellWideCard

/-- THE TIED CARD OF 'lanyardlaw01.UcellNone'. -/
def ucellNoneCard : Claim7 := { stood := { row := ucellNoneRow, standIns := [], harness := (true, "e7b97f04fd4655e130babd294dd886b4a4653f45cbd381b3bd592f99688999a7"), looks := false }, kinds := [], alts := [], laidByText := true, laidKinds := [.data, .data, .pinned], laidTests := true, laidLooks := .later }
def UcellNoneCardSaid : Prop := Claim7.holds Tryd.pinned (.plain (OpenSpec.ofChange ucellNoneSpec)) ucellNoneCard

/-- THE SECOND FORM's CARD OF 'lanyardlaw01.UcellSpans'. -/
def ucellSpansUptoCard : Claim7 := { stood := { row := ucellSpansUptoRow, standIns := [], harness := (true, "e7b97f04fd4655e130babd294dd886b4a4653f45cbd381b3bd592f99688999a7"), looks := false }, kinds := [], alts := [], laidByText := true, laidKinds := [.data, .data, .pinned], laidTests := true, laidLooks := .later }
def UcellSpansUptoCardSaid : Prop := Claim7.holds Tryd.pinned (.plain (OpenSpec.upto ucellSpansSpec)) ucellSpansUptoCard

/-- THE SECOND FORM's CARD OF 'lanyardlaw01.UcellWide'. -/
def ucellWideUptoCard : Claim7 := { stood := { row := ucellWideUptoRow, standIns := [], harness := (true, "e7b97f04fd4655e130babd294dd886b4a4653f45cbd381b3bd592f99688999a7"), looks := false }, kinds := [], alts := [], laidByText := true, laidKinds := [.data, .data, .pinned], laidTests := true, laidLooks := .later }
def UcellWideUptoCardSaid : Prop := Claim7.holds Tryd.pinned (.plain (OpenSpec.upto ucellWideSpec)) ucellWideUptoCard

/-- THE SECOND FORM's CARD OF 'lanyardlaw01.UcellNone'. -/
def ucellNoneUptoCard : Claim7 := { stood := { row := ucellNoneUptoRow, standIns := [], harness := (true, "e7b97f04fd4655e130babd294dd886b4a4653f45cbd381b3bd592f99688999a7"), looks := false }, kinds := [], alts := [], laidByText := true, laidKinds := [.data, .data, .pinned], laidTests := true, laidLooks := .later }
def UcellNoneUptoCardSaid : Prop := Claim7.holds Tryd.pinned (.plain (OpenSpec.upto ucellNoneSpec)) ucellNoneUptoCard
end Rows
end Go.Proofs.YtalfodcjpnjmaabDoor
