/-
  DERIVED. GIVEN WITH THE SEED: THE CARDS: each row of YtalfodcjpnjmaaaDoorRows.lean that lists a variable, with what it lists TIED to the program's text (the seventh form; the later family's looks); each row that meets fmt, with fmt's text TOLD by the authors' own Lean function (tested against real Go, not proved from fmt's source: count such statements apart). THE CARD IS WHAT COUNTS. Prove the row's statement (the work); the ties are given (YtalfodcjpnjmaaaDoorTie.lean); close each card by the builder's one call (the guide's Derived/Test/ToyasCard.lean, 'card_holds'). Laid BY PROGRAM, IN A SANDBOX (cutbox-door.mjs). By AI agents, Wed Nov 11 2026. No macro, syntax, notation, axiom, sorry.
-/
import Derived.Test.YtalfodcjpnjmaaaDoorRows
import GoSem.ClaimSeven
namespace Go.Proofs.YtalfodcjpnjmaaaDoor
namespace Rows

/-- THE TIED CARD OF 'lanyardlaw01.UcellRunes'. -/
def ucellRunesCard : Claim7 := { stood := { row := ucellRunesRow, standIns := [], harness := (true, "b42eb3420fb8696cd41d496c09e94d94c9e646f32da23a511cffe10a40ebdb4c"), looks := false }, kinds := [], alts := [], laidByText := true, laidKinds := [.data, .data, .pinned], laidTests := true, laidLooks := .later }
def UcellRunesCardSaid : Prop := Claim7.holds Tryd.pinned (.plain (OpenSpec.ofChange ucellRunesSpec)) ucellRunesCard

/-- THE TIED CARD OF 'lanyardlaw01.UcellKinds'. -/
def ucellKindsCard : Claim7 := { stood := { row := ucellKindsRow, standIns := [], harness := (true, "b42eb3420fb8696cd41d496c09e94d94c9e646f32da23a511cffe10a40ebdb4c"), looks := false }, kinds := [], alts := [], laidByText := true, laidKinds := [.data, .data, .pinned], laidTests := true, laidLooks := .later }
def UcellKindsCardSaid : Prop := Claim7.holds Tryd.pinned (.plain (OpenSpec.ofChange ucellKindsSpec)) ucellKindsCard

/-- THE TIED CARD OF 'lanyardlaw01.UcellCells'. -/
def ucellCellsCard : Claim7 := { stood := { row := ucellCellsRow, standIns := [], harness := (true, "b42eb3420fb8696cd41d496c09e94d94c9e646f32da23a511cffe10a40ebdb4c"), looks := false }, kinds := [], alts := [], laidByText := true, laidKinds := [.data, .data, .pinned], laidTests := true, laidLooks := .later }
def UcellCellsCardSaid : Prop := Claim7.holds Tryd.pinned (.plain (OpenSpec.ofChange ucellCellsSpec)) ucellCellsCard

/-- THE TIED CARD OF 'lanyardlaw01.UcellPieces'. -/
def ucellPiecesCard : Claim7 := { stood := { row := ucellPiecesRow, standIns := [], harness := (true, "b42eb3420fb8696cd41d496c09e94d94c9e646f32da23a511cffe10a40ebdb4c"), looks := false }, kinds := [], alts := [], laidByText := true, laidKinds := [.data, .data, .pinned], laidTests := true, laidLooks := .later }
def UcellPiecesCardSaid : Prop := Claim7.holds Tryd.pinned (.plain (OpenSpec.ofChange ucellPiecesSpec)) ucellPiecesCard

/-- THE TIED CARD OF 'lanyardlaw01.UcellStream'. -/
def ucellStreamCard : Claim7 := { stood := { row := ucellStreamRow, standIns := [], harness := (true, "b42eb3420fb8696cd41d496c09e94d94c9e646f32da23a511cffe10a40ebdb4c"), looks := false }, kinds := [], alts := [], laidByText := true, laidKinds := [.data, .data, .pinned], laidTests := true, laidLooks := .later }
def UcellStreamCardSaid : Prop := Claim7.holds Tryd.pinned (.plain (OpenSpec.ofChange ucellStreamSpec)) ucellStreamCard

/-- THE TIED CARD OF 'lanyardlaw01.UcellBack'. -/
def ucellBackCard : Claim7 := { stood := { row := ucellBackRow, standIns := [], harness := (true, "b42eb3420fb8696cd41d496c09e94d94c9e646f32da23a511cffe10a40ebdb4c"), looks := false }, kinds := [], alts := [], laidByText := true, laidKinds := [.data, .data, .pinned], laidTests := true, laidLooks := .later }
def UcellBackCardSaid : Prop := Claim7.holds Tryd.pinned (.plain (OpenSpec.ofChange ucellBackSpec)) ucellBackCard

/-- THE SECOND FORM's CARD OF 'lanyardlaw01.UcellRunes'. -/
def ucellRunesUptoCard : Claim7 := { stood := { row := ucellRunesUptoRow, standIns := [], harness := (true, "b42eb3420fb8696cd41d496c09e94d94c9e646f32da23a511cffe10a40ebdb4c"), looks := false }, kinds := [], alts := [], laidByText := true, laidKinds := [.data, .data, .pinned], laidTests := true, laidLooks := .later }
def UcellRunesUptoCardSaid : Prop := Claim7.holds Tryd.pinned (.plain (OpenSpec.upto ucellRunesSpec)) ucellRunesUptoCard

/-- THE SECOND FORM's CARD OF 'lanyardlaw01.UcellKinds'. -/
def ucellKindsUptoCard : Claim7 := { stood := { row := ucellKindsUptoRow, standIns := [], harness := (true, "b42eb3420fb8696cd41d496c09e94d94c9e646f32da23a511cffe10a40ebdb4c"), looks := false }, kinds := [], alts := [], laidByText := true, laidKinds := [.data, .data, .pinned], laidTests := true, laidLooks := .later }
def UcellKindsUptoCardSaid : Prop := Claim7.holds Tryd.pinned (.plain (OpenSpec.upto ucellKindsSpec)) ucellKindsUptoCard

/-- THE SECOND FORM's CARD OF 'lanyardlaw01.UcellCells'. -/
def ucellCellsUptoCard : Claim7 := { stood := { row := ucellCellsUptoRow, standIns := [], harness := (true, "b42eb3420fb8696cd41d496c09e94d94c9e646f32da23a511cffe10a40ebdb4c"), looks := false }, kinds := [], alts := [], laidByText := true, laidKinds := [.data, .data, .pinned], laidTests := true, laidLooks := .later }
def UcellCellsUptoCardSaid : Prop := Claim7.holds Tryd.pinned (.plain (OpenSpec.upto ucellCellsSpec)) ucellCellsUptoCard

/-- THE SECOND FORM's CARD OF 'lanyardlaw01.UcellPieces'. -/
def ucellPiecesUptoCard : Claim7 := { stood := { row := ucellPiecesUptoRow, standIns := [], harness := (true, "b42eb3420fb8696cd41d496c09e94d94c9e646f32da23a511cffe10a40ebdb4c"), looks := false }, kinds := [], alts := [], laidByText := true, laidKinds := [.data, .data, .pinned], laidTests := true, laidLooks := .later }
def UcellPiecesUptoCardSaid : Prop := Claim7.holds Tryd.pinned (.plain (OpenSpec.upto ucellPiecesSpec)) ucellPiecesUptoCard

/-- THE SECOND FORM's CARD OF 'lanyardlaw01.UcellStream'. -/
def ucellStreamUptoCard : Claim7 := { stood := { row := ucellStreamUptoRow, standIns := [], harness := (true, "b42eb3420fb8696cd41d496c09e94d94c9e646f32da23a511cffe10a40ebdb4c"), looks := false }, kinds := [], alts := [], laidByText := true, laidKinds := [.data, .data, .pinned], laidTests := true, laidLooks := .later }
def UcellStreamUptoCardSaid : Prop := Claim7.holds Tryd.pinned (.plain (OpenSpec.upto ucellStreamSpec)) ucellStreamUptoCard

/-- THE SECOND FORM's CARD OF 'lanyardlaw01.UcellBack'. -/
def ucellBackUptoCard : Claim7 := { stood := { row := ucellBackUptoRow, standIns := [], harness := (true, "b42eb3420fb8696cd41d496c09e94d94c9e646f32da23a511cffe10a40ebdb4c"), looks := false }, kinds := [], alts := [], laidByText := true, laidKinds := [.data, .data, .pinned], laidTests := true, laidLooks := .later }
def UcellBackUptoCardSaid : Prop := Claim7.holds Tryd.pinned (.plain (OpenSpec.upto ucellBackSpec)) ucellBackUptoCard
end Rows
end Go.Proofs.YtalfodcjpnjmaaaDoor
