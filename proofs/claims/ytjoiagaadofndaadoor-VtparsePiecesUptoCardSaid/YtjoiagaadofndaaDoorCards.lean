/-
  DERIVED. GIVEN WITH THE SEED: THE CARDS: each row of YtjoiagaadofndaaDoorRows.lean that lists a variable, with what it lists TIED to the program's text (the seventh form; the later family's looks); each row that meets fmt, with fmt's text TOLD by the authors' own Lean function (tested against real Go, not proved from fmt's source: count such statements apart). THE CARD IS WHAT COUNTS. Prove the row's statement (the work); the ties are given (YtjoiagaadofndaaDoorTie.lean); close each card by the builder's one call (the guide's Derived/Test/ToyasCard.lean, 'card_holds'). Laid BY PROGRAM, IN A SANDBOX (cutbox-door.mjs). By AI agents, Wed Nov 11 2026. No macro, syntax, notation, axiom, sorry.
-/
import Derived.Test.YtjoiagaadofndaaDoorRows
import GoSem.ClaimSeven
namespace Go.Proofs.YtjoiagaadofndaaDoor
namespace Rows

/-- THE TIED CARD OF 'lanyardlaw05.VtparseAll'. -/
def vtparseAllCard : Claim7 := { stood := { row := vtparseAllRow, standIns := [], harness := (true, "ab8a8b5d09cf6990b01e781451cf0bd19b4bd461c5c6812eded80ffa2a131fce"), looks := false }, kinds := [], alts := [], laidByText := true, laidKinds := [.data, .pinned], laidTests := true, laidLooks := .later }
def VtparseAllCardSaid : Prop := Claim7.holds Tryd.pinned (.plain (OpenSpec.ofChange vtparseAllSpec)) vtparseAllCard

/-- THE TIED CARD OF 'lanyardlaw05.VtparsePieces'. -/
def vtparsePiecesCard : Claim7 := { stood := { row := vtparsePiecesRow, standIns := [], harness := (true, "ab8a8b5d09cf6990b01e781451cf0bd19b4bd461c5c6812eded80ffa2a131fce"), looks := false }, kinds := [], alts := [], laidByText := true, laidKinds := [.data, .pinned], laidTests := true, laidLooks := .later }
def VtparsePiecesCardSaid : Prop := Claim7.holds Tryd.pinned (.plain (OpenSpec.ofChange vtparsePiecesSpec)) vtparsePiecesCard

/-- THE TIED CARD OF 'lanyardlaw05.VtparseStream'. -/
def vtparseStreamCard : Claim7 := { stood := { row := vtparseStreamRow, standIns := [], harness := (true, "ab8a8b5d09cf6990b01e781451cf0bd19b4bd461c5c6812eded80ffa2a131fce"), looks := false }, kinds := [], alts := [], laidByText := true, laidKinds := [.data, .pinned], laidTests := true, laidLooks := .later }
def VtparseStreamCardSaid : Prop := Claim7.holds Tryd.pinned (.plain (OpenSpec.ofChange vtparseStreamSpec)) vtparseStreamCard

/-- THE TIED CARD OF 'lanyardlaw05.VtparseBounds'. -/
def vtparseBoundsCard : Claim7 := { stood := { row := vtparseBoundsRow, standIns := [], harness := (true, "ab8a8b5d09cf6990b01e781451cf0bd19b4bd461c5c6812eded80ffa2a131fce"), looks := false }, kinds := [], alts := [], laidByText := true, laidKinds := [.data, .pinned], laidTests := true, laidLooks := .later }
def VtparseBoundsCardSaid : Prop := Claim7.holds Tryd.pinned (.plain (OpenSpec.ofChange vtparseBoundsSpec)) vtparseBoundsCard

/-- THE TIED CARD OF 'lanyardlaw05.VtparseCancels'. -/
def vtparseCancelsCard : Claim7 := { stood := { row := vtparseCancelsRow, standIns := [], harness := (true, "ab8a8b5d09cf6990b01e781451cf0bd19b4bd461c5c6812eded80ffa2a131fce"), looks := false }, kinds := [], alts := [], laidByText := true, laidKinds := [.data, .pinned], laidTests := true, laidLooks := .later }
def VtparseCancelsCardSaid : Prop := Claim7.holds Tryd.pinned (.plain (OpenSpec.ofChange vtparseCancelsSpec)) vtparseCancelsCard

/-- THE TIED CARD OF 'lanyardlaw05.VtparseWrites'. -/
def vtparseWritesCard : Claim7 := { stood := { row := vtparseWritesRow, standIns := [], harness := (true, "ab8a8b5d09cf6990b01e781451cf0bd19b4bd461c5c6812eded80ffa2a131fce"), looks := false }, kinds := [], alts := [], laidByText := true, laidKinds := [.data, .data, .data, .data, .pinned], laidTests := true, laidLooks := .later }
def VtparseWritesCardSaid : Prop := Claim7.holds Tryd.pinned (.plain (OpenSpec.ofChange vtparseWritesSpec)) vtparseWritesCard

/-- THE TIED CARD OF 'lanyardlaw05.VtparseAsks'. -/
def vtparseAsksCard : Claim7 := { stood := { row := vtparseAsksRow, standIns := [], harness := (true, "ab8a8b5d09cf6990b01e781451cf0bd19b4bd461c5c6812eded80ffa2a131fce"), looks := false }, kinds := [], alts := [], laidByText := true, laidKinds := [.data, .pinned], laidTests := true, laidLooks := .later }
def VtparseAsksCardSaid : Prop := Claim7.holds Tryd.pinned (.plain (OpenSpec.ofChange vtparseAsksSpec)) vtparseAsksCard

/-- THE TIED CARD OF 'lanyardlaw05.VtparseNone'. -/
def vtparseNoneCard : Claim7 := { stood := { row := vtparseNoneRow, standIns := [], harness := (true, "ab8a8b5d09cf6990b01e781451cf0bd19b4bd461c5c6812eded80ffa2a131fce"), looks := false }, kinds := [], alts := [], laidByText := true, laidKinds := [.data, .pinned], laidTests := true, laidLooks := .later }
def VtparseNoneCardSaid : Prop := Claim7.holds Tryd.pinned (.plain (OpenSpec.ofChange vtparseNoneSpec)) vtparseNoneCard

/-- THE TIED CARD OF 'lanyardlaw05.VtparsePrints'. -/
def vtparsePrintsCard : Claim7 := { stood := { row := vtparsePrintsRow, standIns := [], harness := (true, "ab8a8b5d09cf6990b01e781451cf0bd19b4bd461c5c6812eded80ffa2a131fce"), looks := false }, kinds := [], alts := [], laidByText := true, laidKinds := [.data, .pinned], laidTests := true, laidLooks := .later }
def VtparsePrintsCardSaid : Prop := Claim7.holds Tryd.pinned (.plain (OpenSpec.ofChange vtparsePrintsSpec)) vtparsePrintsCard

/-- THE SECOND FORM's CARD OF 'lanyardlaw05.VtparseAll'. -/
def vtparseAllUptoCard : Claim7 := { stood := { row := vtparseAllUptoRow, standIns := [], harness := (true, "ab8a8b5d09cf6990b01e781451cf0bd19b4bd461c5c6812eded80ffa2a131fce"), looks := false }, kinds := [], alts := [], laidByText := true, laidKinds := [.data, .pinned], laidTests := true, laidLooks := .later }
def VtparseAllUptoCardSaid : Prop := Claim7.holds Tryd.pinned (.plain (OpenSpec.upto vtparseAllSpec)) vtparseAllUptoCard

/-- THE SECOND FORM's CARD OF 'lanyardlaw05.VtparsePieces'. -/
def vtparsePiecesUptoCard : Claim7 := { stood := { row := vtparsePiecesUptoRow, standIns := [], harness := (true, "ab8a8b5d09cf6990b01e781451cf0bd19b4bd461c5c6812eded80ffa2a131fce"), looks := false }, kinds := [], alts := [], laidByText := true, laidKinds := [.data, .pinned], laidTests := true, laidLooks := .later }
def VtparsePiecesUptoCardSaid : Prop := Claim7.holds Tryd.pinned (.plain (OpenSpec.upto vtparsePiecesSpec)) vtparsePiecesUptoCard

/-- THE SECOND FORM's CARD OF 'lanyardlaw05.VtparseStream'. -/
def vtparseStreamUptoCard : Claim7 := { stood := { row := vtparseStreamUptoRow, standIns := [], harness := (true, "ab8a8b5d09cf6990b01e781451cf0bd19b4bd461c5c6812eded80ffa2a131fce"), looks := false }, kinds := [], alts := [], laidByText := true, laidKinds := [.data, .pinned], laidTests := true, laidLooks := .later }
def VtparseStreamUptoCardSaid : Prop := Claim7.holds Tryd.pinned (.plain (OpenSpec.upto vtparseStreamSpec)) vtparseStreamUptoCard

/-- THE SECOND FORM's CARD OF 'lanyardlaw05.VtparseBounds'. -/
def vtparseBoundsUptoCard : Claim7 := { stood := { row := vtparseBoundsUptoRow, standIns := [], harness := (true, "ab8a8b5d09cf6990b01e781451cf0bd19b4bd461c5c6812eded80ffa2a131fce"), looks := false }, kinds := [], alts := [], laidByText := true, laidKinds := [.data, .pinned], laidTests := true, laidLooks := .later }
def VtparseBoundsUptoCardSaid : Prop := Claim7.holds Tryd.pinned (.plain (OpenSpec.upto vtparseBoundsSpec)) vtparseBoundsUptoCard

/-- THE SECOND FORM's CARD OF 'lanyardlaw05.VtparseCancels'. -/
def vtparseCancelsUptoCard : Claim7 := { stood := { row := vtparseCancelsUptoRow, standIns := [], harness := (true, "ab8a8b5d09cf6990b01e781451cf0bd19b4bd461c5c6812eded80ffa2a131fce"), looks := false }, kinds := [], alts := [], laidByText := true, laidKinds := [.data, .pinned], laidTests := true, laidLooks := .later }
def VtparseCancelsUptoCardSaid : Prop := Claim7.holds Tryd.pinned (.plain (OpenSpec.upto vtparseCancelsSpec)) vtparseCancelsUptoCard

/-- THE SECOND FORM's CARD OF 'lanyardlaw05.VtparseWrites'. -/
def vtparseWritesUptoCard : Claim7 := { stood := { row := vtparseWritesUptoRow, standIns := [], harness := (true, "ab8a8b5d09cf6990b01e781451cf0bd19b4bd461c5c6812eded80ffa2a131fce"), looks := false }, kinds := [], alts := [], laidByText := true, laidKinds := [.data, .data, .data, .data, .pinned], laidTests := true, laidLooks := .later }
def VtparseWritesUptoCardSaid : Prop := Claim7.holds Tryd.pinned (.plain (OpenSpec.upto vtparseWritesSpec)) vtparseWritesUptoCard

/-- THE SECOND FORM's CARD OF 'lanyardlaw05.VtparseAsks'. -/
def vtparseAsksUptoCard : Claim7 := { stood := { row := vtparseAsksUptoRow, standIns := [], harness := (true, "ab8a8b5d09cf6990b01e781451cf0bd19b4bd461c5c6812eded80ffa2a131fce"), looks := false }, kinds := [], alts := [], laidByText := true, laidKinds := [.data, .pinned], laidTests := true, laidLooks := .later }
def VtparseAsksUptoCardSaid : Prop := Claim7.holds Tryd.pinned (.plain (OpenSpec.upto vtparseAsksSpec)) vtparseAsksUptoCard

/-- THE SECOND FORM's CARD OF 'lanyardlaw05.VtparseNone'. -/
def vtparseNoneUptoCard : Claim7 := { stood := { row := vtparseNoneUptoRow, standIns := [], harness := (true, "ab8a8b5d09cf6990b01e781451cf0bd19b4bd461c5c6812eded80ffa2a131fce"), looks := false }, kinds := [], alts := [], laidByText := true, laidKinds := [.data, .pinned], laidTests := true, laidLooks := .later }
def VtparseNoneUptoCardSaid : Prop := Claim7.holds Tryd.pinned (.plain (OpenSpec.upto vtparseNoneSpec)) vtparseNoneUptoCard

/-- THE SECOND FORM's CARD OF 'lanyardlaw05.VtparsePrints'. -/
def vtparsePrintsUptoCard : Claim7 := { stood := { row := vtparsePrintsUptoRow, standIns := [], harness := (true, "ab8a8b5d09cf6990b01e781451cf0bd19b4bd461c5c6812eded80ffa2a131fce"), looks := false }, kinds := [], alts := [], laidByText := true, laidKinds := [.data, .pinned], laidTests := true, laidLooks := .later }
def VtparsePrintsUptoCardSaid : Prop := Claim7.holds Tryd.pinned (.plain (OpenSpec.upto vtparsePrintsSpec)) vtparsePrintsUptoCard
end Rows
end Go.Proofs.YtjoiagaadofndaaDoor
