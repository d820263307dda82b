/-
  DERIVED. GIVEN WITH THE SEED: THE CARDS: each row of YtepbhmebidmnbaaDoorRows.lean that lists a variable, with what it lists TIED to the program's text (the seventh form; the later family's looks); each row that meets fmt, with fmt's text TOLD by the authors' own Lean function (tested against real Go, not proved from fmt's source: count such statements apart). THE CARD IS WHAT COUNTS. Prove the row's statement (the work); the ties are given (YtepbhmebidmnbaaDoorTie.lean); close each card by the builder's one call (the guide's Derived/Test/ToyasCard.lean, 'card_holds'). Laid BY PROGRAM, IN A SANDBOX (cutbox-door.mjs). By AI agents, Wed Nov 11 2026. No macro, syntax, notation, axiom, sorry.
-/
import Derived.Test.YtepbhmebidmnbaaDoorRows
import GoSem.ClaimSeven
namespace Go.Proofs.YtepbhmebidmnbaaDoor
namespace Rows

/-- THE TIED CARD OF 'lanyardlaw07.BufferDoes'. -/
def bufferDoesCard : Claim7 := { stood := { row := bufferDoesRow, standIns := [], harness := (true, "9ad702c889614ede41d46a24ec1374e3f4e130ece0c7255d5ac232497a54fa70"), looks := false }, kinds := [], alts := [], laidByText := true, laidKinds := [.data], laidTests := true, laidLooks := .later }
def BufferDoesCardSaid : Prop := Claim7.holds Tryd.pinned (.plain (OpenSpec.ofChange bufferDoesSpec)) bufferDoesCard

/-- THE TIED CARD OF 'lanyardlaw07.BufferMoves'. -/
def bufferMovesCard : Claim7 := { stood := { row := bufferMovesRow, standIns := [], harness := (true, "9ad702c889614ede41d46a24ec1374e3f4e130ece0c7255d5ac232497a54fa70"), looks := false }, kinds := [], alts := [], laidByText := true, laidKinds := [.data], laidTests := true, laidLooks := .later }
def BufferMovesCardSaid : Prop := Claim7.holds Tryd.pinned (.plain (OpenSpec.ofChange bufferMovesSpec)) bufferMovesCard

/-- THE TIED CARD OF 'lanyardlaw07.BufferBack'. -/
def bufferBackCard : Claim7 := { stood := { row := bufferBackRow, standIns := [], harness := (true, "9ad702c889614ede41d46a24ec1374e3f4e130ece0c7255d5ac232497a54fa70"), looks := false }, kinds := [], alts := [], laidByText := true, laidKinds := [.data], laidTests := true, laidLooks := .later }
def BufferBackCardSaid : Prop := Claim7.holds Tryd.pinned (.plain (OpenSpec.ofChange bufferBackSpec)) bufferBackCard

/-- THE TIED CARD OF 'lanyardlaw07.BufferStays'. -/
def bufferStaysCard : Claim7 := { stood := { row := bufferStaysRow, standIns := [], harness := (true, "9ad702c889614ede41d46a24ec1374e3f4e130ece0c7255d5ac232497a54fa70"), looks := false }, kinds := [], alts := [], laidByText := true, laidKinds := [.data], laidTests := true, laidLooks := .later }
def BufferStaysCardSaid : Prop := Claim7.holds Tryd.pinned (.plain (OpenSpec.ofChange bufferStaysSpec)) bufferStaysCard

/-- THE TIED CARD OF 'lanyardlaw07.BufferWords'. -/
def bufferWordsCard : Claim7 := { stood := { row := bufferWordsRow, standIns := [], harness := (true, "9ad702c889614ede41d46a24ec1374e3f4e130ece0c7255d5ac232497a54fa70"), looks := false }, kinds := [], alts := [], laidByText := true, laidKinds := [.data], laidTests := true, laidLooks := .later }
def BufferWordsCardSaid : Prop := Claim7.holds Tryd.pinned (.plain (OpenSpec.ofChange bufferWordsSpec)) bufferWordsCard

/-- THE TIED CARD OF 'lanyardlaw07.BufferOwn'. -/
def bufferOwnCard : Claim7 := { stood := { row := bufferOwnRow, standIns := [], harness := (true, "9ad702c889614ede41d46a24ec1374e3f4e130ece0c7255d5ac232497a54fa70"), looks := false }, kinds := [], alts := [], laidByText := true, laidKinds := [.data], laidTests := true, laidLooks := .later }
def BufferOwnCardSaid : Prop := Claim7.holds Tryd.pinned (.plain (OpenSpec.ofChange bufferOwnSpec)) bufferOwnCard

/-- THE TIED CARD OF 'lanyardlaw07.BufferNone'. -/
def bufferNoneCard : Claim7 := { stood := { row := bufferNoneRow, standIns := [], harness := (true, "9ad702c889614ede41d46a24ec1374e3f4e130ece0c7255d5ac232497a54fa70"), looks := false }, kinds := [], alts := [], laidByText := true, laidKinds := [.data], laidTests := true, laidLooks := .later }
def BufferNoneCardSaid : Prop := Claim7.holds Tryd.pinned (.plain (OpenSpec.ofChange bufferNoneSpec)) bufferNoneCard

/-- THE TIED CARD OF 'lanyardlaw07.BufferSplices'. -/
def bufferSplicesCard : Claim7 := { stood := { row := bufferSplicesRow, standIns := [], harness := (true, "9ad702c889614ede41d46a24ec1374e3f4e130ece0c7255d5ac232497a54fa70"), looks := false }, kinds := [], alts := [], laidByText := true, laidKinds := [.data], laidTests := true, laidLooks := .later }
def BufferSplicesCardSaid : Prop := Claim7.holds Tryd.pinned (.plain (OpenSpec.ofChange bufferSplicesSpec)) bufferSplicesCard

/-- THE SECOND FORM's CARD OF 'lanyardlaw07.BufferDoes'. -/
def bufferDoesUptoCard : Claim7 := { stood := { row := bufferDoesUptoRow, standIns := [], harness := (true, "9ad702c889614ede41d46a24ec1374e3f4e130ece0c7255d5ac232497a54fa70"), looks := false }, kinds := [], alts := [], laidByText := true, laidKinds := [.data], laidTests := true, laidLooks := .later }
def BufferDoesUptoCardSaid : Prop := Claim7.holds Tryd.pinned (.plain (OpenSpec.upto bufferDoesSpec)) bufferDoesUptoCard

/-- THE SECOND FORM's CARD OF 'lanyardlaw07.BufferMoves'. -/
def bufferMovesUptoCard : Claim7 := { stood := { row := bufferMovesUptoRow, standIns := [], harness := (true, "9ad702c889614ede41d46a24ec1374e3f4e130ece0c7255d5ac232497a54fa70"), looks := false }, kinds := [], alts := [], laidByText := true, laidKinds := [.data], laidTests := true, laidLooks := .later }
def BufferMovesUptoCardSaid : Prop := Claim7.holds Tryd.pinned (.plain (OpenSpec.upto bufferMovesSpec)) bufferMovesUptoCard

/-- THE SECOND FORM's CARD OF 'lanyardlaw07.BufferBack'. -/
def bufferBackUptoCard : Claim7 := { stood := { row := bufferBackUptoRow, standIns := [], harness := (true, "9ad702c889614ede41d46a24ec1374e3f4e130ece0c7255d5ac232497a54fa70"), looks := false }, kinds := [], alts := [], laidByText := true, laidKinds := [.data], laidTests := true, laidLooks := .later }
def BufferBackUptoCardSaid : Prop := Claim7.holds Tryd.pinned (.plain (OpenSpec.upto bufferBackSpec)) bufferBackUptoCard

/-- THE SECOND FORM's CARD OF 'lanyardlaw07.BufferStays'. -/
def bufferStaysUptoCard : Claim7 := { stood := { row := bufferStaysUptoRow, standIns := [], harness := (true, "9ad702c889614ede41d46a24ec1374e3f4e130ece0c7255d5ac232497a54fa70"), looks := false }, kinds := [], alts := [], laidByText := true, laidKinds := [.data], laidTests := true, laidLooks := .later }
def BufferStaysUptoCardSaid : Prop := Claim7.holds Tryd.pinned (.plain (OpenSpec.upto bufferStaysSpec)) bufferStaysUptoCard

/-- THE SECOND FORM's CARD OF 'lanyardlaw07.BufferWords'. -/
def bufferWordsUptoCard : Claim7 := { stood := { row := bufferWordsUptoRow, standIns := [], harness := (true, "9ad702c889614ede41d46a24ec1374e3f4e130ece0c7255d5ac232497a54fa70"), looks := false }, kinds := [], alts := [], laidByText := true, laidKinds := [.data], laidTests := true, laidLooks := .later }
def BufferWordsUptoCardSaid : Prop := Claim7.holds Tryd.pinned (.plain (OpenSpec.upto bufferWordsSpec)) bufferWordsUptoCard

/-- THE SECOND FORM's CARD OF 'lanyardlaw07.BufferOwn'. -/
def bufferOwnUptoCard : Claim7 := { stood := { row := bufferOwnUptoRow, standIns := [], harness := (true, "9ad702c889614ede41d46a24ec1374e3f4e130ece0c7255d5ac232497a54fa70"), looks := false }, kinds := [], alts := [], laidByText := true, laidKinds := [.data], laidTests := true, laidLooks := .later }
def BufferOwnUptoCardSaid : Prop := Claim7.holds Tryd.pinned (.plain (OpenSpec.upto bufferOwnSpec)) bufferOwnUptoCard

/-- THE SECOND FORM's CARD OF 'lanyardlaw07.BufferNone'. -/
def bufferNoneUptoCard : Claim7 := { stood := { row := bufferNoneUptoRow, standIns := [], harness := (true, "9ad702c889614ede41d46a24ec1374e3f4e130ece0c7255d5ac232497a54fa70"), looks := false }, kinds := [], alts := [], laidByText := true, laidKinds := [.data], laidTests := true, laidLooks := .later }
def BufferNoneUptoCardSaid : Prop := Claim7.holds Tryd.pinned (.plain (OpenSpec.upto bufferNoneSpec)) bufferNoneUptoCard

/-- THE SECOND FORM's CARD OF 'lanyardlaw07.BufferSplices'. -/
def bufferSplicesUptoCard : Claim7 := { stood := { row := bufferSplicesUptoRow, standIns := [], harness := (true, "9ad702c889614ede41d46a24ec1374e3f4e130ece0c7255d5ac232497a54fa70"), looks := false }, kinds := [], alts := [], laidByText := true, laidKinds := [.data], laidTests := true, laidLooks := .later }
def BufferSplicesUptoCardSaid : Prop := Claim7.holds Tryd.pinned (.plain (OpenSpec.upto bufferSplicesSpec)) bufferSplicesUptoCard
end Rows
end Go.Proofs.YtepbhmebidmnbaaDoor
