/-
  DERIVED. GIVEN WITH THE SEED: THE CARDS: each row of YtcfgppjhgobboaaGreatDoorRows.lean that lists a variable, with what it lists TIED to the program's text (the seventh form; the later family's looks); each row that meets fmt, with fmt's text TOLD by the authors' own Lean function (tested against real Go, not proved from fmt's source: count such statements apart). THE CARD IS WHAT COUNTS. Prove the row's statement (the work); the ties are given (YtcfgppjhgobboaaGreatDoorTie.lean); close each card by the builder's one call (the guide's Derived/Test/ToyasCard.lean, 'card_holds'). Laid BY PROGRAM, IN A SANDBOX (cutbox-door.mjs). By AI agents, Wed Nov 11 2026. No macro, syntax, notation, axiom, sorry.
-/
import Derived.Test.YtcfgppjhgobboaaGreatDoorRows
import GoSem.ClaimSeven
namespace Go.Proofs.YtcfgppjhgobboaaGreatDoor
namespace Rows

/-- THE TIED CARD OF 'lanyardlaw03.TinfoReads'. -/
def tinfoReadsCard : Claim7 := { stood := { row := tinfoReadsRow, standIns := [], harness := (true, "67fdc11a49103bc52c479e338c24b932b93676436cb9b8cb3fc4d01c1239dfed"), looks := true }, kinds := [], alts := [], laidByText := true, laidKinds := [.data, .data, .data, .data, .sentinel, .sentinel, .listed, .data, .data, .pinned], laidTests := true, laidLooks := .later }
def TinfoReadsCardSaid : Prop := Claim7.holds Tryz.pinned (.plain (OpenSpec.ofChange tinfoReadsSpec)) tinfoReadsCard

/-- THE TIED CARD OF 'lanyardlaw03.TinfoBack'. -/
def tinfoBackCard : Claim7 := { stood := { row := tinfoBackRow, standIns := [], harness := (true, "67fdc11a49103bc52c479e338c24b932b93676436cb9b8cb3fc4d01c1239dfed"), looks := true }, kinds := [], alts := [], laidByText := true, laidKinds := [.data, .data, .data, .data, .sentinel, .sentinel, .listed, .data, .data, .pinned], laidTests := true, laidLooks := .later }
def TinfoBackCardSaid : Prop := Claim7.holds Tryz.pinned (.plain (OpenSpec.ofChange tinfoBackSpec)) tinfoBackCard

/-- THE TIED CARD OF 'lanyardlaw03.TinfoSets'. -/
def tinfoSetsCard : Claim7 := { stood := { row := tinfoSetsRow, standIns := [], harness := (true, "67fdc11a49103bc52c479e338c24b932b93676436cb9b8cb3fc4d01c1239dfed"), looks := true }, kinds := [], alts := [], laidByText := true, laidKinds := [.data, .data, .data, .data, .sentinel, .sentinel, .listed, .data, .data, .pinned], laidTests := true, laidLooks := .later }
def TinfoSetsCardSaid : Prop := Claim7.holds Tryz.pinned (.plain (OpenSpec.ofChange tinfoSetsSpec)) tinfoSetsCard

/-- THE TIED CARD OF 'lanyardlaw03.TinfoOwn'. -/
def tinfoOwnCard : Claim7 := { stood := { row := tinfoOwnRow, standIns := [], harness := (true, "67fdc11a49103bc52c479e338c24b932b93676436cb9b8cb3fc4d01c1239dfed"), looks := true }, kinds := [], alts := [], laidByText := true, laidKinds := [.data, .data, .data, .data, .sentinel, .sentinel, .listed, .data, .data, .pinned], laidTests := true, laidLooks := .later }
def TinfoOwnCardSaid : Prop := Claim7.holds Tryz.pinned (.plain (OpenSpec.ofChange tinfoOwnSpec)) tinfoOwnCard

/-- THE SECOND FORM's CARD OF 'lanyardlaw03.TinfoReads'. -/
def tinfoReadsUptoCard : Claim7 := { stood := { row := tinfoReadsUptoRow, standIns := [], harness := (true, "67fdc11a49103bc52c479e338c24b932b93676436cb9b8cb3fc4d01c1239dfed"), looks := true }, kinds := [], alts := [], laidByText := true, laidKinds := [.data, .data, .data, .data, .sentinel, .sentinel, .listed, .data, .data, .pinned], laidTests := true, laidLooks := .later }
def TinfoReadsUptoCardSaid : Prop := Claim7.holds Tryz.pinned (.plain (OpenSpec.upto tinfoReadsSpec)) tinfoReadsUptoCard

/-- THE SECOND FORM's CARD OF 'lanyardlaw03.TinfoBack'. -/
def tinfoBackUptoCard : Claim7 := { stood := { row := tinfoBackUptoRow, standIns := [], harness := (true, "67fdc11a49103bc52c479e338c24b932b93676436cb9b8cb3fc4d01c1239dfed"), looks := true }, kinds := [], alts := [], laidByText := true, laidKinds := [.data, .data, .data, .data, .sentinel, .sentinel, .listed, .data, .data, .pinned], laidTests := true, laidLooks := .later }
def TinfoBackUptoCardSaid : Prop := Claim7.holds Tryz.pinned (.plain (OpenSpec.upto tinfoBackSpec)) tinfoBackUptoCard

/-- THE SECOND FORM's CARD OF 'lanyardlaw03.TinfoSets'. -/
def tinfoSetsUptoCard : Claim7 := { stood := { row := tinfoSetsUptoRow, standIns := [], harness := (true, "67fdc11a49103bc52c479e338c24b932b93676436cb9b8cb3fc4d01c1239dfed"), looks := true }, kinds := [], alts := [], laidByText := true, laidKinds := [.data, .data, .data, .data, .sentinel, .sentinel, .listed, .data, .data, .pinned], laidTests := true, laidLooks := .later }
def TinfoSetsUptoCardSaid : Prop := Claim7.holds Tryz.pinned (.plain (OpenSpec.upto tinfoSetsSpec)) tinfoSetsUptoCard

/-- THE SECOND FORM's CARD OF 'lanyardlaw03.TinfoOwn'. -/
def tinfoOwnUptoCard : Claim7 := { stood := { row := tinfoOwnUptoRow, standIns := [], harness := (true, "67fdc11a49103bc52c479e338c24b932b93676436cb9b8cb3fc4d01c1239dfed"), looks := true }, kinds := [], alts := [], laidByText := true, laidKinds := [.data, .data, .data, .data, .sentinel, .sentinel, .listed, .data, .data, .pinned], laidTests := true, laidLooks := .later }
def TinfoOwnUptoCardSaid : Prop := Claim7.holds Tryz.pinned (.plain (OpenSpec.upto tinfoOwnSpec)) tinfoOwnUptoCard
end Rows
end Go.Proofs.YtcfgppjhgobboaaGreatDoor
