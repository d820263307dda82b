/-
  DERIVED. GIVEN WITH THE SEED: THE CARDS: each row of YtapihomdfdhnnaaDoorRows.lean that lists a variable, with what it lists TIED to the program's text (the seventh form; the later family's looks); each row that meets fmt, with fmt's text TOLD by the authors' own Lean function (tested against real Go, not proved from fmt's source: count such statements apart). THE CARD IS WHAT COUNTS. Prove the row's statement (the work); the ties are given (YtapihomdfdhnnaaDoorTie.lean); close each card by the builder's one call (the guide's Derived/Test/ToyasCard.lean, 'card_holds'). Laid BY PROGRAM, IN A SANDBOX (cutbox-door.mjs). By AI agents, Wed Nov 11 2026. No macro, syntax, notation, axiom, sorry.
-/
import Derived.Test.YtapihomdfdhnnaaDoorRows
import GoSem.ClaimSeven
namespace Go.Proofs.YtapihomdfdhnnaaDoor
namespace Rows

/-- THE TIED CARD OF 'lanyardlaw04.TparmNumbers'. -/
def tparmNumbersCard : Claim7 := { stood := { row := tparmNumbersRow, standIns := [], harness := (true, "e964143d5dad329c5792c0f24ab59df21515dea1306d78105ac545c9436d2c86"), looks := false }, kinds := [], alts := [], laidByText := true, laidKinds := [.data, .data, .data, .data, .pinned, .pinned], laidTests := true, laidLooks := .later }
def TparmNumbersCardSaid : Prop := Claim7.holds Tryd.pinned (.plain (OpenSpec.ofChange tparmNumbersSpec)) tparmNumbersCard

/-- THE SECOND FORM's CARD OF 'lanyardlaw04.TparmNumbers'. -/
def tparmNumbersUptoCard : Claim7 := { stood := { row := tparmNumbersUptoRow, standIns := [], harness := (true, "e964143d5dad329c5792c0f24ab59df21515dea1306d78105ac545c9436d2c86"), looks := false }, kinds := [], alts := [], laidByText := true, laidKinds := [.data, .data, .data, .data, .pinned, .pinned], laidTests := true, laidLooks := .later }
def TparmNumbersUptoCardSaid : Prop := Claim7.holds Tryd.pinned (.plain (OpenSpec.upto tparmNumbersSpec)) tparmNumbersUptoCard
end Rows
end Go.Proofs.YtapihomdfdhnnaaDoor
