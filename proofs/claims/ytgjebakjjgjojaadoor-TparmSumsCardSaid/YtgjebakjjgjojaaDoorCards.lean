/-
  DERIVED. GIVEN WITH THE SEED: THE CARDS: each row of YtgjebakjjgjojaaDoorRows.lean that lists a variable, with what it lists TIED to the program's text (the seventh form; the later family's looks); each row that meets fmt, with fmt's text TOLD by the authors' own Lean function (tested against real Go, not proved from fmt's source: count such statements apart). THE CARD IS WHAT COUNTS. Prove the row's statement (the work); the ties are given (YtgjebakjjgjojaaDoorTie.lean); close each card by the builder's one call (the guide's Derived/Test/ToyasCard.lean, 'card_holds'). Laid BY PROGRAM, IN A SANDBOX (cutbox-door.mjs). By AI agents, Wed Nov 11 2026. No macro, syntax, notation, axiom, sorry.
-/
import Derived.Test.YtgjebakjjgjojaaDoorRows
import GoSem.ClaimSeven
namespace Go.Proofs.YtgjebakjjgjojaaDoor
namespace Rows

/-- THE TIED CARD OF 'lanyardlaw04.TparmNumbers'. -/
def tparmNumbersCard : Claim7 := { stood := { row := tparmNumbersRow, standIns := [], harness := (true, "fcc5a2ee1e47bad9a82a35ff1fa5f84fa9e466818e6bb1183087cbddeebb8e55"), looks := false }, kinds := [], alts := [], laidByText := true, laidKinds := [.data, .data, .data, .data, .pinned, .pinned], laidTests := true, laidLooks := .later }
def TparmNumbersCardSaid : Prop := Claim7.holds Tryd.pinned (.plain (OpenSpec.ofChange tparmNumbersSpec)) tparmNumbersCard

/-- THE TIED CARD OF 'lanyardlaw04.TparmSums'. -/
def tparmSumsCard : Claim7 := { stood := { row := tparmSumsRow, standIns := [], harness := (true, "fcc5a2ee1e47bad9a82a35ff1fa5f84fa9e466818e6bb1183087cbddeebb8e55"), looks := false }, kinds := [], alts := [], laidByText := true, laidKinds := [.data, .data, .data, .data, .pinned, .pinned], laidTests := true, laidLooks := .later }
def TparmSumsCardSaid : Prop := Claim7.holds Tryd.pinned (.plain (OpenSpec.ofChange tparmSumsSpec)) tparmSumsCard

/-- THE SECOND FORM's CARD OF 'lanyardlaw04.TparmNumbers'. -/
def tparmNumbersUptoCard : Claim7 := { stood := { row := tparmNumbersUptoRow, standIns := [], harness := (true, "fcc5a2ee1e47bad9a82a35ff1fa5f84fa9e466818e6bb1183087cbddeebb8e55"), looks := false }, kinds := [], alts := [], laidByText := true, laidKinds := [.data, .data, .data, .data, .pinned, .pinned], laidTests := true, laidLooks := .later }
def TparmNumbersUptoCardSaid : Prop := Claim7.holds Tryd.pinned (.plain (OpenSpec.upto tparmNumbersSpec)) tparmNumbersUptoCard

/-- THE SECOND FORM's CARD OF 'lanyardlaw04.TparmSums'. -/
def tparmSumsUptoCard : Claim7 := { stood := { row := tparmSumsUptoRow, standIns := [], harness := (true, "fcc5a2ee1e47bad9a82a35ff1fa5f84fa9e466818e6bb1183087cbddeebb8e55"), looks := false }, kinds := [], alts := [], laidByText := true, laidKinds := [.data, .data, .data, .data, .pinned, .pinned], laidTests := true, laidLooks := .later }
def TparmSumsUptoCardSaid : Prop := Claim7.holds Tryd.pinned (.plain (OpenSpec.upto tparmSumsSpec)) tparmSumsUptoCard
end Rows
end Go.Proofs.YtgjebakjjgjojaaDoor
