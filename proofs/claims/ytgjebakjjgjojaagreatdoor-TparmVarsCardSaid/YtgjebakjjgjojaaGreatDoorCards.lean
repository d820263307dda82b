/-
  DERIVED. GIVEN WITH THE SEED: THE CARDS: each row of YtgjebakjjgjojaaGreatDoorRows.lean that lists a variable, with what it lists TIED to the program's text (the seventh form; the later family's looks); each row that meets fmt, with fmt's text TOLD by the authors' own Lean function (tested against real Go, not proved from fmt's source: count such statements apart). THE CARD IS WHAT COUNTS. Prove the row's statement (the work); the ties are given (YtgjebakjjgjojaaGreatDoorTie.lean); close each card by the builder's one call (the guide's Derived/Test/ToyasCard.lean, 'card_holds'). Laid BY PROGRAM, IN A SANDBOX (cutbox-door.mjs). By AI agents, Wed Nov 11 2026. No macro, syntax, notation, axiom, sorry.
-/
import Derived.Test.YtgjebakjjgjojaaGreatDoorRows
import GoSem.ClaimSeven
namespace Go.Proofs.YtgjebakjjgjojaaGreatDoor
namespace Rows

/-- THE TIED CARD OF 'lanyardlaw04.TparmVars'. -/
def tparmVarsCard : Claim7 := { stood := { row := tparmVarsRow, standIns := [], harness := (true, "dc49ba5f880aa243293ad534d7830f1379a3e53eab637f706b0273a5b1e56972"), looks := true }, kinds := [], alts := [], laidByText := true, laidKinds := [.data, .data, .data, .data, .pinned, .pinned], laidTests := true, laidLooks := .later }
def TparmVarsCardSaid : Prop := Claim7.holds Tryz.pinned (.plain (OpenSpec.ofChange tparmVarsSpec)) tparmVarsCard

/-- THE TIED CARD OF 'lanyardlaw04.TparmPlain'. -/
def tparmPlainCard : Claim7 := { stood := { row := tparmPlainRow, standIns := [], harness := (true, "dc49ba5f880aa243293ad534d7830f1379a3e53eab637f706b0273a5b1e56972"), looks := true }, kinds := [], alts := [], laidByText := true, laidKinds := [.data, .data, .data, .data, .pinned, .pinned], laidTests := true, laidLooks := .later }
def TparmPlainCardSaid : Prop := Claim7.holds Tryz.pinned (.plain (OpenSpec.ofChange tparmPlainSpec)) tparmPlainCard

/-- THE TIED CARD OF 'lanyardlaw04.TparmChooses'. -/
def tparmChoosesCard : Claim7 := { stood := { row := tparmChoosesRow, standIns := [], harness := (true, "dc49ba5f880aa243293ad534d7830f1379a3e53eab637f706b0273a5b1e56972"), looks := true }, kinds := [], alts := [], laidByText := true, laidKinds := [.data, .data, .data, .data, .pinned, .pinned], laidTests := true, laidLooks := .later }
def TparmChoosesCardSaid : Prop := Claim7.holds Tryz.pinned (.plain (OpenSpec.ofChange tparmChoosesSpec)) tparmChoosesCard

/-- THE TIED CARD OF 'lanyardlaw04.TparmNone'. -/
def tparmNoneCard : Claim7 := { stood := { row := tparmNoneRow, standIns := [], harness := (true, "dc49ba5f880aa243293ad534d7830f1379a3e53eab637f706b0273a5b1e56972"), looks := true }, kinds := [], alts := [], laidByText := true, laidKinds := [.data, .data, .data, .data, .pinned, .pinned], laidTests := true, laidLooks := .later }
def TparmNoneCardSaid : Prop := Claim7.holds Tryz.pinned (.plain (OpenSpec.ofChange tparmNoneSpec)) tparmNoneCard

/-- THE SECOND FORM's CARD OF 'lanyardlaw04.TparmVars'. -/
def tparmVarsUptoCard : Claim7 := { stood := { row := tparmVarsUptoRow, standIns := [], harness := (true, "dc49ba5f880aa243293ad534d7830f1379a3e53eab637f706b0273a5b1e56972"), looks := true }, kinds := [], alts := [], laidByText := true, laidKinds := [.data, .data, .data, .data, .pinned, .pinned], laidTests := true, laidLooks := .later }
def TparmVarsUptoCardSaid : Prop := Claim7.holds Tryz.pinned (.plain (OpenSpec.upto tparmVarsSpec)) tparmVarsUptoCard

/-- THE SECOND FORM's CARD OF 'lanyardlaw04.TparmPlain'. -/
def tparmPlainUptoCard : Claim7 := { stood := { row := tparmPlainUptoRow, standIns := [], harness := (true, "dc49ba5f880aa243293ad534d7830f1379a3e53eab637f706b0273a5b1e56972"), looks := true }, kinds := [], alts := [], laidByText := true, laidKinds := [.data, .data, .data, .data, .pinned, .pinned], laidTests := true, laidLooks := .later }
def TparmPlainUptoCardSaid : Prop := Claim7.holds Tryz.pinned (.plain (OpenSpec.upto tparmPlainSpec)) tparmPlainUptoCard

/-- THE SECOND FORM's CARD OF 'lanyardlaw04.TparmChooses'. -/
def tparmChoosesUptoCard : Claim7 := { stood := { row := tparmChoosesUptoRow, standIns := [], harness := (true, "dc49ba5f880aa243293ad534d7830f1379a3e53eab637f706b0273a5b1e56972"), looks := true }, kinds := [], alts := [], laidByText := true, laidKinds := [.data, .data, .data, .data, .pinned, .pinned], laidTests := true, laidLooks := .later }
def TparmChoosesUptoCardSaid : Prop := Claim7.holds Tryz.pinned (.plain (OpenSpec.upto tparmChoosesSpec)) tparmChoosesUptoCard

/-- THE SECOND FORM's CARD OF 'lanyardlaw04.TparmNone'. -/
def tparmNoneUptoCard : Claim7 := { stood := { row := tparmNoneUptoRow, standIns := [], harness := (true, "dc49ba5f880aa243293ad534d7830f1379a3e53eab637f706b0273a5b1e56972"), looks := true }, kinds := [], alts := [], laidByText := true, laidKinds := [.data, .data, .data, .data, .pinned, .pinned], laidTests := true, laidLooks := .later }
def TparmNoneUptoCardSaid : Prop := Claim7.holds Tryz.pinned (.plain (OpenSpec.upto tparmNoneSpec)) tparmNoneUptoCard
end Rows
end Go.Proofs.YtgjebakjjgjojaaGreatDoor
