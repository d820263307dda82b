/-
  DERIVED. GIVEN WITH THE SEED: THE CARDS: each row of YthpkfgjjaieikaaDoorRows.lean that lists a variable, with what it lists TIED to the program's text (the seventh form; the later family's looks); each row that meets fmt, with fmt's text TOLD by the authors' own Lean function (tested against real Go, not proved from fmt's source: count such statements apart). THE CARD IS WHAT COUNTS. Prove the row's statement (the work); the ties are given (YthpkfgjjaieikaaDoorTie.lean); close each card by the builder's one call (the guide's Derived/Test/ToyasCard.lean, 'card_holds'). Laid BY PROGRAM, IN A SANDBOX (cutbox-door.mjs). By AI agents, Wed Nov 11 2026. No macro, syntax, notation, axiom, sorry.
-/
import Derived.Test.YthpkfgjjaieikaaDoorRows
import GoSem.ClaimSeven
namespace Go.Proofs.YthpkfgjjaieikaaDoor
namespace Rows

/-- THE TIED CARD OF 'lanyardlaw02.FsPaths'. -/
def fsPathsCard : Claim7 := { stood := { row := fsPathsRow, standIns := [], harness := (true, "248eddfc8d9d433dcfa967b89eca076b17f517e9e2b31865169c8ee255faab85"), looks := false }, kinds := [], alts := [], laidByText := true, laidKinds := [.data, .pinned], laidTests := true, laidLooks := .later }
def FsPathsCardSaid : Prop := Claim7.holds Tryd.pinned (.plain (OpenSpec.ofChange fsPathsSpec)) fsPathsCard

/-- THE TIED CARD OF 'lanyardlaw02.FsTree'. -/
def fsTreeCard : Claim7 := { stood := { row := fsTreeRow, standIns := [], harness := (true, "248eddfc8d9d433dcfa967b89eca076b17f517e9e2b31865169c8ee255faab85"), looks := false }, kinds := [], alts := [], laidByText := true, laidKinds := [.data, .pinned], laidTests := true, laidLooks := .later }
def FsTreeCardSaid : Prop := Claim7.holds Tryd.pinned (.plain (OpenSpec.ofChange fsTreeSpec)) fsTreeCard

/-- THE TIED CARD OF 'lanyardlaw02.FsCrash'. -/
def fsCrashCard : Claim7 := { stood := { row := fsCrashRow, standIns := [], harness := (true, "248eddfc8d9d433dcfa967b89eca076b17f517e9e2b31865169c8ee255faab85"), looks := false }, kinds := [], alts := [], laidByText := true, laidKinds := [.data, .pinned], laidTests := true, laidLooks := .later }
def FsCrashCardSaid : Prop := Claim7.holds Tryd.pinned (.plain (OpenSpec.ofChange fsCrashSpec)) fsCrashCard

/-- THE TIED CARD OF 'lanyardlaw02.FsOwn'. -/
def fsOwnCard : Claim7 := { stood := { row := fsOwnRow, standIns := [], harness := (true, "248eddfc8d9d433dcfa967b89eca076b17f517e9e2b31865169c8ee255faab85"), looks := false }, kinds := [], alts := [], laidByText := true, laidKinds := [.data, .pinned], laidTests := true, laidLooks := .later }
def FsOwnCardSaid : Prop := Claim7.holds Tryd.pinned (.plain (OpenSpec.ofChange fsOwnSpec)) fsOwnCard

/-- THE TIED CARD OF 'lanyardlaw02.FsNone'. -/
def fsNoneCard : Claim7 := { stood := { row := fsNoneRow, standIns := [], harness := (true, "248eddfc8d9d433dcfa967b89eca076b17f517e9e2b31865169c8ee255faab85"), looks := false }, kinds := [], alts := [], laidByText := true, laidKinds := [.data, .pinned], laidTests := true, laidLooks := .later }
def FsNoneCardSaid : Prop := Claim7.holds Tryd.pinned (.plain (OpenSpec.ofChange fsNoneSpec)) fsNoneCard

/-- THE SECOND FORM's CARD OF 'lanyardlaw02.FsPaths'. -/
def fsPathsUptoCard : Claim7 := { stood := { row := fsPathsUptoRow, standIns := [], harness := (true, "248eddfc8d9d433dcfa967b89eca076b17f517e9e2b31865169c8ee255faab85"), looks := false }, kinds := [], alts := [], laidByText := true, laidKinds := [.data, .pinned], laidTests := true, laidLooks := .later }
def FsPathsUptoCardSaid : Prop := Claim7.holds Tryd.pinned (.plain (OpenSpec.upto fsPathsSpec)) fsPathsUptoCard

/-- THE SECOND FORM's CARD OF 'lanyardlaw02.FsTree'. -/
def fsTreeUptoCard : Claim7 := { stood := { row := fsTreeUptoRow, standIns := [], harness := (true, "248eddfc8d9d433dcfa967b89eca076b17f517e9e2b31865169c8ee255faab85"), looks := false }, kinds := [], alts := [], laidByText := true, laidKinds := [.data, .pinned], laidTests := true, laidLooks := .later }
def FsTreeUptoCardSaid : Prop := Claim7.holds Tryd.pinned (.plain (OpenSpec.upto fsTreeSpec)) fsTreeUptoCard

/-- THE SECOND FORM's CARD OF 'lanyardlaw02.FsCrash'. -/
def fsCrashUptoCard : Claim7 := { stood := { row := fsCrashUptoRow, standIns := [], harness := (true, "248eddfc8d9d433dcfa967b89eca076b17f517e9e2b31865169c8ee255faab85"), looks := false }, kinds := [], alts := [], laidByText := true, laidKinds := [.data, .pinned], laidTests := true, laidLooks := .later }
def FsCrashUptoCardSaid : Prop := Claim7.holds Tryd.pinned (.plain (OpenSpec.upto fsCrashSpec)) fsCrashUptoCard

/-- THE SECOND FORM's CARD OF 'lanyardlaw02.FsOwn'. -/
def fsOwnUptoCard : Claim7 := { stood := { row := fsOwnUptoRow, standIns := [], harness := (true, "248eddfc8d9d433dcfa967b89eca076b17f517e9e2b31865169c8ee255faab85"), looks := false }, kinds := [], alts := [], laidByText := true, laidKinds := [.data, .pinned], laidTests := true, laidLooks := .later }
def FsOwnUptoCardSaid : Prop := Claim7.holds Tryd.pinned (.plain (OpenSpec.upto fsOwnSpec)) fsOwnUptoCard

/-- THE SECOND FORM's CARD OF 'lanyardlaw02.FsNone'. -/
def fsNoneUptoCard : Claim7 := { stood := { row := fsNoneUptoRow, standIns := [], harness := (true, "248eddfc8d9d433dcfa967b89eca076b17f517e9e2b31865169c8ee255faab85"), looks := false }, kinds := [], alts := [], laidByText := true, laidKinds := [.data, .pinned], laidTests := true, laidLooks := .later }
def FsNoneUptoCardSaid : Prop := Claim7.holds Tryd.pinned (.plain (OpenSpec.upto fsNoneSpec)) fsNoneUptoCard
end Rows
end Go.Proofs.YthpkfgjjaieikaaDoor
