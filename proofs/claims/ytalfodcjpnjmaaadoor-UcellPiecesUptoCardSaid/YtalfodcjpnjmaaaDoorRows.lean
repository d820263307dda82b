/-
  NARROWER THAN 'FOR EVERY INPUT', by the rows' own cells (each row's printed sentence says how): UcellRunes: laid · UcellKinds: laid · UcellCells: laid · UcellPieces: laid · UcellStream: laid · UcellBack: laid.
  DERIVED. THE GIVEN ROWS OF THIS SEAT. 6 by the template 'for every input the law returns true; each argument reads behind the call as it read before'; 0 by the template 'total and deterministic' (their statements: YtalfodcjpnjmaaaDoorTotals.lean).
  GIVEN WITH THE SEED: the statements are not yours to turn. If you find one false, say at which input.
  Laid BY PROGRAM, IN A SANDBOX (cutbox-rows.mjs): the forced cells as the released guide's own fill.sh prints them over the translation 208449248ca1bf4f… (all of the seat's roots in one cut). By AI agents, Wed Nov 11 2026. No macro, syntax, notation, axiom, sorry.
-/
import Derived.Test.YtalfodcjpnjmaaaDoorChecked
import GoSem.PinnedTables
import GoSem.Claim
import GoSem.ClaimJoined
import GoSem.ClaimMapViews
import Derived.JoinedTies
import Derived.KernelRfl
namespace Go.Proofs.YtalfodcjpnjmaaaDoor
/- THE CELL 'sum', in the pinned program and in every row, IS THE sha256 OF THE DUMP (.gsa) THAT YtalfodcjpnjmaaaDoorProg.lean LOADS. Nothing in Lean hashes anything: it is a label: what it is worth is what the hold of that sum in a sandbox is worth. -/
noncomputable def Tryd.pinned : Pinned := { name := "ytalfodcjpnjmaaadoor", sum := "208449248ca1bf4f220cd4a03e0d386412ede0c86ecc50f49cfe20bcac1b8518", checked := Tryd.checked }
namespace Rows
def none {H : Type} : Left H := { results := [], args := [] }

/- WHAT THE LISTED PACKAGE-LEVEL VARIABLES READ AS WHEN THE CALL BEGINS. Each datum BY PROGRAM (the guide's laid-datum.mjs) off the statement by which the dump's own 'gosem.cut.vars' lays the variable. In a bare row this is a premise. The card (YtalfodcjpnjmaaaDoorCards.lean) ties it to the program's text. -/
def laid_unicode_utf8_acceptRanges {H : Type} : DataW H := .agg [.agg [.lit (.int .u8 128), .lit (.int .u8 191)], .agg [.lit (.int .u8 160), .lit (.int .u8 191)], .agg [.lit (.int .u8 128), .lit (.int .u8 159)], .agg [.lit (.int .u8 144), .lit (.int .u8 191)], .agg [.lit (.int .u8 128), .lit (.int .u8 143)], .agg [.lit (.int .u8 0), .lit (.int .u8 0)], .agg [.lit (.int .u8 0), .lit (.int .u8 0)], .agg [.lit (.int .u8 0), .lit (.int .u8 0)], .agg [.lit (.int .u8 0), .lit (.int .u8 0)], .agg [.lit (.int .u8 0), .lit (.int .u8 0)], .agg [.lit (.int .u8 0), .lit (.int .u8 0)], .agg [.lit (.int .u8 0), .lit (.int .u8 0)], .agg [.lit (.int .u8 0), .lit (.int .u8 0)], .agg [.lit (.int .u8 0), .lit (.int .u8 0)], .agg [.lit (.int .u8 0), .lit (.int .u8 0)], .agg [.lit (.int .u8 0), .lit (.int .u8 0)]]
def laid_lanyard_ucell_widths {H : Type} : DataW H := .agg [.agg [.lit (.int .i32 768), .lit (.int .i32 879), .lit (.int .i64 0)], .agg [.lit (.int .i32 1155), .lit (.int .i32 1161), .lit (.int .i64 0)], .agg [.lit (.int .i32 1425), .lit (.int .i32 1469), .lit (.int .i64 0)], .agg [.lit (.int .i32 1552), .lit (.int .i32 1562), .lit (.int .i64 0)], .agg [.lit (.int .i32 1611), .lit (.int .i32 1631), .lit (.int .i64 0)], .agg [.lit (.int .i32 3633), .lit (.int .i32 3633), .lit (.int .i64 0)], .agg [.lit (.int .i32 3636), .lit (.int .i32 3642), .lit (.int .i64 0)], .agg [.lit (.int .i32 3655), .lit (.int .i32 3662), .lit (.int .i64 0)], .agg [.lit (.int .i32 6832), .lit (.int .i32 6911), .lit (.int .i64 0)], .agg [.lit (.int .i32 7616), .lit (.int .i32 7679), .lit (.int .i64 0)], .agg [.lit (.int .i32 8203), .lit (.int .i32 8207), .lit (.int .i64 0)], .agg [.lit (.int .i32 8400), .lit (.int .i32 8447), .lit (.int .i64 0)], .agg [.lit (.int .i32 12441), .lit (.int .i32 12442), .lit (.int .i64 0)], .agg [.lit (.int .i32 65024), .lit (.int .i32 65039), .lit (.int .i64 0)], .agg [.lit (.int .i32 65056), .lit (.int .i32 65071), .lit (.int .i64 0)], .agg [.lit (.int .i32 4352), .lit (.int .i32 4447), .lit (.int .i64 2)], .agg [.lit (.int .i32 11904), .lit (.int .i32 12350), .lit (.int .i64 2)], .agg [.lit (.int .i32 12353), .lit (.int .i32 13311), .lit (.int .i64 2)], .agg [.lit (.int .i32 13312), .lit (.int .i32 19903), .lit (.int .i64 2)], .agg [.lit (.int .i32 19968), .lit (.int .i32 40959), .lit (.int .i64 2)], .agg [.lit (.int .i32 40960), .lit (.int .i32 42191), .lit (.int .i64 2)], .agg [.lit (.int .i32 44032), .lit (.int .i32 55203), .lit (.int .i64 2)], .agg [.lit (.int .i32 63744), .lit (.int .i32 64255), .lit (.int .i64 2)], .agg [.lit (.int .i32 65072), .lit (.int .i32 65135), .lit (.int .i64 2)], .agg [.lit (.int .i32 65280), .lit (.int .i32 65376), .lit (.int .i64 2)], .agg [.lit (.int .i32 65504), .lit (.int .i32 65510), .lit (.int .i64 2)], .agg [.lit (.int .i32 127744), .lit (.int .i32 128591), .lit (.int .i64 2)], .agg [.lit (.int .i32 129280), .lit (.int .i32 129535), .lit (.int .i64 2)], .agg [.lit (.int .i32 131072), .lit (.int .i32 262141), .lit (.int .i64 2)]]
/-- One of Go's own tables, pinned by name: the form's constant. -/
def laid_unicode_utf8_first : DataW Unit := Go.Pinned.utf8First

/-- 'lanyardlaw01.UcellRunes': WHATEVER THE INPUT: true; the input reads as it did. -/
def ucellRunesSpec : ChangeSpec := { name := "ucellRunes", fn := fun _ => fun
  | [d1, d2] => { results := [.lit (.bool true)], args := [d1, d2] }
  | _ => none }
def ucellRunesRow : OpenClaim := { program := "ytalfodcjpnjmaaadoor", sum := "208449248ca1bf4f220cd4a03e0d386412ede0c86ecc50f49cfe20bcac1b8518", func := "lanyard/lanyardlaw01.UcellRunes", spec := "ucellRunes", named := ["unicode/utf8.first", "unicode/utf8.acceptRanges", "lanyard/ucell.widths"], apart := false, laid := [("unicode/utf8.acceptRanges", laid_unicode_utf8_acceptRanges), ("lanyard/ucell.widths", laid_lanyard_ucell_widths), ("unicode/utf8.first", laid_unicode_utf8_first)] }
def UcellRunesSaid : Prop := ucellRunesRow.holds Tryd.pinned (OpenSpec.ofChange ucellRunesSpec)

/-- ITS FALSE NEIGHBOUR: 'it returns false'. Refute it at one input. -/
def ucellRunesWrong : ChangeSpec := { name := "ucellRunes", fn := fun _ => fun
  | [d1, d2] => { results := [.lit (.bool false)], args := [d1, d2] }
  | _ => none }
def UcellRunesWrongFalsely : Prop := ucellRunesRow.holds Tryd.pinned (OpenSpec.ofChange ucellRunesWrong)

/-- 'lanyardlaw01.UcellKinds': WHATEVER THE INPUT: true; the input reads as it did. -/
def ucellKindsSpec : ChangeSpec := { name := "ucellKinds", fn := fun _ => fun
  | [d] => { results := [.lit (.bool true)], args := [d] }
  | _ => none }
def ucellKindsRow : OpenClaim := { program := "ytalfodcjpnjmaaadoor", sum := "208449248ca1bf4f220cd4a03e0d386412ede0c86ecc50f49cfe20bcac1b8518", func := "lanyard/lanyardlaw01.UcellKinds", spec := "ucellKinds", named := ["lanyard/ucell.widths", "unicode/utf8.first", "unicode/utf8.acceptRanges"], apart := false, laid := [("unicode/utf8.acceptRanges", laid_unicode_utf8_acceptRanges), ("lanyard/ucell.widths", laid_lanyard_ucell_widths), ("unicode/utf8.first", laid_unicode_utf8_first)] }
def UcellKindsSaid : Prop := ucellKindsRow.holds Tryd.pinned (OpenSpec.ofChange ucellKindsSpec)

/-- ITS FALSE NEIGHBOUR: 'it returns false'. Refute it at one input. -/
def ucellKindsWrong : ChangeSpec := { name := "ucellKinds", fn := fun _ => fun
  | [d] => { results := [.lit (.bool false)], args := [d] }
  | _ => none }
def UcellKindsWrongFalsely : Prop := ucellKindsRow.holds Tryd.pinned (OpenSpec.ofChange ucellKindsWrong)

/-- 'lanyardlaw01.UcellCells': WHATEVER THE INPUT: true; the input reads as it did. -/
def ucellCellsSpec : ChangeSpec := { name := "ucellCells", fn := fun _ => fun
  | [d1, d2] => { results := [.lit (.bool true)], args := [d1, d2] }
  | _ => none }
def ucellCellsRow : OpenClaim := { program := "ytalfodcjpnjmaaadoor", sum := "208449248ca1bf4f220cd4a03e0d386412ede0c86ecc50f49cfe20bcac1b8518", func := "lanyard/lanyardlaw01.UcellCells", spec := "ucellCells", named := ["unicode/utf8.first", "unicode/utf8.acceptRanges", "lanyard/ucell.widths"], apart := false, laid := [("unicode/utf8.acceptRanges", laid_unicode_utf8_acceptRanges), ("lanyard/ucell.widths", laid_lanyard_ucell_widths), ("unicode/utf8.first", laid_unicode_utf8_first)] }
def UcellCellsSaid : Prop := ucellCellsRow.holds Tryd.pinned (OpenSpec.ofChange ucellCellsSpec)

/-- ITS FALSE NEIGHBOUR: 'it returns false'. Refute it at one input. -/
def ucellCellsWrong : ChangeSpec := { name := "ucellCells", fn := fun _ => fun
  | [d1, d2] => { results := [.lit (.bool false)], args := [d1, d2] }
  | _ => none }
def UcellCellsWrongFalsely : Prop := ucellCellsRow.holds Tryd.pinned (OpenSpec.ofChange ucellCellsWrong)

/-- 'lanyardlaw01.UcellPieces': WHATEVER THE INPUT: true; the input reads as it did. -/
def ucellPiecesSpec : ChangeSpec := { name := "ucellPieces", fn := fun _ => fun
  | [d1, d2] => { results := [.lit (.bool true)], args := [d1, d2] }
  | _ => none }
def ucellPiecesRow : OpenClaim := { program := "ytalfodcjpnjmaaadoor", sum := "208449248ca1bf4f220cd4a03e0d386412ede0c86ecc50f49cfe20bcac1b8518", func := "lanyard/lanyardlaw01.UcellPieces", spec := "ucellPieces", named := ["unicode/utf8.first", "unicode/utf8.acceptRanges", "lanyard/ucell.widths"], apart := false, laid := [("unicode/utf8.acceptRanges", laid_unicode_utf8_acceptRanges), ("lanyard/ucell.widths", laid_lanyard_ucell_widths), ("unicode/utf8.first", laid_unicode_utf8_first)] }
def UcellPiecesSaid : Prop := ucellPiecesRow.holds Tryd.pinned (OpenSpec.ofChange ucellPiecesSpec)

/-- ITS FALSE NEIGHBOUR: 'it returns false'. Refute it at one input. -/
def ucellPiecesWrong : ChangeSpec := { name := "ucellPieces", fn := fun _ => fun
  | [d1, d2] => { results := [.lit (.bool false)], args := [d1, d2] }
  | _ => none }
def UcellPiecesWrongFalsely : Prop := ucellPiecesRow.holds Tryd.pinned (OpenSpec.ofChange ucellPiecesWrong)

/-- 'lanyardlaw01.UcellStream': WHATEVER THE INPUT: true; the input reads as it did. -/
def ucellStreamSpec : ChangeSpec := { name := "ucellStream", fn := fun _ => fun
  | [d] => { results := [.lit (.bool true)], args := [d] }
  | _ => none }
def ucellStreamRow : OpenClaim := { program := "ytalfodcjpnjmaaadoor", sum := "208449248ca1bf4f220cd4a03e0d386412ede0c86ecc50f49cfe20bcac1b8518", func := "lanyard/lanyardlaw01.UcellStream", spec := "ucellStream", named := ["unicode/utf8.first", "unicode/utf8.acceptRanges", "lanyard/ucell.widths"], apart := false, laid := [("unicode/utf8.acceptRanges", laid_unicode_utf8_acceptRanges), ("lanyard/ucell.widths", laid_lanyard_ucell_widths), ("unicode/utf8.first", laid_unicode_utf8_first)] }
def UcellStreamSaid : Prop := ucellStreamRow.holds Tryd.pinned (OpenSpec.ofChange ucellStreamSpec)

/-- ITS FALSE NEIGHBOUR: 'it returns false'. Refute it at one input. -/
def ucellStreamWrong : ChangeSpec := { name := "ucellStream", fn := fun _ => fun
  | [d] => { results := [.lit (.bool false)], args := [d] }
  | _ => none }
def UcellStreamWrongFalsely : Prop := ucellStreamRow.holds Tryd.pinned (OpenSpec.ofChange ucellStreamWrong)

/-- 'lanyardlaw01.UcellBack': WHATEVER THE INPUT: true; the input reads as it did. -/
def ucellBackSpec : ChangeSpec := { name := "ucellBack", fn := fun _ => fun
  | [d1, d2] => { results := [.lit (.bool true)], args := [d1, d2] }
  | _ => none }
def ucellBackRow : OpenClaim := { program := "ytalfodcjpnjmaaadoor", sum := "208449248ca1bf4f220cd4a03e0d386412ede0c86ecc50f49cfe20bcac1b8518", func := "lanyard/lanyardlaw01.UcellBack", spec := "ucellBack", named := ["unicode/utf8.first", "unicode/utf8.acceptRanges", "lanyard/ucell.widths"], apart := false, laid := [("unicode/utf8.acceptRanges", laid_unicode_utf8_acceptRanges), ("lanyard/ucell.widths", laid_lanyard_ucell_widths), ("unicode/utf8.first", laid_unicode_utf8_first)] }
def UcellBackSaid : Prop := ucellBackRow.holds Tryd.pinned (OpenSpec.ofChange ucellBackSpec)

/-- ITS FALSE NEIGHBOUR: 'it returns false'. Refute it at one input. -/
def ucellBackWrong : ChangeSpec := { name := "ucellBack", fn := fun _ => fun
  | [d1, d2] => { results := [.lit (.bool false)], args := [d1, d2] }
  | _ => none }
def UcellBackWrongFalsely : Prop := ucellBackRow.holds Tryd.pinned (OpenSpec.ofChange ucellBackWrong)

/- THE SECOND FORM. 'bulk': how many values and letters a reading holds, each counted each time it is reached (what is shared counts as often as it is met; a slice's spare places count too). A statement '..UptoSaid' is the law's where the arguments, and the package variables that the reading takes, are together of bulk at most 1048576: NARROWER than '..Said'. Prove '..Said' where nothing that the law and all that it calls make is longer than what came in: it says more and counts as full. Else prove '..UptoSaid'. A law counts once. -/
mutual
def uptoBulk {H : Type} : DataW H → Nat
  | .lit (.string bytes) => bytes.length + 1
  | .lit _ => 1
  | .nil => 1
  | .ptr d => uptoBulk d + 1
  | .slice elems spare => uptoBulkAll elems + uptoBulkAll spare + 1
  | .agg parts => uptoBulkAll parts + 1
  | .iface _ d => uptoBulk d + 1
  | .map entries => uptoBulkEntries entries + 1
  | .held _ => 1
def uptoBulkAll {H : Type} : List (DataW H) → Nat
  | [] => 0
  | d :: r => uptoBulk d + uptoBulkAll r
def uptoBulkEntries {H : Type} : List (Lit × DataW H) → Nat
  | [] => 0
  | x :: r => uptoBulkEntry x + uptoBulkEntries r
def uptoBulkEntry {H : Type} : Lit × DataW H → Nat
  | (.string bytes, d) => bytes.length + uptoBulk d + 1
  | (_, d) => uptoBulk d + 1
 end
def uptoSmall : (H : Type) → List (DataW H) → Bool := fun _ ds => decide (uptoBulkAll ds ≤ 1048576)
def OpenSpec.upto (s : _root_.Go.ChangeSpec) : _root_.Go.OpenSpec := { _root_.Go.OpenSpec.ofChange s with cond := some uptoSmall }

/-- 'lanyardlaw01.UcellRunes', WHERE WHAT IT READS IS OF BULK AT MOST 1048576: true; the input reads as it did. -/
def ucellRunesUptoRow : OpenClaim := { program := "ytalfodcjpnjmaaadoor", sum := "208449248ca1bf4f220cd4a03e0d386412ede0c86ecc50f49cfe20bcac1b8518", func := "lanyard/lanyardlaw01.UcellRunes", spec := "ucellRunes", named := ["unicode/utf8.first", "unicode/utf8.acceptRanges", "lanyard/ucell.widths"], apart := false, laid := [("unicode/utf8.acceptRanges", laid_unicode_utf8_acceptRanges), ("lanyard/ucell.widths", laid_lanyard_ucell_widths), ("unicode/utf8.first", laid_unicode_utf8_first)], narrowed := true }
def UcellRunesUptoSaid : Prop := ucellRunesUptoRow.holds Tryd.pinned (OpenSpec.upto ucellRunesSpec)

/-- 'lanyardlaw01.UcellKinds', WHERE WHAT IT READS IS OF BULK AT MOST 1048576: true; the input reads as it did. -/
def ucellKindsUptoRow : OpenClaim := { program := "ytalfodcjpnjmaaadoor", sum := "208449248ca1bf4f220cd4a03e0d386412ede0c86ecc50f49cfe20bcac1b8518", func := "lanyard/lanyardlaw01.UcellKinds", spec := "ucellKinds", named := ["lanyard/ucell.widths", "unicode/utf8.first", "unicode/utf8.acceptRanges"], apart := false, laid := [("unicode/utf8.acceptRanges", laid_unicode_utf8_acceptRanges), ("lanyard/ucell.widths", laid_lanyard_ucell_widths), ("unicode/utf8.first", laid_unicode_utf8_first)], narrowed := true }
def UcellKindsUptoSaid : Prop := ucellKindsUptoRow.holds Tryd.pinned (OpenSpec.upto ucellKindsSpec)

/-- 'lanyardlaw01.UcellCells', WHERE WHAT IT READS IS OF BULK AT MOST 1048576: true; the input reads as it did. -/
def ucellCellsUptoRow : OpenClaim := { program := "ytalfodcjpnjmaaadoor", sum := "208449248ca1bf4f220cd4a03e0d386412ede0c86ecc50f49cfe20bcac1b8518", func := "lanyard/lanyardlaw01.UcellCells", spec := "ucellCells", named := ["unicode/utf8.first", "unicode/utf8.acceptRanges", "lanyard/ucell.widths"], apart := false, laid := [("unicode/utf8.acceptRanges", laid_unicode_utf8_acceptRanges), ("lanyard/ucell.widths", laid_lanyard_ucell_widths), ("unicode/utf8.first", laid_unicode_utf8_first)], narrowed := true }
def UcellCellsUptoSaid : Prop := ucellCellsUptoRow.holds Tryd.pinned (OpenSpec.upto ucellCellsSpec)

/-- 'lanyardlaw01.UcellPieces', WHERE WHAT IT READS IS OF BULK AT MOST 1048576: true; the input reads as it did. -/
def ucellPiecesUptoRow : OpenClaim := { program := "ytalfodcjpnjmaaadoor", sum := "208449248ca1bf4f220cd4a03e0d386412ede0c86ecc50f49cfe20bcac1b8518", func := "lanyard/lanyardlaw01.UcellPieces", spec := "ucellPieces", named := ["unicode/utf8.first", "unicode/utf8.acceptRanges", "lanyard/ucell.widths"], apart := false, laid := [("unicode/utf8.acceptRanges", laid_unicode_utf8_acceptRanges), ("lanyard/ucell.widths", laid_lanyard_ucell_widths), ("unicode/utf8.first", laid_unicode_utf8_first)], narrowed := true }
def UcellPiecesUptoSaid : Prop := ucellPiecesUptoRow.holds Tryd.pinned (OpenSpec.upto ucellPiecesSpec)

/-- 'lanyardlaw01.UcellStream', WHERE WHAT IT READS IS OF BULK AT MOST 1048576: true; the input reads as it did. -/
def ucellStreamUptoRow : OpenClaim := { program := "ytalfodcjpnjmaaadoor", sum := "208449248ca1bf4f220cd4a03e0d386412ede0c86ecc50f49cfe20bcac1b8518", func := "lanyard/lanyardlaw01.UcellStream", spec := "ucellStream", named := ["unicode/utf8.first", "unicode/utf8.acceptRanges", "lanyard/ucell.widths"], apart := false, laid := [("unicode/utf8.acceptRanges", laid_unicode_utf8_acceptRanges), ("lanyard/ucell.widths", laid_lanyard_ucell_widths), ("unicode/utf8.first", laid_unicode_utf8_first)], narrowed := true }
def UcellStreamUptoSaid : Prop := ucellStreamUptoRow.holds Tryd.pinned (OpenSpec.upto ucellStreamSpec)

/-- 'lanyardlaw01.UcellBack', WHERE WHAT IT READS IS OF BULK AT MOST 1048576: true; the input reads as it did. -/
def ucellBackUptoRow : OpenClaim := { program := "ytalfodcjpnjmaaadoor", sum := "208449248ca1bf4f220cd4a03e0d386412ede0c86ecc50f49cfe20bcac1b8518", func := "lanyard/lanyardlaw01.UcellBack", spec := "ucellBack", named := ["unicode/utf8.first", "unicode/utf8.acceptRanges", "lanyard/ucell.widths"], apart := false, laid := [("unicode/utf8.acceptRanges", laid_unicode_utf8_acceptRanges), ("lanyard/ucell.widths", laid_lanyard_ucell_widths), ("unicode/utf8.first", laid_unicode_utf8_first)], narrowed := true }
def UcellBackUptoSaid : Prop := ucellBackUptoRow.holds Tryd.pinned (OpenSpec.upto ucellBackSpec)

end Rows
end Go.Proofs.YtalfodcjpnjmaaaDoor
