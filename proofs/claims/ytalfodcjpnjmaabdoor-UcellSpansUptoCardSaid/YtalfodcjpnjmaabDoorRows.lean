/-
  NARROWER THAN 'FOR EVERY INPUT', by the rows' own cells (each row's printed sentence says how): UcellSpans: laid · UcellWide: laid · UcellNone: laid.
  DERIVED. THE GIVEN ROWS OF THIS SEAT. 3 by the template 'for every input the law returns true; each argument reads behind the call as it read before'; 0 by the template 'total and deterministic' (their statements: YtalfodcjpnjmaabDoorTotals.lean).
  GIVEN WITH THE SEED: the statements are not yours to turn. If you find one false, say at which input.
  Laid BY PROGRAM, IN A SANDBOX (cutbox-rows.mjs): the forced cells as the released guide's own fill.sh prints them over the translation a7fffd89beb5248d… (all of the seat's roots in one cut). By AI agents, Wed Nov 11 2026. No macro, syntax, notation, axiom, sorry.
-/
import Derived.Test.YtalfodcjpnjmaabDoorChecked
import GoSem.PinnedTables
import GoSem.Claim
import GoSem.ClaimJoined
import GoSem.ClaimMapViews
import Derived.JoinedTies
import Derived.KernelRfl
namespace Go.Proofs.YtalfodcjpnjmaabDoor
/- THE CELL 'sum', in the pinned program and in every row, IS THE sha256 OF THE DUMP (.gsa) THAT YtalfodcjpnjmaabDoorProg.lean LOADS. Nothing in Lean hashes anything: it is a label: what it is worth is what the hold of that sum in a sandbox is worth. -/
noncomputable def Tryd.pinned : Pinned := { name := "ytalfodcjpnjmaabdoor", sum := "a7fffd89beb5248d34b5537321428f97cc681a66e9c5945e9f2078931db902df", checked := Tryd.checked }
namespace Rows
def none {H : Type} : Left H := { results := [], args := [] }

/- WHAT THE LISTED PACKAGE-LEVEL VARIABLES READ AS WHEN THE CALL BEGINS. Each datum BY PROGRAM (the guide's laid-datum.mjs) off the statement by which the dump's own 'gosem.cut.vars' lays the variable. In a bare row this is a premise. The card (YtalfodcjpnjmaabDoorCards.lean) ties it to the program's text. -/
def laid_unicode_utf8_acceptRanges {H : Type} : DataW H := .agg [.agg [.lit (.int .u8 128), .lit (.int .u8 191)], .agg [.lit (.int .u8 160), .lit (.int .u8 191)], .agg [.lit (.int .u8 128), .lit (.int .u8 159)], .agg [.lit (.int .u8 144), .lit (.int .u8 191)], .agg [.lit (.int .u8 128), .lit (.int .u8 143)], .agg [.lit (.int .u8 0), .lit (.int .u8 0)], .agg [.lit (.int .u8 0), .lit (.int .u8 0)], .agg [.lit (.int .u8 0), .lit (.int .u8 0)], .agg [.lit (.int .u8 0), .lit (.int .u8 0)], .agg [.lit (.int .u8 0), .lit (.int .u8 0)], .agg [.lit (.int .u8 0), .lit (.int .u8 0)], .agg [.lit (.int .u8 0), .lit (.int .u8 0)], .agg [.lit (.int .u8 0), .lit (.int .u8 0)], .agg [.lit (.int .u8 0), .lit (.int .u8 0)], .agg [.lit (.int .u8 0), .lit (.int .u8 0)], .agg [.lit (.int .u8 0), .lit (.int .u8 0)]]
def laid_lanyard_ucell_widths {H : Type} : DataW H := .agg [.agg [.lit (.int .i32 768), .lit (.int .i32 879), .lit (.int .i64 0)], .agg [.lit (.int .i32 1155), .lit (.int .i32 1161), .lit (.int .i64 0)], .agg [.lit (.int .i32 1425), .lit (.int .i32 1469), .lit (.int .i64 0)], .agg [.lit (.int .i32 1552), .lit (.int .i32 1562), .lit (.int .i64 0)], .agg [.lit (.int .i32 1611), .lit (.int .i32 1631), .lit (.int .i64 0)], .agg [.lit (.int .i32 3633), .lit (.int .i32 3633), .lit (.int .i64 0)], .agg [.lit (.int .i32 3636), .lit (.int .i32 3642), .lit (.int .i64 0)], .agg [.lit (.int .i32 3655), .lit (.int .i32 3662), .lit (.int .i64 0)], .agg [.lit (.int .i32 6832), .lit (.int .i32 6911), .lit (.int .i64 0)], .agg [.lit (.int .i32 7616), .lit (.int .i32 7679), .lit (.int .i64 0)], .agg [.lit (.int .i32 8203), .lit (.int .i32 8207), .lit (.int .i64 0)], .agg [.lit (.int .i32 8400), .lit (.int .i32 8447), .lit (.int .i64 0)], .agg [.lit (.int .i32 12441), .lit (.int .i32 12442), .lit (.int .i64 0)], .agg [.lit (.int .i32 65024), .lit (.int .i32 65039), .lit (.int .i64 0)], .agg [.lit (.int .i32 65056), .lit (.int .i32 65071), .lit (.int .i64 0)], .agg [.lit (.int .i32 4352), .lit (.int .i32 4447), .lit (.int .i64 2)], .agg [.lit (.int .i32 11904), .lit (.int .i32 12350), .lit (.int .i64 2)], .agg [.lit (.int .i32 12353), .lit (.int .i32 13311), .lit (.int .i64 2)], .agg [.lit (.int .i32 13312), .lit (.int .i32 19903), .lit (.int .i64 2)], .agg [.lit (.int .i32 19968), .lit (.int .i32 40959), .lit (.int .i64 2)], .agg [.lit (.int .i32 40960), .lit (.int .i32 42191), .lit (.int .i64 2)], .agg [.lit (.int .i32 44032), .lit (.int .i32 55203), .lit (.int .i64 2)], .agg [.lit (.int .i32 63744), .lit (.int .i32 64255), .lit (.int .i64 2)], .agg [.lit (.int .i32 65072), .lit (.int .i32 65135), .lit (.int .i64 2)], .agg [.lit (.int .i32 65280), .lit (.int .i32 65376), .lit (.int .i64 2)], .agg [.lit (.int .i32 65504), .lit (.int .i32 65510), .lit (.int .i64 2)], .agg [.lit (.int .i32 127744), .lit (.int .i32 128591), .lit (.int .i64 2)], .agg [.lit (.int .i32 129280), .lit (.int .i32 129535), .lit (.int .i64 2)], .agg [.lit (.int .i32 131072), .lit (.int .i32 262141), .lit (.int .i64 2)]]
/-- One of Go's own tables, pinned by name: the form's constant. -/
def laid_unicode_utf8_first : DataW Unit := Go.Pinned.utf8First

/-- 'lanyardlaw01.UcellSpans': WHATEVER THE INPUT: true; the input reads as it did. -/
def ucellSpansSpec : ChangeSpec := { name := "ucellSpans", fn := fun _ => fun
  | [d1, d2, d3] => { results := [.lit (.bool true)], args := [d1, d2, d3] }
  | _ => none }
def ucellSpansRow : OpenClaim := { program := "ytalfodcjpnjmaabdoor", sum := "a7fffd89beb5248d34b5537321428f97cc681a66e9c5945e9f2078931db902df", func := "lanyard/lanyardlaw01.UcellSpans", spec := "ucellSpans", named := ["unicode/utf8.first", "unicode/utf8.acceptRanges", "lanyard/ucell.widths"], apart := false, laid := [("unicode/utf8.acceptRanges", laid_unicode_utf8_acceptRanges), ("lanyard/ucell.widths", laid_lanyard_ucell_widths), ("unicode/utf8.first", laid_unicode_utf8_first)] }
def UcellSpansSaid : Prop := ucellSpansRow.holds Tryd.pinned (OpenSpec.ofChange ucellSpansSpec)

/-- ITS FALSE NEIGHBOUR: 'it returns false'. Refute it at one input. -/
def ucellSpansWrong : ChangeSpec := { name := "ucellSpans", fn := fun _ => fun
  | [d1, d2, d3] => { results := [.lit (.bool false)], args := [d1, d2, d3] }
  | _ => none }
def UcellSpansWrongFalsely : Prop := ucellSpansRow.holds Tryd.pinned (OpenSpec.ofChange ucellSpansWrong)

/-- 'lanyardlaw01.UcellWide': WHATEVER THE INPUT: true; the input reads as it did. -/
def ucellWideSpec : ChangeSpec := { name := "ucellWide", fn := fun _ => fun
  | [d1, d2] => { results := [.lit (.bool true)], args := [d1, d2] }
  | _ => none }
def ucellWideRow : OpenClaim := { program := "ytalfodcjpnjmaabdoor", sum := "a7fffd89beb5248d34b5537321428f97cc681a66e9c5945e9f2078931db902df", func := "lanyard/lanyardlaw01.UcellWide", spec := "ucellWide", named := ["lanyard/ucell.widths", "unicode/utf8.first", "unicode/utf8.acceptRanges"], apart := false, laid := [("unicode/utf8.acceptRanges", laid_unicode_utf8_acceptRanges), ("lanyard/ucell.widths", laid_lanyard_ucell_widths), ("unicode/utf8.first", laid_unicode_utf8_first)] }
def UcellWideSaid : Prop := ucellWideRow.holds Tryd.pinned (OpenSpec.ofChange ucellWideSpec)

/-- ITS FALSE NEIGHBOUR: 'it returns false'. Refute it at one input. -/
def ucellWideWrong : ChangeSpec := { name := "ucellWide", fn := fun _ => fun
  | [d1, d2] => { results := [.lit (.bool false)], args := [d1, d2] }
  | _ => none }
def UcellWideWrongFalsely : Prop := ucellWideRow.holds Tryd.pinned (OpenSpec.ofChange ucellWideWrong)

/-- 'lanyardlaw01.UcellNone': WHATEVER THE INPUT: true; the input reads as it did. -/
def ucellNoneSpec : ChangeSpec := { name := "ucellNone", fn := fun _ => fun
  | [d] => { results := [.lit (.bool true)], args := [d] }
  | _ => none }
def ucellNoneRow : OpenClaim := { program := "ytalfodcjpnjmaabdoor", sum := "a7fffd89beb5248d34b5537321428f97cc681a66e9c5945e9f2078931db902df", func := "lanyard/lanyardlaw01.UcellNone", spec := "ucellNone", named := ["unicode/utf8.first", "unicode/utf8.acceptRanges", "lanyard/ucell.widths"], apart := false, laid := [("unicode/utf8.acceptRanges", laid_unicode_utf8_acceptRanges), ("lanyard/ucell.widths", laid_lanyard_ucell_widths), ("unicode/utf8.first", laid_unicode_utf8_first)] }
def UcellNoneSaid : Prop := ucellNoneRow.holds Tryd.pinned (OpenSpec.ofChange ucellNoneSpec)

/-- ITS FALSE NEIGHBOUR: 'it returns false'. Refute it at one input. -/
def ucellNoneWrong : ChangeSpec := { name := "ucellNone", fn := fun _ => fun
  | [d] => { results := [.lit (.bool false)], args := [d] }
  | _ => none }
def UcellNoneWrongFalsely : Prop := ucellNoneRow.holds Tryd.pinned (OpenSpec.ofChange ucellNoneWrong)

/- THE SECOND FORM. 'bulk': how many values and letters a reading holds, each counted each time it is reached (what is shared counts as often as it is met; a slice's spare places count too). A statement '..UptoSaid' is the law's where the arguments, and the package variables that the reading takes, are together of bulk at most 1048576: NARROWER than '..Said'. Prove '..Said' where nothing that the law and all that it calls make is longer than what came in: it says more and counts as full. Else prove '..UptoSaid'. A law counts once. -/
mutual
def uptoBulk {H : Type} : DataW H → Nat
  | .lit (.string bytes) => bytes.length + 1
  | .lit _ => 1
  | .nil => 1
  | .ptr d => uptoBulk d + 1
  | .slice elems spare => uptoBulkAll elems + uptoBulkAll spare + 1
  | .agg parts => uptoBulkAll parts + 1
  | .iface _ d => uptoBulk d + 1
  | .map entries => uptoBulkEntries entries + 1
  | .held _ => 1
def uptoBulkAll {H : Type} : List (DataW H) → Nat
  | [] => 0
  | d :: r => uptoBulk d + uptoBulkAll r
def uptoBulkEntries {H : Type} : List (Lit × DataW H) → Nat
  | [] => 0
  | x :: r => uptoBulkEntry x + uptoBulkEntries r
def uptoBulkEntry {H : Type} : Lit × DataW H → Nat
  | (.string bytes, d) => bytes.length + uptoBulk d + 1
  | (_, d) => uptoBulk d + 1
 end
def uptoSmall : (H : Type) → List (DataW H) → Bool := fun _ ds => decide (uptoBulkAll ds ≤ 1048576)
def OpenSpec.upto (s : _root_.Go.ChangeSpec) : _root_.Go.OpenSpec := { _root_.Go.OpenSpec.ofChange s with cond := some uptoSmall }

/-- 'lanyardlaw01.UcellSpans', WHERE WHAT IT READS IS OF BULK AT MOST 1048576: true; the input reads as it did. -/
def ucellSpansUptoRow : OpenClaim := { program := "ytalfodcjpnjmaabdoor", sum := "a7fffd89beb5248d34b5537321428f97cc681a66e9c5945e9f2078931db902df", func := "lanyard/lanyardlaw01.UcellSpans", spec := "ucellSpans", named := ["unicode/utf8.first", "unicode/utf8.acceptRanges", "lanyard/ucell.widths"], apart := false, laid := [("unicode/utf8.acceptRanges", laid_unicode_utf8_acceptRanges), ("lanyard/ucell.widths", laid_lanyard_ucell_widths), ("unicode/utf8.first", laid_unicode_utf8_first)], narrowed := true }
def UcellSpansUptoSaid : Prop := ucellSpansUptoRow.holds Tryd.pinned (OpenSpec.upto ucellSpansSpec)

/-- 'lanyardlaw01.UcellWide', WHERE WHAT IT READS IS OF BULK AT MOST 1048576: true; the input reads as it did. -/
def ucellWideUptoRow : OpenClaim := { program := "ytalfodcjpnjmaabdoor", sum := "a7fffd89beb5248d34b5537321428f97cc681a66e9c5945e9f2078931db902df", func := "lanyard/lanyardlaw01.UcellWide", spec := "ucellWide", named := ["lanyard/ucell.widths", "unicode/utf8.first", "unicode/utf8.acceptRanges"], apart := false, laid := [("unicode/utf8.acceptRanges", laid_unicode_utf8_acceptRanges), ("lanyard/ucell.widths", laid_lanyard_ucell_widths), ("unicode/utf8.first", laid_unicode_utf8_first)], narrowed := true }
def UcellWideUptoSaid : Prop := ucellWideUptoRow.holds Tryd.pinned (OpenSpec.upto ucellWideSpec)

/-- 'lanyardlaw01.UcellNone', WHERE WHAT IT READS IS OF BULK AT MOST 1048576: true; the input reads as it did. -/
def ucellNoneUptoRow : OpenClaim := { program := "ytalfodcjpnjmaabdoor", sum := "a7fffd89beb5248d34b5537321428f97cc681a66e9c5945e9f2078931db902df", func := "lanyard/lanyardlaw01.UcellNone", spec := "ucellNone", named := ["unicode/utf8.first", "unicode/utf8.acceptRanges", "lanyard/ucell.widths"], apart := false, laid := [("unicode/utf8.acceptRanges", laid_unicode_utf8_acceptRanges), ("lanyard/ucell.widths", laid_lanyard_ucell_widths), ("unicode/utf8.first", laid_unicode_utf8_first)], narrowed := true }
def UcellNoneUptoSaid : Prop := ucellNoneUptoRow.holds Tryd.pinned (OpenSpec.upto ucellNoneSpec)

end Rows
end Go.Proofs.YtalfodcjpnjmaabDoor
