/-
  NARROWER THAN 'FOR EVERY INPUT', by the rows' own cells (each row's printed sentence says how): VtparseAll: laid · VtparsePieces: laid · VtparseStream: laid · VtparseBounds: laid · VtparseCancels: laid · VtparseWrites: laid · VtparseAsks: laid · VtparseNone: laid · VtparsePrints: laid.
  DERIVED. THE GIVEN ROWS OF THIS SEAT. 9 by the template 'for every input the law returns true; each argument reads behind the call as it read before'; 0 by the template 'total and deterministic' (their statements: YtjoiagaadofndaaDoorTotals.lean).
  GIVEN WITH THE SEED: the statements are not yours to turn. If you find one false, say at which input.
  Laid BY PROGRAM, IN A SANDBOX (cutbox-rows.mjs): the forced cells as the released guide's own fill.sh prints them over the translation 86f0d5c00019f73f… (all of the seat's roots in one cut). By AI agents, Wed Nov 11 2026. No macro, syntax, notation, axiom, sorry.
-/
import Derived.Test.YtjoiagaadofndaaDoorChecked
import GoSem.PinnedTables
import GoSem.Claim
import GoSem.ClaimJoined
import GoSem.ClaimMapViews
import Derived.JoinedTies
import Derived.KernelRfl
namespace Go.Proofs.YtjoiagaadofndaaDoor
/- THE CELL 'sum', in the pinned program and in every row, IS THE sha256 OF THE DUMP (.gsa) THAT YtjoiagaadofndaaDoorProg.lean LOADS. Nothing in Lean hashes anything: it is a label: what it is worth is what the hold of that sum in a sandbox is worth. -/
noncomputable def Tryd.pinned : Pinned := { name := "ytjoiagaadofndaadoor", sum := "86f0d5c00019f73f7572f5b17cd8b5d892e3136e2e4785cd89d4e7732da18fc7", checked := Tryd.checked }
namespace Rows
def none {H : Type} : Left H := { results := [], args := [] }

/- WHAT THE LISTED PACKAGE-LEVEL VARIABLES READ AS WHEN THE CALL BEGINS. Each datum BY PROGRAM (the guide's laid-datum.mjs) off the statement by which the dump's own 'gosem.cut.vars' lays the variable. In a bare row this is a premise. The card (YtjoiagaadofndaaDoorCards.lean) ties it to the program's text. -/
def laid_unicode_utf8_acceptRanges {H : Type} : DataW H := .agg [.agg [.lit (.int .u8 128), .lit (.int .u8 191)], .agg [.lit (.int .u8 160), .lit (.int .u8 191)], .agg [.lit (.int .u8 128), .lit (.int .u8 159)], .agg [.lit (.int .u8 144), .lit (.int .u8 191)], .agg [.lit (.int .u8 128), .lit (.int .u8 143)], .agg [.lit (.int .u8 0), .lit (.int .u8 0)], .agg [.lit (.int .u8 0), .lit (.int .u8 0)], .agg [.lit (.int .u8 0), .lit (.int .u8 0)], .agg [.lit (.int .u8 0), .lit (.int .u8 0)], .agg [.lit (.int .u8 0), .lit (.int .u8 0)], .agg [.lit (.int .u8 0), .lit (.int .u8 0)], .agg [.lit (.int .u8 0), .lit (.int .u8 0)], .agg [.lit (.int .u8 0), .lit (.int .u8 0)], .agg [.lit (.int .u8 0), .lit (.int .u8 0)], .agg [.lit (.int .u8 0), .lit (.int .u8 0)], .agg [.lit (.int .u8 0), .lit (.int .u8 0)]]
/-- One of Go's own tables, pinned by name: the form's constant. -/
def laid_unicode_utf8_first : DataW Unit := Go.Pinned.utf8First
def laid_math_bits_deBruijn32tab {H : Type} : DataW H := .agg [.lit (.int .u8 0), .lit (.int .u8 1), .lit (.int .u8 28), .lit (.int .u8 2), .lit (.int .u8 29), .lit (.int .u8 14), .lit (.int .u8 24), .lit (.int .u8 3), .lit (.int .u8 30), .lit (.int .u8 22), .lit (.int .u8 20), .lit (.int .u8 15), .lit (.int .u8 25), .lit (.int .u8 17), .lit (.int .u8 4), .lit (.int .u8 8), .lit (.int .u8 31), .lit (.int .u8 27), .lit (.int .u8 13), .lit (.int .u8 23), .lit (.int .u8 21), .lit (.int .u8 19), .lit (.int .u8 16), .lit (.int .u8 7), .lit (.int .u8 26), .lit (.int .u8 12), .lit (.int .u8 18), .lit (.int .u8 6), .lit (.int .u8 11), .lit (.int .u8 5), .lit (.int .u8 10), .lit (.int .u8 9)]
def laid_math_bits_deBruijn64tab {H : Type} : DataW H := .agg [.lit (.int .u8 0), .lit (.int .u8 1), .lit (.int .u8 56), .lit (.int .u8 2), .lit (.int .u8 57), .lit (.int .u8 49), .lit (.int .u8 28), .lit (.int .u8 3), .lit (.int .u8 61), .lit (.int .u8 58), .lit (.int .u8 42), .lit (.int .u8 50), .lit (.int .u8 38), .lit (.int .u8 29), .lit (.int .u8 17), .lit (.int .u8 4), .lit (.int .u8 62), .lit (.int .u8 47), .lit (.int .u8 59), .lit (.int .u8 36), .lit (.int .u8 45), .lit (.int .u8 43), .lit (.int .u8 51), .lit (.int .u8 22), .lit (.int .u8 53), .lit (.int .u8 39), .lit (.int .u8 33), .lit (.int .u8 30), .lit (.int .u8 24), .lit (.int .u8 18), .lit (.int .u8 12), .lit (.int .u8 5), .lit (.int .u8 63), .lit (.int .u8 55), .lit (.int .u8 48), .lit (.int .u8 27), .lit (.int .u8 60), .lit (.int .u8 41), .lit (.int .u8 37), .lit (.int .u8 16), .lit (.int .u8 46), .lit (.int .u8 35), .lit (.int .u8 44), .lit (.int .u8 21), .lit (.int .u8 52), .lit (.int .u8 32), .lit (.int .u8 23), .lit (.int .u8 11), .lit (.int .u8 54), .lit (.int .u8 26), .lit (.int .u8 40), .lit (.int .u8 15), .lit (.int .u8 34), .lit (.int .u8 20), .lit (.int .u8 31), .lit (.int .u8 10), .lit (.int .u8 25), .lit (.int .u8 14), .lit (.int .u8 19), .lit (.int .u8 9), .lit (.int .u8 13), .lit (.int .u8 8), .lit (.int .u8 7), .lit (.int .u8 6)]
def laid_internal_strconv_uint64pow10 {H : Type} : DataW H := .agg [.lit (.int .u64 1), .lit (.int .u64 10), .lit (.int .u64 100), .lit (.int .u64 1000), .lit (.int .u64 10000), .lit (.int .u64 100000), .lit (.int .u64 1000000), .lit (.int .u64 10000000), .lit (.int .u64 100000000), .lit (.int .u64 1000000000), .lit (.int .u64 10000000000), .lit (.int .u64 100000000000), .lit (.int .u64 1000000000000), .lit (.int .u64 10000000000000), .lit (.int .u64 100000000000000), .lit (.int .u64 1000000000000000), .lit (.int .u64 10000000000000000), .lit (.int .u64 100000000000000000), .lit (.int .u64 1000000000000000000), .lit (.int .u64 10000000000000000000)]

/-- 'lanyardlaw05.VtparseAll': WHATEVER THE INPUT: true; the input reads as it did. -/
def vtparseAllSpec : ChangeSpec := { name := "vtparseAll", fn := fun _ => fun
  | [d] => { results := [.lit (.bool true)], args := [d] }
  | _ => none }
def vtparseAllRow : OpenClaim := { program := "ytjoiagaadofndaadoor", sum := "86f0d5c00019f73f7572f5b17cd8b5d892e3136e2e4785cd89d4e7732da18fc7", func := "lanyard/lanyardlaw05.VtparseAll", spec := "vtparseAll", named := ["unicode/utf8.first", "unicode/utf8.acceptRanges"], apart := false, laid := [("unicode/utf8.acceptRanges", laid_unicode_utf8_acceptRanges), ("unicode/utf8.first", laid_unicode_utf8_first)] }
def VtparseAllSaid : Prop := vtparseAllRow.holds Tryd.pinned (OpenSpec.ofChange vtparseAllSpec)

/-- ITS FALSE NEIGHBOUR: 'it returns false'. Refute it at one input. -/
def vtparseAllWrong : ChangeSpec := { name := "vtparseAll", fn := fun _ => fun
  | [d] => { results := [.lit (.bool false)], args := [d] }
  | _ => none }
def VtparseAllWrongFalsely : Prop := vtparseAllRow.holds Tryd.pinned (OpenSpec.ofChange vtparseAllWrong)

/-- 'lanyardlaw05.VtparsePieces': WHATEVER THE INPUT: true; the input reads as it did. -/
def vtparsePiecesSpec : ChangeSpec := { name := "vtparsePieces", fn := fun _ => fun
  | [d1, d2] => { results := [.lit (.bool true)], args := [d1, d2] }
  | _ => none }
def vtparsePiecesRow : OpenClaim := { program := "ytjoiagaadofndaadoor", sum := "86f0d5c00019f73f7572f5b17cd8b5d892e3136e2e4785cd89d4e7732da18fc7", func := "lanyard/lanyardlaw05.VtparsePieces", spec := "vtparsePieces", named := ["unicode/utf8.first", "unicode/utf8.acceptRanges"], apart := false, laid := [("unicode/utf8.acceptRanges", laid_unicode_utf8_acceptRanges), ("unicode/utf8.first", laid_unicode_utf8_first)] }
def VtparsePiecesSaid : Prop := vtparsePiecesRow.holds Tryd.pinned (OpenSpec.ofChange vtparsePiecesSpec)

/-- ITS FALSE NEIGHBOUR: 'it returns false'. Refute it at one input. -/
def vtparsePiecesWrong : ChangeSpec := { name := "vtparsePieces", fn := fun _ => fun
  | [d1, d2] => { results := [.lit (.bool false)], args := [d1, d2] }
  | _ => none }
def VtparsePiecesWrongFalsely : Prop := vtparsePiecesRow.holds Tryd.pinned (OpenSpec.ofChange vtparsePiecesWrong)

/-- 'lanyardlaw05.VtparseStream': WHATEVER THE INPUT: true; the input reads as it did. -/
def vtparseStreamSpec : ChangeSpec := { name := "vtparseStream", fn := fun _ => fun
  | [d] => { results := [.lit (.bool true)], args := [d] }
  | _ => none }
def vtparseStreamRow : OpenClaim := { program := "ytjoiagaadofndaadoor", sum := "86f0d5c00019f73f7572f5b17cd8b5d892e3136e2e4785cd89d4e7732da18fc7", func := "lanyard/lanyardlaw05.VtparseStream", spec := "vtparseStream", named := ["unicode/utf8.first", "unicode/utf8.acceptRanges"], apart := false, laid := [("unicode/utf8.acceptRanges", laid_unicode_utf8_acceptRanges), ("unicode/utf8.first", laid_unicode_utf8_first)] }
def VtparseStreamSaid : Prop := vtparseStreamRow.holds Tryd.pinned (OpenSpec.ofChange vtparseStreamSpec)

/-- ITS FALSE NEIGHBOUR: 'it returns false'. Refute it at one input. -/
def vtparseStreamWrong : ChangeSpec := { name := "vtparseStream", fn := fun _ => fun
  | [d] => { results := [.lit (.bool false)], args := [d] }
  | _ => none }
def VtparseStreamWrongFalsely : Prop := vtparseStreamRow.holds Tryd.pinned (OpenSpec.ofChange vtparseStreamWrong)

/-- 'lanyardlaw05.VtparseBounds': WHATEVER THE INPUT: true; the input reads as it did. -/
def vtparseBoundsSpec : ChangeSpec := { name := "vtparseBounds", fn := fun _ => fun
  | [d] => { results := [.lit (.bool true)], args := [d] }
  | _ => none }
def vtparseBoundsRow : OpenClaim := { program := "ytjoiagaadofndaadoor", sum := "86f0d5c00019f73f7572f5b17cd8b5d892e3136e2e4785cd89d4e7732da18fc7", func := "lanyard/lanyardlaw05.VtparseBounds", spec := "vtparseBounds", named := ["unicode/utf8.first", "unicode/utf8.acceptRanges"], apart := false, laid := [("unicode/utf8.acceptRanges", laid_unicode_utf8_acceptRanges), ("unicode/utf8.first", laid_unicode_utf8_first)] }
def VtparseBoundsSaid : Prop := vtparseBoundsRow.holds Tryd.pinned (OpenSpec.ofChange vtparseBoundsSpec)

/-- ITS FALSE NEIGHBOUR: 'it returns false'. Refute it at one input. -/
def vtparseBoundsWrong : ChangeSpec := { name := "vtparseBounds", fn := fun _ => fun
  | [d] => { results := [.lit (.bool false)], args := [d] }
  | _ => none }
def VtparseBoundsWrongFalsely : Prop := vtparseBoundsRow.holds Tryd.pinned (OpenSpec.ofChange vtparseBoundsWrong)

/-- 'lanyardlaw05.VtparseCancels': WHATEVER THE INPUT: true; the input reads as it did. -/
def vtparseCancelsSpec : ChangeSpec := { name := "vtparseCancels", fn := fun _ => fun
  | [d1, d2] => { results := [.lit (.bool true)], args := [d1, d2] }
  | _ => none }
def vtparseCancelsRow : OpenClaim := { program := "ytjoiagaadofndaadoor", sum := "86f0d5c00019f73f7572f5b17cd8b5d892e3136e2e4785cd89d4e7732da18fc7", func := "lanyard/lanyardlaw05.VtparseCancels", spec := "vtparseCancels", named := ["unicode/utf8.first", "unicode/utf8.acceptRanges"], apart := false, laid := [("unicode/utf8.acceptRanges", laid_unicode_utf8_acceptRanges), ("unicode/utf8.first", laid_unicode_utf8_first)] }
def VtparseCancelsSaid : Prop := vtparseCancelsRow.holds Tryd.pinned (OpenSpec.ofChange vtparseCancelsSpec)

/-- ITS FALSE NEIGHBOUR: 'it returns false'. Refute it at one input. -/
def vtparseCancelsWrong : ChangeSpec := { name := "vtparseCancels", fn := fun _ => fun
  | [d1, d2] => { results := [.lit (.bool false)], args := [d1, d2] }
  | _ => none }
def VtparseCancelsWrongFalsely : Prop := vtparseCancelsRow.holds Tryd.pinned (OpenSpec.ofChange vtparseCancelsWrong)

/-- 'lanyardlaw05.VtparseWrites': WHATEVER THE INPUT: true; the input reads as it did. -/
def vtparseWritesSpec : ChangeSpec := { name := "vtparseWrites", fn := fun _ => fun
  | [d] => { results := [.lit (.bool true)], args := [d] }
  | _ => none }
def vtparseWritesRow : OpenClaim := { program := "ytjoiagaadofndaadoor", sum := "86f0d5c00019f73f7572f5b17cd8b5d892e3136e2e4785cd89d4e7732da18fc7", func := "lanyard/lanyardlaw05.VtparseWrites", spec := "vtparseWrites", unfollowed := true, recurses := true, named := ["internal/strconv.uint64pow10", "math/bits.deBruijn32tab", "math/bits.deBruijn64tab", "unicode/utf8.first", "unicode/utf8.acceptRanges"], apart := false, laid := [("math/bits.deBruijn32tab", laid_math_bits_deBruijn32tab), ("math/bits.deBruijn64tab", laid_math_bits_deBruijn64tab), ("internal/strconv.uint64pow10", laid_internal_strconv_uint64pow10), ("unicode/utf8.acceptRanges", laid_unicode_utf8_acceptRanges), ("unicode/utf8.first", laid_unicode_utf8_first)] }
def VtparseWritesSaid : Prop := vtparseWritesRow.holds Tryd.pinned (OpenSpec.ofChange vtparseWritesSpec)

/-- ITS FALSE NEIGHBOUR: 'it returns false'. Refute it at one input. -/
def vtparseWritesWrong : ChangeSpec := { name := "vtparseWrites", fn := fun _ => fun
  | [d] => { results := [.lit (.bool false)], args := [d] }
  | _ => none }
def VtparseWritesWrongFalsely : Prop := vtparseWritesRow.holds Tryd.pinned (OpenSpec.ofChange vtparseWritesWrong)

/-- 'lanyardlaw05.VtparseAsks': WHATEVER THE INPUT: true; the input reads as it did. -/
def vtparseAsksSpec : ChangeSpec := { name := "vtparseAsks", fn := fun _ => fun
  | [d] => { results := [.lit (.bool true)], args := [d] }
  | _ => none }
def vtparseAsksRow : OpenClaim := { program := "ytjoiagaadofndaadoor", sum := "86f0d5c00019f73f7572f5b17cd8b5d892e3136e2e4785cd89d4e7732da18fc7", func := "lanyard/lanyardlaw05.VtparseAsks", spec := "vtparseAsks", unfollowed := true, recurses := true, named := ["unicode/utf8.first", "unicode/utf8.acceptRanges"], apart := false, laid := [("unicode/utf8.acceptRanges", laid_unicode_utf8_acceptRanges), ("unicode/utf8.first", laid_unicode_utf8_first)] }
def VtparseAsksSaid : Prop := vtparseAsksRow.holds Tryd.pinned (OpenSpec.ofChange vtparseAsksSpec)

/-- ITS FALSE NEIGHBOUR: 'it returns false'. Refute it at one input. -/
def vtparseAsksWrong : ChangeSpec := { name := "vtparseAsks", fn := fun _ => fun
  | [d] => { results := [.lit (.bool false)], args := [d] }
  | _ => none }
def VtparseAsksWrongFalsely : Prop := vtparseAsksRow.holds Tryd.pinned (OpenSpec.ofChange vtparseAsksWrong)

/-- 'lanyardlaw05.VtparseNone': WHATEVER THE INPUT: true; the input reads as it did. -/
def vtparseNoneSpec : ChangeSpec := { name := "vtparseNone", fn := fun _ => fun
  | [d] => { results := [.lit (.bool true)], args := [d] }
  | _ => none }
def vtparseNoneRow : OpenClaim := { program := "ytjoiagaadofndaadoor", sum := "86f0d5c00019f73f7572f5b17cd8b5d892e3136e2e4785cd89d4e7732da18fc7", func := "lanyard/lanyardlaw05.VtparseNone", spec := "vtparseNone", named := ["unicode/utf8.first", "unicode/utf8.acceptRanges"], apart := false, laid := [("unicode/utf8.acceptRanges", laid_unicode_utf8_acceptRanges), ("unicode/utf8.first", laid_unicode_utf8_first)] }
def VtparseNoneSaid : Prop := vtparseNoneRow.holds Tryd.pinned (OpenSpec.ofChange vtparseNoneSpec)

/-- ITS FALSE NEIGHBOUR: 'it returns false'. Refute it at one input. -/
def vtparseNoneWrong : ChangeSpec := { name := "vtparseNone", fn := fun _ => fun
  | [d] => { results := [.lit (.bool false)], args := [d] }
  | _ => none }
def VtparseNoneWrongFalsely : Prop := vtparseNoneRow.holds Tryd.pinned (OpenSpec.ofChange vtparseNoneWrong)

/-- 'lanyardlaw05.VtparsePrints': WHATEVER THE INPUT: true; the input reads as it did. -/
def vtparsePrintsSpec : ChangeSpec := { name := "vtparsePrints", fn := fun _ => fun
  | [d] => { results := [.lit (.bool true)], args := [d] }
  | _ => none }
def vtparsePrintsRow : OpenClaim := { program := "ytjoiagaadofndaadoor", sum := "86f0d5c00019f73f7572f5b17cd8b5d892e3136e2e4785cd89d4e7732da18fc7", func := "lanyard/lanyardlaw05.VtparsePrints", spec := "vtparsePrints", named := ["unicode/utf8.first", "unicode/utf8.acceptRanges"], apart := false, laid := [("unicode/utf8.acceptRanges", laid_unicode_utf8_acceptRanges), ("unicode/utf8.first", laid_unicode_utf8_first)] }
def VtparsePrintsSaid : Prop := vtparsePrintsRow.holds Tryd.pinned (OpenSpec.ofChange vtparsePrintsSpec)

/-- ITS FALSE NEIGHBOUR: 'it returns false'. Refute it at one input. -/
def vtparsePrintsWrong : ChangeSpec := { name := "vtparsePrints", fn := fun _ => fun
  | [d] => { results := [.lit (.bool false)], args := [d] }
  | _ => none }
def VtparsePrintsWrongFalsely : Prop := vtparsePrintsRow.holds Tryd.pinned (OpenSpec.ofChange vtparsePrintsWrong)

/- THE SECOND FORM. 'bulk': how many values and letters a reading holds, each counted each time it is reached (what is shared counts as often as it is met; a slice's spare places count too). A statement '..UptoSaid' is the law's where the arguments, and the package variables that the reading takes, are together of bulk at most 1048576: NARROWER than '..Said'. Prove '..Said' where nothing that the law and all that it calls make is longer than what came in: it says more and counts as full. Else prove '..UptoSaid'. A law counts once. -/
mutual
def uptoBulk {H : Type} : DataW H → Nat
  | .lit (.string bytes) => bytes.length + 1
  | .lit _ => 1
  | .nil => 1
  | .ptr d => uptoBulk d + 1
  | .slice elems spare => uptoBulkAll elems + uptoBulkAll spare + 1
  | .agg parts => uptoBulkAll parts + 1
  | .iface _ d => uptoBulk d + 1
  | .map entries => uptoBulkEntries entries + 1
  | .held _ => 1
def uptoBulkAll {H : Type} : List (DataW H) → Nat
  | [] => 0
  | d :: r => uptoBulk d + uptoBulkAll r
def uptoBulkEntries {H : Type} : List (Lit × DataW H) → Nat
  | [] => 0
  | x :: r => uptoBulkEntry x + uptoBulkEntries r
def uptoBulkEntry {H : Type} : Lit × DataW H → Nat
  | (.string bytes, d) => bytes.length + uptoBulk d + 1
  | (_, d) => uptoBulk d + 1
 end
def uptoSmall : (H : Type) → List (DataW H) → Bool := fun _ ds => decide (uptoBulkAll ds ≤ 1048576)
def OpenSpec.upto (s : _root_.Go.ChangeSpec) : _root_.Go.OpenSpec := { _root_.Go.OpenSpec.ofChange s with cond := some uptoSmall }

/-- 'lanyardlaw05.VtparseAll', WHERE WHAT IT READS IS OF BULK AT MOST 1048576: true; the input reads as it did. -/
def vtparseAllUptoRow : OpenClaim := { program := "ytjoiagaadofndaadoor", sum := "86f0d5c00019f73f7572f5b17cd8b5d892e3136e2e4785cd89d4e7732da18fc7", func := "lanyard/lanyardlaw05.VtparseAll", spec := "vtparseAll", named := ["unicode/utf8.first", "unicode/utf8.acceptRanges"], apart := false, laid := [("unicode/utf8.acceptRanges", laid_unicode_utf8_acceptRanges), ("unicode/utf8.first", laid_unicode_utf8_first)], narrowed := true }
def VtparseAllUptoSaid : Prop := vtparseAllUptoRow.holds Tryd.pinned (OpenSpec.upto vtparseAllSpec)

/-- 'lanyardlaw05.VtparsePieces', WHERE WHAT IT READS IS OF BULK AT MOST 1048576: true; the input reads as it did. -/
def vtparsePiecesUptoRow : OpenClaim := { program := "ytjoiagaadofndaadoor", sum := "86f0d5c00019f73f7572f5b17cd8b5d892e3136e2e4785cd89d4e7732da18fc7", func := "lanyard/lanyardlaw05.VtparsePieces", spec := "vtparsePieces", named := ["unicode/utf8.first", "unicode/utf8.acceptRanges"], apart := false, laid := [("unicode/utf8.acceptRanges", laid_unicode_utf8_acceptRanges), ("unicode/utf8.first", laid_unicode_utf8_first)], narrowed := true }
def VtparsePiecesUptoSaid : Prop := vtparsePiecesUptoRow.holds Tryd.pinned (OpenSpec.upto vtparsePiecesSpec)

/-- 'lanyardlaw05.VtparseStream', WHERE WHAT IT READS IS OF BULK AT MOST 1048576: true; the input reads as it did. -/
def vtparseStreamUptoRow : OpenClaim := { program := "ytjoiagaadofndaadoor", sum := "86f0d5c00019f73f7572f5b17cd8b5d892e3136e2e4785cd89d4e7732da18fc7", func := "lanyard/lanyardlaw05.VtparseStream", spec := "vtparseStream", named := ["unicode/utf8.first", "unicode/utf8.acceptRanges"], apart := false, laid := [("unicode/utf8.acceptRanges", laid_unicode_utf8_acceptRanges), ("unicode/utf8.first", laid_unicode_utf8_first)], narrowed := true }
def VtparseStreamUptoSaid : Prop := vtparseStreamUptoRow.holds Tryd.pinned (OpenSpec.upto vtparseStreamSpec)

/-- 'lanyardlaw05.VtparseBounds', WHERE WHAT IT READS IS OF BULK AT MOST 1048576: true; the input reads as it did. -/
def vtparseBoundsUptoRow : OpenClaim := { program := "ytjoiagaadofndaadoor", sum := "86f0d5c00019f73f7572f5b17cd8b5d892e3136e2e4785cd89d4e7732da18fc7", func := "lanyard/lanyardlaw05.VtparseBounds", spec := "vtparseBounds", named := ["unicode/utf8.first", "unicode/utf8.acceptRanges"], apart := false, laid := [("unicode/utf8.acceptRanges", laid_unicode_utf8_acceptRanges), ("unicode/utf8.first", laid_unicode_utf8_first)], narrowed := true }
def VtparseBoundsUptoSaid : Prop := vtparseBoundsUptoRow.holds Tryd.pinned (OpenSpec.upto vtparseBoundsSpec)

/-- 'lanyardlaw05.VtparseCancels', WHERE WHAT IT READS IS OF BULK AT MOST 1048576: true; the input reads as it did. -/
def vtparseCancelsUptoRow : OpenClaim := { program := "ytjoiagaadofndaadoor", sum := "86f0d5c00019f73f7572f5b17cd8b5d892e3136e2e4785cd89d4e7732da18fc7", func := "lanyard/lanyardlaw05.VtparseCancels", spec := "vtparseCancels", named := ["unicode/utf8.first", "unicode/utf8.acceptRanges"], apart := false, laid := [("unicode/utf8.acceptRanges", laid_unicode_utf8_acceptRanges), ("unicode/utf8.first", laid_unicode_utf8_first)], narrowed := true }
def VtparseCancelsUptoSaid : Prop := vtparseCancelsUptoRow.holds Tryd.pinned (OpenSpec.upto vtparseCancelsSpec)

/-- 'lanyardlaw05.VtparseWrites', WHERE WHAT IT READS IS OF BULK AT MOST 1048576: true; the input reads as it did. -/
def vtparseWritesUptoRow : OpenClaim := { program := "ytjoiagaadofndaadoor", sum := "86f0d5c00019f73f7572f5b17cd8b5d892e3136e2e4785cd89d4e7732da18fc7", func := "lanyard/lanyardlaw05.VtparseWrites", spec := "vtparseWrites", unfollowed := true, recurses := true, named := ["internal/strconv.uint64pow10", "math/bits.deBruijn32tab", "math/bits.deBruijn64tab", "unicode/utf8.first", "unicode/utf8.acceptRanges"], apart := false, laid := [("math/bits.deBruijn32tab", laid_math_bits_deBruijn32tab), ("math/bits.deBruijn64tab", laid_math_bits_deBruijn64tab), ("internal/strconv.uint64pow10", laid_internal_strconv_uint64pow10), ("unicode/utf8.acceptRanges", laid_unicode_utf8_acceptRanges), ("unicode/utf8.first", laid_unicode_utf8_first)], narrowed := true }
def VtparseWritesUptoSaid : Prop := vtparseWritesUptoRow.holds Tryd.pinned (OpenSpec.upto vtparseWritesSpec)

/-- 'lanyardlaw05.VtparseAsks', WHERE WHAT IT READS IS OF BULK AT MOST 1048576: true; the input reads as it did. -/
def vtparseAsksUptoRow : OpenClaim := { program := "ytjoiagaadofndaadoor", sum := "86f0d5c00019f73f7572f5b17cd8b5d892e3136e2e4785cd89d4e7732da18fc7", func := "lanyard/lanyardlaw05.VtparseAsks", spec := "vtparseAsks", unfollowed := true, recurses := true, named := ["unicode/utf8.first", "unicode/utf8.acceptRanges"], apart := false, laid := [("unicode/utf8.acceptRanges", laid_unicode_utf8_acceptRanges), ("unicode/utf8.first", laid_unicode_utf8_first)], narrowed := true }
def VtparseAsksUptoSaid : Prop := vtparseAsksUptoRow.holds Tryd.pinned (OpenSpec.upto vtparseAsksSpec)

/-- 'lanyardlaw05.VtparseNone', WHERE WHAT IT READS IS OF BULK AT MOST 1048576: true; the input reads as it did. -/
def vtparseNoneUptoRow : OpenClaim := { program := "ytjoiagaadofndaadoor", sum := "86f0d5c00019f73f7572f5b17cd8b5d892e3136e2e4785cd89d4e7732da18fc7", func := "lanyard/lanyardlaw05.VtparseNone", spec := "vtparseNone", named := ["unicode/utf8.first", "unicode/utf8.acceptRanges"], apart := false, laid := [("unicode/utf8.acceptRanges", laid_unicode_utf8_acceptRanges), ("unicode/utf8.first", laid_unicode_utf8_first)], narrowed := true }
def VtparseNoneUptoSaid : Prop := vtparseNoneUptoRow.holds Tryd.pinned (OpenSpec.upto vtparseNoneSpec)

/-- 'lanyardlaw05.VtparsePrints', WHERE WHAT IT READS IS OF BULK AT MOST 1048576: true; the input reads as it did. -/
def vtparsePrintsUptoRow : OpenClaim := { program := "ytjoiagaadofndaadoor", sum := "86f0d5c00019f73f7572f5b17cd8b5d892e3136e2e4785cd89d4e7732da18fc7", func := "lanyard/lanyardlaw05.VtparsePrints", spec := "vtparsePrints", named := ["unicode/utf8.first", "unicode/utf8.acceptRanges"], apart := false, laid := [("unicode/utf8.acceptRanges", laid_unicode_utf8_acceptRanges), ("unicode/utf8.first", laid_unicode_utf8_first)], narrowed := true }
def VtparsePrintsUptoSaid : Prop := vtparsePrintsUptoRow.holds Tryd.pinned (OpenSpec.upto vtparsePrintsSpec)

end Rows
end Go.Proofs.YtjoiagaadofndaaDoor
