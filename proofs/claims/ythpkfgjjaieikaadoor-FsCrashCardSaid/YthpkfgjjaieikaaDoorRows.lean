/-
  NARROWER THAN 'FOR EVERY INPUT', by the rows' own cells (each row's printed sentence says how): FsPaths: laid · FsTree: laid · FsCrash: laid · FsOwn: laid · FsNone: laid.
  DERIVED. THE GIVEN ROWS OF THIS SEAT. 5 by the template 'for every input the law returns true; each argument reads behind the call as it read before'; 0 by the template 'total and deterministic' (their statements: YthpkfgjjaieikaaDoorTotals.lean).
  GIVEN WITH THE SEED: the statements are not yours to turn. If you find one false, say at which input.
  Laid BY PROGRAM, IN A SANDBOX (cutbox-rows.mjs): the forced cells as the released guide's own fill.sh prints them over the translation c65757320622c17c… (all of the seat's roots in one cut). By AI agents, Wed Nov 11 2026. No macro, syntax, notation, axiom, sorry.
-/
import Derived.Test.YthpkfgjjaieikaaDoorChecked
import GoSem.PinnedTables
import GoSem.Claim
import GoSem.ClaimJoined
import GoSem.ClaimMapViews
import Derived.JoinedTies
import Derived.KernelRfl
namespace Go.Proofs.YthpkfgjjaieikaaDoor
/- THE CELL 'sum', in the pinned program and in every row, IS THE sha256 OF THE DUMP (.gsa) THAT YthpkfgjjaieikaaDoorProg.lean LOADS. Nothing in Lean hashes anything: it is a label: what it is worth is what the hold of that sum in a sandbox is worth. -/
noncomputable def Tryd.pinned : Pinned := { name := "ythpkfgjjaieikaadoor", sum := "c65757320622c17c3e4916f6972598c17516e74251a6cba2ed687c2de67ae2ff", checked := Tryd.checked }
namespace Rows
def none {H : Type} : Left H := { results := [], args := [] }

/- WHAT THE LISTED PACKAGE-LEVEL VARIABLES READ AS WHEN THE CALL BEGINS. Each datum BY PROGRAM (the guide's laid-datum.mjs) off the statement by which the dump's own 'gosem.cut.vars' lays the variable. In a bare row this is a premise. The card (YthpkfgjjaieikaaDoorCards.lean) ties it to the program's text. -/
def laid_unicode_utf8_acceptRanges {H : Type} : DataW H := .agg [.agg [.lit (.int .u8 128), .lit (.int .u8 191)], .agg [.lit (.int .u8 160), .lit (.int .u8 191)], .agg [.lit (.int .u8 128), .lit (.int .u8 159)], .agg [.lit (.int .u8 144), .lit (.int .u8 191)], .agg [.lit (.int .u8 128), .lit (.int .u8 143)], .agg [.lit (.int .u8 0), .lit (.int .u8 0)], .agg [.lit (.int .u8 0), .lit (.int .u8 0)], .agg [.lit (.int .u8 0), .lit (.int .u8 0)], .agg [.lit (.int .u8 0), .lit (.int .u8 0)], .agg [.lit (.int .u8 0), .lit (.int .u8 0)], .agg [.lit (.int .u8 0), .lit (.int .u8 0)], .agg [.lit (.int .u8 0), .lit (.int .u8 0)], .agg [.lit (.int .u8 0), .lit (.int .u8 0)], .agg [.lit (.int .u8 0), .lit (.int .u8 0)], .agg [.lit (.int .u8 0), .lit (.int .u8 0)], .agg [.lit (.int .u8 0), .lit (.int .u8 0)]]
/-- One of Go's own tables, pinned by name: the form's constant. -/
def laid_unicode_utf8_first : DataW Unit := Go.Pinned.utf8First

/-- 'lanyardlaw02.FsPaths': WHATEVER THE INPUT: true; the input reads as it did. -/
def fsPathsSpec : ChangeSpec := { name := "fsPaths", fn := fun _ => fun
  | [d] => { results := [.lit (.bool true)], args := [d] }
  | _ => none }
def fsPathsRow : OpenClaim := { program := "ythpkfgjjaieikaadoor", sum := "c65757320622c17c3e4916f6972598c17516e74251a6cba2ed687c2de67ae2ff", func := "lanyard/lanyardlaw02.FsPaths", spec := "fsPaths", inPlace := ["internal/bytealg.IndexByteString", "internal/bytealg.IndexString", "sync/atomic.AddInt64", "sync/atomic.LoadInt64"], unfollowed := true, recurses := true, named := ["unicode/utf8.first", "unicode/utf8.acceptRanges", "internal/bytealg.MaxLen"], apart := false, laid := [("unicode/utf8.acceptRanges", laid_unicode_utf8_acceptRanges), ("unicode/utf8.first", laid_unicode_utf8_first)] }
def FsPathsSaid : Prop := fsPathsRow.holds Tryd.pinned (OpenSpec.ofChange fsPathsSpec)

/-- ITS FALSE NEIGHBOUR: 'it returns false'. Refute it at one input. -/
def fsPathsWrong : ChangeSpec := { name := "fsPaths", fn := fun _ => fun
  | [d] => { results := [.lit (.bool false)], args := [d] }
  | _ => none }
def FsPathsWrongFalsely : Prop := fsPathsRow.holds Tryd.pinned (OpenSpec.ofChange fsPathsWrong)

/-- 'lanyardlaw02.FsTree': WHATEVER THE INPUT: true; the input reads as it did. -/
def fsTreeSpec : ChangeSpec := { name := "fsTree", fn := fun _ => fun
  | [d] => { results := [.lit (.bool true)], args := [d] }
  | _ => none }
def fsTreeRow : OpenClaim := { program := "ythpkfgjjaieikaadoor", sum := "c65757320622c17c3e4916f6972598c17516e74251a6cba2ed687c2de67ae2ff", func := "lanyard/lanyardlaw02.FsTree", spec := "fsTree", inPlace := ["internal/bytealg.IndexByteString", "internal/bytealg.IndexString", "sync/atomic.AddInt64", "sync/atomic.LoadInt64"], unfollowed := true, recurses := true, named := ["unicode/utf8.first", "unicode/utf8.acceptRanges", "internal/bytealg.MaxLen"], apart := false, laid := [("unicode/utf8.acceptRanges", laid_unicode_utf8_acceptRanges), ("unicode/utf8.first", laid_unicode_utf8_first)] }
def FsTreeSaid : Prop := fsTreeRow.holds Tryd.pinned (OpenSpec.ofChange fsTreeSpec)

/-- ITS FALSE NEIGHBOUR: 'it returns false'. Refute it at one input. -/
def fsTreeWrong : ChangeSpec := { name := "fsTree", fn := fun _ => fun
  | [d] => { results := [.lit (.bool false)], args := [d] }
  | _ => none }
def FsTreeWrongFalsely : Prop := fsTreeRow.holds Tryd.pinned (OpenSpec.ofChange fsTreeWrong)

/-- 'lanyardlaw02.FsCrash': WHATEVER THE INPUT: true; the input reads as it did. -/
def fsCrashSpec : ChangeSpec := { name := "fsCrash", fn := fun _ => fun
  | [d1, d2] => { results := [.lit (.bool true)], args := [d1, d2] }
  | _ => none }
def fsCrashRow : OpenClaim := { program := "ythpkfgjjaieikaadoor", sum := "c65757320622c17c3e4916f6972598c17516e74251a6cba2ed687c2de67ae2ff", func := "lanyard/lanyardlaw02.FsCrash", spec := "fsCrash", inPlace := ["internal/bytealg.IndexByteString", "internal/bytealg.IndexString", "sync/atomic.AddInt64", "sync/atomic.LoadInt64", "sync/atomic.StoreInt64"], unfollowed := true, recurses := true, named := ["unicode/utf8.first", "unicode/utf8.acceptRanges", "internal/bytealg.MaxLen"], apart := false, laid := [("unicode/utf8.acceptRanges", laid_unicode_utf8_acceptRanges), ("unicode/utf8.first", laid_unicode_utf8_first)] }
def FsCrashSaid : Prop := fsCrashRow.holds Tryd.pinned (OpenSpec.ofChange fsCrashSpec)

/-- ITS FALSE NEIGHBOUR: 'it returns false'. Refute it at one input. -/
def fsCrashWrong : ChangeSpec := { name := "fsCrash", fn := fun _ => fun
  | [d1, d2] => { results := [.lit (.bool false)], args := [d1, d2] }
  | _ => none }
def FsCrashWrongFalsely : Prop := fsCrashRow.holds Tryd.pinned (OpenSpec.ofChange fsCrashWrong)

/-- 'lanyardlaw02.FsOwn': WHATEVER THE INPUT: true; the input reads as it did. -/
def fsOwnSpec : ChangeSpec := { name := "fsOwn", fn := fun _ => fun
  | [d1, d2] => { results := [.lit (.bool true)], args := [d1, d2] }
  | _ => none }
def fsOwnRow : OpenClaim := { program := "ythpkfgjjaieikaadoor", sum := "c65757320622c17c3e4916f6972598c17516e74251a6cba2ed687c2de67ae2ff", func := "lanyard/lanyardlaw02.FsOwn", spec := "fsOwn", inPlace := ["internal/bytealg.IndexByteString", "internal/bytealg.IndexString", "sync/atomic.AddInt64", "sync/atomic.LoadInt64", "sync/atomic.StoreInt64"], unfollowed := true, recurses := true, named := ["unicode/utf8.first", "unicode/utf8.acceptRanges", "internal/bytealg.MaxLen"], apart := false, laid := [("unicode/utf8.acceptRanges", laid_unicode_utf8_acceptRanges), ("unicode/utf8.first", laid_unicode_utf8_first)] }
def FsOwnSaid : Prop := fsOwnRow.holds Tryd.pinned (OpenSpec.ofChange fsOwnSpec)

/-- ITS FALSE NEIGHBOUR: 'it returns false'. Refute it at one input. -/
def fsOwnWrong : ChangeSpec := { name := "fsOwn", fn := fun _ => fun
  | [d1, d2] => { results := [.lit (.bool false)], args := [d1, d2] }
  | _ => none }
def FsOwnWrongFalsely : Prop := fsOwnRow.holds Tryd.pinned (OpenSpec.ofChange fsOwnWrong)

/-- 'lanyardlaw02.FsNone': WHATEVER THE INPUT: true; the input reads as it did. -/
def fsNoneSpec : ChangeSpec := { name := "fsNone", fn := fun _ => fun
  | [d] => { results := [.lit (.bool true)], args := [d] }
  | _ => none }
def fsNoneRow : OpenClaim := { program := "ythpkfgjjaieikaadoor", sum := "c65757320622c17c3e4916f6972598c17516e74251a6cba2ed687c2de67ae2ff", func := "lanyard/lanyardlaw02.FsNone", spec := "fsNone", inPlace := ["internal/bytealg.IndexByteString", "internal/bytealg.IndexString", "sync/atomic.AddInt64", "sync/atomic.LoadInt64", "sync/atomic.StoreInt64"], unfollowed := true, recurses := true, named := ["unicode/utf8.first", "unicode/utf8.acceptRanges", "internal/bytealg.MaxLen"], apart := false, laid := [("unicode/utf8.acceptRanges", laid_unicode_utf8_acceptRanges), ("unicode/utf8.first", laid_unicode_utf8_first)] }
def FsNoneSaid : Prop := fsNoneRow.holds Tryd.pinned (OpenSpec.ofChange fsNoneSpec)

/-- ITS FALSE NEIGHBOUR: 'it returns false'. Refute it at one input. -/
def fsNoneWrong : ChangeSpec := { name := "fsNone", fn := fun _ => fun
  | [d] => { results := [.lit (.bool false)], args := [d] }
  | _ => none }
def FsNoneWrongFalsely : Prop := fsNoneRow.holds Tryd.pinned (OpenSpec.ofChange fsNoneWrong)

/- THE SECOND FORM. 'bulk': how many values and letters a reading holds, each counted each time it is reached (what is shared counts as often as it is met; a slice's spare places count too). A statement '..UptoSaid' is the law's where the arguments, and the package variables that the reading takes, are together of bulk at most 1048576: NARROWER than '..Said'. Prove '..Said' where nothing that the law and all that it calls make is longer than what came in: it says more and counts as full. Else prove '..UptoSaid'. A law counts once. -/
mutual
def uptoBulk {H : Type} : DataW H → Nat
  | .lit (.string bytes) => bytes.length + 1
  | .lit _ => 1
  | .nil => 1
  | .ptr d => uptoBulk d + 1
  | .slice elems spare => uptoBulkAll elems + uptoBulkAll spare + 1
  | .agg parts => uptoBulkAll parts + 1
  | .iface _ d => uptoBulk d + 1
  | .map entries => uptoBulkEntries entries + 1
  | .held _ => 1
def uptoBulkAll {H : Type} : List (DataW H) → Nat
  | [] => 0
  | d :: r => uptoBulk d + uptoBulkAll r
def uptoBulkEntries {H : Type} : List (Lit × DataW H) → Nat
  | [] => 0
  | x :: r => uptoBulkEntry x + uptoBulkEntries r
def uptoBulkEntry {H : Type} : Lit × DataW H → Nat
  | (.string bytes, d) => bytes.length + uptoBulk d + 1
  | (_, d) => uptoBulk d + 1
 end
def uptoSmall : (H : Type) → List (DataW H) → Bool := fun _ ds => decide (uptoBulkAll ds ≤ 1048576)
def OpenSpec.upto (s : _root_.Go.ChangeSpec) : _root_.Go.OpenSpec := { _root_.Go.OpenSpec.ofChange s with cond := some uptoSmall }

/-- 'lanyardlaw02.FsPaths', WHERE WHAT IT READS IS OF BULK AT MOST 1048576: true; the input reads as it did. -/
def fsPathsUptoRow : OpenClaim := { program := "ythpkfgjjaieikaadoor", sum := "c65757320622c17c3e4916f6972598c17516e74251a6cba2ed687c2de67ae2ff", func := "lanyard/lanyardlaw02.FsPaths", spec := "fsPaths", inPlace := ["internal/bytealg.IndexByteString", "internal/bytealg.IndexString", "sync/atomic.AddInt64", "sync/atomic.LoadInt64"], unfollowed := true, recurses := true, named := ["unicode/utf8.first", "unicode/utf8.acceptRanges", "internal/bytealg.MaxLen"], apart := false, laid := [("unicode/utf8.acceptRanges", laid_unicode_utf8_acceptRanges), ("unicode/utf8.first", laid_unicode_utf8_first)], narrowed := true }
def FsPathsUptoSaid : Prop := fsPathsUptoRow.holds Tryd.pinned (OpenSpec.upto fsPathsSpec)

/-- 'lanyardlaw02.FsTree', WHERE WHAT IT READS IS OF BULK AT MOST 1048576: true; the input reads as it did. -/
def fsTreeUptoRow : OpenClaim := { program := "ythpkfgjjaieikaadoor", sum := "c65757320622c17c3e4916f6972598c17516e74251a6cba2ed687c2de67ae2ff", func := "lanyard/lanyardlaw02.FsTree", spec := "fsTree", inPlace := ["internal/bytealg.IndexByteString", "internal/bytealg.IndexString", "sync/atomic.AddInt64", "sync/atomic.LoadInt64"], unfollowed := true, recurses := true, named := ["unicode/utf8.first", "unicode/utf8.acceptRanges", "internal/bytealg.MaxLen"], apart := false, laid := [("unicode/utf8.acceptRanges", laid_unicode_utf8_acceptRanges), ("unicode/utf8.first", laid_unicode_utf8_first)], narrowed := true }
def FsTreeUptoSaid : Prop := fsTreeUptoRow.holds Tryd.pinned (OpenSpec.upto fsTreeSpec)

/-- 'lanyardlaw02.FsCrash', WHERE WHAT IT READS IS OF BULK AT MOST 1048576: true; the input reads as it did. -/
def fsCrashUptoRow : OpenClaim := { program := "ythpkfgjjaieikaadoor", sum := "c65757320622c17c3e4916f6972598c17516e74251a6cba2ed687c2de67ae2ff", func := "lanyard/lanyardlaw02.FsCrash", spec := "fsCrash", inPlace := ["internal/bytealg.IndexByteString", "internal/bytealg.IndexString", "sync/atomic.AddInt64", "sync/atomic.LoadInt64", "sync/atomic.StoreInt64"], unfollowed := true, recurses := true, named := ["unicode/utf8.first", "unicode/utf8.acceptRanges", "internal/bytealg.MaxLen"], apart := false, laid := [("unicode/utf8.acceptRanges", laid_unicode_utf8_acceptRanges), ("unicode/utf8.first", laid_unicode_utf8_first)], narrowed := true }
def FsCrashUptoSaid : Prop := fsCrashUptoRow.holds Tryd.pinned (OpenSpec.upto fsCrashSpec)

/-- 'lanyardlaw02.FsOwn', WHERE WHAT IT READS IS OF BULK AT MOST 1048576: true; the input reads as it did. -/
def fsOwnUptoRow : OpenClaim := { program := "ythpkfgjjaieikaadoor", sum := "c65757320622c17c3e4916f6972598c17516e74251a6cba2ed687c2de67ae2ff", func := "lanyard/lanyardlaw02.FsOwn", spec := "fsOwn", inPlace := ["internal/bytealg.IndexByteString", "internal/bytealg.IndexString", "sync/atomic.AddInt64", "sync/atomic.LoadInt64", "sync/atomic.StoreInt64"], unfollowed := true, recurses := true, named := ["unicode/utf8.first", "unicode/utf8.acceptRanges", "internal/bytealg.MaxLen"], apart := false, laid := [("unicode/utf8.acceptRanges", laid_unicode_utf8_acceptRanges), ("unicode/utf8.first", laid_unicode_utf8_first)], narrowed := true }
def FsOwnUptoSaid : Prop := fsOwnUptoRow.holds Tryd.pinned (OpenSpec.upto fsOwnSpec)

/-- 'lanyardlaw02.FsNone', WHERE WHAT IT READS IS OF BULK AT MOST 1048576: true; the input reads as it did. -/
def fsNoneUptoRow : OpenClaim := { program := "ythpkfgjjaieikaadoor", sum := "c65757320622c17c3e4916f6972598c17516e74251a6cba2ed687c2de67ae2ff", func := "lanyard/lanyardlaw02.FsNone", spec := "fsNone", inPlace := ["internal/bytealg.IndexByteString", "internal/bytealg.IndexString", "sync/atomic.AddInt64", "sync/atomic.LoadInt64", "sync/atomic.StoreInt64"], unfollowed := true, recurses := true, named := ["unicode/utf8.first", "unicode/utf8.acceptRanges", "internal/bytealg.MaxLen"], apart := false, laid := [("unicode/utf8.acceptRanges", laid_unicode_utf8_acceptRanges), ("unicode/utf8.first", laid_unicode_utf8_first)], narrowed := true }
def FsNoneUptoSaid : Prop := fsNoneUptoRow.holds Tryd.pinned (OpenSpec.upto fsNoneSpec)

end Rows
end Go.Proofs.YthpkfgjjaieikaaDoor
