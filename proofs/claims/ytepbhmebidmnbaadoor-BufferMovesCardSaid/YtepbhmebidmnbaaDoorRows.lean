/-
  NARROWER THAN 'FOR EVERY INPUT', by the rows' own cells (each row's printed sentence says how): BufferDoes: laid · BufferMoves: laid · BufferBack: laid · BufferStays: laid · BufferWords: laid · BufferOwn: laid · BufferNone: laid · BufferSplices: laid.
  DERIVED. THE GIVEN ROWS OF THIS SEAT. 8 by the template 'for every input the law returns true; each argument reads behind the call as it read before'; 0 by the template 'total and deterministic' (their statements: YtepbhmebidmnbaaDoorTotals.lean).
  GIVEN WITH THE SEED: the statements are not yours to turn. If you find one false, say at which input.
  Laid BY PROGRAM, IN A SANDBOX (cutbox-rows.mjs): the forced cells as the released guide's own fill.sh prints them over the translation 5c19b1d138405e42… (all of the seat's roots in one cut). By AI agents, Wed Nov 11 2026. No macro, syntax, notation, axiom, sorry.
-/
import Derived.Test.YtepbhmebidmnbaaDoorChecked
import GoSem.Claim
import GoSem.ClaimJoined
import GoSem.ClaimMapViews
import Derived.JoinedTies
import Derived.KernelRfl
namespace Go.Proofs.YtepbhmebidmnbaaDoor
/- THE CELL 'sum', in the pinned program and in every row, IS THE sha256 OF THE DUMP (.gsa) THAT YtepbhmebidmnbaaDoorProg.lean LOADS. Nothing in Lean hashes anything: it is a label: what it is worth is what the hold of that sum in a sandbox is worth. -/
noncomputable def Tryd.pinned : Pinned := { name := "ytepbhmebidmnbaadoor", sum := "5c19b1d138405e42132ccc47c4f805f2ca618d90117a079882facfd9345cd9a0", checked := Tryd.checked }
namespace Rows
def none {H : Type} : Left H := { results := [], args := [] }

/- WHAT THE LISTED PACKAGE-LEVEL VARIABLES READ AS WHEN THE CALL BEGINS. Each datum BY PROGRAM (the guide's laid-datum.mjs) off the statement by which the dump's own 'gosem.cut.vars' lays the variable. In a bare row this is a premise. The card (YtepbhmebidmnbaaDoorCards.lean) ties it to the program's text. -/
def laid_lanyard_ucell_widths {H : Type} : DataW H := .agg [.agg [.lit (.int .i32 768), .lit (.int .i32 879), .lit (.int .i64 0)], .agg [.lit (.int .i32 1155), .lit (.int .i32 1161), .lit (.int .i64 0)], .agg [.lit (.int .i32 1425), .lit (.int .i32 1469), .lit (.int .i64 0)], .agg [.lit (.int .i32 1552), .lit (.int .i32 1562), .lit (.int .i64 0)], .agg [.lit (.int .i32 1611), .lit (.int .i32 1631), .lit (.int .i64 0)], .agg [.lit (.int .i32 3633), .lit (.int .i32 3633), .lit (.int .i64 0)], .agg [.lit (.int .i32 3636), .lit (.int .i32 3642), .lit (.int .i64 0)], .agg [.lit (.int .i32 3655), .lit (.int .i32 3662), .lit (.int .i64 0)], .agg [.lit (.int .i32 6832), .lit (.int .i32 6911), .lit (.int .i64 0)], .agg [.lit (.int .i32 7616), .lit (.int .i32 7679), .lit (.int .i64 0)], .agg [.lit (.int .i32 8203), .lit (.int .i32 8207), .lit (.int .i64 0)], .agg [.lit (.int .i32 8400), .lit (.int .i32 8447), .lit (.int .i64 0)], .agg [.lit (.int .i32 12441), .lit (.int .i32 12442), .lit (.int .i64 0)], .agg [.lit (.int .i32 65024), .lit (.int .i32 65039), .lit (.int .i64 0)], .agg [.lit (.int .i32 65056), .lit (.int .i32 65071), .lit (.int .i64 0)], .agg [.lit (.int .i32 4352), .lit (.int .i32 4447), .lit (.int .i64 2)], .agg [.lit (.int .i32 11904), .lit (.int .i32 12350), .lit (.int .i64 2)], .agg [.lit (.int .i32 12353), .lit (.int .i32 13311), .lit (.int .i64 2)], .agg [.lit (.int .i32 13312), .lit (.int .i32 19903), .lit (.int .i64 2)], .agg [.lit (.int .i32 19968), .lit (.int .i32 40959), .lit (.int .i64 2)], .agg [.lit (.int .i32 40960), .lit (.int .i32 42191), .lit (.int .i64 2)], .agg [.lit (.int .i32 44032), .lit (.int .i32 55203), .lit (.int .i64 2)], .agg [.lit (.int .i32 63744), .lit (.int .i32 64255), .lit (.int .i64 2)], .agg [.lit (.int .i32 65072), .lit (.int .i32 65135), .lit (.int .i64 2)], .agg [.lit (.int .i32 65280), .lit (.int .i32 65376), .lit (.int .i64 2)], .agg [.lit (.int .i32 65504), .lit (.int .i32 65510), .lit (.int .i64 2)], .agg [.lit (.int .i32 127744), .lit (.int .i32 128591), .lit (.int .i64 2)], .agg [.lit (.int .i32 129280), .lit (.int .i32 129535), .lit (.int .i64 2)], .agg [.lit (.int .i32 131072), .lit (.int .i32 262141), .lit (.int .i64 2)]]

/-- 'lanyardlaw07.BufferDoes': WHATEVER THE INPUT: true; the input reads as it did. -/
def bufferDoesSpec : ChangeSpec := { name := "bufferDoes", fn := fun _ => fun
  | [d1, d2] => { results := [.lit (.bool true)], args := [d1, d2] }
  | _ => none }
def bufferDoesRow : OpenClaim := { program := "ytepbhmebidmnbaadoor", sum := "5c19b1d138405e42132ccc47c4f805f2ca618d90117a079882facfd9345cd9a0", func := "lanyard/lanyardlaw07.BufferDoes", spec := "bufferDoes", unfollowed := true, recurses := true, named := ["lanyard/ucell.widths"], apart := false, laid := [("lanyard/ucell.widths", laid_lanyard_ucell_widths)] }
def BufferDoesSaid : Prop := bufferDoesRow.holds Tryd.pinned (OpenSpec.ofChange bufferDoesSpec)

/-- ITS FALSE NEIGHBOUR: 'it returns false'. Refute it at one input. -/
def bufferDoesWrong : ChangeSpec := { name := "bufferDoes", fn := fun _ => fun
  | [d1, d2] => { results := [.lit (.bool false)], args := [d1, d2] }
  | _ => none }
def BufferDoesWrongFalsely : Prop := bufferDoesRow.holds Tryd.pinned (OpenSpec.ofChange bufferDoesWrong)

/-- 'lanyardlaw07.BufferMoves': WHATEVER THE INPUT: true; the input reads as it did. -/
def bufferMovesSpec : ChangeSpec := { name := "bufferMoves", fn := fun _ => fun
  | [d1, d2, d3] => { results := [.lit (.bool true)], args := [d1, d2, d3] }
  | _ => none }
def bufferMovesRow : OpenClaim := { program := "ytepbhmebidmnbaadoor", sum := "5c19b1d138405e42132ccc47c4f805f2ca618d90117a079882facfd9345cd9a0", func := "lanyard/lanyardlaw07.BufferMoves", spec := "bufferMoves", unfollowed := true, recurses := true, named := ["lanyard/ucell.widths"], apart := false, laid := [("lanyard/ucell.widths", laid_lanyard_ucell_widths)] }
def BufferMovesSaid : Prop := bufferMovesRow.holds Tryd.pinned (OpenSpec.ofChange bufferMovesSpec)

/-- ITS FALSE NEIGHBOUR: 'it returns false'. Refute it at one input. -/
def bufferMovesWrong : ChangeSpec := { name := "bufferMoves", fn := fun _ => fun
  | [d1, d2, d3] => { results := [.lit (.bool false)], args := [d1, d2, d3] }
  | _ => none }
def BufferMovesWrongFalsely : Prop := bufferMovesRow.holds Tryd.pinned (OpenSpec.ofChange bufferMovesWrong)

/-- 'lanyardlaw07.BufferBack': WHATEVER THE INPUT: true; the input reads as it did. -/
def bufferBackSpec : ChangeSpec := { name := "bufferBack", fn := fun _ => fun
  | [d1, d2] => { results := [.lit (.bool true)], args := [d1, d2] }
  | _ => none }
def bufferBackRow : OpenClaim := { program := "ytepbhmebidmnbaadoor", sum := "5c19b1d138405e42132ccc47c4f805f2ca618d90117a079882facfd9345cd9a0", func := "lanyard/lanyardlaw07.BufferBack", spec := "bufferBack", unfollowed := true, recurses := true, named := ["lanyard/ucell.widths"], apart := false, laid := [("lanyard/ucell.widths", laid_lanyard_ucell_widths)] }
def BufferBackSaid : Prop := bufferBackRow.holds Tryd.pinned (OpenSpec.ofChange bufferBackSpec)

/-- ITS FALSE NEIGHBOUR: 'it returns false'. Refute it at one input. -/
def bufferBackWrong : ChangeSpec := { name := "bufferBack", fn := fun _ => fun
  | [d1, d2] => { results := [.lit (.bool false)], args := [d1, d2] }
  | _ => none }
def BufferBackWrongFalsely : Prop := bufferBackRow.holds Tryd.pinned (OpenSpec.ofChange bufferBackWrong)

/-- 'lanyardlaw07.BufferStays': WHATEVER THE INPUT: true; the input reads as it did. -/
def bufferStaysSpec : ChangeSpec := { name := "bufferStays", fn := fun _ => fun
  | [d1, d2] => { results := [.lit (.bool true)], args := [d1, d2] }
  | _ => none }
def bufferStaysRow : OpenClaim := { program := "ytepbhmebidmnbaadoor", sum := "5c19b1d138405e42132ccc47c4f805f2ca618d90117a079882facfd9345cd9a0", func := "lanyard/lanyardlaw07.BufferStays", spec := "bufferStays", unfollowed := true, recurses := true, named := ["lanyard/ucell.widths"], apart := false, laid := [("lanyard/ucell.widths", laid_lanyard_ucell_widths)] }
def BufferStaysSaid : Prop := bufferStaysRow.holds Tryd.pinned (OpenSpec.ofChange bufferStaysSpec)

/-- ITS FALSE NEIGHBOUR: 'it returns false'. Refute it at one input. -/
def bufferStaysWrong : ChangeSpec := { name := "bufferStays", fn := fun _ => fun
  | [d1, d2] => { results := [.lit (.bool false)], args := [d1, d2] }
  | _ => none }
def BufferStaysWrongFalsely : Prop := bufferStaysRow.holds Tryd.pinned (OpenSpec.ofChange bufferStaysWrong)

/-- 'lanyardlaw07.BufferWords': WHATEVER THE INPUT: true; the input reads as it did. -/
def bufferWordsSpec : ChangeSpec := { name := "bufferWords", fn := fun _ => fun
  | [d1, d2] => { results := [.lit (.bool true)], args := [d1, d2] }
  | _ => none }
def bufferWordsRow : OpenClaim := { program := "ytepbhmebidmnbaadoor", sum := "5c19b1d138405e42132ccc47c4f805f2ca618d90117a079882facfd9345cd9a0", func := "lanyard/lanyardlaw07.BufferWords", spec := "bufferWords", unfollowed := true, recurses := true, named := ["lanyard/ucell.widths"], apart := false, laid := [("lanyard/ucell.widths", laid_lanyard_ucell_widths)] }
def BufferWordsSaid : Prop := bufferWordsRow.holds Tryd.pinned (OpenSpec.ofChange bufferWordsSpec)

/-- ITS FALSE NEIGHBOUR: 'it returns false'. Refute it at one input. -/
def bufferWordsWrong : ChangeSpec := { name := "bufferWords", fn := fun _ => fun
  | [d1, d2] => { results := [.lit (.bool false)], args := [d1, d2] }
  | _ => none }
def BufferWordsWrongFalsely : Prop := bufferWordsRow.holds Tryd.pinned (OpenSpec.ofChange bufferWordsWrong)

/-- 'lanyardlaw07.BufferOwn': WHATEVER THE INPUT: true; the input reads as it did. -/
def bufferOwnSpec : ChangeSpec := { name := "bufferOwn", fn := fun _ => fun
  | [d1, d2, d3] => { results := [.lit (.bool true)], args := [d1, d2, d3] }
  | _ => none }
def bufferOwnRow : OpenClaim := { program := "ytepbhmebidmnbaadoor", sum := "5c19b1d138405e42132ccc47c4f805f2ca618d90117a079882facfd9345cd9a0", func := "lanyard/lanyardlaw07.BufferOwn", spec := "bufferOwn", unfollowed := true, recurses := true, named := ["lanyard/ucell.widths"], apart := false, laid := [("lanyard/ucell.widths", laid_lanyard_ucell_widths)] }
def BufferOwnSaid : Prop := bufferOwnRow.holds Tryd.pinned (OpenSpec.ofChange bufferOwnSpec)

/-- ITS FALSE NEIGHBOUR: 'it returns false'. Refute it at one input. -/
def bufferOwnWrong : ChangeSpec := { name := "bufferOwn", fn := fun _ => fun
  | [d1, d2, d3] => { results := [.lit (.bool false)], args := [d1, d2, d3] }
  | _ => none }
def BufferOwnWrongFalsely : Prop := bufferOwnRow.holds Tryd.pinned (OpenSpec.ofChange bufferOwnWrong)

/-- 'lanyardlaw07.BufferNone': WHATEVER THE INPUT: true; the input reads as it did. -/
def bufferNoneSpec : ChangeSpec := { name := "bufferNone", fn := fun _ => fun
  | [d] => { results := [.lit (.bool true)], args := [d] }
  | _ => none }
def bufferNoneRow : OpenClaim := { program := "ytepbhmebidmnbaadoor", sum := "5c19b1d138405e42132ccc47c4f805f2ca618d90117a079882facfd9345cd9a0", func := "lanyard/lanyardlaw07.BufferNone", spec := "bufferNone", unfollowed := true, recurses := true, named := ["lanyard/ucell.widths"], apart := false, laid := [("lanyard/ucell.widths", laid_lanyard_ucell_widths)] }
def BufferNoneSaid : Prop := bufferNoneRow.holds Tryd.pinned (OpenSpec.ofChange bufferNoneSpec)

/-- ITS FALSE NEIGHBOUR: 'it returns false'. Refute it at one input. -/
def bufferNoneWrong : ChangeSpec := { name := "bufferNone", fn := fun _ => fun
  | [d] => { results := [.lit (.bool false)], args := [d] }
  | _ => none }
def BufferNoneWrongFalsely : Prop := bufferNoneRow.holds Tryd.pinned (OpenSpec.ofChange bufferNoneWrong)

/-- 'lanyardlaw07.BufferSplices': WHATEVER THE INPUT: true; the input reads as it did. -/
def bufferSplicesSpec : ChangeSpec := { name := "bufferSplices", fn := fun _ => fun
  | [d1, d2] => { results := [.lit (.bool true)], args := [d1, d2] }
  | _ => none }
def bufferSplicesRow : OpenClaim := { program := "ytepbhmebidmnbaadoor", sum := "5c19b1d138405e42132ccc47c4f805f2ca618d90117a079882facfd9345cd9a0", func := "lanyard/lanyardlaw07.BufferSplices", spec := "bufferSplices", unfollowed := true, recurses := true, named := ["lanyard/ucell.widths"], apart := false, laid := [("lanyard/ucell.widths", laid_lanyard_ucell_widths)] }
def BufferSplicesSaid : Prop := bufferSplicesRow.holds Tryd.pinned (OpenSpec.ofChange bufferSplicesSpec)

/-- ITS FALSE NEIGHBOUR: 'it returns false'. Refute it at one input. -/
def bufferSplicesWrong : ChangeSpec := { name := "bufferSplices", fn := fun _ => fun
  | [d1, d2] => { results := [.lit (.bool false)], args := [d1, d2] }
  | _ => none }
def BufferSplicesWrongFalsely : Prop := bufferSplicesRow.holds Tryd.pinned (OpenSpec.ofChange bufferSplicesWrong)

/- THE SECOND FORM. 'bulk': how many values and letters a reading holds, each counted each time it is reached (what is shared counts as often as it is met; a slice's spare places count too). A statement '..UptoSaid' is the law's where the arguments, and the package variables that the reading takes, are together of bulk at most 1048576: NARROWER than '..Said'. Prove '..Said' where nothing that the law and all that it calls make is longer than what came in: it says more and counts as full. Else prove '..UptoSaid'. A law counts once. -/
mutual
def uptoBulk {H : Type} : DataW H → Nat
  | .lit (.string bytes) => bytes.length + 1
  | .lit _ => 1
  | .nil => 1
  | .ptr d => uptoBulk d + 1
  | .slice elems spare => uptoBulkAll elems + uptoBulkAll spare + 1
  | .agg parts => uptoBulkAll parts + 1
  | .iface _ d => uptoBulk d + 1
  | .map entries => uptoBulkEntries entries + 1
  | .held _ => 1
def uptoBulkAll {H : Type} : List (DataW H) → Nat
  | [] => 0
  | d :: r => uptoBulk d + uptoBulkAll r
def uptoBulkEntries {H : Type} : List (Lit × DataW H) → Nat
  | [] => 0
  | x :: r => uptoBulkEntry x + uptoBulkEntries r
def uptoBulkEntry {H : Type} : Lit × DataW H → Nat
  | (.string bytes, d) => bytes.length + uptoBulk d + 1
  | (_, d) => uptoBulk d + 1
 end
def uptoSmall : (H : Type) → List (DataW H) → Bool := fun _ ds => decide (uptoBulkAll ds ≤ 1048576)
def OpenSpec.upto (s : _root_.Go.ChangeSpec) : _root_.Go.OpenSpec := { _root_.Go.OpenSpec.ofChange s with cond := some uptoSmall }

/-- 'lanyardlaw07.BufferDoes', WHERE WHAT IT READS IS OF BULK AT MOST 1048576: true; the input reads as it did. -/
def bufferDoesUptoRow : OpenClaim := { program := "ytepbhmebidmnbaadoor", sum := "5c19b1d138405e42132ccc47c4f805f2ca618d90117a079882facfd9345cd9a0", func := "lanyard/lanyardlaw07.BufferDoes", spec := "bufferDoes", unfollowed := true, recurses := true, named := ["lanyard/ucell.widths"], apart := false, laid := [("lanyard/ucell.widths", laid_lanyard_ucell_widths)], narrowed := true }
def BufferDoesUptoSaid : Prop := bufferDoesUptoRow.holds Tryd.pinned (OpenSpec.upto bufferDoesSpec)

/-- 'lanyardlaw07.BufferMoves', WHERE WHAT IT READS IS OF BULK AT MOST 1048576: true; the input reads as it did. -/
def bufferMovesUptoRow : OpenClaim := { program := "ytepbhmebidmnbaadoor", sum := "5c19b1d138405e42132ccc47c4f805f2ca618d90117a079882facfd9345cd9a0", func := "lanyard/lanyardlaw07.BufferMoves", spec := "bufferMoves", unfollowed := true, recurses := true, named := ["lanyard/ucell.widths"], apart := false, laid := [("lanyard/ucell.widths", laid_lanyard_ucell_widths)], narrowed := true }
def BufferMovesUptoSaid : Prop := bufferMovesUptoRow.holds Tryd.pinned (OpenSpec.upto bufferMovesSpec)

/-- 'lanyardlaw07.BufferBack', WHERE WHAT IT READS IS OF BULK AT MOST 1048576: true; the input reads as it did. -/
def bufferBackUptoRow : OpenClaim := { program := "ytepbhmebidmnbaadoor", sum := "5c19b1d138405e42132ccc47c4f805f2ca618d90117a079882facfd9345cd9a0", func := "lanyard/lanyardlaw07.BufferBack", spec := "bufferBack", unfollowed := true, recurses := true, named := ["lanyard/ucell.widths"], apart := false, laid := [("lanyard/ucell.widths", laid_lanyard_ucell_widths)], narrowed := true }
def BufferBackUptoSaid : Prop := bufferBackUptoRow.holds Tryd.pinned (OpenSpec.upto bufferBackSpec)

/-- 'lanyardlaw07.BufferStays', WHERE WHAT IT READS IS OF BULK AT MOST 1048576: true; the input reads as it did. -/
def bufferStaysUptoRow : OpenClaim := { program := "ytepbhmebidmnbaadoor", sum := "5c19b1d138405e42132ccc47c4f805f2ca618d90117a079882facfd9345cd9a0", func := "lanyard/lanyardlaw07.BufferStays", spec := "bufferStays", unfollowed := true, recurses := true, named := ["lanyard/ucell.widths"], apart := false, laid := [("lanyard/ucell.widths", laid_lanyard_ucell_widths)], narrowed := true }
def BufferStaysUptoSaid : Prop := bufferStaysUptoRow.holds Tryd.pinned (OpenSpec.upto bufferStaysSpec)

/-- 'lanyardlaw07.BufferWords', WHERE WHAT IT READS IS OF BULK AT MOST 1048576: true; the input reads as it did. -/
def bufferWordsUptoRow : OpenClaim := { program := "ytepbhmebidmnbaadoor", sum := "5c19b1d138405e42132ccc47c4f805f2ca618d90117a079882facfd9345cd9a0", func := "lanyard/lanyardlaw07.BufferWords", spec := "bufferWords", unfollowed := true, recurses := true, named := ["lanyard/ucell.widths"], apart := false, laid := [("lanyard/ucell.widths", laid_lanyard_ucell_widths)], narrowed := true }
def BufferWordsUptoSaid : Prop := bufferWordsUptoRow.holds Tryd.pinned (OpenSpec.upto bufferWordsSpec)

/-- 'lanyardlaw07.BufferOwn', WHERE WHAT IT READS IS OF BULK AT MOST 1048576: true; the input reads as it did. -/
def bufferOwnUptoRow : OpenClaim := { program := "ytepbhmebidmnbaadoor", sum := "5c19b1d138405e42132ccc47c4f805f2ca618d90117a079882facfd9345cd9a0", func := "lanyard/lanyardlaw07.BufferOwn", spec := "bufferOwn", unfollowed := true, recurses := true, named := ["lanyard/ucell.widths"], apart := false, laid := [("lanyard/ucell.widths", laid_lanyard_ucell_widths)], narrowed := true }
def BufferOwnUptoSaid : Prop := bufferOwnUptoRow.holds Tryd.pinned (OpenSpec.upto bufferOwnSpec)

/-- 'lanyardlaw07.BufferNone', WHERE WHAT IT READS IS OF BULK AT MOST 1048576: true; the input reads as it did. -/
def bufferNoneUptoRow : OpenClaim := { program := "ytepbhmebidmnbaadoor", sum := "5c19b1d138405e42132ccc47c4f805f2ca618d90117a079882facfd9345cd9a0", func := "lanyard/lanyardlaw07.BufferNone", spec := "bufferNone", unfollowed := true, recurses := true, named := ["lanyard/ucell.widths"], apart := false, laid := [("lanyard/ucell.widths", laid_lanyard_ucell_widths)], narrowed := true }
def BufferNoneUptoSaid : Prop := bufferNoneUptoRow.holds Tryd.pinned (OpenSpec.upto bufferNoneSpec)

/-- 'lanyardlaw07.BufferSplices', WHERE WHAT IT READS IS OF BULK AT MOST 1048576: true; the input reads as it did. -/
def bufferSplicesUptoRow : OpenClaim := { program := "ytepbhmebidmnbaadoor", sum := "5c19b1d138405e42132ccc47c4f805f2ca618d90117a079882facfd9345cd9a0", func := "lanyard/lanyardlaw07.BufferSplices", spec := "bufferSplices", unfollowed := true, recurses := true, named := ["lanyard/ucell.widths"], apart := false, laid := [("lanyard/ucell.widths", laid_lanyard_ucell_widths)], narrowed := true }
def BufferSplicesUptoSaid : Prop := bufferSplicesUptoRow.holds Tryd.pinned (OpenSpec.upto bufferSplicesSpec)

end Rows
end Go.Proofs.YtepbhmebidmnbaaDoor
