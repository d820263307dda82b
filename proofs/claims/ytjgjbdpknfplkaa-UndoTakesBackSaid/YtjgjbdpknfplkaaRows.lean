/-
  No cell of these rows narrows 'for every input' (looked for: loops, veiled, ifaces, maps, wideKeys, modest, calm, conditions, laid).
  DERIVED. THE GIVEN ROWS OF THIS SEAT. 6 by the template 'for every input the law returns true; each argument reads behind the call as it read before'; 0 by the template 'total and deterministic' (their statements: YtjgjbdpknfplkaaTotals.lean).
  GIVEN WITH THE SEED: the statements are not yours to turn. If you find one false, say at which input.
  Laid BY PROGRAM, IN A SANDBOX (cutbox-rows.mjs): the forced cells as the released guide's own fill.sh prints them over the translation 2a15901ab0c67464… (all of the seat's roots in one cut). By AI agents, Wed Nov 11 2026. No macro, syntax, notation, axiom, sorry.
-/
import Derived.Test.YtjgjbdpknfplkaaChecked
import GoSem.Claim
import GoSem.ClaimJoined
import GoSem.ClaimMapViews
import Derived.JoinedTies
import Derived.KernelRfl
namespace Go.Proofs.Ytjgjbdpknfplkaa
/- THE CELL 'sum', in the pinned program and in every row, IS THE sha256 OF THE DUMP (.gsa) THAT YtjgjbdpknfplkaaProg.lean LOADS. Nothing in Lean hashes anything: it is a label: what it is worth is what the hold of that sum in a sandbox is worth. -/
noncomputable def Try.pinned : Pinned := { name := "ytjgjbdpknfplkaa", sum := "2a15901ab0c67464fd69855b628381082e5b4e73df2838c42c3418fddb40727b", checked := Try.checked }
namespace Rows
def none {H : Type} : Left H := { results := [], args := [] }

/-- 'lanyardlaw08.UndoApplies': WHATEVER THE INPUT: true; the input reads as it did. -/
def undoAppliesSpec : ChangeSpec := { name := "undoApplies", fn := fun _ => fun
  | [d1, d2, d3] => { results := [.lit (.bool true)], args := [d1, d2, d3] }
  | _ => none }
def undoAppliesRow : OpenClaim := { program := "ytjgjbdpknfplkaa", sum := "2a15901ab0c67464fd69855b628381082e5b4e73df2838c42c3418fddb40727b", func := "lanyard/lanyardlaw08.UndoApplies", spec := "undoApplies", unfollowed := true, recurses := true, apart := false }
def UndoAppliesSaid : Prop := undoAppliesRow.holds Try.pinned (OpenSpec.ofChange undoAppliesSpec)

/-- ITS FALSE NEIGHBOUR: 'it returns false'. Refute it at one input. -/
def undoAppliesWrong : ChangeSpec := { name := "undoApplies", fn := fun _ => fun
  | [d1, d2, d3] => { results := [.lit (.bool false)], args := [d1, d2, d3] }
  | _ => none }
def UndoAppliesWrongFalsely : Prop := undoAppliesRow.holds Try.pinned (OpenSpec.ofChange undoAppliesWrong)

/-- 'lanyardlaw08.UndoDoes': WHATEVER THE INPUT: true; the input reads as it did. -/
def undoDoesSpec : ChangeSpec := { name := "undoDoes", fn := fun _ => fun
  | [d] => { results := [.lit (.bool true)], args := [d] }
  | _ => none }
def undoDoesRow : OpenClaim := { program := "ytjgjbdpknfplkaa", sum := "2a15901ab0c67464fd69855b628381082e5b4e73df2838c42c3418fddb40727b", func := "lanyard/lanyardlaw08.UndoDoes", spec := "undoDoes", unfollowed := true, recurses := true, apart := false }
def UndoDoesSaid : Prop := undoDoesRow.holds Try.pinned (OpenSpec.ofChange undoDoesSpec)

/-- ITS FALSE NEIGHBOUR: 'it returns false'. Refute it at one input. -/
def undoDoesWrong : ChangeSpec := { name := "undoDoes", fn := fun _ => fun
  | [d] => { results := [.lit (.bool false)], args := [d] }
  | _ => none }
def UndoDoesWrongFalsely : Prop := undoDoesRow.holds Try.pinned (OpenSpec.ofChange undoDoesWrong)

/-- 'lanyardlaw08.UndoTakesBack': WHATEVER THE INPUT: true; the input reads as it did. -/
def undoTakesBackSpec : ChangeSpec := { name := "undoTakesBack", fn := fun _ => fun
  | [d1, d2] => { results := [.lit (.bool true)], args := [d1, d2] }
  | _ => none }
def undoTakesBackRow : OpenClaim := { program := "ytjgjbdpknfplkaa", sum := "2a15901ab0c67464fd69855b628381082e5b4e73df2838c42c3418fddb40727b", func := "lanyard/lanyardlaw08.UndoTakesBack", spec := "undoTakesBack", unfollowed := true, recurses := true, apart := false }
def UndoTakesBackSaid : Prop := undoTakesBackRow.holds Try.pinned (OpenSpec.ofChange undoTakesBackSpec)

/-- ITS FALSE NEIGHBOUR: 'it returns false'. Refute it at one input. -/
def undoTakesBackWrong : ChangeSpec := { name := "undoTakesBack", fn := fun _ => fun
  | [d1, d2] => { results := [.lit (.bool false)], args := [d1, d2] }
  | _ => none }
def UndoTakesBackWrongFalsely : Prop := undoTakesBackRow.holds Try.pinned (OpenSpec.ofChange undoTakesBackWrong)

/-- 'lanyardlaw08.UndoInverts': WHATEVER THE INPUT: true; the input reads as it did. -/
def undoInvertsSpec : ChangeSpec := { name := "undoInverts", fn := fun _ => fun
  | [d1, d2, d3] => { results := [.lit (.bool true)], args := [d1, d2, d3] }
  | _ => none }
def undoInvertsRow : OpenClaim := { program := "ytjgjbdpknfplkaa", sum := "2a15901ab0c67464fd69855b628381082e5b4e73df2838c42c3418fddb40727b", func := "lanyard/lanyardlaw08.UndoInverts", spec := "undoInverts", unfollowed := true, recurses := true, apart := false }
def UndoInvertsSaid : Prop := undoInvertsRow.holds Try.pinned (OpenSpec.ofChange undoInvertsSpec)

/-- ITS FALSE NEIGHBOUR: 'it returns false'. Refute it at one input. -/
def undoInvertsWrong : ChangeSpec := { name := "undoInverts", fn := fun _ => fun
  | [d1, d2, d3] => { results := [.lit (.bool false)], args := [d1, d2, d3] }
  | _ => none }
def UndoInvertsWrongFalsely : Prop := undoInvertsRow.holds Try.pinned (OpenSpec.ofChange undoInvertsWrong)

/-- 'lanyardlaw08.UndoOwn': WHATEVER THE INPUT: true; the input reads as it did. -/
def undoOwnSpec : ChangeSpec := { name := "undoOwn", fn := fun _ => fun
  | [d1, d2] => { results := [.lit (.bool true)], args := [d1, d2] }
  | _ => none }
def undoOwnRow : OpenClaim := { program := "ytjgjbdpknfplkaa", sum := "2a15901ab0c67464fd69855b628381082e5b4e73df2838c42c3418fddb40727b", func := "lanyard/lanyardlaw08.UndoOwn", spec := "undoOwn", unfollowed := true, recurses := true, apart := false }
def UndoOwnSaid : Prop := undoOwnRow.holds Try.pinned (OpenSpec.ofChange undoOwnSpec)

/-- ITS FALSE NEIGHBOUR: 'it returns false'. Refute it at one input. -/
def undoOwnWrong : ChangeSpec := { name := "undoOwn", fn := fun _ => fun
  | [d1, d2] => { results := [.lit (.bool false)], args := [d1, d2] }
  | _ => none }
def UndoOwnWrongFalsely : Prop := undoOwnRow.holds Try.pinned (OpenSpec.ofChange undoOwnWrong)

/-- 'lanyardlaw08.UndoNone': WHATEVER THE INPUT: true; the input reads as it did. -/
def undoNoneSpec : ChangeSpec := { name := "undoNone", fn := fun _ => fun
  | [d] => { results := [.lit (.bool true)], args := [d] }
  | _ => none }
def undoNoneRow : OpenClaim := { program := "ytjgjbdpknfplkaa", sum := "2a15901ab0c67464fd69855b628381082e5b4e73df2838c42c3418fddb40727b", func := "lanyard/lanyardlaw08.UndoNone", spec := "undoNone", unfollowed := true, recurses := true, apart := false }
def UndoNoneSaid : Prop := undoNoneRow.holds Try.pinned (OpenSpec.ofChange undoNoneSpec)

/-- ITS FALSE NEIGHBOUR: 'it returns false'. Refute it at one input. -/
def undoNoneWrong : ChangeSpec := { name := "undoNone", fn := fun _ => fun
  | [d] => { results := [.lit (.bool false)], args := [d] }
  | _ => none }
def UndoNoneWrongFalsely : Prop := undoNoneRow.holds Try.pinned (OpenSpec.ofChange undoNoneWrong)

/- THE SECOND FORM. 'bulk': how many values and letters a reading holds, each counted each time it is reached (what is shared counts as often as it is met; a slice's spare places count too). A statement '..UptoSaid' is the law's where the arguments, and the package variables that the reading takes, are together of bulk at most 1048576: NARROWER than '..Said'. Prove '..Said' where nothing that the law and all that it calls make is longer than what came in: it says more and counts as full. Else prove '..UptoSaid'. A law counts once. -/
mutual
def uptoBulk {H : Type} : DataW H → Nat
  | .lit (.string bytes) => bytes.length + 1
  | .lit _ => 1
  | .nil => 1
  | .ptr d => uptoBulk d + 1
  | .slice elems spare => uptoBulkAll elems + uptoBulkAll spare + 1
  | .agg parts => uptoBulkAll parts + 1
  | .iface _ d => uptoBulk d + 1
  | .map entries => uptoBulkEntries entries + 1
  | .held _ => 1
def uptoBulkAll {H : Type} : List (DataW H) → Nat
  | [] => 0
  | d :: r => uptoBulk d + uptoBulkAll r
def uptoBulkEntries {H : Type} : List (Lit × DataW H) → Nat
  | [] => 0
  | x :: r => uptoBulkEntry x + uptoBulkEntries r
def uptoBulkEntry {H : Type} : Lit × DataW H → Nat
  | (.string bytes, d) => bytes.length + uptoBulk d + 1
  | (_, d) => uptoBulk d + 1
 end
def uptoSmall : (H : Type) → List (DataW H) → Bool := fun _ ds => decide (uptoBulkAll ds ≤ 1048576)
def OpenSpec.upto (s : _root_.Go.ChangeSpec) : _root_.Go.OpenSpec := { _root_.Go.OpenSpec.ofChange s with cond := some uptoSmall }

/-- 'lanyardlaw08.UndoApplies', WHERE WHAT IT READS IS OF BULK AT MOST 1048576: true; the input reads as it did. -/
def undoAppliesUptoRow : OpenClaim := { program := "ytjgjbdpknfplkaa", sum := "2a15901ab0c67464fd69855b628381082e5b4e73df2838c42c3418fddb40727b", func := "lanyard/lanyardlaw08.UndoApplies", spec := "undoApplies", unfollowed := true, recurses := true, apart := false, narrowed := true }
def UndoAppliesUptoSaid : Prop := undoAppliesUptoRow.holds Try.pinned (OpenSpec.upto undoAppliesSpec)

/-- 'lanyardlaw08.UndoDoes', WHERE WHAT IT READS IS OF BULK AT MOST 1048576: true; the input reads as it did. -/
def undoDoesUptoRow : OpenClaim := { program := "ytjgjbdpknfplkaa", sum := "2a15901ab0c67464fd69855b628381082e5b4e73df2838c42c3418fddb40727b", func := "lanyard/lanyardlaw08.UndoDoes", spec := "undoDoes", unfollowed := true, recurses := true, apart := false, narrowed := true }
def UndoDoesUptoSaid : Prop := undoDoesUptoRow.holds Try.pinned (OpenSpec.upto undoDoesSpec)

/-- 'lanyardlaw08.UndoTakesBack', WHERE WHAT IT READS IS OF BULK AT MOST 1048576: true; the input reads as it did. -/
def undoTakesBackUptoRow : OpenClaim := { program := "ytjgjbdpknfplkaa", sum := "2a15901ab0c67464fd69855b628381082e5b4e73df2838c42c3418fddb40727b", func := "lanyard/lanyardlaw08.UndoTakesBack", spec := "undoTakesBack", unfollowed := true, recurses := true, apart := false, narrowed := true }
def UndoTakesBackUptoSaid : Prop := undoTakesBackUptoRow.holds Try.pinned (OpenSpec.upto undoTakesBackSpec)

/-- 'lanyardlaw08.UndoInverts', WHERE WHAT IT READS IS OF BULK AT MOST 1048576: true; the input reads as it did. -/
def undoInvertsUptoRow : OpenClaim := { program := "ytjgjbdpknfplkaa", sum := "2a15901ab0c67464fd69855b628381082e5b4e73df2838c42c3418fddb40727b", func := "lanyard/lanyardlaw08.UndoInverts", spec := "undoInverts", unfollowed := true, recurses := true, apart := false, narrowed := true }
def UndoInvertsUptoSaid : Prop := undoInvertsUptoRow.holds Try.pinned (OpenSpec.upto undoInvertsSpec)

/-- 'lanyardlaw08.UndoOwn', WHERE WHAT IT READS IS OF BULK AT MOST 1048576: true; the input reads as it did. -/
def undoOwnUptoRow : OpenClaim := { program := "ytjgjbdpknfplkaa", sum := "2a15901ab0c67464fd69855b628381082e5b4e73df2838c42c3418fddb40727b", func := "lanyard/lanyardlaw08.UndoOwn", spec := "undoOwn", unfollowed := true, recurses := true, apart := false, narrowed := true }
def UndoOwnUptoSaid : Prop := undoOwnUptoRow.holds Try.pinned (OpenSpec.upto undoOwnSpec)

/-- 'lanyardlaw08.UndoNone', WHERE WHAT IT READS IS OF BULK AT MOST 1048576: true; the input reads as it did. -/
def undoNoneUptoRow : OpenClaim := { program := "ytjgjbdpknfplkaa", sum := "2a15901ab0c67464fd69855b628381082e5b4e73df2838c42c3418fddb40727b", func := "lanyard/lanyardlaw08.UndoNone", spec := "undoNone", unfollowed := true, recurses := true, apart := false, narrowed := true }
def UndoNoneUptoSaid : Prop := undoNoneUptoRow.holds Try.pinned (OpenSpec.upto undoNoneSpec)

end Rows
end Go.Proofs.Ytjgjbdpknfplkaa
