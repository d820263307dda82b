/-
  No cell of these rows narrows 'for every input' (looked for: loops, veiled, ifaces, maps, wideKeys, modest, calm, conditions, laid).
  DERIVED. THE GIVEN ROWS OF THIS SEAT. 6 by the template 'for every input the law returns true; each argument reads behind the call as it read before'; 0 by the template 'total and deterministic' (their statements: YtknekldnipdpeaaTotals.lean).
  GIVEN WITH THE SEED: the statements are not yours to turn. If you find one false, say at which input.
  Laid BY PROGRAM, IN A SANDBOX (cutbox-rows.mjs): the forced cells as the released guide's own fill.sh prints them over the translation f5dc3060c91986af… (all of the seat's roots in one cut). By AI agents, Wed Nov 11 2026. No macro, syntax, notation, axiom, sorry.
-/
import Derived.Test.YtknekldnipdpeaaChecked
import GoSem.Claim
import GoSem.ClaimJoined
import GoSem.ClaimMapViews
import Derived.JoinedTies
import Derived.KernelRfl
namespace Go.Proofs.Ytknekldnipdpeaa
/- THE CELL 'sum', in the pinned program and in every row, IS THE sha256 OF THE DUMP (.gsa) THAT YtknekldnipdpeaaProg.lean LOADS. Nothing in Lean hashes anything: it is a label: what it is worth is what the hold of that sum in a sandbox is worth. -/
noncomputable def Try.pinned : Pinned := { name := "ytknekldnipdpeaa", sum := "f5dc3060c91986aff7585d60e5ff27bf3e5dffd5dabc0c631ffe0f3c327c98c2", checked := Try.checked }
namespace Rows
def none {H : Type} : Left H := { results := [], args := [] }

/-- 'lanyardlaw09.KillringDoes': WHATEVER THE INPUT: true; the input reads as it did. -/
def killringDoesSpec : ChangeSpec := { name := "killringDoes", fn := fun _ => fun
  | [d] => { results := [.lit (.bool true)], args := [d] }
  | _ => none }
def killringDoesRow : OpenClaim := { program := "ytknekldnipdpeaa", sum := "f5dc3060c91986aff7585d60e5ff27bf3e5dffd5dabc0c631ffe0f3c327c98c2", func := "lanyard/lanyardlaw09.KillringDoes", spec := "killringDoes", unfollowed := true, recurses := true, apart := false }
def KillringDoesSaid : Prop := killringDoesRow.holds Try.pinned (OpenSpec.ofChange killringDoesSpec)

/-- ITS FALSE NEIGHBOUR: 'it returns false'. Refute it at one input. -/
def killringDoesWrong : ChangeSpec := { name := "killringDoes", fn := fun _ => fun
  | [d] => { results := [.lit (.bool false)], args := [d] }
  | _ => none }
def KillringDoesWrongFalsely : Prop := killringDoesRow.holds Try.pinned (OpenSpec.ofChange killringDoesWrong)

/-- 'lanyardlaw09.KillringFrom': WHATEVER THE INPUT: true; the input reads as it did. -/
def killringFromSpec : ChangeSpec := { name := "killringFrom", fn := fun _ => fun
  | [d] => { results := [.lit (.bool true)], args := [d] }
  | _ => none }
def killringFromRow : OpenClaim := { program := "ytknekldnipdpeaa", sum := "f5dc3060c91986aff7585d60e5ff27bf3e5dffd5dabc0c631ffe0f3c327c98c2", func := "lanyard/lanyardlaw09.KillringFrom", spec := "killringFrom", unfollowed := true, recurses := true, apart := false }
def KillringFromSaid : Prop := killringFromRow.holds Try.pinned (OpenSpec.ofChange killringFromSpec)

/-- ITS FALSE NEIGHBOUR: 'it returns false'. Refute it at one input. -/
def killringFromWrong : ChangeSpec := { name := "killringFrom", fn := fun _ => fun
  | [d] => { results := [.lit (.bool false)], args := [d] }
  | _ => none }
def KillringFromWrongFalsely : Prop := killringFromRow.holds Try.pinned (OpenSpec.ofChange killringFromWrong)

/-- 'lanyardlaw09.KillringRound': WHATEVER THE INPUT: true; the input reads as it did. -/
def killringRoundSpec : ChangeSpec := { name := "killringRound", fn := fun _ => fun
  | [d1, d2] => { results := [.lit (.bool true)], args := [d1, d2] }
  | _ => none }
def killringRoundRow : OpenClaim := { program := "ytknekldnipdpeaa", sum := "f5dc3060c91986aff7585d60e5ff27bf3e5dffd5dabc0c631ffe0f3c327c98c2", func := "lanyard/lanyardlaw09.KillringRound", spec := "killringRound", unfollowed := true, recurses := true, apart := false }
def KillringRoundSaid : Prop := killringRoundRow.holds Try.pinned (OpenSpec.ofChange killringRoundSpec)

/-- ITS FALSE NEIGHBOUR: 'it returns false'. Refute it at one input. -/
def killringRoundWrong : ChangeSpec := { name := "killringRound", fn := fun _ => fun
  | [d1, d2] => { results := [.lit (.bool false)], args := [d1, d2] }
  | _ => none }
def KillringRoundWrongFalsely : Prop := killringRoundRow.holds Try.pinned (OpenSpec.ofChange killringRoundWrong)

/-- 'lanyardlaw09.KillringJoins': WHATEVER THE INPUT: true; the input reads as it did. -/
def killringJoinsSpec : ChangeSpec := { name := "killringJoins", fn := fun _ => fun
  | [d1, d2, d3] => { results := [.lit (.bool true)], args := [d1, d2, d3] }
  | _ => none }
def killringJoinsRow : OpenClaim := { program := "ytknekldnipdpeaa", sum := "f5dc3060c91986aff7585d60e5ff27bf3e5dffd5dabc0c631ffe0f3c327c98c2", func := "lanyard/lanyardlaw09.KillringJoins", spec := "killringJoins", apart := false }
def KillringJoinsSaid : Prop := killringJoinsRow.holds Try.pinned (OpenSpec.ofChange killringJoinsSpec)

/-- ITS FALSE NEIGHBOUR: 'it returns false'. Refute it at one input. -/
def killringJoinsWrong : ChangeSpec := { name := "killringJoins", fn := fun _ => fun
  | [d1, d2, d3] => { results := [.lit (.bool false)], args := [d1, d2, d3] }
  | _ => none }
def KillringJoinsWrongFalsely : Prop := killringJoinsRow.holds Try.pinned (OpenSpec.ofChange killringJoinsWrong)

/-- 'lanyardlaw09.KillringOwn': WHATEVER THE INPUT: true; the input reads as it did. -/
def killringOwnSpec : ChangeSpec := { name := "killringOwn", fn := fun _ => fun
  | [d1, d2] => { results := [.lit (.bool true)], args := [d1, d2] }
  | _ => none }
def killringOwnRow : OpenClaim := { program := "ytknekldnipdpeaa", sum := "f5dc3060c91986aff7585d60e5ff27bf3e5dffd5dabc0c631ffe0f3c327c98c2", func := "lanyard/lanyardlaw09.KillringOwn", spec := "killringOwn", unfollowed := true, recurses := true, apart := false }
def KillringOwnSaid : Prop := killringOwnRow.holds Try.pinned (OpenSpec.ofChange killringOwnSpec)

/-- ITS FALSE NEIGHBOUR: 'it returns false'. Refute it at one input. -/
def killringOwnWrong : ChangeSpec := { name := "killringOwn", fn := fun _ => fun
  | [d1, d2] => { results := [.lit (.bool false)], args := [d1, d2] }
  | _ => none }
def KillringOwnWrongFalsely : Prop := killringOwnRow.holds Try.pinned (OpenSpec.ofChange killringOwnWrong)

/-- 'lanyardlaw09.KillringNone': WHATEVER THE INPUT: true; the input reads as it did. -/
def killringNoneSpec : ChangeSpec := { name := "killringNone", fn := fun _ => fun
  | [d] => { results := [.lit (.bool true)], args := [d] }
  | _ => none }
def killringNoneRow : OpenClaim := { program := "ytknekldnipdpeaa", sum := "f5dc3060c91986aff7585d60e5ff27bf3e5dffd5dabc0c631ffe0f3c327c98c2", func := "lanyard/lanyardlaw09.KillringNone", spec := "killringNone", unfollowed := true, recurses := true, apart := false }
def KillringNoneSaid : Prop := killringNoneRow.holds Try.pinned (OpenSpec.ofChange killringNoneSpec)

/-- ITS FALSE NEIGHBOUR: 'it returns false'. Refute it at one input. -/
def killringNoneWrong : ChangeSpec := { name := "killringNone", fn := fun _ => fun
  | [d] => { results := [.lit (.bool false)], args := [d] }
  | _ => none }
def KillringNoneWrongFalsely : Prop := killringNoneRow.holds Try.pinned (OpenSpec.ofChange killringNoneWrong)

/- THE SECOND FORM. 'bulk': how many values and letters a reading holds, each counted each time it is reached (what is shared counts as often as it is met; a slice's spare places count too). A statement '..UptoSaid' is the law's where the arguments, and the package variables that the reading takes, are together of bulk at most 1048576: NARROWER than '..Said'. Prove '..Said' where nothing that the law and all that it calls make is longer than what came in: it says more and counts as full. Else prove '..UptoSaid'. A law counts once. -/
mutual
def uptoBulk {H : Type} : DataW H → Nat
  | .lit (.string bytes) => bytes.length + 1
  | .lit _ => 1
  | .nil => 1
  | .ptr d => uptoBulk d + 1
  | .slice elems spare => uptoBulkAll elems + uptoBulkAll spare + 1
  | .agg parts => uptoBulkAll parts + 1
  | .iface _ d => uptoBulk d + 1
  | .map entries => uptoBulkEntries entries + 1
  | .held _ => 1
def uptoBulkAll {H : Type} : List (DataW H) → Nat
  | [] => 0
  | d :: r => uptoBulk d + uptoBulkAll r
def uptoBulkEntries {H : Type} : List (Lit × DataW H) → Nat
  | [] => 0
  | x :: r => uptoBulkEntry x + uptoBulkEntries r
def uptoBulkEntry {H : Type} : Lit × DataW H → Nat
  | (.string bytes, d) => bytes.length + uptoBulk d + 1
  | (_, d) => uptoBulk d + 1
 end
def uptoSmall : (H : Type) → List (DataW H) → Bool := fun _ ds => decide (uptoBulkAll ds ≤ 1048576)
def OpenSpec.upto (s : _root_.Go.ChangeSpec) : _root_.Go.OpenSpec := { _root_.Go.OpenSpec.ofChange s with cond := some uptoSmall }

/-- 'lanyardlaw09.KillringDoes', WHERE WHAT IT READS IS OF BULK AT MOST 1048576: true; the input reads as it did. -/
def killringDoesUptoRow : OpenClaim := { program := "ytknekldnipdpeaa", sum := "f5dc3060c91986aff7585d60e5ff27bf3e5dffd5dabc0c631ffe0f3c327c98c2", func := "lanyard/lanyardlaw09.KillringDoes", spec := "killringDoes", unfollowed := true, recurses := true, apart := false, narrowed := true }
def KillringDoesUptoSaid : Prop := killringDoesUptoRow.holds Try.pinned (OpenSpec.upto killringDoesSpec)

/-- 'lanyardlaw09.KillringFrom', WHERE WHAT IT READS IS OF BULK AT MOST 1048576: true; the input reads as it did. -/
def killringFromUptoRow : OpenClaim := { program := "ytknekldnipdpeaa", sum := "f5dc3060c91986aff7585d60e5ff27bf3e5dffd5dabc0c631ffe0f3c327c98c2", func := "lanyard/lanyardlaw09.KillringFrom", spec := "killringFrom", unfollowed := true, recurses := true, apart := false, narrowed := true }
def KillringFromUptoSaid : Prop := killringFromUptoRow.holds Try.pinned (OpenSpec.upto killringFromSpec)

/-- 'lanyardlaw09.KillringRound', WHERE WHAT IT READS IS OF BULK AT MOST 1048576: true; the input reads as it did. -/
def killringRoundUptoRow : OpenClaim := { program := "ytknekldnipdpeaa", sum := "f5dc3060c91986aff7585d60e5ff27bf3e5dffd5dabc0c631ffe0f3c327c98c2", func := "lanyard/lanyardlaw09.KillringRound", spec := "killringRound", unfollowed := true, recurses := true, apart := false, narrowed := true }
def KillringRoundUptoSaid : Prop := killringRoundUptoRow.holds Try.pinned (OpenSpec.upto killringRoundSpec)

/-- 'lanyardlaw09.KillringJoins', WHERE WHAT IT READS IS OF BULK AT MOST 1048576: true; the input reads as it did. -/
def killringJoinsUptoRow : OpenClaim := { program := "ytknekldnipdpeaa", sum := "f5dc3060c91986aff7585d60e5ff27bf3e5dffd5dabc0c631ffe0f3c327c98c2", func := "lanyard/lanyardlaw09.KillringJoins", spec := "killringJoins", apart := false, narrowed := true }
def KillringJoinsUptoSaid : Prop := killringJoinsUptoRow.holds Try.pinned (OpenSpec.upto killringJoinsSpec)

/-- 'lanyardlaw09.KillringOwn', WHERE WHAT IT READS IS OF BULK AT MOST 1048576: true; the input reads as it did. -/
def killringOwnUptoRow : OpenClaim := { program := "ytknekldnipdpeaa", sum := "f5dc3060c91986aff7585d60e5ff27bf3e5dffd5dabc0c631ffe0f3c327c98c2", func := "lanyard/lanyardlaw09.KillringOwn", spec := "killringOwn", unfollowed := true, recurses := true, apart := false, narrowed := true }
def KillringOwnUptoSaid : Prop := killringOwnUptoRow.holds Try.pinned (OpenSpec.upto killringOwnSpec)

/-- 'lanyardlaw09.KillringNone', WHERE WHAT IT READS IS OF BULK AT MOST 1048576: true; the input reads as it did. -/
def killringNoneUptoRow : OpenClaim := { program := "ytknekldnipdpeaa", sum := "f5dc3060c91986aff7585d60e5ff27bf3e5dffd5dabc0c631ffe0f3c327c98c2", func := "lanyard/lanyardlaw09.KillringNone", spec := "killringNone", unfollowed := true, recurses := true, apart := false, narrowed := true }
def KillringNoneUptoSaid : Prop := killringNoneUptoRow.holds Try.pinned (OpenSpec.upto killringNoneSpec)

end Rows
end Go.Proofs.Ytknekldnipdpeaa
