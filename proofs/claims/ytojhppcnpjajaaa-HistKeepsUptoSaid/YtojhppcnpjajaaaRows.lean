/-
  No cell of these rows narrows 'for every input' (looked for: loops, veiled, ifaces, maps, wideKeys, modest, calm, conditions, laid).
  DERIVED. THE GIVEN ROWS OF THIS SEAT. 6 by the template 'for every input the law returns true; each argument reads behind the call as it read before'; 0 by the template 'total and deterministic' (their statements: YtojhppcnpjajaaaTotals.lean).
  GIVEN WITH THE SEED: the statements are not yours to turn. If you find one false, say at which input.
  Laid BY PROGRAM, IN A SANDBOX (cutbox-rows.mjs): the forced cells as the released guide's own fill.sh prints them over the translation c2e1f65558409ab1… (all of the seat's roots in one cut). By AI agents, Wed Nov 11 2026. No macro, syntax, notation, axiom, sorry.
-/
import Derived.Test.YtojhppcnpjajaaaChecked
import GoSem.Claim
import GoSem.ClaimJoined
import GoSem.ClaimMapViews
import Derived.JoinedTies
import Derived.KernelRfl
namespace Go.Proofs.Ytojhppcnpjajaaa
/- THE CELL 'sum', in the pinned program and in every row, IS THE sha256 OF THE DUMP (.gsa) THAT YtojhppcnpjajaaaProg.lean LOADS. Nothing in Lean hashes anything: it is a label: what it is worth is what the hold of that sum in a sandbox is worth. -/
noncomputable def Try.pinned : Pinned := { name := "ytojhppcnpjajaaa", sum := "c2e1f65558409ab17e1f2f90da283bf8153a172f1161cd4bc69964736303c8d7", checked := Try.checked }
namespace Rows
def none {H : Type} : Left H := { results := [], args := [] }

/-- 'lanyardlaw10.HistDoes': WHATEVER THE INPUT: true; the input reads as it did. -/
def histDoesSpec : ChangeSpec := { name := "histDoes", fn := fun _ => fun
  | [d1, d2, d3] => { results := [.lit (.bool true)], args := [d1, d2, d3] }
  | _ => none }
def histDoesRow : OpenClaim := { program := "ytojhppcnpjajaaa", sum := "c2e1f65558409ab17e1f2f90da283bf8153a172f1161cd4bc69964736303c8d7", func := "lanyard/lanyardlaw10.HistDoes", spec := "histDoes", inPlace := ["internal/bytealg.IndexByteString", "internal/bytealg.IndexString"], unfollowed := true, recurses := true, named := ["internal/bytealg.MaxLen"], apart := false }
def HistDoesSaid : Prop := histDoesRow.holds Try.pinned (OpenSpec.ofChange histDoesSpec)

/-- ITS FALSE NEIGHBOUR: 'it returns false'. Refute it at one input. -/
def histDoesWrong : ChangeSpec := { name := "histDoes", fn := fun _ => fun
  | [d1, d2, d3] => { results := [.lit (.bool false)], args := [d1, d2, d3] }
  | _ => none }
def HistDoesWrongFalsely : Prop := histDoesRow.holds Try.pinned (OpenSpec.ofChange histDoesWrong)

/-- 'lanyardlaw10.HistWalks': WHATEVER THE INPUT: true; the input reads as it did. -/
def histWalksSpec : ChangeSpec := { name := "histWalks", fn := fun _ => fun
  | [d1, d2, d3] => { results := [.lit (.bool true)], args := [d1, d2, d3] }
  | _ => none }
def histWalksRow : OpenClaim := { program := "ytojhppcnpjajaaa", sum := "c2e1f65558409ab17e1f2f90da283bf8153a172f1161cd4bc69964736303c8d7", func := "lanyard/lanyardlaw10.HistWalks", spec := "histWalks", unfollowed := true, recurses := true, apart := false }
def HistWalksSaid : Prop := histWalksRow.holds Try.pinned (OpenSpec.ofChange histWalksSpec)

/-- ITS FALSE NEIGHBOUR: 'it returns false'. Refute it at one input. -/
def histWalksWrong : ChangeSpec := { name := "histWalks", fn := fun _ => fun
  | [d1, d2, d3] => { results := [.lit (.bool false)], args := [d1, d2, d3] }
  | _ => none }
def HistWalksWrongFalsely : Prop := histWalksRow.holds Try.pinned (OpenSpec.ofChange histWalksWrong)

/-- 'lanyardlaw10.HistKeeps': WHATEVER THE INPUT: true; the input reads as it did. -/
def histKeepsSpec : ChangeSpec := { name := "histKeeps", fn := fun _ => fun
  | [d1, d2] => { results := [.lit (.bool true)], args := [d1, d2] }
  | _ => none }
def histKeepsRow : OpenClaim := { program := "ytojhppcnpjajaaa", sum := "c2e1f65558409ab17e1f2f90da283bf8153a172f1161cd4bc69964736303c8d7", func := "lanyard/lanyardlaw10.HistKeeps", spec := "histKeeps", unfollowed := true, recurses := true, apart := false }
def HistKeepsSaid : Prop := histKeepsRow.holds Try.pinned (OpenSpec.ofChange histKeepsSpec)

/-- ITS FALSE NEIGHBOUR: 'it returns false'. Refute it at one input. -/
def histKeepsWrong : ChangeSpec := { name := "histKeeps", fn := fun _ => fun
  | [d1, d2] => { results := [.lit (.bool false)], args := [d1, d2] }
  | _ => none }
def HistKeepsWrongFalsely : Prop := histKeepsRow.holds Try.pinned (OpenSpec.ofChange histKeepsWrong)

/-- 'lanyardlaw10.HistFinds': WHATEVER THE INPUT: true; the input reads as it did. -/
def histFindsSpec : ChangeSpec := { name := "histFinds", fn := fun _ => fun
  | [d1, d2, d3, d4, d5] => { results := [.lit (.bool true)], args := [d1, d2, d3, d4, d5] }
  | _ => none }
def histFindsRow : OpenClaim := { program := "ytojhppcnpjajaaa", sum := "c2e1f65558409ab17e1f2f90da283bf8153a172f1161cd4bc69964736303c8d7", func := "lanyard/lanyardlaw10.HistFinds", spec := "histFinds", inPlace := ["internal/bytealg.IndexByteString", "internal/bytealg.IndexString"], unfollowed := true, recurses := true, named := ["internal/bytealg.MaxLen"], apart := false }
def HistFindsSaid : Prop := histFindsRow.holds Try.pinned (OpenSpec.ofChange histFindsSpec)

/-- ITS FALSE NEIGHBOUR: 'it returns false'. Refute it at one input. -/
def histFindsWrong : ChangeSpec := { name := "histFinds", fn := fun _ => fun
  | [d1, d2, d3, d4, d5] => { results := [.lit (.bool false)], args := [d1, d2, d3, d4, d5] }
  | _ => none }
def HistFindsWrongFalsely : Prop := histFindsRow.holds Try.pinned (OpenSpec.ofChange histFindsWrong)

/-- 'lanyardlaw10.HistComesBack': WHATEVER THE INPUT: true; the input reads as it did. -/
def histComesBackSpec : ChangeSpec := { name := "histComesBack", fn := fun _ => fun
  | [d1, d2] => { results := [.lit (.bool true)], args := [d1, d2] }
  | _ => none }
def histComesBackRow : OpenClaim := { program := "ytojhppcnpjajaaa", sum := "c2e1f65558409ab17e1f2f90da283bf8153a172f1161cd4bc69964736303c8d7", func := "lanyard/lanyardlaw10.HistComesBack", spec := "histComesBack", unfollowed := true, recurses := true, apart := false }
def HistComesBackSaid : Prop := histComesBackRow.holds Try.pinned (OpenSpec.ofChange histComesBackSpec)

/-- ITS FALSE NEIGHBOUR: 'it returns false'. Refute it at one input. -/
def histComesBackWrong : ChangeSpec := { name := "histComesBack", fn := fun _ => fun
  | [d1, d2] => { results := [.lit (.bool false)], args := [d1, d2] }
  | _ => none }
def HistComesBackWrongFalsely : Prop := histComesBackRow.holds Try.pinned (OpenSpec.ofChange histComesBackWrong)

/-- 'lanyardlaw10.HistNone': WHATEVER THE INPUT: true; the input reads as it did. -/
def histNoneSpec : ChangeSpec := { name := "histNone", fn := fun _ => fun
  | [d] => { results := [.lit (.bool true)], args := [d] }
  | _ => none }
def histNoneRow : OpenClaim := { program := "ytojhppcnpjajaaa", sum := "c2e1f65558409ab17e1f2f90da283bf8153a172f1161cd4bc69964736303c8d7", func := "lanyard/lanyardlaw10.HistNone", spec := "histNone", inPlace := ["internal/bytealg.IndexByteString", "internal/bytealg.IndexString"], unfollowed := true, recurses := true, named := ["internal/bytealg.MaxLen"], apart := false }
def HistNoneSaid : Prop := histNoneRow.holds Try.pinned (OpenSpec.ofChange histNoneSpec)

/-- ITS FALSE NEIGHBOUR: 'it returns false'. Refute it at one input. -/
def histNoneWrong : ChangeSpec := { name := "histNone", fn := fun _ => fun
  | [d] => { results := [.lit (.bool false)], args := [d] }
  | _ => none }
def HistNoneWrongFalsely : Prop := histNoneRow.holds Try.pinned (OpenSpec.ofChange histNoneWrong)

/- THE SECOND FORM. 'bulk': how many values and letters a reading holds, each counted each time it is reached (what is shared counts as often as it is met; a slice's spare places count too). A statement '..UptoSaid' is the law's where the arguments, and the package variables that the reading takes, are together of bulk at most 1048576: NARROWER than '..Said'. Prove '..Said' where nothing that the law and all that it calls make is longer than what came in: it says more and counts as full. Else prove '..UptoSaid'. A law counts once. -/
mutual
def uptoBulk {H : Type} : DataW H → Nat
  | .lit (.string bytes) => bytes.length + 1
  | .lit _ => 1
  | .nil => 1
  | .ptr d => uptoBulk d + 1
  | .slice elems spare => uptoBulkAll elems + uptoBulkAll spare + 1
  | .agg parts => uptoBulkAll parts + 1
  | .iface _ d => uptoBulk d + 1
  | .map entries => uptoBulkEntries entries + 1
  | .held _ => 1
def uptoBulkAll {H : Type} : List (DataW H) → Nat
  | [] => 0
  | d :: r => uptoBulk d + uptoBulkAll r
def uptoBulkEntries {H : Type} : List (Lit × DataW H) → Nat
  | [] => 0
  | x :: r => uptoBulkEntry x + uptoBulkEntries r
def uptoBulkEntry {H : Type} : Lit × DataW H → Nat
  | (.string bytes, d) => bytes.length + uptoBulk d + 1
  | (_, d) => uptoBulk d + 1
 end
def uptoSmall : (H : Type) → List (DataW H) → Bool := fun _ ds => decide (uptoBulkAll ds ≤ 1048576)
def OpenSpec.upto (s : _root_.Go.ChangeSpec) : _root_.Go.OpenSpec := { _root_.Go.OpenSpec.ofChange s with cond := some uptoSmall }

/-- 'lanyardlaw10.HistDoes', WHERE WHAT IT READS IS OF BULK AT MOST 1048576: true; the input reads as it did. -/
def histDoesUptoRow : OpenClaim := { program := "ytojhppcnpjajaaa", sum := "c2e1f65558409ab17e1f2f90da283bf8153a172f1161cd4bc69964736303c8d7", func := "lanyard/lanyardlaw10.HistDoes", spec := "histDoes", inPlace := ["internal/bytealg.IndexByteString", "internal/bytealg.IndexString"], unfollowed := true, recurses := true, named := ["internal/bytealg.MaxLen"], apart := false, narrowed := true }
def HistDoesUptoSaid : Prop := histDoesUptoRow.holds Try.pinned (OpenSpec.upto histDoesSpec)

/-- 'lanyardlaw10.HistWalks', WHERE WHAT IT READS IS OF BULK AT MOST 1048576: true; the input reads as it did. -/
def histWalksUptoRow : OpenClaim := { program := "ytojhppcnpjajaaa", sum := "c2e1f65558409ab17e1f2f90da283bf8153a172f1161cd4bc69964736303c8d7", func := "lanyard/lanyardlaw10.HistWalks", spec := "histWalks", unfollowed := true, recurses := true, apart := false, narrowed := true }
def HistWalksUptoSaid : Prop := histWalksUptoRow.holds Try.pinned (OpenSpec.upto histWalksSpec)

/-- 'lanyardlaw10.HistKeeps', WHERE WHAT IT READS IS OF BULK AT MOST 1048576: true; the input reads as it did. -/
def histKeepsUptoRow : OpenClaim := { program := "ytojhppcnpjajaaa", sum := "c2e1f65558409ab17e1f2f90da283bf8153a172f1161cd4bc69964736303c8d7", func := "lanyard/lanyardlaw10.HistKeeps", spec := "histKeeps", unfollowed := true, recurses := true, apart := false, narrowed := true }
def HistKeepsUptoSaid : Prop := histKeepsUptoRow.holds Try.pinned (OpenSpec.upto histKeepsSpec)

/-- 'lanyardlaw10.HistFinds', WHERE WHAT IT READS IS OF BULK AT MOST 1048576: true; the input reads as it did. -/
def histFindsUptoRow : OpenClaim := { program := "ytojhppcnpjajaaa", sum := "c2e1f65558409ab17e1f2f90da283bf8153a172f1161cd4bc69964736303c8d7", func := "lanyard/lanyardlaw10.HistFinds", spec := "histFinds", inPlace := ["internal/bytealg.IndexByteString", "internal/bytealg.IndexString"], unfollowed := true, recurses := true, named := ["internal/bytealg.MaxLen"], apart := false, narrowed := true }
def HistFindsUptoSaid : Prop := histFindsUptoRow.holds Try.pinned (OpenSpec.upto histFindsSpec)

/-- 'lanyardlaw10.HistComesBack', WHERE WHAT IT READS IS OF BULK AT MOST 1048576: true; the input reads as it did. -/
def histComesBackUptoRow : OpenClaim := { program := "ytojhppcnpjajaaa", sum := "c2e1f65558409ab17e1f2f90da283bf8153a172f1161cd4bc69964736303c8d7", func := "lanyard/lanyardlaw10.HistComesBack", spec := "histComesBack", unfollowed := true, recurses := true, apart := false, narrowed := true }
def HistComesBackUptoSaid : Prop := histComesBackUptoRow.holds Try.pinned (OpenSpec.upto histComesBackSpec)

/-- 'lanyardlaw10.HistNone', WHERE WHAT IT READS IS OF BULK AT MOST 1048576: true; the input reads as it did. -/
def histNoneUptoRow : OpenClaim := { program := "ytojhppcnpjajaaa", sum := "c2e1f65558409ab17e1f2f90da283bf8153a172f1161cd4bc69964736303c8d7", func := "lanyard/lanyardlaw10.HistNone", spec := "histNone", inPlace := ["internal/bytealg.IndexByteString", "internal/bytealg.IndexString"], unfollowed := true, recurses := true, named := ["internal/bytealg.MaxLen"], apart := false, narrowed := true }
def HistNoneUptoSaid : Prop := histNoneUptoRow.holds Try.pinned (OpenSpec.upto histNoneSpec)

end Rows
end Go.Proofs.Ytojhppcnpjajaaa
