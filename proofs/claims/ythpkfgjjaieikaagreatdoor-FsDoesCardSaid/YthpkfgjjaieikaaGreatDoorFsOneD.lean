/-
  An operation of a script, and what it does, as plain functions. No program is walked here, and nothing is assumed.
-/
import Derived.Test.YthpkfgjjaieikaaGreatDoorFsClone
import Derived.Test.YthpkfgjjaieikaaGreatDoorFsOp
namespace Go.Proofs.YthpkfgjjaieikaaGreatDoor
open Go.RowKit Go.Shelf Go.Lib Go.Maps

/-- an operation of a script -/
structure OpD where
  d : Int
  p : List UInt8
  q : List UInt8
  B : Value
  c : List UInt8
  k : Int
  i : Int
  j : Int
abbrev OpD.val (o : OpD) : Value := .agg #[.int .i64 o.d, str o.p, str o.q, o.B, .int .i64 o.k, .int .i64 o.i, .int .i64 o.j]
/-- what it does: the answer, the files, what is left -/
def OneRes (es : List Ent) (s : St) (o : OpD) (r : Int) (es' : List Ent) (s' : St) : Prop :=
  if o.d = 0 then r = (readP es s o.p).2.1 ∧ es' = es ∧ s' = (readP es s o.p).2.2
  else if o.d = 1 then r = (putP es s o.p o.c false).1 ∧ s' = (putP es s o.p o.c false).2.2 ∧ PutEs es o.p (putP es s o.p o.c false).2.1 es'
  else if o.d = 2 then r = (putP es s o.p o.c true).1 ∧ s' = (putP es s o.p o.c true).2.2 ∧ PutEs es o.p (putP es s o.p o.c true).2.1 es'
  else if o.d = 3 then (r, es', s') = renameP es s o.p o.q
  else if o.d = 4 then (r, es', s') = removeP es s o.p
  else if o.d = 5 then r = (listP es s o.p).2.1 ∧ es' = es ∧ s' = (listP es s o.p).2.2
  else if o.d = 6 then r = (setP s o.k o.i o.j).1 ∧ es' = es ∧ s' = (setP s o.k o.i o.j).2
  else if o.d = 7 then r = (restartP s).1 ∧ es' = es ∧ s' = (restartP s).2
  else r = 0 ∧ es' = es ∧ s' = s
def OnePost (w : World) (FP : Nat → Prop) (b bm : Nat) (es : List Ent) (s : St) (o : OpD) (e : Ending) (w' : World) : Prop :=
  ∃ r es' s', e = .returned (.int .i64 r) ∧ FsAt w' (fun k => FP k ∨ w.heap.size ≤ k) b bm es' s' ∧ Touch FP w w' ∧ OneRes es s o r es' s'

end Go.Proofs.YthpkfgjjaieikaaGreatDoor
