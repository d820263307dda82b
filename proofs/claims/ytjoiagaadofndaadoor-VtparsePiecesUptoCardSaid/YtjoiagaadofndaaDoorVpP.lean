/-
  Plain functions: what one byte does to a parser of control sequences. No program is spoken of here, and nothing is assumed.
-/
import Derived.Test.YtjoiagaadofndaaDoorPutP
namespace Go.Proofs.YtjoiagaadofndaaDoor

/-- what a parser is within, what its decoder holds, and what it has collected -/
structure PS where
  st : Nat
  held : List UInt8
  priv : UInt8
  fin : UInt8
  ps : List Int
  beyond : Bool
  inter : List UInt8
  text : List UInt8
/-- an action -/
structure ActD where
  kind : Nat
  rune : Int
  fin : UInt8
  priv : UInt8
  ps : List Int
  inter : List UInt8
  text : List UInt8
deriving DecidableEq

def ps0 : PS := ⟨0, [], 0, 0, [], false, [], []⟩
def noneA : ActD := ⟨0, 0, 0, 0, [], [], []⟩
def exeA (b : UInt8) : ActD := ⟨2, 0, b, 0, [], [], []⟩
def printA (r : Int) : ActD := ⟨1, r, 0, 0, [], [], []⟩
def actOf (S : PS) (kind : Nat) : ActD := ⟨kind, 0, S.fin, S.priv, S.ps, S.inter, S.text⟩

/-- what a byte is within a sequence -/
def classP (b : UInt8) : Nat :=
  if b < 32 then 0 else if b < 48 then 1 else if b = 58 then 3 else if b < 60 then 2 else if b < 64 then 4 else if b < 127 then 5 else 6
def addInterP (S : PS) (b : UInt8) : PS := if S.inter.length < 2 then { S with inter := S.inter ++ [b] } else S
def addTextP (S : PS) (b : UInt8) : PS := if S.text.length < 1024 then { S with text := S.text ++ [b] } else S
def beginP (S : PS) : PS := if S.ps.length = 16 then { S with beyond := true } else { S with ps := S.ps ++ [-1] }
def digitP (S : PS) (b : UInt8) : PS :=
  if S.beyond = true then S else { S with ps := S.ps.dropLast ++ [min (max (S.ps.getLastD 0) 0 * 10 + ((b.toNat : Int) - 48)) 65535] }
def begunP (S : PS) : PS := if S.ps.length = 0 then beginP S else S
def putParP (S : PS) (b : UInt8) : PS := if b = 59 then beginP (begunP S) else digitP (begunP S) b
/-- the state of a DCS that is the same as one of a CSI -/
def enterP (S : PS) (next : Nat) : PS := { S with st := if 7 ≤ S.st then next + 4 else next }
def freshP (S : PS) : PS := { S with priv := 0, fin := 0, ps := [], beyond := false, inter := [], text := [] }

def groundA (b : UInt8) : ActD := if classP b = 0 then exeA b else if classP b = 6 then noneA else printA b.toNat
def introP (b : UInt8) : Nat :=
  if b = 91 then 3 else if b = 93 then 12 else if b = 80 then 7 else if b = 88 then 13 else if b = 94 then 13 else if b = 95 then 13 else if b = 92 then 0 else 1
def inEscapeP (S : PS) (b : UInt8) : PS × ActD :=
  if classP b = 0 then (S, exeA b) else if classP b = 1 then ({ addInterP S b with st := 2 }, noneA) else if classP b = 6 then (S, noneA)
  else ({ S with fin := b, st := 0 }, actOf { S with fin := b } 3)
def inSeqP (S : PS) (b : UInt8) : PS × ActD :=
  if classP b = 0 ∧ S.st < 7 then (S, exeA b) else if classP b ≠ 5 then (S, noneA)
  else if S.st = 6 then ({ S with fin := b, st := 0 }, noneA) else if S.st = 10 then ({ S with fin := b, st := 13 }, noneA)
  else if S.st = 7 ∨ S.st = 8 ∨ S.st = 9 then ({ S with fin := b, st := 11 }, noneA)
  else ({ S with fin := b, st := 0 }, actOf { S with fin := b } 4)
def inOscP (S : PS) (b : UInt8) : PS × ActD :=
  if b = 7 then ({ S with st := 0 }, actOf S 5) else if classP b = 0 then (S, noneA) else (addTextP S b, noneA)
def interTail (S : PS) (b : UInt8) : PS × ActD :=
  if classP b = 1 then (enterP (addInterP S b) 5, noneA) else if classP b = 2 ∨ classP b = 3 ∨ classP b = 4 then (enterP S 6, noneA) else inSeqP S b
def paramTail (S : PS) (b : UInt8) : PS × ActD := if classP b = 2 then (enterP (putParP S b) 4, noneA) else interTail S b
def inStateP (S : PS) (b : UInt8) : PS × ActD :=
  match S.st with
  | 0 => (S, groundA b)
  | 1 => if introP b ≠ 1 then ({ S with st := introP b }, noneA) else inEscapeP S b
  | 2 => inEscapeP S b
  | 3 | 7 => if classP b = 4 then (enterP { S with priv := b } 4, noneA) else paramTail S b
  | 4 | 8 => paramTail S b
  | 5 | 9 => interTail S b
  | 6 | 10 => inSeqP S b
  | 11 => if b ≠ 127 then (addTextP S b, noneA) else (S, noneA)
  | 12 => inOscP S b
  | _ => (S, noneA)
def endTextA (S : PS) : ActD := if S.st = 12 then actOf S 5 else if S.st = 11 then actOf S 6 else noneA
def stepP (S : PS) (b : UInt8) : PS × ActD :=
  if b = 24 ∨ b = 26 then ({ S with st := 0 }, exeA b) else if b = 27 then ({ freshP S with st := 1 }, endTextA S) else inStateP S b

def ctrlP (r : Int) : Bool := decide (0 ≤ r ∧ r < 32) || decide (127 ≤ r ∧ r ≤ 159)
def printsP (l : List Int) : List ActD := (l.filter fun r => !ctrlP r).map printA
def oneA (a : ActD) : List ActD := if a.kind = 0 then [] else [a]
/-- what one byte tells -/
def takeP (S : PS) (b : UInt8) : PS × List ActD :=
  if S.st = 0 ∧ 128 ≤ b then ({ S with held := (putAll (S.held ++ [b])).2 }, printsP (putAll (S.held ++ [b])).1)
  else if S.st = 0 then ((stepP { S with held := [] } b).1, printsP (decAll S.held) ++ oneA (stepP { S with held := [] } b).2)
  else ((stepP S b).1, oneA (stepP S b).2)
def putPS : PS → List UInt8 → PS × List ActD
  | S, [] => (S, [])
  | S, b :: l => ((putPS (takeP S b).1 l).1, (takeP S b).2 ++ (putPS (takeP S b).1 l).2)
def allP (l : List UInt8) : List ActD := (putPS ps0 l).2 ++ printsP (decAll (putPS ps0 l).1.held)
def groundP (S : PS) : Bool := decide (S.st = 0) && decide (S.held = [])

theorem putPS_append (l m : List UInt8) : ∀ S, putPS S (l ++ m) = ((putPS (putPS S l).1 m).1, (putPS S l).2 ++ (putPS (putPS S l).1 m).2) := by
  induction l with
  | nil => intro S; simp [putPS]
  | cons b l ih => intro S; simp [putPS, ih]

end Go.Proofs.YtjoiagaadofndaaDoor
