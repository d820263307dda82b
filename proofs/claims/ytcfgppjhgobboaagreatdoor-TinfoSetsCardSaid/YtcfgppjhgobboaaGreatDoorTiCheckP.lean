/-
  What Check of package tinfo finds, as plain functions. No program is walked here, and nothing is assumed.
-/
import Derived.Test.YtcfgppjhgobboaaGreatDoorTiLive
namespace Go.Proofs.YtcfgppjhgobboaaGreatDoor
open Go.RowKit Go.Lib

def longText (l : List CapD) : Bool := l.any fun c => decide (1000 < c.text.length)
def longExt (l : List ExtD) : Bool := l.any fun x => decide (1000 < x.name.length) || decide (1000 < x.cap.text.length)
def tooLongP (t : TermD) : Bool :=
  (decide (511 < t.names.length) || decide (64 < t.bools.length) || decide (64 < t.nums.length) || decide (512 < t.strs.length) || decide (256 < t.exts.length)) || longExt t.exts || (longText t.bools || longText t.nums || longText t.strs)
def topP (w : Bool) : Int := if w then 2147483647 else 32767
def hasEndP (s : List UInt8) : Bool := decide (0 ≤ indexByte s 0)
def isNameP (s : List UInt8) : Bool := !s.isEmpty && !hasEndP s
def bareP (c : CapD) : Bool := c.num == 0 && c.text.isEmpty
def fitsP (c : CapD) (kind top : Int) : Bool :=
  if c.st = 1 then
    if kind = 0 then bareP c else if kind = 1 then decide (0 ≤ c.num) && decide (c.num ≤ top) && c.text.isEmpty else c.num == 0 && !hasEndP c.text
  else bareP c && (c.st == 0 || c.st == 2)
def addP (seen : List (List UInt8)) (name : List UInt8) : Bool := isNameP name && !(seen.contains name) && (placeP name).isNone
def extOk (top : Int) (seen : List (List UInt8)) (least : Int) (x : ExtD) : Bool := !(decide (x.kind < least) || decide (2 < x.kind) || !fitsP x.cap x.kind top || !addP seen x.name)
def extsFitP (top : Int) : List (List UInt8) → Int → List ExtD → Bool
  | _, _, [] => true
  | seen, least, x :: r => extOk top seen least x && extsFitP top (seen ++ [x.name]) x.kind r
def validP (t : TermD) : Bool :=
  isNameP t.names && (t.bools.all fun c => fitsP c 0 (topP t.wide)) && (t.nums.all fun c => fitsP c 1 (topP t.wide)) && (t.strs.all fun c => fitsP c 2 (topP t.wide)) && extsFitP (topP t.wide) [] 0 t.exts
def checkP (t : TermD) : Int := if tooLongP t then 3 else if validP t then 0 else 1

end Go.Proofs.YtcfgppjhgobboaaGreatDoor
