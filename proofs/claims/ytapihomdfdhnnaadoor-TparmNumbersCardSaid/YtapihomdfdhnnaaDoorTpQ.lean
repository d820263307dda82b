/-
  The percent language of package tparm, as plain data and plain functions: how what was read is carried out. No program is walked here, and nothing is assumed.
-/
import Derived.Test.YtapihomdfdhnnaaDoorTpP
import Derived.Lib.ItoaNum
import Derived.Lib.Case
namespace Go.Proofs.YtapihomdfdhnnaaDoor
open Go.RowKit Go.Lib

/-- digits to a base of at most 16 -/
def digitP (n : Nat) : UInt8 := if n < 10 then UInt8.ofNat (48 + n) else UInt8.ofNat (87 + n)
def basedP (b : Nat) : Nat → Nat → List UInt8
  | 0, _ => []
  | k + 1, u => if u < b then [digitP u] else basedP b k (u / b) ++ [digitP (u % b)]
def uintP (b : Nat) (u : Nat) : List UInt8 := basedP b 65 u
/-- a number's 32 bits without a sign -/
def bits32 (n : Int) : Nat := (n % 4294967296).toNat
def fillP (c : UInt8) (n : Int) : List UInt8 := List.replicate n.toNat c
def plainDigitsP (v : UInt8) (n : Int) : List UInt8 :=
  if v = 111 then uintP 8 (bits32 n) else if v = 120 then uintP 16 (bits32 n) else if v = 88 then toUpperA (uintP 16 (bits32 n)) else trimPrefix (itoa n) [45]
def digitsP (f : FmtD) (v : UInt8) (n : Int) : List UInt8 :=
  if n = 0 ∧ f.prec = 0 then [] else fillP 48 (f.prec - (plainDigitsP v n).length) ++ plainDigitsP v n
def signP (f : FmtD) (n : Int) : List UInt8 := if n < 0 then [45] else if f.plus then [43] else if f.blank then [32] else []
def prefixP (f : FmtD) (v : UInt8) (n : Int) (ds : List UInt8) : List UInt8 :=
  if v = 100 then signP f n else if f.sharp = false then [] else if v = 111 ∧ hasPrefix ds [48] = false then [48] else if v ≠ 111 ∧ n ≠ 0 then [48, v] else []
def padP (f : FmtD) (s : List UInt8) : List UInt8 := if f.left then s ++ fillP 32 (f.width - s.length) else fillP 32 (f.width - s.length) ++ s
def cutP (f : FmtD) (s : List UInt8) : List UInt8 := if f.prec = -1 then s else s.take f.prec.toNat
def headP (f : FmtD) (v : UInt8) (n : Int) (ds : List UInt8) : List UInt8 :=
  if f.zero = true ∧ f.left = false ∧ f.prec = -1 then prefixP f v n ds ++ fillP 48 (f.width - (prefixP f v n ds).length - ds.length) else prefixP f v n ds
def applyP (f : FmtD) (v : UInt8) (p : PrmD) : List UInt8 :=
  if v = 115 then padP f (cutP f p.text) else padP f (headP f v p.num (digitsP f v p.num) ++ digitsP f v p.num)

/-- what is being evaluated -/
structure MD where
  params : List PrmD
  stack : List PrmD
  out : List UInt8
  depth : Nat
  vars : UInt8 → PrmD
def truthP (b : Bool) : Int := if b then 1 else 0
abbrev w32 (n : Int) : Int := wrap32 n
def quoP (v : UInt8) (x y : Int) : Int := if y = 0 then 0 else if v = 47 then w32 (x.tdiv y) else x.tmod y
def numP1 (p : PrmD) : PrmD := p
def topP (m : MD) : PrmD := m.stack.getLast?.getD prm0
def popM (m : MD) : MD := { m with stack := m.stack.dropLast }
def pushM (m : MD) (p : PrmD) : MD := { m with stack := m.stack ++ [p] }
def paramP (m : MD) (d : Int) : PrmD := if (m.params.length : Int) < d then prm0 else m.params.getD (d - 1).toNat prm0
def incP (i : Nat) (p : PrmD) : PrmD := if i < 2 ∧ p.is = false then { p with num := w32 (p.num + 1) } else p
end Go.Proofs.YtapihomdfdhnnaaDoor
