/-
  What Read of package tinfo finds, as plain functions. No program is walked here, and nothing is assumed.
-/
import Derived.Test.YtcfgppjhgobboaaGreatDoorTmFit
namespace Go.Proofs.YtcfgppjhgobboaaGreatDoor
open Go.RowKit Go.Lib

def short2 (a b : UInt8) : Int := if b.toNat < 128 then ((a.toNat + 256 * b.toNat : Nat) : Int) else ((a.toNat + 256 * b.toNat : Nat) : Int) - 65536
def int4 (a b c d : UInt8) : Int := if d.toNat < 128 then ((a.toNat + 256 * b.toNat + 65536 * c.toNat + 16777216 * d.toNat : Nat) : Int) else ((a.toNat + 256 * b.toNat + 65536 * c.toNat + 16777216 * d.toNat : Nat) : Int) - 4294967296
def byteAt (b : List UInt8) (i : Nat) : UInt8 := b.getD i 0
def shortAt (b : List UInt8) (i : Nat) : Int := short2 (byteAt b i) (byteAt b (i + 1))
def wideAt (b : List UInt8) (i : Nat) : Int := int4 (byteAt b i) (byteAt b (i + 1)) (byteAt b (i + 2)) (byteAt b (i + 3))
def sizeOf (wide : Bool) : Nat := if wide then 4 else 2
def numAt (wide : Bool) (b : List UInt8) (i : Nat) : Int := if wide then wideAt b i else shortAt b i
/-- n numbers of so many bytes, from a place on -/
def numsAt (wide : Bool) (b : List UInt8) (p n : Nat) : List Int := (List.range n).map fun i => numAt wide b (p + sizeOf wide * i)
def shortsAt (b : List UInt8) (p n : Nat) : List Int := numsAt false b p n
def stateOf (n : Int) : Int := if 0 ≤ n then 1 else if n = -2 then 2 else 0
def capOfNum (n : Int) : CapD := ⟨stateOf n, if 0 ≤ n then n else 0, []⟩
def capOfFlag (x : UInt8) : CapD := ⟨if x = 0 then 0 else if x = 254 then 2 else 1, 0, []⟩
def flagsAt (b : List UInt8) (p n : Nat) : List CapD := (List.range n).map fun i => capOfFlag (byteAt b (p + i))
/-- the text that begins at an index of a table -/
def textP (tab : List UInt8) (i : Int) : Option (List UInt8) :=
  if i < 0 ∨ (tab.length : Int) < i then none
  else
    let t := (tab.drop i.toNat).takeWhile fun c => c != 0
    if i.toNat + t.length < tab.length ∧ t.length ≤ 1000 then some t else none
def textCap (tab : List UInt8) (i : Int) : Option CapD := if 0 ≤ i then (textP tab i).map fun t => ⟨1, 0, t⟩ else some ⟨stateOf i, 0, []⟩
def textsOf (tab : List UInt8) (l : List Int) : List CapD := l.map fun i => (textCap tab i).getD cap0
/-- the first number below n that has a property -/
def firstBad (n : Nat) (p : Nat → Bool) : Option Nat := (List.range n).find? p
theorem firstBad_none {n : Nat} {p : Nat → Bool} : firstBad n p = none ↔ ∀ i, i < n → p i = false := by
  unfold firstBad
  rw [List.find?_eq_none]
  constructor
  · intro h i hi
    have := h i (List.mem_range.2 hi)
    simpa using this
  · intro h i hi
    rw [h i (List.mem_range.1 hi)]
    simp
theorem firstBad_some {n i : Nat} {p : Nat → Bool} (hi : i < n) (hp : p i = true) (ha : ∀ j, j < i → p j = false) : firstBad n p = some i := by
  unfold firstBad
  rw [List.find?_range_eq_some]
  exact ⟨hp, List.mem_range.2 hi, fun j hj => by rw [ha j hj]; rfl⟩
theorem firstBad_of {n i : Nat} {p : Nat → Bool} (h : firstBad n p = some i) : i < n ∧ p i = true ∧ ∀ j, j < i → p j = false := by
  unfold firstBad at h
  rw [List.find?_range_eq_some] at h
  obtain ⟨h1, h2, h3⟩ := h
  exact ⟨List.mem_range.1 h2, h1, fun j hj => by have := h3 j hj; simpa using this⟩

def mostOf (i : Nat) : Int := [512, 64, 64, 512, 32767].getD i 0
def countBad (b : List UInt8) (i : Nat) : Bool := decide (shortAt b (2 + 2 * i) < 0) || decide (mostOf i < shortAt b (2 + 2 * i)) || (i == 0 && shortAt b (2 + 2 * i) == 0)
def evenUp (n : Nat) : Nat := n + n % 2
/-- where the sections of a file lie -/
structure Lay where
  bools : Nat
  nums : Nat
  strs : Nat
  tab : Nat
  fin : Nat
def lay1 (wide : Bool) (c : Nat → Nat) : Lay :=
  let p := 12 + c 0
  let q := evenUp (p + c 1)
  let r := q + sizeOf wide * c 2
  let s := r + 2 * c 3
  ⟨p, q, r, s, s + c 4⟩
/-- where those of the extended part lie, and its names -/
structure Lay2 where
  bools : Nat
  nums : Nat
  strs : Nat
  names : Nat
  tab : Nat
  fin : Nat
def lay2 (wide : Bool) (start : Nat) (c : Nat → Nat) : Lay2 :=
  let p := start + 10
  let q := evenUp (p + c 0)
  let r := q + sizeOf wide * c 1
  let s := r + 2 * c 2
  let u := s + 2 * (c 0 + c 1 + c 2)
  ⟨p, q, r, s, u, u + c 4⟩
def cnt (b : List UInt8) (p : Nat) (i : Nat) : Nat := (shortAt b (p + 2 * i)).toNat
/-- a part of a list -/
def part (b : List UInt8) (p n : Nat) : List UInt8 := (b.drop p).take n
/-- names that end with their only byte 0 -/
def namesBad (s : List UInt8) : Bool := !(decide (1 < s.length) && indexByte s 0 == (s.length : Int) - 1)
def extBad (b : List UInt8) (p : Nat) (i : Nat) : Bool := decide (shortAt b (p + 2 * i) < 0) || (i == 2 && decide (256 < shortAt b p + shortAt b (p + 2) + shortAt b (p + 4)))
def presentP (l : List Int) : Nat := l.countP fun i => decide (0 ≤ i)
/-- where the names begin -/
def endOf : List Int → List CapD → Int × Int → Int × Int
  | i :: l, c :: r, (last, e) => endOf l r (if last < i then (i, i + c.text.length + 1) else (last, e))
  | _, _, q => q
def nameOf (tab : List UInt8) (i : Int) : List UInt8 := (textP tab i).getD []
def nameBad (tab : List UInt8) (l : List Int) (i : Nat) : Bool := (textP tab (l.getD i 0)).isNone || !addP ((l.take i).map (nameOf tab)) (nameOf tab (l.getD i 0))
def extsFrom (kind : Int) (names : List (List UInt8)) (caps : List CapD) : List ExtD := (names.zip caps).map fun p => ⟨kind, p.1, p.2⟩
def extsOf (names : List (List UInt8)) (f n s : List CapD) : List ExtD :=
  extsFrom 0 names f ++ extsFrom 1 (names.drop f.length) n ++ extsFrom 2 (names.drop (f.length + n.length)) s
/-- the extended part: its capabilities and where it ends, or the first flaw -/
def readExt (wide : Bool) (b : List UInt8) (start : Nat) : Except (Nat × Int) (List ExtD × Nat) :=
  if b.length < start + 10 then .error (b.length, 31) else
  match firstBad 5 (extBad b start) with
  | some i => .error (start + 2 * i, 32)
  | none =>
    let c := cnt b start
    let l := lay2 wide start c
    if b.length < l.fin then .error (b.length, 31) else
    let tab := part b l.tab (c 4)
    let is := shortsAt b l.strs (c 2)
    let all := c 0 + c 1 + c 2
    if c 3 ≠ presentP is + all then .error (start + 6, 32) else
    match firstBad (c 2) fun i => (textCap tab (is.getD i 0)).isNone with
    | some i => .error (l.strs + 2 * i, 33)
    | none =>
      let strs := textsOf tab is
      let tab2 := tab.drop (endOf is strs (-1, 0)).2.toNat
      let ps := shortsAt b l.names all
      match firstBad all (nameBad tab2 ps) with
      | some i => .error (l.names + 2 * i, 33)
      | none => .ok (extsOf (ps.map (nameOf tab2)) (flagsAt b l.bools (c 0)) ((numsAt wide b l.nums (c 1)).map capOfNum) strs, l.fin)
/-- the first part: the entry without its extended capabilities and where it ends, or the first flaw -/
def readFirst (b : List UInt8) : Except (Nat × Int) (TermD × Nat) :=
  if b.length < 12 then .error (b.length, 31) else
  if shortAt b 0 ≠ 282 ∧ shortAt b 0 ≠ 542 then .error (0, 30) else
  match firstBad 5 (countBad b) with
  | some i => .error (2 + 2 * i, 32)
  | none =>
    let wide := decide (shortAt b 0 = 542)
    let c := cnt b 2
    let l := lay1 wide c
    if b.length < l.fin then .error (b.length, 31) else
    let names := part b 12 (c 0)
    if namesBad names then .error (12, 33) else
    let tab := part b l.tab (c 4)
    let is := shortsAt b l.strs (c 3)
    match firstBad (c 3) fun i => (textCap tab (is.getD i 0)).isNone with
    | some i => .error (l.strs + 2 * i, 33)
    | none => .ok (⟨names.take (c 0 - 1), wide, flagsAt b l.bools (c 1), (numsAt wide b l.nums (c 2)).map capOfNum, textsOf tab is, []⟩, l.fin)
def readAll (b : List UInt8) : Except (Nat × Int) TermD :=
  match readFirst b with
  | .error e => .error e
  | .ok (t, fin) =>
    if b.length = fin ∨ b.length = evenUp fin then .ok t else
    match readExt t.wide b (evenUp fin) with
    | .error e => .error e
    | .ok (x, fin2) => if fin2 < b.length then .error (fin2, 34) else .ok { t with exts := x }
def term00 : TermD := ⟨[], false, [], [], [], []⟩
/-- what Read returns -/
def readP (b : List UInt8) : TermD × Int × Int := match readAll b with
  | .error (p, e) => (term00, (p : Int), e)
  | .ok t => (t, 0, 0)

end Go.Proofs.YtcfgppjhgobboaaGreatDoor
