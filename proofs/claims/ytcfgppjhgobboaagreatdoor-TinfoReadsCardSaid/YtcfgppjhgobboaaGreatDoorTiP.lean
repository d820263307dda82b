/-
  Entries of package tinfo, as plain data: capabilities, extended capabilities, entries; the table of names; what a name gets, what putting a capability makes. No program is walked here, and nothing is assumed.
-/
import Derived.Test.YtcfgppjhgobboaaGreatDoorSplitAt
import Derived.Test.YtcfgppjhgobboaaGreatDoorTmBase
namespace Go.Proofs.YtcfgppjhgobboaaGreatDoor
open Go.RowKit Go.Lib

/-- a capability: its state, its number, its text -/
structure CapD where
  st : Int
  num : Int
  text : List UInt8
deriving DecidableEq
/-- an extended capability -/
structure ExtD where
  kind : Int
  name : List UInt8
  cap : CapD
deriving DecidableEq
/-- an entry -/
structure TermD where
  names : List UInt8
  wide : Bool
  bools : List CapD
  nums : List CapD
  strs : List CapD
  exts : List ExtD
deriving DecidableEq
def cap0 : CapD := ⟨0, 0, []⟩

/-- the names of one row of the table, with their kind and index -/
def rowNames (r : Int × Int × List UInt8) : List (List UInt8 × Int × Int) := (partsAt 32 r.2.2).zipIdx.map fun p => (p.1, r.1, r.2.1 + p.2)
def capTab : List (List UInt8 × Int × Int) := runT.flatMap rowNames
def findTab (l : List (List UInt8 × Int × Int)) (name : List UInt8) : Option (Int × Int) := (l.find? fun p => p.1 == name).map (·.2)
/-- what Place answers -/
def placeP (name : List UInt8) : Option (Int × Int) := findTab capTab name

theorem findTab_append (a b : List (List UInt8 × Int × Int)) (name : List UInt8) : findTab (a ++ b) name = (findTab a name).or (findTab b name) := by
  unfold findTab
  rw [List.find?_append]
  cases a.find? (fun p => p.1 == name) <;> rfl
theorem findTab_none {l : List (List UInt8 × Int × Int)} {name : List UInt8} : findTab l name = none ↔ ∀ p ∈ l, p.1 ≠ name := by
  unfold findTab
  simp
theorem rowNames_get {r : Int × Int × List UInt8} {k : Nat} {n : List UInt8} (h : (partsAt 32 r.2.2)[k]? = some n) : (rowNames r)[k]? = some (n, r.1, r.2.1 + k) := by
  simp [rowNames, List.getElem?_map, List.getElem?_zipIdx, h]
theorem rowNames_length (r : Int × Int × List UInt8) : (rowNames r).length = (partsAt 32 r.2.2).length := by simp [rowNames]
/-- a name that is found in a row, and in none ahead -/
theorem find_hit {l : List (List UInt8 × Int × Int)} {name : List UInt8} {k : Nat} {q : Int × Int} (h : l[k]? = some (name, q)) (ha : ∀ (j : Nat) (n : List UInt8) (p : Int × Int), j < k → l[j]? = some (n, p) → n ≠ name) : findTab l name = some q := by
  induction l generalizing k with
  | nil => simp at h
  | cons x r ih =>
    cases k with
    | zero =>
      simp at h
      subst h
      simp [findTab]
    | succ k =>
      have hx : x.1 ≠ name := ha 0 x.1 x.2 (by omega) rfl
      have := ih (by simpa using h) fun j n p hj hn => ha (j + 1) n p (by omega) (by simpa using hn)
      unfold findTab at this ⊢
      rw [List.find?_cons, show (x.1 == name) = false by simpa using hx]
      exact this
theorem find_miss {l : List (List UInt8 × Int × Int)} {name : List UInt8} (ha : ∀ (j : Nat) (n : List UInt8) (p : Int × Int), l[j]? = some (n, p) → n ≠ name) : findTab l name = none := by
  rw [findTab_none]
  intro p hp
  obtain ⟨j, hj⟩ := List.mem_iff_getElem?.1 hp
  exact ha j p.1 p.2 hj
/-- the table's facts that are found by looking at it -/
theorem capTab_small : (capTab.all fun p => (p.2.1 == 0 || p.2.1 == 1 || p.2.1 == 2) && decide (0 ≤ p.2.2) && decide (p.2.2 ≤ 164) && (p.2.1 == 2 || decide (p.2.2 ≤ 15))) = true := by decide +kernel
theorem capTab_apart : (capTab.all fun p => capTab.all fun q => !(p.2 == q.2) || p.1 == q.1) = true := by decide +kernel
theorem placeP_mem {name : List UInt8} {q : Int × Int} (h : placeP name = some q) : (name, q) ∈ capTab := by
  unfold placeP findTab at h
  obtain ⟨p, hp, rfl⟩ := Option.map_eq_some_iff.1 h
  have h1 := List.mem_of_find?_eq_some hp
  have h2 := List.find?_some hp
  simp at h2
  rw [← h2]
  exact h1
theorem placeP_small {name : List UInt8} {k n : Int} (h : placeP name = some (k, n)) : (k = 0 ∨ k = 1 ∨ k = 2) ∧ 0 ≤ n ∧ n ≤ 164 := by
  have := List.all_eq_true.1 capTab_small _ (placeP_mem h)
  simp at this
  obtain ⟨⟨⟨h1, h2⟩, h3⟩, _⟩ := this
  exact ⟨by rcases h1 with (h1 | h1) | h1 <;> simp [h1], h2, h3⟩
theorem placeP_inj {a b : List UInt8} {q : Int × Int} (ha : placeP a = some q) (hb : placeP b = some q) : a = b := by
  have h1 := List.all_eq_true.1 capTab_apart _ (placeP_mem ha)
  have h2 := List.all_eq_true.1 h1 _ (placeP_mem hb)
  simpa using h2

/-- a list with a capability at its place -/
def placedP (l : List CapD) (n : Nat) (c : CapD) : List CapD := (l ++ List.replicate (n + 1 - l.length) cap0).set n c
def getP (l : List CapD) (n : Nat) : CapD := l.getD n cap0
def extIdx (l : List ExtD) (name : List UInt8) : Option Nat := l.findIdx? fun x => x.name == name
/-- the list for a kind -/
def listOf (t : TermD) (k : Int) : List CapD := if k = 0 then t.bools else if k = 1 then t.nums else t.strs
def withList (t : TermD) (k : Int) (l : List CapD) : TermD := if k = 0 then { t with bools := l } else if k = 1 then { t with nums := l } else { t with strs := l }
/-- what putting makes -/
def putTP (t : TermD) (name : List UInt8) (c : CapD) : Option TermD :=
  match placeP name with
  | some (k, n) => some (withList t k (placedP (listOf t k) n.toNat c))
  | none => match extIdx t.exts name with
    | some i => some { t with exts := t.exts.modify i fun x => { x with cap := c } }
    | none => none
/-- what a name gets: its kind and its capability -/
def findTP (t : TermD) (name : List UInt8) : Option (Int × CapD) :=
  match placeP name with
  | some (k, n) => some (k, getP (listOf t k) n.toNat)
  | none => match extIdx t.exts name with
    | some i => (t.exts[i]?).map fun x => (x.kind, x.cap)
    | none => none

end Go.Proofs.YtcfgppjhgobboaaGreatDoor
