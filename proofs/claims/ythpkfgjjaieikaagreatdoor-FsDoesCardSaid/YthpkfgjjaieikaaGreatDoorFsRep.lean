/-
  A file system of package simfs in memory: its entries, its cells, and what keeps them. No program is walked here, and nothing is assumed.
-/
import Derived.Test.YthpkfgjjaieikaaGreatDoorRange
import Derived.Test.YthpkfgjjaieikaaGreatDoorFsP
import Derived.Test.YthpkfgjjaieikaaGreatDoorChecked
import Derived.Maps.OwnSet
import Derived.Maps.RangeWalk
import Derived.Maps.AppendAt
import Derived.Laws.OwnMore
import Derived.Lib.Hide
namespace Go.Proofs.YthpkfgjjaieikaaGreatDoor
open Go.RowKit Go.Lib Go.Maps

/-- a file: its path, the slice that holds its bytes, its bytes -/
structure Ent where
  path : List UInt8
  val : Value
  data : List UInt8
/-- what a file system holds besides -/
structure St where
  left : Int
  kind : Int
  keep : Int
  calls : Int
  down : Bool

/-- bytes as values -/
def byteVals (s : List UInt8) : List Value := s.map fun b => .int .u8 b.toNat
theorem byteVals_length (s : List UInt8) : (byteVals s).length = s.length := List.length_map _
theorem byteVals_one (s : List UInt8) : ∀ u ∈ byteVals s, u.oneCell' = true := by
  intro u hu
  obtain ⟨b, _, rfl⟩ := List.mem_map.1 hu
  rfl
theorem byteVals_append (a b : List UInt8) : byteVals (a ++ b) = byteVals a ++ byteVals b := List.map_append

/-- an element of the map is told by itself -/
def heldR (v : Value) : Option (DataW Value × List MemPlace) := some (.held v, [])
def toL (es : List Ent) : List (Lit × DataW Value) := es.map fun x => (.string x.path, .held x.val)
def toD (es : List Ent) : DataW Value := .map (toL es)
theorem law : Keyed Tryz.prog 9 := string_keyed Tryz.underlying9
theorem zeroE (w : World) : (zeroValue 30).run Tryz.prog w = .ok (.slice none 0 0) w := by kernel_rfl
theorem keyStr (l : List UInt8) (h : l.length ≤ maxLen) : keyOf Tryz.prog 9 (.string ⟨l.toArray⟩) = some (.string l) := Go.WideMaps.keyOf_string_mk Tryz.underlying9 (s := ⟨l.toArray⟩) h

/-- the file at a path -/
def findE (es : List Ent) (p : List UInt8) : Option Ent := es.find? fun x => x.path == p
def delE (p : List UInt8) (es : List Ent) : List Ent := es.filter fun x => !(x.path == p)
def insE (x : Ent) : List Ent → List Ent
  | [] => [x]
  | y :: r => if bytesBefore x.path y.path then x :: y :: r else y :: insE x r
def putE (x : Ent) (es : List Ent) : List Ent := insE x (delE x.path es)

theorem toD_has (es : List Ent) (p : List UInt8) : Maps.has (toD es) (.string p) = (findE es p).isSome := by
  simp only [toD, toL, Maps.has, findE, List.any_map, List.isSome_find?]
  rfl
theorem toD_at (es : List Ent) (p : List UInt8) (z : DataW Value) : (toD es).atKey (.string p) z = match findE es p with | some x => .held x.val | none => z := by
  simp only [toD, toL, DataW.atKey, findE]
  induction es with
  | nil => rfl
  | cons y r ih =>
    simp only [List.map_cons, List.find?_cons, Lit.sameKey]
    cases y.path == p with
    | true => rfl
    | false => exact ih
theorem toD_size (es : List Ent) : Maps.size (toD es) = es.length := by simp [toD, toL, Maps.size]
theorem toL_del (p : List UInt8) (es : List Ent) : toL (delE p es) = (toL es).filter fun q => !q.1.sameKey (.string p) := by
  simp only [toL, delE, List.filter_map]
  rfl
theorem toL_ins (x : Ent) (es : List Ent) : toL (insE x es) = DataW.insert (.string x.path, .held x.val) (toL es) := by
  induction es with
  | nil => rfl
  | cons y r ih =>
    show toL (if bytesBefore x.path y.path then x :: y :: r else y :: insE x r) =
      if (Lit.string x.path).before (.string y.path) then (Lit.string x.path, DataW.held x.val) :: (.string y.path, .held y.val) :: toL r else (.string y.path, .held y.val) :: DataW.insert (.string x.path, .held x.val) (toL r)
    by_cases h : bytesBefore x.path y.path = true
    · have h' : (Lit.string x.path).before (.string y.path) = true := h
      rw [if_pos h, if_pos h']; rfl
    · have h' : ¬ (Lit.string x.path).before (.string y.path) = true := h
      rw [if_neg h, if_neg h', ← ih]; rfl
theorem toD_del (p : List UInt8) (es : List Ent) : (toD es).del (.string p) = toD (delE p es) := by
  simp only [toD, DataW.del, toL_del]
theorem toD_put (x : Ent) (es : List Ent) : (toD es).put (.string x.path) (.held x.val) = toD (putE x es) := by
  simp only [toD, DataW.put, putE, toL_ins, toL_del]

theorem mem_insE {x y : Ent} {es : List Ent} : y ∈ insE x es ↔ y = x ∨ y ∈ es := by
  induction es with
  | nil => simp [insE]
  | cons z r ih =>
    simp only [insE]
    split
    · simp
    · simp only [List.mem_cons, ih]
      constructor
      · rintro (h | h | h) <;> simp [h]
      · rintro (h | h | h) <;> simp [h]
theorem mem_delE {p : List UInt8} {y : Ent} {es : List Ent} : y ∈ delE p es ↔ y ∈ es ∧ y.path ≠ p := by simp [delE]
theorem mem_putE {x y : Ent} {es : List Ent} : y ∈ putE x es ↔ y = x ∨ (y ∈ es ∧ y.path ≠ x.path) := by rw [putE, mem_insE, mem_delE]
theorem length_insE (x : Ent) (es : List Ent) : (insE x es).length = es.length + 1 := by
  induction es with
  | nil => rfl
  | cons y r ih =>
    simp only [insE]
    split
    · rfl
    · simp [ih]

/-- the slice v holds the bytes c in a row that begins with them -/
def Row (w : World) (v : Value) (c : List UInt8) : Prop := w.ownsRow 0 5 1 v c.length (byteVals c)

/-- the map's block and the rows of its files -/
structure Files (w : World) (FP : Nat → Prop) (bm : Nat) (es : List Ent) : Prop where
  map : w.ownsMap Tryz.prog 9 heldR bm es.length (toD es)
  rows : ∀ x ∈ es, Row w x.val x.data ∧ ∀ k, x.val.ownBlock = some k → FP k
  apart : ∀ x ∈ es, ∀ y ∈ es, x.path ≠ y.path → x.val.ownBlock = none ∨ x.val.ownBlock ≠ y.val.ownBlock
  small : ∀ x ∈ es, x.path.length ≤ 1024 ∧ x.data.length ≤ 1048576

def fsCells (bm : Nat) (s : St) : Array Value := #[.map (some bm), .int .i64 s.left, .int .i64 s.kind, .int .i64 s.keep, .int .i64 s.calls, .bool s.down]
/-- the file system at block b: its blocks are of FP -/
structure FsAt (w : World) (FP : Nat → Prop) (b bm : Nat) (es : List Ent) (s : St) : Prop where
  cells : w.heap[b]? = some (.cells (fsCells bm s) 77 (0, 0))
  own : FP b
  ownm : FP bm
  files : Files w FP bm es

theorem Row.block {w : World} {v : Value} {c : List UInt8} (h : Row w v c) : ∀ k, v.ownBlock = some k → k < w.heap.size := fun k hk => (h.lt k hk).2
theorem Row.same {w w' : World} {v : Value} {c : List UInt8} (h : Row w v c) (hb : ∀ k, v.ownBlock = some k → w'.heap[k]? = w.heap[k]?) : Row w' v c := by
  obtain ⟨h1, h2⟩ := h
  refine ⟨h1, ?_⟩
  rcases h2 with h2 | ⟨g, cap, cur, hv, hg, hh, r⟩
  · exact .inl h2
  · exact .inr ⟨g, cap, cur, hv, hg, (hb g (by rw [hv]; rfl)).trans hh, r⟩
theorem map_same {w w' : World} {bm n : Nat} {D : DataW Value} (h : w.ownsMap Tryz.prog 9 heldR bm n D) (hb : w'.heap[bm]? = w.heap[bm]?) : w'.ownsMap Tryz.prog 9 heldR bm n D := by
  obtain ⟨es, clock, h1, h2⟩ := h
  exact ⟨es, clock, hb.trans h1, h2⟩
/-- as many entries as it reads -/
theorem map_tight {w : World} {bm n : Nat} {D : DataW Value} (h : w.ownsMap Tryz.prog 9 heldR bm n D) : w.ownsMap Tryz.prog 9 heldR bm (Maps.size D) D := by
  obtain ⟨es, clock, h1, h2, h3, rfl⟩ := h
  exact ⟨es, clock, h1, h2, by simp [Maps.size, length_sorted], rfl⟩
theorem Files.same {w w' : World} {FP : Nat → Prop} {bm : Nat} {es : List Ent} (h : Files w FP bm es) (hm : FP bm) (hb : ∀ k, k < w.heap.size → FP k → w'.heap[k]? = w.heap[k]?) : Files w' FP bm es :=
  ⟨map_same h.map (hb bm h.map.lt hm), fun x hx => ⟨(h.rows x hx).1.same fun k hk => hb k ((h.rows x hx).1.block k hk) ((h.rows x hx).2 k hk), (h.rows x hx).2⟩, h.apart, h.small⟩
theorem Files.more {w : World} {FP FP' : Nat → Prop} {bm : Nat} {es : List Ent} (h : Files w FP bm es) (hP : ∀ k, FP k → FP' k) : Files w FP' bm es :=
  ⟨h.map, fun x hx => ⟨(h.rows x hx).1, fun k hk => hP k ((h.rows x hx).2 k hk)⟩, h.apart, h.small⟩
theorem FsAt.lt {w : World} {FP : Nat → Prop} {b bm : Nat} {es : List Ent} {s : St} (h : FsAt w FP b bm es s) : b < w.heap.size := (Array.getElem?_eq_some_iff.1 h.cells).1
theorem FsAt.more {w : World} {FP FP' : Nat → Prop} {b bm : Nat} {es : List Ent} {s : St} (h : FsAt w FP b bm es s) (hP : ∀ k, FP k → FP' k) : FsAt w FP' b bm es s :=
  ⟨h.cells, hP _ h.own, hP _ h.ownm, h.files.more hP⟩
/-- it stays so while its blocks do -/
theorem FsAt.same {w w' : World} {FP : Nat → Prop} {b bm : Nat} {es : List Ent} {s : St} (h : FsAt w FP b bm es s) (hb : ∀ k, k < w.heap.size → FP k → w'.heap[k]? = w.heap[k]?) : FsAt w' FP b bm es s :=
  ⟨(hb b h.lt h.own).trans h.cells, h.own, h.ownm, h.files.same h.ownm hb⟩
theorem FsAt.below {w w' : World} {FP : Nat → Prop} {b bm : Nat} {es : List Ent} {s : St} (h : FsAt w FP b bm es s) (hb : Below w.heap.size w w') : FsAt w' FP b bm es s := h.same fun k hk _ => hb.block k hk

end Go.Proofs.YthpkfgjjaieikaaGreatDoor
