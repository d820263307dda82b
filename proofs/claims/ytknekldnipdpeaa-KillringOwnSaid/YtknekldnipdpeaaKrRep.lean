/-
  A ring of killed texts in memory: its block of 64 cells, and the rows of its entries. No program is walked here, and nothing is assumed.
-/
import Derived.Test.YtknekldnipdpeaaKrRunes
namespace Go.Proofs.Ytknekldnipdpeaa
open Go.RowKit Go.Shelf Go.Lib

/-- the blocks of K are in W as they are in w -/
structure Agree (K : Nat → Prop) (w W : World) : Prop where
  size : w.heap.size ≤ W.heap.size
  block : ∀ k, K k → k < w.heap.size → W.heap[k]? = w.heap[k]?
theorem Agree.refl (K : Nat → Prop) (w : World) : Agree K w w := ⟨Nat.le_refl _, fun _ _ _ => rfl⟩
theorem Agree.trans {K : Nat → Prop} {a b c : World} (h : Agree K a b) (k : Agree K b c) : Agree K a c :=
  ⟨Nat.le_trans h.size k.size, fun i hi hl => (k.block i hi (Nat.lt_of_lt_of_le hl h.size)).trans (h.block i hi hl)⟩
theorem Agree.mono {K K' : Nat → Prop} {a b : World} (h : Agree K a b) (hK : ∀ k, k < a.heap.size → K' k → K k) : Agree K' a b := ⟨h.size, fun k hk hl => h.block k (hK k hl hk) hl⟩
theorem Agree.of_below {K : Nat → Prop} {a b : World} (h : Below a.heap.size a b) : Agree K a b := ⟨h.size, fun k _ hl => h.block k hl⟩
theorem Agree.of_touch {K T : Nat → Prop} {a b : World} (h : Touch T a b) (hK : ∀ k, K k → ¬ T k) : Agree K a b := ⟨h.size, fun k hk hl => h.block k hl (hK k hk)⟩
/-- runes that lie in blocks of K: a slice that holds them as long as these blocks stay -/
def RIn (K : Nat → Prop) (w : World) (v : Value) (l : List Int) : Prop := ∀ W, Agree K w W → Holds1 W v (runeVals l)
theorem RIn.to {K : Nat → Prop} {w W : World} {v : Value} {l : List Int} (h : RIn K w v l) (ha : Agree K w W) : RIn K W v l := fun W' hW => h W' (ha.trans hW)
theorem RIn.now {K : Nat → Prop} {w : World} {v : Value} {l : List Int} (h : RIn K w v l) : Holds1 w v (runeVals l) := h w (Agree.refl _ _)
theorem RIn.mono {K K' : Nat → Prop} {w : World} {v : Value} {l : List Int} (h : RIn K w v l) (hK : ∀ k, K k → K' k) : RIn K' w v l := fun W hW => h W (hW.mono fun k _ hk => hK k hk)
theorem RIn.form {K : Nat → Prop} {w : World} {v : Value} {l : List Int} (h : RIn K w v l) : ∃ A c, v = .slice A l.length c := by
  obtain ⟨A, c, e, _⟩ := h.now
  exact ⟨A, c, by rw [e, runeVals_length]⟩
theorem RIn.own {K : Nat → Prop} {w : World} {B : Nat} {v : Value} {l : List Int} (h : RRow w B v l) (hK : ∀ k, B ≤ k → k < w.heap.size → K k) : RIn K w v l := fun W hW =>
  RRow.holds (B := B) (own_same h fun k hk => by
    have := own_lt h k hk
    exact hW.block k (hK k this.1 this.2) this.2)
theorem RIn.less {w W : World} {v : Value} {l : List Int} (h : Holds1 w v (runeVals l)) (hb : Below w.heap.size w W) : RIn (fun k => k < w.heap.size) W v l := fun W' hW => by
  obtain ⟨A, c, rfl, hc, h⟩ := h
  refine ⟨A, c, rfl, hc, fun hn => ?_⟩
  obtain ⟨b, off, hA, hlt, hcell⟩ := h hn
  have h2 : b < W.heap.size := Nat.lt_of_lt_of_le hlt hb.size
  refine ⟨b, off, hA, Nat.lt_of_lt_of_le h2 hW.size, fun j u hu => ?_⟩
  rw [World.cell?_of_block (w := W) (w' := W') (a := ⟨b, off + j, none⟩) (hW.block b hlt h2)]
  exact (hb.cell (p := ⟨b, off + j, none⟩) hlt).trans (hcell j u hu)

/-- the blocks of K, and the new ones -/
def More (K : Nat → Prop) (w w' : World) (k : Nat) : Prop := K k ∨ (w.heap.size ≤ k ∧ k < w'.heap.size)

/-- the 62 cells of a cycle -/
def crow (vs : List Value) (nw cn : Nat) : List Value := vs ++ [.int .i64 (nw : Int), .int .i64 (cn : Int)]
/-- the 64 cells of a ring -/
def krow (vs : List Value) (nw cn pl : Nat) : Array Value := (Value.bool true :: (crow vs nw cn ++ [.int .i64 (pl : Int)])).toArray
theorem crow_length {vs : List Value} (h : vs.length = 60) (nw cn : Nat) : (crow vs nw cn).length = 62 := by simp [crow, h]
theorem krow_size {vs : List Value} (h : vs.length = 60) (nw cn pl : Nat) : (krow vs nw cn pl).size = 64 := by simp [krow, crow, h]
theorem crow_slot {vs : List Value} {j : Nat} {v : Value} (hj : vs[j]? = some v) (nw cn : Nat) : (crow vs nw cn)[j]? = some v := by
  have := (List.getElem?_eq_some_iff.1 hj).1
  rw [crow, List.getElem?_append_left this, hj]
theorem crow_nw {vs : List Value} (h : vs.length = 60) (nw cn : Nat) : (crow vs nw cn)[60]? = some (.int .i64 (nw : Int)) := by
  rw [crow, List.getElem?_append_right (by omega), h]
  rfl
theorem crow_cn {vs : List Value} (h : vs.length = 60) (nw cn : Nat) : (crow vs nw cn)[61]? = some (.int .i64 (cn : Int)) := by
  rw [crow, List.getElem?_append_right (by omega), h]
  rfl
theorem krow_made (vs : List Value) (nw cn pl : Nat) : (krow vs nw cn pl)[0]? = some (.bool true) := by simp [krow]
theorem krow_cyc {vs : List Value} (h : vs.length = 60) {j : Nat} (hj : j < 62) (nw cn pl : Nat) : (krow vs nw cn pl)[1 + j]? = (crow vs nw cn)[j]? := by
  rw [krow, List.getElem?_toArray, Nat.add_comm, List.getElem?_cons_succ, List.getElem?_append_left (by rw [crow_length h]; exact hj)]
theorem krow_pl {vs : List Value} (h : vs.length = 60) (nw cn pl : Nat) : (krow vs nw cn pl)[63]? = some (.int .i64 (pl : Int)) := by
  rw [krow, List.getElem?_toArray, List.getElem?_cons_succ, List.getElem?_append_right (by rw [crow_length h]; omega), crow_length h]
  rfl
theorem crow_set_slot {vs : List Value} {j : Nat} (hj : j < vs.length) (nw cn : Nat) (v : Value) : (crow vs nw cn).set j v = crow (vs.set j v) nw cn := by
  rw [crow, List.set_append_left _ _ hj]
  rfl
theorem crow_set_nw {vs : List Value} (h : vs.length = 60) (nw cn n : Nat) : (crow vs nw cn).set 60 (.int .i64 (n : Int)) = crow vs n cn := by
  rw [crow, List.set_append_right _ _ (by omega), h]
  rfl
theorem crow_set_cn {vs : List Value} (h : vs.length = 60) (nw cn n : Nat) : (crow vs nw cn).set 61 (.int .i64 (n : Int)) = crow vs nw n := by
  rw [crow, List.set_append_right _ _ (by omega), h]
  rfl
theorem krow_set {vs vs' : List Value} {nw cn nw' cn' : Nat} (h : vs.length = 60) {j : Nat} (hj : j < 62) {v : Value} (he : (crow vs nw cn).set j v = crow vs' nw' cn') (pl : Nat) : (krow vs nw cn pl).setIfInBounds (1 + j) v = krow vs' nw' cn' pl := by
  apply Array.ext'
  rw [krow, krow, Array.toList_setIfInBounds, ← he, Nat.add_comm]
  simp only [List.set_cons_succ]
  rw [List.set_append_left _ _ (by rw [crow_length h]; exact hj)]
theorem krow_set_pl {vs : List Value} (h : vs.length = 60) (nw cn pl n : Nat) : (krow vs nw cn pl).setIfInBounds 63 (.int .i64 (n : Int)) = krow vs nw cn n := by
  apply Array.ext'
  rw [krow, krow, Array.toList_setIfInBounds]
  simp only [List.set_cons_succ]
  rw [List.set_append_right _ _ (by rw [crow_length h]; omega), crow_length h]
  rfl

/-- the cells of a cycle from one on -/
structure CCells (w : World) (g off : Nat) (vs : List Value) (nw cn : Nat) : Prop where
  slot : ∀ j v, vs[j]? = some v → w.cell? ⟨g, off + j, none⟩ = some v
  cnw : w.cell? ⟨g, off + 60, none⟩ = some (.int .i64 (nw : Int))
  ccn : w.cell? ⟨g, off + 61, none⟩ = some (.int .i64 (cn : Int))
  len : vs.length = 60
  lt : nw < 60
  lec : cn ≤ 60
theorem CCells.drewN {w : World} {g off : Nat} {vs : List Value} {nw cn : Nat} (h : CCells w g off vs nw cn) (n : Nat) : CCells (w.drewN n) g off vs nw cn := ⟨h.slot, h.cnw, h.ccn, h.len, h.lt, h.lec⟩
/-- the entries that lie in the slots -/
def Ents (K : Nat → Prop) (w : World) (vs : List Value) (nw : Nat) (es : List (List Int)) : Prop :=
  ∀ i x, es[i]? = some x → ∃ v, vs[(nw + i) % 60]? = some v ∧ RIn K w v x ∧ x.length ≤ 1024
theorem Ents.to {K : Nat → Prop} {w W : World} {vs : List Value} {nw : Nat} {es : List (List Int)} (h : Ents K w vs nw es) (ha : Agree K w W) : Ents K W vs nw es := fun i x hx => by
  obtain ⟨v, h1, h2, h3⟩ := h i x hx
  exact ⟨v, h1, h2.to ha, h3⟩
theorem Ents.mono {K K' : Nat → Prop} {w : World} {vs : List Value} {nw : Nat} {es : List (List Int)} (h : Ents K w vs nw es) (hK : ∀ k, K k → K' k) : Ents K' w vs nw es := fun i x hx => by
  obtain ⟨v, h1, h2, h3⟩ := h i x hx
  exact ⟨v, h1, h2.mono hK, h3⟩
/-- what a ring says: its entries, the newest first; the place -/
structure KS where
  es : List (List Int)
  pl : Nat
/-- a ring's row: its cells, and what must hold of them -/
structure Row (w : World) (g : Nat) (vs : List Value) (nw cn pl : Nat) : Prop where
  row : w.heap[g]? = some (.cells (krow vs nw cn pl) 58 (0, 0))
  len : vs.length = 60
  lt : nw < 60
  lec : cn ≤ 60
  one : ∀ v ∈ vs, v.oneCell' = true
/-- a ring in memory -/
structure RAt (K : Nat → Prop) (w : World) (g : Nat) (S : KS) : Prop where
  row : ∃ vs nw, Row w g vs nw S.es.length S.pl ∧ Ents K w vs nw S.es
  pl : S.pl < S.es.length ∨ (S.pl = 0 ∧ S.es = [])
  lt : g < w.heap.size
  off : ¬ K g
  inw : ∀ k, K k → k < w.heap.size
section
variable {K : Nat → Prop} {w W : World} {g : Nat} {S : KS}
theorem RAt.to (h : RAt K w g S) (ha : Agree (fun k => K k ∨ k = g) w W) : RAt K W g S := by
  obtain ⟨vs, nw, h1, h4⟩ := h.row
  exact ⟨⟨vs, nw, ⟨(ha.block g (.inr rfl) h.lt).trans h1.row, h1.len, h1.lt, h1.lec, h1.one⟩, h4.to (ha.mono fun _ _ hk => .inl hk)⟩, h.pl, Nat.lt_of_lt_of_le h.lt ha.size, h.off, fun k hk => Nat.lt_of_lt_of_le (h.inw k hk) ha.size⟩
theorem RAt.many (h : RAt K w g S) : S.es.length ≤ 60 := by
  obtain ⟨_, _, h, _⟩ := h.row
  exact h.lec
theorem RAt.below (h : RAt K w g S) (hb : Below w.heap.size w W) : RAt K W g S := h.to (Agree.of_below hb)
theorem ccells {vs : List Value} {nw cn pl : Nat} {t : TypeId} (h : w.heap[g]? = some (.cells (krow vs nw cn pl) t (0, 0))) (hl : vs.length = 60) (hn : nw < 60) (hc : cn ≤ 60) : CCells w g 1 vs nw cn := by
  have at' : ∀ j, j < 62 → w.cell? ⟨g, 1 + j, none⟩ = (crow vs nw cn)[j]? := fun j hj => by rw [cell_of_row w g (1 + j) _ _ _ h, krow_cyc hl hj]
  refine ⟨fun j v hv => ?_, (at' 60 (by omega)).trans (crow_nw hl _ _), (at' 61 (by omega)).trans (crow_cn hl _ _), hl, hn, hc⟩
  have := (List.getElem?_eq_some_iff.1 hv).1
  exact (at' j (by omega)).trans (crow_slot hv _ _)
theorem ccells0 {vs : List Value} {nw cn : Nat} {t : TypeId} (h : w.heap[g]? = some (.cells (crow vs nw cn).toArray t (0, 0))) (hl : vs.length = 60) (hn : nw < 60) (hc : cn ≤ 60) : CCells w g 0 vs nw cn := by
  have at' : ∀ j, w.cell? ⟨g, 0 + j, none⟩ = (crow vs nw cn)[j]? := fun j => by rw [cell_of_row w g (0 + j) _ _ _ h, Nat.zero_add, List.getElem?_toArray]
  exact ⟨fun j v hv => (at' j).trans (crow_slot hv _ _), (at' 60).trans (crow_nw hl _ _), (at' 61).trans (crow_cn hl _ _), hl, hn, hc⟩
/-- the ring's own cells -/
structure RCells (w : World) (g : Nat) (vs : List Value) (nw cn pl : Nat) : Prop where
  c0 : w.cell? ⟨g, 0, none⟩ = some (.bool true)
  cn : w.cell? ⟨g, 62, none⟩ = some (.int .i64 (cn : Int))
  c63 : w.cell? ⟨g, 63, none⟩ = some (.int .i64 (pl : Int))
  f : ∀ k, w.frozen? ⟨g, k, none⟩ = false
theorem rcells {vs : List Value} {nw cn pl : Nat} {t : TypeId} (h : w.heap[g]? = some (.cells (krow vs nw cn pl) t (0, 0))) (hl : vs.length = 60) : RCells w g vs nw cn pl :=
  ⟨(cell_of_row w g 0 _ _ _ h).trans (krow_made _ _ _ _), (cell_of_row w g 62 _ _ _ h).trans ((krow_cyc (j := 61) hl (by omega) _ _ _).trans (crow_cn hl _ _)), (cell_of_row w g 63 _ _ _ h).trans (krow_pl hl _ _ _), fun k => frozen_of_row w g k _ _ h⟩
/-- an entry, as it is found -/
theorem Ents.at {vs : List Value} {nw : Nat} {es : List (List Int)} (h : Ents K w vs nw es) {i : Nat} (hi : i < es.length) : ∃ A c, vs[(nw + i) % 60]? = some (.slice A es[i].length c) ∧ RIn K w (.slice A es[i].length c) es[i] ∧ es[i].length ≤ 1024 := by
  obtain ⟨v, h1, h2, h3⟩ := h i es[i] (List.getElem?_eq_getElem hi)
  obtain ⟨A, c, rfl⟩ := h2.form
  exact ⟨A, c, h1, h2, h3⟩
end
theorem Row.cyc {w : World} {g : Nat} {vs : List Value} {nw cn pl : Nat} (h : Row w g vs nw cn pl) : CCells w g 1 vs nw cn := ccells h.row h.len h.lt h.lec
theorem Row.cells {w : World} {g : Nat} {vs : List Value} {nw cn pl : Nat} (h : Row w g vs nw cn pl) : RCells w g vs nw cn pl := rcells h.row h.len
theorem Row.lt' {w : World} {g : Nat} {vs : List Value} {nw cn pl : Nat} (h : Row w g vs nw cn pl) : g < w.heap.size := (Array.getElem?_eq_some_iff.1 h.row).1
theorem Row.same {w W : World} {g : Nat} {vs : List Value} {nw cn pl : Nat} (h : Row w g vs nw cn pl) (hb : W.heap[g]? = w.heap[g]?) : Row W g vs nw cn pl := ⟨hb.trans h.row, h.len, h.lt, h.lec, h.one⟩
theorem Row.drewN {w : World} {g : Nat} {vs : List Value} {nw cn pl : Nat} (h : Row w g vs nw cn pl) (n : Nat) : Row (w.drewN n) g vs nw cn pl := ⟨h.row, h.len, h.lt, h.lec, h.one⟩
theorem Row.slot {w : World} {g : Nat} {vs : List Value} {nw cn pl : Nat} (h : Row w g vs nw cn pl) {j : Nat} (hj : j < 60) (v : Value) (h1 : v.oneCell' = true) : Row (w.setCell ⟨g, 1 + j, none⟩ v) g (vs.set j v) nw cn pl :=
  ⟨by rw [heap_setCell_same w g (1 + j) _ _ _ h.row, krow_set h.len (by omega) (crow_set_slot (by rw [h.len]; exact hj) nw cn v)], by rw [List.length_set]; exact h.len, h.lt, h.lec, fun u hu => (List.mem_or_eq_of_mem_set hu).elim (h.one u) fun e => e ▸ h1⟩
theorem Row.newest {w : World} {g : Nat} {vs : List Value} {nw cn pl : Nat} (h : Row w g vs nw cn pl) {n : Nat} (hn : n < 60) : Row (w.setCell ⟨g, 61, none⟩ (.int .i64 (n : Int))) g vs n cn pl :=
  ⟨by rw [heap_setCell_same w g 61 _ _ _ h.row]; exact congrArg (fun c => some (Obj.cells c _ _)) (krow_set (j := 60) h.len (by omega) (crow_set_nw h.len nw cn n) pl), h.len, hn, h.lec, h.one⟩
theorem Row.count {w : World} {g : Nat} {vs : List Value} {nw cn pl : Nat} (h : Row w g vs nw cn pl) {n : Nat} (hn : n ≤ 60) : Row (w.setCell ⟨g, 62, none⟩ (.int .i64 (n : Int))) g vs nw n pl :=
  ⟨by rw [heap_setCell_same w g 62 _ _ _ h.row]; exact congrArg (fun c => some (Obj.cells c _ _)) (krow_set (j := 61) h.len (by omega) (crow_set_cn h.len nw cn n) pl), h.len, h.lt, hn, h.one⟩
theorem Row.place {w : World} {g : Nat} {vs : List Value} {nw cn pl : Nat} (h : Row w g vs nw cn pl) (n : Nat) : Row (w.setCell ⟨g, 63, none⟩ (.int .i64 (n : Int))) g vs nw cn n :=
  ⟨by rw [heap_setCell_same w g 63 _ _ _ h.row, krow_set_pl h.len], h.len, h.lt, h.lec, h.one⟩
end Go.Proofs.Ytknekldnipdpeaa
