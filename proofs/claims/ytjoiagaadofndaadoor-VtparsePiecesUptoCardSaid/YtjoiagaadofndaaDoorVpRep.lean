/-
  A parser of control sequences in memory: its one block; rows of integers and of actions. No program is walked here, and nothing is assumed.
-/
import Derived.Test.YtjoiagaadofndaaDoorVpBase
namespace Go.Proofs.YtjoiagaadofndaaDoor
open Go.RowKit Go.Shelf Go.Lib

def intVals (l : List Int) : List Value := l.map (Value.int .i64)
theorem intVals_length (l : List Int) : (intVals l).length = l.length := by simp [intVals]
/-- all that a parser's block says -/
structure Raw where
  st : Nat
  h0 : UInt8
  h1 : UInt8
  h2 : UInt8
  n : Nat
  pr : UInt8
  fi : UInt8
  L : List Int
  c : Nat
  be : Bool
  i0 : UInt8
  i1 : UInt8
  ni : Nat
  T : List UInt8
  nt : Nat
def Raw.hd (R : Raw) : List Value := [.bool true, .int .i64 R.st, .bool true, .int .u8 R.h0.toNat, .int .u8 R.h1.toNat, .int .u8 R.h2.toNat, .int .i64 R.n, .int .u8 R.pr.toNat, .int .u8 R.fi.toNat]
def Raw.mid (R : Raw) : List Value := [.int .i64 R.c, .bool R.be, .int .u8 R.i0.toNat, .int .u8 R.i1.toNat, .int .i64 R.ni]
def Raw.row (R : Raw) : List Value := R.hd ++ (intVals R.L ++ (R.mid ++ (byteVals R.T ++ [.int .i64 R.nt])))
structure RawOk (R : Raw) : Prop where
  L16 : R.L.length = 16
  T1024 : R.T.length = 1024
  n3 : R.n ≤ 3
  c16 : R.c ≤ 16
  ni2 : R.ni ≤ 2
  nt1024 : R.nt ≤ 1024
  ints : ∀ x ∈ R.L.take R.c, -1 ≤ x ∧ x ≤ 65535
  st13 : R.st ≤ 13
def PS.of (R : Raw) : PS := ⟨R.st, heldOf R.h0 R.h1 R.h2 R.n, R.pr, R.fi, R.L.take R.c, R.be, [R.i0, R.i1].take R.ni, R.T.take R.nt⟩
def RawAt (w : World) (g : Nat) (R : Raw) : Prop := w.heap[g]? = some (.cells R.row.toArray 64 (0, 0))
def ParAt (w : World) (g : Nat) (S : PS) : Prop := ∃ R, RawOk R ∧ RawAt w g R ∧ PS.of R = S

theorem hd_length (R : Raw) : R.hd.length = 9 := rfl
theorem mid_length (R : Raw) : R.mid.length = 5 := rfl
theorem row_length {R : Raw} (h : RawOk R) : R.row.length = 1055 := by simp [Raw.row, hd_length, mid_length, intVals_length, byteVals_length, h.L16, h.T1024]
theorem row_hd (R : Raw) (k : Nat) (h : k < 9) : R.row[k]? = R.hd[k]? := List.getElem?_append_left (by rw [hd_length]; exact h)
theorem row_L {R : Raw} (h : RawOk R) (k : Nat) (hk : k < 16) : R.row[9 + k]? = (intVals R.L)[k]? := by
  unfold Raw.row
  rw [List.getElem?_append_right (by rw [hd_length]; omega), List.getElem?_append_left (by rw [intVals_length, h.L16, hd_length]; omega), hd_length]
  congr 1; omega
theorem row_mid {R : Raw} (h : RawOk R) (k : Nat) (hk : k < 5) : R.row[25 + k]? = R.mid[k]? := by
  unfold Raw.row
  rw [List.getElem?_append_right (by rw [hd_length]; omega), List.getElem?_append_right (by rw [intVals_length, h.L16, hd_length]; omega), List.getElem?_append_left (by rw [intVals_length, h.L16, hd_length, mid_length]; omega), hd_length, intVals_length, h.L16]
  congr 1; omega
theorem row_T {R : Raw} (h : RawOk R) (k : Nat) (hk : k < 1024) : R.row[30 + k]? = (byteVals R.T)[k]? := by
  unfold Raw.row
  rw [List.getElem?_append_right (by rw [hd_length]; omega), List.getElem?_append_right (by rw [intVals_length, h.L16, hd_length]; omega), List.getElem?_append_right (by rw [intVals_length, h.L16, hd_length, mid_length]; omega), hd_length, intVals_length, h.L16, mid_length,
    List.getElem?_append_left (by rw [byteVals_length, h.T1024]; omega)]
  congr 1; omega
theorem row_nt {R : Raw} (h : RawOk R) : R.row[1054]? = some (.int .i64 R.nt) := by
  unfold Raw.row
  rw [List.getElem?_append_right (by rw [hd_length]; omega), List.getElem?_append_right (by rw [intVals_length, h.L16, hd_length]; omega), List.getElem?_append_right (by rw [intVals_length, h.L16, hd_length, mid_length]; omega), hd_length, intVals_length, h.L16, mid_length,
    List.getElem?_append_right (by rw [byteVals_length, h.T1024]; omega), byteVals_length, h.T1024]
  rfl
theorem set_hd (R : Raw) (k : Nat) (v : Value) (h : k < 9) : R.row.set k v = R.hd.set k v ++ (intVals R.L ++ (R.mid ++ (byteVals R.T ++ [.int .i64 R.nt]))) := by
  unfold Raw.row
  rw [List.set_append, if_pos (by rw [hd_length]; exact h)]
theorem set_L {R : Raw} (h : RawOk R) (k : Nat) (x : Int) (hk : k < 16) : R.row.set (9 + k) (.int .i64 x) = { R with L := R.L.set k x }.row := by
  unfold Raw.row
  rw [List.set_append, if_neg (by rw [hd_length]; omega), List.set_append, if_pos (by rw [intVals_length, h.L16, hd_length]; omega), hd_length]
  have e : 9 + k - 9 = k := by omega
  rw [e]
  simp [Raw.hd, Raw.mid, intVals]
theorem set_mid {R : Raw} (h : RawOk R) (k : Nat) (v : Value) (hk : k < 5) : R.row.set (25 + k) v = R.hd ++ (intVals R.L ++ (R.mid.set k v ++ (byteVals R.T ++ [.int .i64 R.nt]))) := by
  unfold Raw.row
  rw [List.set_append, if_neg (by rw [hd_length]; omega), List.set_append, if_neg (by rw [intVals_length, h.L16, hd_length]; omega), List.set_append, if_pos (by rw [intVals_length, h.L16, hd_length, mid_length]; omega), hd_length, intVals_length, h.L16]
  have e : 25 + k - 9 - 16 = k := by omega
  rw [e]
theorem set_T {R : Raw} (h : RawOk R) (k : Nat) (x : UInt8) (hk : k < 1024) : R.row.set (30 + k) (.int .u8 x.toNat) = { R with T := R.T.set k x }.row := by
  unfold Raw.row
  rw [List.set_append, if_neg (by rw [hd_length]; omega), List.set_append, if_neg (by rw [intVals_length, h.L16, hd_length]; omega), List.set_append, if_neg (by rw [intVals_length, h.L16, hd_length, mid_length]; omega), List.set_append,
    if_pos (by rw [intVals_length, h.L16, hd_length, mid_length, byteVals_length, h.T1024]; omega), hd_length, intVals_length, h.L16, mid_length]
  have e : 30 + k - 9 - 16 - 5 = k := by omega
  rw [e]
  simp [Raw.hd, Raw.mid, byteVals]
theorem set_nt {R : Raw} (h : RawOk R) (k : Nat) : R.row.set 1054 (.int .i64 k) = { R with nt := k }.row := by
  unfold Raw.row
  rw [List.set_append, if_neg (by rw [hd_length]; omega), List.set_append, if_neg (by rw [intVals_length, h.L16, hd_length]; omega), List.set_append, if_neg (by rw [intVals_length, h.L16, hd_length, mid_length]; omega), List.set_append,
    if_neg (by rw [intVals_length, h.L16, hd_length, mid_length, byteVals_length, h.T1024]; omega), hd_length, intVals_length, h.L16, mid_length, byteVals_length, h.T1024]
  rfl

section
variable {w : World} {g : Nat} {R : Raw}
theorem RawAt.lt (h : RawAt w g R) : g < w.heap.size := (Array.getElem?_eq_some_iff.1 h).1
theorem RawAt.cell (h : RawAt w g R) {k : Nat} {v : Value} (hk : R.row[k]? = some v) : w.cell? ⟨g, k, none⟩ = some v := by
  rw [cell_of_row w g k _ _ _ h, List.getElem?_toArray]; exact hk
theorem RawAt.frozen (h : RawAt w g R) (k : Nat) : w.frozen? ⟨g, k, none⟩ = false := frozen_of_row w g k _ _ h
theorem RawAt.set (h : RawAt w g R) {k : Nat} {v : Value} {R' : Raw} (e : R.row.set k v = R'.row) : RawAt (w.setCell ⟨g, k, none⟩ v) g R' := by
  unfold RawAt
  rw [Go.heap_setCell_same w g k _ _ v h, List.setIfInBounds_toArray, e]
theorem RawAt.same {w' : World} (h : RawAt w g R) (e : w'.heap[g]? = w.heap[g]?) : RawAt w' g R := e.trans h
theorem RawAt.touch {w' : World} {T : Nat → Prop} (h : RawAt w g R) (ht : Touch T w w') (hn : ¬ T g) : RawAt w' g R := h.same (ht.block g h.lt hn)
/-- its cells -/
structure Cells1 (w : World) (g : Nat) (R : Raw) : Prop where
  c0 : w.cell? ⟨g, 0, none⟩ = some (.bool true)
  c1 : w.cell? ⟨g, 1, none⟩ = some (.int .i64 R.st)
  c2 : w.cell? ⟨g, 2, none⟩ = some (.bool true)
  c6 : w.cell? ⟨g, 6, none⟩ = some (.int .i64 R.n)
  c7 : w.cell? ⟨g, 7, none⟩ = some (.int .u8 R.pr.toNat)
  c8 : w.cell? ⟨g, 8, none⟩ = some (.int .u8 R.fi.toNat)
  c25 : w.cell? ⟨g, 25, none⟩ = some (.int .i64 R.c)
  c26 : w.cell? ⟨g, 26, none⟩ = some (.bool R.be)
  c29 : w.cell? ⟨g, 29, none⟩ = some (.int .i64 R.ni)
  c1054 : w.cell? ⟨g, 1054, none⟩ = some (.int .i64 R.nt)
theorem RawAt.cells (h : RawAt w g R) (ok : RawOk R) : Cells1 w g R :=
  ⟨h.cell rfl, h.cell rfl, h.cell rfl, h.cell rfl, h.cell rfl, h.cell rfl, h.cell (row_mid ok 0 (by omega)), h.cell (row_mid ok 1 (by omega)), h.cell (row_mid ok 4 (by omega)), h.cell (row_nt ok)⟩
end

/-- rows of integers and of actions -/
def IntRow (W : World) (B : Nat) (v : Value) (l : List Int) : Prop := W.ownsRow B 3 1 v l.length (intVals l)
def actCells (x : ActD × Value) : List Value := [.int .i64 x.1.kind, .int .i32 x.1.rune, .int .u8 x.1.fin.toNat, .int .u8 x.1.priv.toNat, x.2, str x.1.inter, str x.1.text]
abbrev actVal (a : ActD) (v : Value) : Value := .agg #[.int .i64 a.kind, .int .i32 a.rune, .int .u8 a.fin.toNat, .int .u8 a.priv.toNat, v, str a.inter, str a.text]
def actVals (xs : List (ActD × Value)) : List Value := xs.flatMap actCells
def ActRow (W : World) (B : Nat) (v : Value) (al : List ActD) : Prop :=
  ∃ xs : List (ActD × Value), xs.map Prod.fst = al ∧ W.ownsRow B 39 7 v al.length (actVals xs) ∧ ∀ x ∈ xs, IntRow W B x.2 x.1.ps
theorem actVals_append (a b : List (ActD × Value)) : actVals (a ++ b) = actVals a ++ actVals b := List.flatMap_append
theorem actVals_length (xs : List (ActD × Value)) : (actVals xs).length = xs.length * 7 := by
  induction xs with
  | nil => rfl
  | cons x l ih => simp [actVals, actCells] at ih ⊢; omega
theorem own_touch {W W' : World} {B size n : Nat} {e : TypeId} {v : Value} {xs : List Value} {T : Nat → Prop} (h : W.ownsRow B e size v n xs) (ht : Touch T W W') (hT : ∀ k, T k → k < B) : W'.ownsRow B e size v n xs := by
  refine ⟨h.1, ?_⟩
  rcases h.2 with h0 | ⟨g, cap, cur, hv, hb, hg, r⟩
  · exact .inl h0
  · exact .inr ⟨g, cap, cur, hv, hb, (ht.block g (Array.getElem?_eq_some_iff.1 hg).1 fun t => Nat.not_lt_of_le hb (hT g t)).trans hg, r⟩
theorem own_less {W : World} {B B' size n : Nat} {e : TypeId} {v : Value} {xs : List Value} (h : W.ownsRow B e size v n xs) (hB : B' ≤ B) : W.ownsRow B' e size v n xs := by
  refine ⟨h.1, ?_⟩
  rcases h.2 with h0 | ⟨g, cap, cur, hv, hb, r⟩
  · exact .inl h0
  · exact .inr ⟨g, cap, cur, hv, Nat.le_trans hB hb, r⟩
theorem own_kind {W : World} {B size n : Nat} {e : TypeId} {v : Value} {xs : List Value} (h : W.ownsRow B e size v n xs) {k : Nat} (hk : v.ownBlock = some k) : ∃ cur, W.heap[k]? = some (.cells cur e (0, 0)) := by
  rcases h.2 with ⟨rfl, _⟩ | ⟨g, cap, cur, rfl, _, hh, _⟩
  · cases hk
  · simp [Value.ownBlock] at hk
    subst hk
    exact ⟨cur, hh⟩
/-- a row of another kind is left al it was -/
theorem own_apart {w w' : World} {base base' size size' : Nat} {e e' : TypeId} {v v' : Value} {n n' : Nat} {xs xs' : List Value} (h : w.ownsRow base e size v n xs) (h' : w.ownsRow base' e' size' v' n' xs') (hne : e ≠ e') (hg : w.grownBy w' v'.ownBlock) : w'.ownsRow base e size v n xs := by
  refine h.kept hg ?_
  rcases h.2 with ⟨rfl, _⟩ | ⟨g, cap, cur, rfl, _, hh, _⟩
  · exact .inl rfl
  · refine .inr fun he => ?_
    obtain ⟨cur', hh'⟩ := own_kind h' he.symm
    rw [hh] at hh'
    injection hh' with hh'
    injection hh' with _ ht
    exact hne ht
theorem types_ne : 3 ≠ 39 ∧ 64 ≠ 39 := by decide
theorem ActRow.touch {W W' : World} {B : Nat} {v : Value} {al : List ActD} {T : Nat → Prop} (h : ActRow W B v al) (ht : Touch T W W') (hT : ∀ k, T k → k < B) : ActRow W' B v al := by
  obtain ⟨xs, h1, h2, h3⟩ := h
  exact ⟨xs, h1, own_touch h2 ht hT, fun x hx => own_touch (h3 x hx) ht hT⟩
theorem ActRow.nil (W : World) (B : Nat) : ActRow W B (.slice none 0 0) [] := ⟨[], rfl, World.ownsRow_nil _ _ _ _, fun x hx => by cases hx⟩
theorem ActRow.form {W : World} {B : Nat} {v : Value} {al : List ActD} (h : ActRow W B v al) : ∃ A cap, v = .slice A al.length cap := by
  obtain ⟨xs, _, h2, _⟩ := h
  obtain ⟨A, c, e, _⟩ := own_form h2
  exact ⟨A, c, e⟩
theorem IntRow.nil (W : World) (B : Nat) : IntRow W B (.slice none 0 0) [] := World.ownsRow_nil _ _ _ _
theorem info_act : (Tryd.prog.info? 39).map (fun i => (i.zero, i.size, i.bytes)) = some (some (.agg #[.int .i64 0, .int .i32 0, .int .u8 0, .int .u8 0, .slice none 0 0, .string ⟨#[]⟩, .string ⟨#[]⟩]), 7, 72) := by kernel_rfl
theorem info_i64 : (Tryd.prog.info? 3).map (fun i => (i.zero, i.size, i.bytes)) = some (some (.int .i64 0), 1, 8) := by kernel_rfl
theorem actCells_one {a : ActD} {v : Value} (hv : v.oneCell' = true) : ∀ u ∈ actCells (a, v), u.oneCell' = true := by
  intro u hu
  simp [actCells] at hu
  rcases hu with rfl | rfl | rfl | rfl | rfl | rfl | rfl <;> first | rfl | exact hv
theorem slice_one {W : World} {B size n : Nat} {e : TypeId} {v : Value} {xs : List Value} (h : W.ownsRow B e size v n xs) : v.oneCell' = true := by
  obtain ⟨A, c, rfl, _⟩ := own_form h
  rfl
theorem run_append_act (w : World) (B : Nat) (ty : TypeId) (v : Value) (al : List ActD) (hrow : ActRow w B v al) (a : ActD) (pv : Value) (hp : IntRow w B pv a.ps) {g cp : Nat} {cs : Array Value} {t2 : TypeId} {fr : Nat × Nat} (h : w.heap[g]? = some (.cells cs t2 fr)) (hcs : cs.toList = actCells (a, pv)) (hl : al.length ≤ 1000000000) (hB : B ≤ w.heap.size) :
    ∃ v' w', (Builtin.append_ #[25, 25] ty #[v, .slice (some ⟨g, 0, none⟩) 1 cp]).run Tryd.prog w = .ok v' w' ∧ ActRow w' B v' (al ++ [a]) ∧ Below B w w' ∧ w.grownBy w' v.ownBlock := by
  obtain ⟨i, hi, hz, hs2, hby⟩ := info_parts info_act
  obtain ⟨xs, e1, h2, h3⟩ := hrow
  have hsrc : Src w 7 (some ⟨g, 0, none⟩) cp 1 (actCells (a, pv)) := ⟨rfl, (fun e => by cases e), fun _ => ⟨g, 0, rfl, (Array.getElem?_eq_some_iff.1 h).1, fun j u hu => by
    rw [Nat.zero_add, cell_of_row w g j _ _ _ h, ← Array.getElem?_toList, hcs]
    exact hu⟩⟩
  obtain ⟨v', w', hr, h4, h5, h6⟩ := run_append_src (P := Tryd.prog) w B 25 ty 39 i _ 7 72 Tryd.underlying25 hi hz hs2 hby rfl (by decide) v al.length (actVals xs) h2 hsrc (actCells_one (slice_one hp)) (by unfold maxLen; omega) (by omega) hB
  refine ⟨v', w', hr, ⟨xs ++ [(a, pv)], by simp [e1], ?_, fun x hx => ?_⟩, grown_below h5 hB fun k hk => (own_lt h2 k hk).1, h5⟩
  · rw [List.length_append, actVals_append]
    have e : actVals [(a, pv)] = actCells (a, pv) := by simp [actVals]
    rw [e]
    exact h4
  · rcases List.mem_append.1 hx with hx | hx
    · exact own_apart (h3 x hx) h2 types_ne.1 h5
    · simp at hx
      subst hx
      exact own_apart hp h2 types_ne.1 h5
end Go.Proofs.YtjoiagaadofndaaDoor
