/-
  Words for every text over package histlist: slices that hold cells, worlds that differ in some blocks, boxes of one cell, rows, parts of slices. No program is walked here, and nothing is assumed.
-/
import Derived.Test.YtojhppcnpjajaaaProg
import Derived.Laws.Rows
import Derived.Deep.RegionHeld3
import Derived.Deep.RegionLaw
import Derived.Shelf.Abstract
import Derived.Shelf.RegionOpen
import Derived.WalkKit
import Derived.OwnWalk
import Derived.Below
import Derived.Lib.Hide
import Derived.Lib.IndexLaws
import Derived.Lib.SliceRun
import Derived.Lib.Walk
import Derived.WalkSpells
import Derived.Laws.AppendOwnNone
import Derived.Laws.OwnMore
import Derived.Maps.AppendAt
import Derived.Deep.Draws
import Derived.WalkLawsBesides
import Derived.Deep.QuietTactic
import Derived.BigQuiet
namespace Go.Proofs.Ytojhppcnpjajaaa
section
open Go.RowKit

/-- the slice value v holds the one-cell values xs -/
def Holds1 (w : World) (v : Value) (xs : List Value) : Prop :=
  ∃ A c, v = .slice A xs.length c ∧ (xs.length ≤ c ∧ (A = none → c = 0)) ∧ (0 < xs.length → ∃ b off, A = some ⟨b, off, none⟩ ∧ b < w.heap.size ∧ ∀ j u, xs[j]? = some u → w.cell? ⟨b, off + j, none⟩ = some u)
/-- bytes as values -/
def byteVals (s : List UInt8) : List Value := s.map fun b => .int .u8 b.toNat
/-- runes as values -/
def runeVals (l : List Int) : List Value := l.map (Value.int .i32)

theorem Holds1.below {w w' : World} {v : Value} {xs : List Value} (h : Holds1 w v xs) (hb : Below w.heap.size w w') : Holds1 w' v xs := by
  obtain ⟨A, c, rfl, hc, h⟩ := h
  refine ⟨A, c, rfl, hc, fun hn => ?_⟩
  obtain ⟨b, off, hA, hlt, hcell⟩ := h hn
  exact ⟨b, off, hA, Nat.lt_of_lt_of_le hlt hb.size, fun j u hu => (hb.cell (p := ⟨b, off + j, none⟩) hlt).trans (hcell j u hu)⟩
theorem Holds1.of_own {w : World} {base : Nat} {e : TypeId} {v : Value} {n : Nat} {xs : List Value} (h : w.ownsRow base e 1 v n xs) : Holds1 w v xs := by
  have hl : xs.length = n := by simpa using h.1
  rcases h.2 with ⟨rfl, rfl⟩ | ⟨g, cap, cur, rfl, _, hg, hn, _, hcur, htake⟩
  · exact ⟨none, 0, by rw [hl], ⟨by omega, fun _ => rfl⟩, fun h => by omega⟩
  · have hlt : g < w.heap.size := by
      rcases Nat.lt_or_ge g w.heap.size with hlt | hge
      · exact hlt
      · rw [Array.getElem?_eq_none hge] at hg; cases hg
    refine ⟨some ⟨g, 0, none⟩, cap, by rw [hl], ⟨by omega, fun h => by cases h⟩, fun _ => ⟨g, 0, rfl, hlt, fun j u hu => ?_⟩⟩
    rw [cell_of_row w g (0 + j) cur e (0, 0) hg, Nat.zero_add]
    rw [← htake, List.getElem?_take] at hu
    split at hu
    · rw [← hu, Array.getElem?_toList]
    · cases hu
/-- a slice that was just built out of one-cell values -/
theorem Holds1.built {w : World} {t : TypeId} {xs : List Value} : Holds1 (w.alloc (.cells xs.toArray t)) (.slice (some ⟨w.heap.size, 0, none⟩) xs.length xs.length) xs := by
  refine ⟨_, _, rfl, ⟨Nat.le_refl _, fun h => by cases h⟩, fun _ => ⟨w.heap.size, 0, rfl, by simp, fun j u hu => ?_⟩⟩
  rw [World.cell?_alloc_at _ _ _ _ rfl, Nat.zero_add]
  simpa using hu

theorem own_below {w w' : World} {base : Nat} {e : TypeId} {size : Nat} {v : Value} {n : Nat} {xs : List Value} (h : w.ownsRow base e size v n xs) (hb : Below w.heap.size w w') : w'.ownsRow base e size v n xs := by
  refine ⟨h.1, ?_⟩
  rcases h.2 with h0 | ⟨g, cap, cur, hv, hbase, hg, hr⟩
  · exact .inl h0
  · have hlt : g < w.heap.size := by
      rcases Nat.lt_or_ge g w.heap.size with hlt | hge
      · exact hlt
      · rw [Array.getElem?_eq_none hge] at hg; cases hg
    exact .inr ⟨g, cap, cur, hv, hbase, (hb.block g hlt).trans hg, hr⟩


theorem own_less {w : World} {B B' size n : Nat} {e : TypeId} {v : Value} {xs : List Value} (h : w.ownsRow B e size v n xs) (hB : B' ≤ B) : w.ownsRow B' e size v n xs := by
  refine ⟨h.1, ?_⟩
  rcases h.2 with h0 | ⟨g, cap, cur, hv, hb, r⟩
  · exact .inl h0
  · exact .inr ⟨g, cap, cur, hv, Nat.le_trans hB hb, r⟩
end
section
open Go.RowKit
/-- w' differs from w in blocks of T and in new blocks alone -/
structure Touch (T : Nat → Prop) (w w' : World) : Prop where
  os : w'.os = w.os
  tape : w'.tape = w.tape
  output : w'.output = w.output
  size : w.heap.size ≤ w'.heap.size
  block : ∀ k, k < w.heap.size → ¬ T k → w'.heap[k]? = w.heap[k]?
theorem Touch.refl (T : Nat → Prop) (w : World) : Touch T w w := ⟨rfl, rfl, rfl, Nat.le_refl _, fun _ _ _ => rfl⟩
theorem Touch.trans {T : Nat → Prop} {a b c : World} (h : Touch T a b) (k : Touch T b c) : Touch T a c :=
  ⟨k.os.trans h.os, k.tape.trans h.tape, k.output.trans h.output, Nat.le_trans h.size k.size, fun i hi ht => (k.block i (Nat.lt_of_lt_of_le hi h.size) ht).trans (h.block i hi ht)⟩
theorem Touch.mono {T T' : Nat → Prop} {a b : World} (h : Touch T a b) (hT : ∀ k, k < a.heap.size → T k → T' k) : Touch T' a b :=
  ⟨h.os, h.tape, h.output, h.size, fun i hi ht => h.block i hi fun t => ht (hT i hi t)⟩
theorem Touch.alloc (T : Nat → Prop) (w : World) (o : Obj) : Touch T w (w.alloc o) := ⟨rfl, rfl, rfl, by simp, fun k hk _ => Below.heap_alloc w o k hk⟩
theorem Touch.setCell {T : Nat → Prop} (w : World) (a : Addr) (u : Value) (h : T a.block) : Touch T w (w.setCell a u) :=
  ⟨rfl, rfl, rfl, by simp [World.setCell], fun k _ ht => Below.heap_setCell w a u k fun e => ht (e ▸ h)⟩
theorem Touch.drew {T : Nat → Prop} {a b : World} (h : Touch T a b) : Touch T a b.drew := ⟨h.os, h.tape, h.output, h.size, h.block⟩
theorem Touch.drewN {T : Nat → Prop} (a : World) (n : Nat) : Touch T a (a.drewN n) := ⟨rfl, rfl, rfl, Nat.le_refl _, fun _ _ _ => rfl⟩
theorem Touch.of_below {T : Nat → Prop} {a b : World} (h : Below a.heap.size a b) : Touch T a b := ⟨h.os, h.tape, h.output, h.size, fun i hi _ => h.block i hi⟩
theorem Touch.of_grown {T : Nat → Prop} {a b : World} {row : Option Nat} (h : a.grownBy b row) (hr : ∀ k, row = some k → T k) : Touch T a b :=
  ⟨h.os, h.tape, h.output, h.size, fun i hi ht => h.block i hi fun e => ht (hr i e.symm)⟩
theorem Touch.below {T : Nat → Prop} {a b : World} {B : Nat} (h : Touch T a b) (hB : B ≤ a.heap.size) (hT : ∀ k, T k → B ≤ k) : Below B a b :=
  ⟨h.os, h.tape, h.output, h.size, fun k hk => h.block k (Nat.lt_of_lt_of_le hk hB) fun t => Nat.not_lt_of_le (hT k t) hk⟩
theorem Touch.cell {T : Nat → Prop} {a b : World} (h : Touch T a b) {p : Addr} (hp : p.block < a.heap.size) (ht : ¬ T p.block) : b.cell? p = a.cell? p := World.cell?_of_block (w := a) (h.block p.block hp ht)
end

section
open Go.RowKit Go.Shelf Go.Lib

/-- a list of bytes as a string -/
abbrev str (l : List UInt8) : Value := .string ⟨l.toArray⟩

/-- the block just laid -/
theorem alloc_new (w : World) (o : Obj) : (w.alloc o).heap[w.heap.size]? = some o := by
  show (w.heap.push o)[w.heap.size]? = some o
  simp
/-- a cell in a box -/
def Box (w : World) (b : Nat) (v : Value) (t : TypeId) : Prop := w.heap[b]? = some (.cells #[v] t (0, 0))
theorem Box.cell {w : World} {b : Nat} {v : Value} {t : TypeId} (h : Box w b v t) : w.cell? ⟨b, 0, none⟩ = some v := cell_of_row w b 0 _ _ _ h
theorem Box.frozen {w : World} {b : Nat} {v : Value} {t : TypeId} (h : Box w b v t) : w.frozen? ⟨b, 0, none⟩ = false := frozen_of_row w b 0 _ _ h
theorem Box.lt {w : World} {b : Nat} {v : Value} {t : TypeId} (h : Box w b v t) : b < w.heap.size := (Array.getElem?_eq_some_iff.1 h).1
theorem Box.set {w : World} {b : Nat} {v : Value} {t : TypeId} (h : Box w b v t) (u : Value) : Box (w.setCell ⟨b, 0, none⟩ u) b u t := heap_setCell_same w b 0 _ _ _ h
theorem Box.same {w w' : World} {b : Nat} {v : Value} {t : TypeId} (h : Box w b v t) (e : w'.heap[b]? = w.heap[b]?) : Box w' b v t := e.trans h
theorem Box.other {w : World} {b c : Nat} {v u : Value} {t : TypeId} (h : Box w b v t) (hn : b ≠ c) : Box (w.setCell ⟨c, 0, none⟩ u) b v t := h.same (Below.heap_setCell w ⟨c, 0, none⟩ u b hn)

theorem take_str (l : List UInt8) (i : Nat) : (⟨l.toArray⟩ : ByteArray).extract 0 i = ⟨(l.take i).toArray⟩ := by
  apply ByteArray.ext
  rw [ByteArray.data_extract]
  simp
theorem drop_str (l : List UInt8) (i : Nat) : (⟨l.toArray⟩ : ByteArray).extract i l.length = ⟨(l.drop i).toArray⟩ := by
  apply ByteArray.ext
  rw [ByteArray.data_extract]
  simp
  exact List.take_of_length_le (by simp)
theorem names_at {l : List (List UInt8)} {k : Nat} {x : List UInt8} {t : List (List UInt8)} (h : l.drop k = x :: t) : (l.map str)[k]? = some (str x) := by
  have e : l[k]? = some x := by rw [← Nat.add_zero k, ← List.getElem?_drop, h]; rfl
  rw [List.getElem?_map, e]; rfl
theorem names_len {l : List (List UInt8)} {k : Nat} {x : List UInt8} (h : l.drop k = [x]) : l.length = k + 1 := by
  have := congrArg List.length h
  rw [List.length_drop] at this
  simp at this
  omega
theorem names_next {l : List (List UInt8)} {k : Nat} {x : List UInt8} {t : List (List UInt8)} (h : l.drop k = x :: t) : l.drop (k + 1) = t := by
  rw [← List.drop_drop, h]; rfl

/-- the three boxes of the iterator -/
def Boxes (b : Nat) (k : Nat) : Prop := k = b ∨ k = b + 1 ∨ k = b + 2
def strLen : Value → Nat | .string s => s.size | _ => 0
end

section
open Go.RowKit Go.Shelf Go.Lib

/-- m elements that lie from A on hold the cells xs -/
structure Src (w : World) (size : Nat) (A : Option Addr) (c m : Nat) (xs : List Value) : Prop where
  len : xs.length = m * size
  nil : A = none → m = 0 ∧ c = 0
  cells : 0 < m → ∃ k off, A = some ⟨k, off, none⟩ ∧ k < w.heap.size ∧ ∀ j u, xs[j]? = some u → w.cell? ⟨k, off + j, none⟩ = some u
theorem Src.below {w w' : World} {size : Nat} {A : Option Addr} {c m : Nat} {xs : List Value} (h : Src w size A c m xs) (hb : Below w.heap.size w w') : Src w' size A c m xs := by
  refine ⟨h.len, h.nil, fun hm => ?_⟩
  obtain ⟨k, off, e, hk, hc⟩ := h.cells hm
  exact ⟨k, off, e, Nat.lt_of_lt_of_le hk hb.size, fun j u hu => (hb.cell (p := ⟨k, off + j, none⟩) hk).trans (hc j u hu)⟩
theorem add_off (k off j : Nat) : (⟨k, off, none⟩ : Addr).add j = ⟨k, off + j, none⟩ := by
  unfold Addr.add
  split
  · next h => subst h; rfl
  · rfl
/-- where the rest of a slice lies -/
def tailA (A : Option Addr) (cap i size : Nat) : Option Addr := if cap = i then A else A.map (·.add (i * size))
theorem own_form {w : World} {base size n : Nat} {e : TypeId} {v : Value} {xs : List Value} (h : w.ownsRow base e size v n xs) : ∃ A cap, v = .slice A n cap ∧ n ≤ cap ∧ (A = none → cap = 0) := by
  rcases h.2 with ⟨rfl, h0⟩ | ⟨g, cap, cur, rfl, _, _, hn, _⟩
  · exact ⟨none, 0, by rw [h0], by omega, fun _ => rfl⟩
  · exact ⟨some ⟨g, 0, none⟩, cap, rfl, hn, fun e => by cases e⟩
theorem own_head {w : World} {base size n cap i : Nat} {e : TypeId} {A : Option Addr} {xs : List Value} (h : w.ownsRow base e size (.slice A n cap) n xs) (hi : i ≤ n) : Src w size A cap i (xs.take (i * size)) := by
  have hl := h.1
  have hmul : i * size ≤ n * size := Nat.mul_le_mul_right _ hi
  rcases h.2 with ⟨e1, h0⟩ | ⟨g, cap', cur, e1, _, hg, hn, _, hs, ht⟩
  · injection e1 with e1 e2 e3
    subst e1 e3
    exact ⟨by rw [List.length_take]; omega, fun _ => ⟨by omega, rfl⟩, fun hm => by omega⟩
  · injection e1 with e1 e2 e3
    subst e1
    refine ⟨by rw [List.length_take]; omega, (fun e => by cases e), fun _ => ⟨g, 0, rfl, (Array.getElem?_eq_some_iff.1 hg).1, fun j u hu => ?_⟩⟩
    rw [Nat.zero_add, cell_of_row w g j cur _ (0, 0) hg]
    rw [List.getElem?_take] at hu
    split at hu
    · rw [← ht, List.getElem?_take] at hu
      split at hu
      · rw [← hu, Array.getElem?_toList]
      · cases hu
    · cases hu
theorem own_tail {w : World} {base size n cap i : Nat} {e : TypeId} {A : Option Addr} {xs : List Value} (h : w.ownsRow base e size (.slice A n cap) n xs) (hi : i ≤ n) : Src w size (tailA A cap i size) (cap - i) (n - i) (xs.drop (i * size)) := by
  have hl := h.1
  have hd : (xs.drop (i * size)).length = (n - i) * size := by rw [List.length_drop, hl, Nat.sub_mul]
  rcases h.2 with ⟨e1, h0⟩ | ⟨g, cap', cur, e1, _, hg, hn, _, hs, ht⟩
  · injection e1 with e1 e2 e3
    subst e1 e3
    exact ⟨hd, fun _ => ⟨by omega, by omega⟩, fun hm => by omega⟩
  · injection e1 with e1 e2 e3
    subst e1 e3
    refine ⟨hd, (fun e => ?_), fun hm => ⟨g, i * size, ?_, (Array.getElem?_eq_some_iff.1 hg).1, fun j u hu => ?_⟩⟩
    · unfold tailA at e
      split at e <;> simp at e
    · unfold tailA
      rw [if_neg (by omega)]
      simp [add_off]
    · rw [cell_of_row w g (i * size + j) cur _ (0, 0) hg]
      rw [List.getElem?_drop, ← ht, List.getElem?_take] at hu
      split at hu
      · rw [← hu, Array.getElem?_toList]
      · cases hu

theorem run_append_src {P : Program} (w : World) (base : Nat) (t ty e : TypeId) (i : TypeInfo) (z : Value) (size bytes : Nat) (ht : P.underlying t = some (.slice e)) (hi : P.info? e = some i) (hz : i.zero = some z)
    (hsize : i.size = size) (hby : i.bytes = bytes) (hzs : z.cells.size = size) (hsz : 0 < size)
    (v : Value) (n : Nat) (xs : List Value) (hown : w.ownsRow base e size v n xs) {A : Option Addr} {c m : Nat} {news : List Value} (hs : Src w size A c m news) (h1 : ∀ u ∈ news, u.oneCell' = true)
    (h63 : n + m ≤ maxLen) (hbytes : (n + m) * bytes ≤ 140737488355328) (hbase : base ≤ w.heap.size) :
    ∃ v' w', (Builtin.append_ #[t, t] ty #[v, .slice A m c]).run P w = .ok v' w' ∧ w'.ownsRow base e size v' (n + m) (xs ++ news) ∧ w.grownBy w' v.ownBlock ∧ (v'.ownBlock = v.ownBlock ∨ v'.ownBlock = some w.heap.size) := by
  cases A with
  | none =>
    obtain ⟨rfl, rfl⟩ := hs.nil rfl
    have hn : news = [] := List.eq_nil_of_length_eq_zero (by have := hs.len; omega)
    subst hn
    exact ⟨v, w, run_append_owned_none (P := P) (w := w) base t ty e i size ht hi v n xs hown, by simpa using hown, ⟨rfl, rfl, rfl, Nat.le_refl _, fun _ _ _ => rfl⟩, .inl rfl⟩
  | some a =>
    have hnews : ∀ j u, news[j]? = some u → w.cell? (a.add j) = some u := fun j u hu => by
      rcases Nat.eq_zero_or_pos m with h0 | h0
      · have hn : news = [] := List.eq_nil_of_length_eq_zero (by have := hs.len; rw [h0] at this; omega)
        rw [hn] at hu
        cases hu
      · obtain ⟨k, off, e1, _, hc⟩ := hs.cells h0
        injection e1 with e1
        subst e1
        rw [add_off]
        exact hc j u hu
    obtain ⟨v', w', hrun, h2, h3, _, h5⟩ := run_append_own_at (P := P) w base t ty e i z size bytes ht hi hz hsize hby hzs hsz v n xs hown a m c news hs.len hnews h1 h63 hbytes hbase
    exact ⟨v', w', hrun, h2, h3, h5⟩
/-- what an append to a row of later blocks leaves -/
theorem grown_below {w w' : World} {B : Nat} {row : Option Nat} (hg : w.grownBy w' row) (hB : B ≤ w.heap.size) (hr : ∀ k, row = some k → B ≤ k) : Below B w w' :=
  (Touch.of_grown (T := fun k => B ≤ k) hg hr).below hB fun _ h => h
end

section
open Go.RowKit Go.Shelf Go.Lib
theorem Src.same {w w' : World} {size : Nat} {A : Option Addr} {c m : Nat} {xs : List Value} (h : Src w size A c m xs) (hsz : w.heap.size ≤ w'.heap.size) (hb : ∀ k off, A = some ⟨k, off, none⟩ → k < w.heap.size → w'.heap[k]? = w.heap[k]?) : Src w' size A c m xs := by
  refine ⟨h.len, h.nil, fun hm => ?_⟩
  obtain ⟨k, off, e, hk, hc⟩ := h.cells hm
  exact ⟨k, off, e, Nat.lt_of_lt_of_le hk hsz, fun j u hu => (World.cell?_of_block (w := w) (w' := w') (a := ⟨k, off + j, none⟩) (hb k off e hk)).trans (hc j u hu)⟩
theorem own_src {w : World} {base size n : Nat} {e : TypeId} {v : Value} {xs : List Value} (h : w.ownsRow base e size v n xs) : ∃ A cap, v = .slice A n cap ∧ n ≤ cap ∧ Src w size A cap n xs := by
  obtain ⟨A, cap, rfl, h1, h2⟩ := own_form h
  refine ⟨A, cap, rfl, h1, ?_⟩
  have := own_head h (Nat.le_refl n)
  rw [List.take_of_length_le (by rw [h.1]; exact Nat.le_refl _)] at this
  exact this
theorem own_same {w w' : World} {base size n : Nat} {e : TypeId} {v : Value} {xs : List Value} (h : w.ownsRow base e size v n xs) (hb : ∀ k, v.ownBlock = some k → w'.heap[k]? = w.heap[k]?) : w'.ownsRow base e size v n xs := by
  obtain ⟨h1, h2⟩ := h
  refine ⟨h1, ?_⟩
  rcases h2 with h2 | ⟨g, cap, cur, hv, hg, hh, r⟩
  · exact .inl h2
  · exact .inr ⟨g, cap, cur, hv, hg, (hb g (by rw [hv]; rfl)).trans hh, r⟩
theorem own_zero {w : World} {base size n : Nat} {e : TypeId} {v : Value} {xs : List Value} (h : w.ownsRow base e size v n xs) : w.ownsRow 0 e size v n xs := by
  obtain ⟨h1, h2⟩ := h
  refine ⟨h1, ?_⟩
  rcases h2 with h2 | ⟨g, cap, cur, hv, hg, r⟩
  · exact .inl h2
  · exact .inr ⟨g, cap, cur, hv, Nat.zero_le _, r⟩
theorem own_lt {w : World} {base size n : Nat} {e : TypeId} {v : Value} {xs : List Value} (h : w.ownsRow base e size v n xs) : ∀ k, v.ownBlock = some k → base ≤ k ∧ k < w.heap.size := by
  intro k hk
  rcases h.2 with ⟨rfl, _⟩ | ⟨g, cap, cur, rfl, hg, hh, _⟩
  · cases hk
  · simp [Value.ownBlock] at hk
    subst hk
    exact ⟨hg, (Array.getElem?_eq_some_iff.1 hh).1⟩

theorem src_part {W : World} {size c m p n : Nat} {A : Option Addr} {xs : List Value} (h : Src W size A c m xs) (hp : p + n ≤ m) (hmc : m ≤ c) : Src W size (tailA A c p size) (c - p) n ((xs.drop (p * size)).take (n * size)) := by
  have hl := h.len
  have hmul : p * size + n * size ≤ m * size := by rw [← Nat.add_mul]; exact Nat.mul_le_mul_right _ hp
  refine ⟨by rw [List.length_take, List.length_drop]; omega, fun e => ?_, fun hn => ?_⟩
  · unfold tailA at e
    split at e
    · next hcp => have := h.nil e; omega
    · cases A with
      | none => have := h.nil rfl; omega
      | some a => cases e
  · obtain ⟨k, off, e, hk, hc⟩ := h.cells (by omega)
    subst e
    refine ⟨k, off + p * size, ?_, hk, fun j u hu => ?_⟩
    · unfold tailA
      rw [if_neg (by omega)]
      simp [add_off]
    · rw [List.getElem?_take] at hu
      split at hu
      · rw [List.getElem?_drop] at hu
        rw [Nat.add_assoc]
        exact hc _ u hu
      · cases hu
theorem slice_both {P : Program} (t e : TypeId) (ht : P.underlying t = some (.slice e)) (size : Nat) (hz : ∀ w, (Go.sizeOf e).run P w = .ok size w) (A : Option Addr) (n cap l h : Nat) (hl : l ≤ h) (hh : h ≤ cap) (W : World) :
    (Instr.slice t (.slice A n cap) (some (.int .i64 (l : Int))) (some (.int .i64 (h : Int))) none).run P W = .ok (.slice (tailA A cap l size) (h - l) (cap - l)) W := by
  have ht' : P.underlying t = some (.slice (P.elem t)) := by simp [Program.elem, ht]
  have he : P.elem t = e := by simp [Program.elem, ht]
  rw [run_slice_lh W t _ _ _ ht' .i64 .i64 _ _ (by omega) (by omega) (by omega), he, hz]
  simp [Result.andThen, sliced, tailA]
theorem slice_head {P : Program} (t e : TypeId) (ht : P.underlying t = some (.slice e)) (size : Nat) (hz : ∀ w, (Go.sizeOf e).run P w = .ok size w) (A : Option Addr) (n cap h : Nat) (hh : h ≤ cap) (W : World) :
    (Instr.slice t (.slice A n cap) none (some (.int .i64 (h : Int))) none).run P W = .ok (.slice A h cap) W := by
  have ht' : P.underlying t = some (.slice (P.elem t)) := by simp [Program.elem, ht]
  have he : P.elem t = e := by simp [Program.elem, ht]
  rw [run_slice_h W t _ _ _ ht' .i64 _ (by omega) (by omega), he, hz]
  by_cases h0 : cap = 0
  · simp [Result.andThen, sliced, h0]
  · cases A with
    | none => simp [Result.andThen, sliced]
    | some a =>
      have : a.add 0 = a := by cases a; simp [Addr.add]
      simp [Result.andThen, sliced, this]
theorem slice_tail {P : Program} (t e : TypeId) (ht : P.underlying t = some (.slice e)) (size : Nat) (hz : ∀ w, (Go.sizeOf e).run P w = .ok size w) (A : Option Addr) (n cap l : Nat) (hl : l ≤ n) (W : World) :
    (Instr.slice t (.slice A n cap) (some (.int .i64 (l : Int))) none none).run P W = .ok (.slice (tailA A cap l size) (n - l) (cap - l)) W := by
  have ht' : P.underlying t = some (.slice (P.elem t)) := by simp [Program.elem, ht]
  have he : P.elem t = e := by simp [Program.elem, ht]
  rw [run_slice_l W t _ _ _ ht' .i64 _ (by omega) (by omega), he, hz]
  simp [Result.andThen, sliced, tailA]
theorem wpList_slice_run {P : Program} {ops : Array Oper} {rest : List Oper} {o : Oper} {a : Act} {Q : Exit → Act → World → Prop} {w : World} {t e : TypeId} {u v' : Value} {lo hi : Option Value} (hrun : ∀ W, (Instr.slice t u lo hi none).run P W = .ok v' W) (ht : P.underlying t = some (.slice e)) (hgd : o.guard = none) (x : Operand) (l h : Option Operand)
    (ho : o.op = Op.slice t x l h none) (hx : a.eval x = u) (hl : l.map a.eval = lo) (hh : h.map a.eval = hi) (hK : wpList P ops Q rest (a.put o.dst v') w) : wpList P ops Q (o :: rest) a w := by
  refine wpList_plain hgd fun K hk => ?_
  have ht' : P.underlying t = some (.slice (P.elem t)) := by simp [Program.elem, ht]
  unfold Oper.wp execOp
  simp only [ho, hx, hl, hh, Option.map_none, run_sliceAt_slice w t _ _ _ _ ht', Sem.run_bind, Sem.run_pure, Result.andThen_ok, hrun]
  exact hk _ _ hK

end
section
open Go.RowKit Go.Shelf Go.Lib
theorem Holds1.src {w : World} {A : Option Addr} {n c : Nat} {xs : List Value} (h : Holds1 w (.slice A n c) xs) : Src w 1 A c n xs := by
  obtain ⟨A', c', e, hc, hcell⟩ := h
  injection e with e1 e2 e3
  subst e1 e3 e2
  exact ⟨by simp, (fun hA => ⟨by have := hc.1; have := hc.2 hA; omega, hc.2 hA⟩), fun hm => by
    obtain ⟨b, off, rfl, hlt, hj⟩ := hcell hm
    exact ⟨b, off, rfl, hlt, hj⟩⟩

theorem own_touch {W W' : World} {B size n : Nat} {e : TypeId} {v : Value} {xs : List Value} {T : Nat → Prop} (h : W.ownsRow B e size v n xs) (ht : Touch T W W') (hT : ∀ k, T k → k < B) : W'.ownsRow B e size v n xs := by
  refine ⟨h.1, ?_⟩
  rcases h.2 with h0 | ⟨g, cap, cur, hv, hb, hg, r⟩
  · exact .inl h0
  · exact .inr ⟨g, cap, cur, hv, hb, (ht.block g (Array.getElem?_eq_some_iff.1 hg).1 fun t => Nat.not_lt_of_le hb (hT g t)).trans hg, r⟩
end
section
open Go.RowKit Go.Shelf Go.Lib
theorem ret_bool {a b : Bool} (h : a = b) : Ending.returned (.bool a) = .returned (.bool b) := by rw [h]
theorem ret_i64 {a b : Int} (h : a = b) : Ending.returned (.int .i64 a) = .returned (.int .i64 b) := by rw [h]
theorem runeVals_length (l : List Int) : (runeVals l).length = l.length := by simp [runeVals]
theorem runeVals_one (l : List Int) : ∀ v ∈ runeVals l, v.oneCell' = true := by
  intro v hv
  simp only [runeVals, List.mem_map] at hv
  obtain ⟨x, _, rfl⟩ := hv
  rfl
theorem runeVals_append (a b : List Int) : runeVals (a ++ b) = runeVals a ++ runeVals b := List.map_append
/-- the one block g is the one block that turns -/
abbrev Only (g : Nat) : Nat → Prop := fun k => k = g
theorem only_set (w : World) (g k : Nat) (v : Value) : Touch (Only g) w (w.setCell ⟨g, k, none⟩ v) := Touch.setCell w ⟨g, k, none⟩ v rfl

/-- a slice of runes that lies outside of a buffer's block -/
def OffR (w : World) (g : Nat) (v : Value) (x : List Int) : Prop := ∀ W, Touch (Only g) w W → Holds1 W v (runeVals x)
theorem OffR.touch {w w' : World} {g : Nat} {v : Value} {x : List Int} (h : OffR w g v x) (ht : Touch (Only g) w w') : OffR w' g v x := fun W hW => h W (ht.trans hW)
theorem OffR.holds {w : World} {g : Nat} {v : Value} {x : List Int} (h : OffR w g v x) : Holds1 w v (runeVals x) := h w (Touch.refl _ _)
theorem OffR.form {w : World} {g : Nat} {v : Value} {x : List Int} (h : OffR w g v x) : ∃ A c, v = .slice A x.length c := by
  obtain ⟨A, c, e, _⟩ := h.holds
  exact ⟨A, c, by rw [e, runeVals_length]⟩

theorem OffR.of {w w1 : World} {g : Nat} {v : Value} {x : List Int} (h : Holds1 w v (runeVals x)) (hb : Below w.heap.size w w1) (hg : w.heap.size ≤ g) : OffR w1 g v x := fun W hW => by
  obtain ⟨A, c, rfl, hc, h⟩ := h
  refine ⟨A, c, rfl, hc, fun hn => ?_⟩
  obtain ⟨b, off, hA, hlt, hcell⟩ := h hn
  have hlt1 := Nat.lt_of_lt_of_le hlt hb.size
  refine ⟨b, off, hA, Nat.lt_of_lt_of_le hlt1 hW.size, fun j u hu => ?_⟩
  rw [World.cell?_of_block (w := w1) (w' := W) (a := ⟨b, off + j, none⟩) (hW.block b hlt1 (fun e => by simp only [Only] at e; omega))]
  exact (hb.cell (p := ⟨b, off + j, none⟩) hlt).trans (hcell j u hu)
theorem only_below {w w1 w2 : World} {g : Nat} (hb : Below w.heap.size w w1) (ht : Touch (Only g) w1 w2) (hg : w.heap.size ≤ g) : Below w.heap.size w w2 :=
  hb.trans (ht.below hb.size fun k hk => by simp only [Only] at hk; omega)
theorem measure_lt {j p : Nat} (h : j < p) (hw : wrap64 ((j : Int) + 1) = (j : Int) + 1) : p - (RowKit.intOf (.int .i64 (wrap64 ((j : Int) + 1)))).toNat < p - (RowKit.intOf (.int .i64 (j : Int))).toNat := by
  rw [hw]
  clear hw
  simp [RowKit.intOf]
  omega
theorem next_val {j : Nat} (hw : wrap64 ((j : Int) + 1) = (j : Int) + 1) : Value.int .i64 (wrap64 ((j : Int) + 1)) = .int .i64 ((j + 1 : Nat) : Int) := by
  rw [hw]
  rfl
theorem prev_val {j : Nat} (hw : wrap64 (((j + 1 : Nat) : Int) - 1) = (j : Int)) : Value.int .i64 (wrap64 (((j + 1 : Nat) : Int) - 1)) = .int .i64 (j : Int) := by
  rw [hw]
theorem prev_lt {j : Nat} (hw : wrap64 (((j + 1 : Nat) : Int) - 1) = (j : Int)) : (RowKit.intOf (.int .i64 (wrap64 (((j + 1 : Nat) : Int) - 1)))).toNat < (RowKit.intOf (.int .i64 ((j + 1 : Nat) : Int))).toNat := by
  rw [hw]
  clear hw
  simp [RowKit.intOf]
theorem rune_cell {w : World} {A : Option Addr} {l : List Int} {c : Nat} (h : Holds1 w (.slice A l.length c) (runeVals l)) {q : Nat} (hq : q < l.length) : ∃ b off, A = some ⟨b, off, none⟩ ∧ b < w.heap.size ∧ w.cell? ⟨b, off + q, none⟩ = some (.int .i32 l[q]) := by
  obtain ⟨A', c', e, _, h⟩ := h
  injection e with e1 e2 e3
  subst e1
  rw [runeVals_length] at h
  obtain ⟨b, off, rfl, hlt, hc⟩ := h (by omega)
  exact ⟨b, off, rfl, hlt, hc q _ (by unfold runeVals; rw [List.getElem?_map, List.getElem?_eq_getElem hq]; rfl)⟩

/-- at the operation -/
theorem wpList_append_is {P : Program} {ops : Array Oper} {rest : List Oper} {o : Oper} {a : Act} {Q : Exit → Act → World → Prop} {w w' : World} {t ty : TypeId} {u1 u2 v' : Value} (hrun : (Builtin.append_ #[t, t] ty #[u1, u2]).run P w = .ok v' w') (hgd : o.guard = none) (s x : Operand)
    (ho : o.op = .call { callee := .builtin .append, args := #[s, x], argTypes := #[t, t] }) (hty : o.type = ty) (hs : a.eval s = u1) (hx : a.eval x = u2) (h : wpList P ops Q rest (a.put o.dst v') w') : wpList P ops Q (o :: rest) a w := by
  refine wpList_plain hgd fun K hK => ?_
  unfold Oper.wp execOp
  simp only [ho, resolve, invoke, builtin, Sem.run_bind, Sem.run_pure, Result.andThen_ok, List.map_toArray, List.map_cons, List.map_nil, hs, hx, hty, hrun]
  exact hK _ _ h
theorem step_append_is {P : Program} {ops : Array Oper} {o : Oper} {a : Act} {K : Act → World → Prop} {Q : Exit → Act → World → Prop} {E : Prop} {w w' : World} {t ty : TypeId} {u1 u2 v' : Value} (hrun : (Builtin.append_ #[t, t] ty #[u1, u2]).run P w = .ok v' w') (hgd : o.guard = none) (s x : Operand)
    (ho : o.op = .call { callee := .builtin .append, args := #[s, x], argTypes := #[t, t] }) (hty : o.type = ty) (hs : a.eval s = u1) (hx : a.eval x = u2) (h : K (a.put o.dst v') w') :
    if Region.wanted o (yielded ops a.tmps) = true then Oper.wp P o a w K Q else E := by
  have hw : Region.wanted o (yielded ops a.tmps) = true := by simp [Region.wanted, hgd]
  rw [if_pos hw]
  unfold Oper.wp execOp
  simp only [ho, resolve, invoke, builtin, Sem.run_bind, Sem.run_pure, Result.andThen_ok, List.map_toArray, List.map_cons, List.map_nil, hs, hx, hty, hrun]
  exact h
theorem own_kind {w : World} {base size n : Nat} {e : TypeId} {v : Value} {xs : List Value} (h : w.ownsRow base e size v n xs) {k : Nat} (hk : v.ownBlock = some k) : ∃ cur, w.heap[k]? = some (.cells cur e (0, 0)) := by
  rcases h.2 with ⟨rfl, _⟩ | ⟨g, cap, cur, rfl, _, hh, _⟩
  · cases hk
  · simp [Value.ownBlock] at hk
    subst hk
    exact ⟨cur, hh⟩
end
end Go.Proofs.Ytojhppcnpjajaaa
