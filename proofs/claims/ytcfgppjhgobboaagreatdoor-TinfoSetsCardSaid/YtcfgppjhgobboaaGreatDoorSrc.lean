/-
  The source of an append, nil or not: slices that were cut out of a row of the call's own. No program is walked here, and nothing is assumed.
-/
import Derived.Test.YtcfgppjhgobboaaGreatDoorBase
import Derived.Laws.AppendOwnNone
import Derived.Maps.AppendAt
namespace Go.Proofs.YtcfgppjhgobboaaGreatDoor
open Go.RowKit Go.Shelf Go.Lib

/-- m elements that lie from A on hold the cells xs -/
structure Src (w : World) (size : Nat) (A : Option Addr) (c m : Nat) (xs : List Value) : Prop where
  len : xs.length = m * size
  nil : A = none → m = 0 ∧ c = 0
  cells : 0 < m → ∃ k off, A = some ⟨k, off, none⟩ ∧ k < w.heap.size ∧ ∀ j u, xs[j]? = some u → w.cell? ⟨k, off + j, none⟩ = some u
theorem Src.below {w w' : World} {size : Nat} {A : Option Addr} {c m : Nat} {xs : List Value} (h : Src w size A c m xs) (hb : Below w.heap.size w w') : Src w' size A c m xs := by
  refine ⟨h.len, h.nil, fun hm => ?_⟩
  obtain ⟨k, off, e, hk, hc⟩ := h.cells hm
  exact ⟨k, off, e, Nat.lt_of_lt_of_le hk hb.size, fun j u hu => (hb.cell (p := ⟨k, off + j, none⟩) hk).trans (hc j u hu)⟩
theorem add_off (k off j : Nat) : (⟨k, off, none⟩ : Addr).add j = ⟨k, off + j, none⟩ := by
  unfold Addr.add
  split
  · next h => subst h; rfl
  · rfl
/-- where the rest of a slice lies -/
def tailA (A : Option Addr) (cap i size : Nat) : Option Addr := if cap = i then A else A.map (·.add (i * size))
theorem own_form {w : World} {base size n : Nat} {e : TypeId} {v : Value} {xs : List Value} (h : w.ownsRow base e size v n xs) : ∃ A cap, v = .slice A n cap ∧ n ≤ cap ∧ (A = none → cap = 0) := by
  rcases h.2 with ⟨rfl, h0⟩ | ⟨g, cap, cur, rfl, _, _, hn, _⟩
  · exact ⟨none, 0, by rw [h0], by omega, fun _ => rfl⟩
  · exact ⟨some ⟨g, 0, none⟩, cap, rfl, hn, fun e => by cases e⟩
theorem own_head {w : World} {base size n cap i : Nat} {e : TypeId} {A : Option Addr} {xs : List Value} (h : w.ownsRow base e size (.slice A n cap) n xs) (hi : i ≤ n) : Src w size A cap i (xs.take (i * size)) := by
  have hl := h.1
  have hmul : i * size ≤ n * size := Nat.mul_le_mul_right _ hi
  rcases h.2 with ⟨e1, h0⟩ | ⟨g, cap', cur, e1, _, hg, hn, _, hs, ht⟩
  · injection e1 with e1 e2 e3
    subst e1 e3
    exact ⟨by rw [List.length_take]; omega, fun _ => ⟨by omega, rfl⟩, fun hm => by omega⟩
  · injection e1 with e1 e2 e3
    subst e1
    refine ⟨by rw [List.length_take]; omega, (fun e => by cases e), fun _ => ⟨g, 0, rfl, (Array.getElem?_eq_some_iff.1 hg).1, fun j u hu => ?_⟩⟩
    rw [Nat.zero_add, cell_of_row w g j cur _ (0, 0) hg]
    rw [List.getElem?_take] at hu
    split at hu
    · rw [← ht, List.getElem?_take] at hu
      split at hu
      · rw [← hu, Array.getElem?_toList]
      · cases hu
    · cases hu
theorem own_tail {w : World} {base size n cap i : Nat} {e : TypeId} {A : Option Addr} {xs : List Value} (h : w.ownsRow base e size (.slice A n cap) n xs) (hi : i ≤ n) : Src w size (tailA A cap i size) (cap - i) (n - i) (xs.drop (i * size)) := by
  have hl := h.1
  have hd : (xs.drop (i * size)).length = (n - i) * size := by rw [List.length_drop, hl, Nat.sub_mul]
  rcases h.2 with ⟨e1, h0⟩ | ⟨g, cap', cur, e1, _, hg, hn, _, hs, ht⟩
  · injection e1 with e1 e2 e3
    subst e1 e3
    exact ⟨hd, fun _ => ⟨by omega, by omega⟩, fun hm => by omega⟩
  · injection e1 with e1 e2 e3
    subst e1 e3
    refine ⟨hd, (fun e => ?_), fun hm => ⟨g, i * size, ?_, (Array.getElem?_eq_some_iff.1 hg).1, fun j u hu => ?_⟩⟩
    · unfold tailA at e
      split at e <;> simp at e
    · unfold tailA
      rw [if_neg (by omega)]
      simp [add_off]
    · rw [cell_of_row w g (i * size + j) cur _ (0, 0) hg]
      rw [List.getElem?_drop, ← ht, List.getElem?_take] at hu
      split at hu
      · rw [← hu, Array.getElem?_toList]
      · cases hu

theorem run_append_src {P : Program} (w : World) (base : Nat) (t ty e : TypeId) (i : TypeInfo) (z : Value) (size bytes : Nat) (ht : P.underlying t = some (.slice e)) (hi : P.info? e = some i) (hz : i.zero = some z)
    (hsize : i.size = size) (hby : i.bytes = bytes) (hzs : z.cells.size = size) (hsz : 0 < size)
    (v : Value) (n : Nat) (xs : List Value) (hown : w.ownsRow base e size v n xs) {A : Option Addr} {c m : Nat} {news : List Value} (hs : Src w size A c m news) (h1 : ∀ u ∈ news, u.oneCell' = true)
    (h63 : n + m ≤ maxLen) (hbytes : (n + m) * bytes ≤ 140737488355328) (hbase : base ≤ w.heap.size) :
    ∃ v' w', (Builtin.append_ #[t, t] ty #[v, .slice A m c]).run P w = .ok v' w' ∧ w'.ownsRow base e size v' (n + m) (xs ++ news) ∧ w.grownBy w' v.ownBlock ∧ (v'.ownBlock = v.ownBlock ∨ v'.ownBlock = some w.heap.size) := by
  cases A with
  | none =>
    obtain ⟨rfl, rfl⟩ := hs.nil rfl
    have hn : news = [] := List.eq_nil_of_length_eq_zero (by have := hs.len; omega)
    subst hn
    exact ⟨v, w, run_append_owned_none (P := P) (w := w) base t ty e i size ht hi v n xs hown, by simpa using hown, ⟨rfl, rfl, rfl, Nat.le_refl _, fun _ _ _ => rfl⟩, .inl rfl⟩
  | some a =>
    have hnews : ∀ j u, news[j]? = some u → w.cell? (a.add j) = some u := fun j u hu => by
      rcases Nat.eq_zero_or_pos m with h0 | h0
      · have hn : news = [] := List.eq_nil_of_length_eq_zero (by have := hs.len; rw [h0] at this; omega)
        rw [hn] at hu
        cases hu
      · obtain ⟨k, off, e1, _, hc⟩ := hs.cells h0
        injection e1 with e1
        subst e1
        rw [add_off]
        exact hc j u hu
    obtain ⟨v', w', hrun, h2, h3, _, h5⟩ := run_append_own_at (P := P) w base t ty e i z size bytes ht hi hz hsize hby hzs hsz v n xs hown a m c news hs.len hnews h1 h63 hbytes hbase
    exact ⟨v', w', hrun, h2, h3, h5⟩
/-- what an append to a row of later blocks leaves -/
theorem grown_below {w w' : World} {B : Nat} {row : Option Nat} (hg : w.grownBy w' row) (hB : B ≤ w.heap.size) (hr : ∀ k, row = some k → B ≤ k) : Below B w w' :=
  (Touch.of_grown (T := fun k => B ≤ k) hg hr).below hB fun _ h => h


end Go.Proofs.YtcfgppjhgobboaaGreatDoor
