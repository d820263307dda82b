/-
  Words for every text over package tinfo: strings, boxes of one cell, parts of lists. No program is walked here, and nothing is assumed.
  A loop whose rounds hold a range over a function: each leaves a mark in the frame; the law for such a loop, and for the function's end. No program is walked here, and nothing is assumed.
  A region that draws its order, whatever it does, inside a round of a range over a function. No program is walked here, and nothing is assumed.
  The source of an append, nil or not: slices that were cut out of a row of the call's own. No program is walked here, and nothing is assumed.
  A region that draws its order, by what holds while it runs: a fact on what has been done, on the values that came and on the world, which every operation keeps that may come up. No program is walked here, and nothing is assumed.
  The table of the capabilities' names that package tinfo keeps (its variable runs), as plain data. No program is walked here, and nothing is assumed.
-/
import Derived.Test.YtcfgppjhgobboaaGreatDoorRange
import Derived.Test.YtcfgppjhgobboaaGreatDoorProg
import Derived.Shelf.Abstract
import Derived.Shelf.RegionOpen
import Derived.WalkKit
import Derived.OwnWalkIn
import Derived.TacticsInMore
import Derived.LoopNIn
import Derived.LoopIn
import Derived.Lib.Hide
import Derived.Lib.IndexLaws
import Derived.WalkSpells
import Derived.OrdersIn
import Derived.Laws.AppendOwnNone
import Derived.Maps.AppendAt
import Derived.Orders
namespace Go.Proofs.YtcfgppjhgobboaaGreatDoor
section
open Go.RowKit Go.Shelf Go.Lib

/-- a list of bytes as a string -/
abbrev str (l : List UInt8) : Value := .string ⟨l.toArray⟩

/-- a cell in a box -/
def Box (w : World) (b : Nat) (v : Value) (t : TypeId) : Prop := w.heap[b]? = some (.cells #[v] t (0, 0))
theorem Box.cell {w : World} {b : Nat} {v : Value} {t : TypeId} (h : Box w b v t) : w.cell? ⟨b, 0, none⟩ = some v := cell_of_row w b 0 _ _ _ h
theorem Box.frozen {w : World} {b : Nat} {v : Value} {t : TypeId} (h : Box w b v t) : w.frozen? ⟨b, 0, none⟩ = false := frozen_of_row w b 0 _ _ h
theorem Box.lt {w : World} {b : Nat} {v : Value} {t : TypeId} (h : Box w b v t) : b < w.heap.size := (Array.getElem?_eq_some_iff.1 h).1
theorem Box.set {w : World} {b : Nat} {v : Value} {t : TypeId} (h : Box w b v t) (u : Value) : Box (w.setCell ⟨b, 0, none⟩ u) b u t := heap_setCell_same w b 0 _ _ _ h
theorem Box.same {w w' : World} {b : Nat} {v : Value} {t : TypeId} (h : Box w b v t) (e : w'.heap[b]? = w.heap[b]?) : Box w' b v t := e.trans h
theorem Box.other {w : World} {b c : Nat} {v u : Value} {t : TypeId} (h : Box w b v t) (hn : b ≠ c) : Box (w.setCell ⟨c, 0, none⟩ u) b v t := h.same (Below.heap_setCell w ⟨c, 0, none⟩ u b hn)

theorem take_str (l : List UInt8) (i : Nat) : (⟨l.toArray⟩ : ByteArray).extract 0 i = ⟨(l.take i).toArray⟩ := by
  apply ByteArray.ext
  rw [ByteArray.data_extract]
  simp
theorem drop_str (l : List UInt8) (i : Nat) : (⟨l.toArray⟩ : ByteArray).extract i l.length = ⟨(l.drop i).toArray⟩ := by
  apply ByteArray.ext
  rw [ByteArray.data_extract]
  simp
  exact List.take_of_length_le (by simp)
theorem names_at {l : List (List UInt8)} {k : Nat} {x : List UInt8} {t : List (List UInt8)} (h : l.drop k = x :: t) : (l.map str)[k]? = some (str x) := by
  have e : l[k]? = some x := by rw [← Nat.add_zero k, ← List.getElem?_drop, h]; rfl
  rw [List.getElem?_map, e]; rfl
theorem names_len {l : List (List UInt8)} {k : Nat} {x : List UInt8} (h : l.drop k = [x]) : l.length = k + 1 := by
  have := congrArg List.length h
  rw [List.length_drop] at this
  simp at this
  omega
theorem names_next {l : List (List UInt8)} {k : Nat} {x : List UInt8} {t : List (List UInt8)} (h : l.drop k = x :: t) : l.drop (k + 1) = t := by
  rw [← List.drop_drop, h]; rfl

/-- the three boxes of the iterator -/
def Boxes (b : Nat) (k : Nat) : Prop := k = b ∨ k = b + 1 ∨ k = b + 2
def strLen : Value → Nat | .string s => s.size | _ => 0
end

section
open Go.RowKit

/-- a loop of at most N rounds, whatever it does to the frame -/
theorem wpIn_loop_inv {F : Fence} {n : Nat} {P : Program} {Q : Exit → Act → World → Prop} {a : Act} {w : World} {c : Code} (N : Nat) (I : Nat → Act → World → Prop) (h0 : I 0 a w)
    (hround : ∀ k A W, k ≤ N → I k A W → c.wpIn F n P (Exit.then (fun A' W' => k < N ∧ I (k + 1) A' W') Q) A W) : (Code.loop c).wpIn F n P Q a w := by
  refine wpIn_loop_rounds (N + 1) ?_
  have key : ∀ m k A W, m + k = N → I k A W → Code.roundsIn F n P c Q (m + 1) A W := by
    intro m
    induction m with
    | zero =>
      intro k A W hk hi
      rw [roundsIn_succ]
      refine wpIn_mono (hround k A W (by omega) hi) ?_
      intro e A' W' h
      cases e with
      | normal => exact absurd h.1 (by omega)
      | _ => exact h
    | succ m ih =>
      intro k A W hk hi
      rw [roundsIn_succ]
      refine wpIn_mono (hround k A W (by omega) hi) ?_
      intro e A' W' h
      cases e with
      | normal => exact ih (k + 1) A' W' (by omega) h.2
      | _ => exact h
  exact key N 0 a w (by omega) h0

/-- the marks that the loops have left: their blocks lie from base on -/
def markOf (b : Nat) : Deferred := { target := .collected b, args := #[] }
def Marks (base : Nat) (ds : List Deferred) (W : World) : Prop := ∃ bs : List Nat, ds = bs.map markOf ∧ bs.Nodup ∧ ∀ b ∈ bs, base ≤ b ∧ W.heap[b]? = some (.deferred (some []))
theorem Marks.nil (base : Nat) (W : World) : Marks base [] W := ⟨[], rfl, List.nodup_nil, fun _ h => by cases h⟩
theorem Marks.cons {base b : Nat} {ds : List Deferred} {W : World} (h : Marks base ds W) (hb : base ≤ b) (hh : W.heap[b]? = some (.deferred (some []))) (hn : ∀ c, ds = c → markOf b ∉ c) : Marks base (markOf b :: ds) W := by
  obtain ⟨bs, rfl, h2, h3⟩ := h
  refine ⟨b :: bs, rfl, List.nodup_cons.2 ⟨fun hm => hn _ rfl (List.mem_map_of_mem hm), h2⟩, fun c hc => ?_⟩
  rcases List.mem_cons.1 hc with rfl | hc
  · exact ⟨hb, hh⟩
  · exact h3 c hc
theorem Marks.lt {base b : Nat} {ds : List Deferred} {W : World} (h : Marks base ds W) (hm : markOf b ∈ ds) : b < W.heap.size := by
  obtain ⟨bs, rfl, _, h3⟩ := h
  obtain ⟨c, hc, e⟩ := List.mem_map.1 hm
  have e' : c = b := by simpa [markOf] using e
  subst e'
  exact (Array.getElem?_eq_some_iff.1 (h3 c hc).2).1
theorem Marks.same {base : Nat} {ds : List Deferred} {W W' : World} (h : Marks base ds W) (hs : ∀ b, markOf b ∈ ds → W'.heap[b]? = W.heap[b]?) : Marks base ds W' := by
  obtain ⟨bs, rfl, h2, h3⟩ := h
  exact ⟨bs, rfl, h2, fun b hb => ⟨(h3 b hb).1, (hs b (List.mem_map_of_mem hb)).trans (h3 b hb).2⟩⟩
/-- on its way out a frame takes its marks, one by one: only their blocks turn -/
theorem leaves_marks {F : Fence} {n : Nat} {P : Program} {fn : Func} {tmps : Array Value} {R : Ending → World → Prop} {base : Nat} {ds : List Deferred} {W : World} (h : Marks base ds W)
    (hK : ∀ W', Touch (fun k => base ≤ k) W W' → LeavesInM F n P fn tmps R [] .returning W') : LeavesInM F n P fn tmps R ds .returning W := by
  obtain ⟨bs, rfl, h2, h3⟩ := h
  induction bs generalizing W with
  | nil => exact hK W (Touch.refl _ _)
  | cons b bs ih =>
    obtain ⟨hb, hh⟩ := h3 b List.mem_cons_self
    obtain ⟨hnb, hnd⟩ := List.nodup_cons.1 h2
    refine ⟨by simp, .inl ⟨b, W.putObj b (.deferred none), rfl, run_takeDeferred hh, ?_⟩⟩
    refine ih (fun W' ht => hK W' ((Touch.putObj _ _ _ hb).trans ht)) hnd fun c hc => ?_
    obtain ⟨hc1, hc2⟩ := h3 c (List.mem_cons_of_mem _ hc)
    exact ⟨hc1, (World.putObj_heap_other (by rintro rfl; exact hnb hc)).trans hc2⟩
end

section
open Go

theorem op_round {F : Fence} {n l : Nat} {P : Program} {o : Oper} {a : Act} {w : World} {K : Act → World → Prop} {Q : Exit → Act → World → Prop} (hnd : ∀ c, o.op ≠ .defer c) (h : o.wpIn F n P a w K Q) : o.wpIn (F.inRound l) n P a w K Q := by
  refine ⟨h.1, ?_⟩
  have h2 := h.2
  rw [Oper.semAt_plain _ _ _ hnd] at h2 ⊢
  generalize (execOp a.eval o).run P w = res at h2 ⊢
  cases res with
  | ok x w' => cases x <;> exact h2
  | halt x w' => cases x <;> exact h2
theorem ops_round {F : Fence} {n l : Nat} {P : Program} {ops : Array Oper} {Q : Exit → Act → World → Prop} (hnd : ∀ (i : Nat) (o : Oper), ops[i]? = some o → ∀ c, o.op ≠ .defer c) : ∀ (ls : List Nat) (a : Act) (w : World), wpOpsIn F n P ops Q ls a w → wpOpsIn (F.inRound l) n P ops Q ls a w := by
  intro ls
  induction ls with
  | nil => exact fun _ _ h => h
  | cons i r ih =>
    intro a w h
    simp only [wpOpsIn] at h ⊢
    cases ho : ops[i]? with
    | none =>
      simp only [ho] at h ⊢
      exact ih a w h
    | some o =>
      simp only [ho] at h ⊢
      by_cases hw : Region.wanted o (yielded ops a.tmps) = true
      · simp only [hw, if_true] at h ⊢
        exact op_round (hnd i o ho) (Oper.wpIn_mono (fun a w h => ih a w h) h)
      · simp only [hw] at h ⊢
        exact ⟨h.1, ih _ _ h.2⟩
theorem wpIn_region_any_round {F : Fence} {n l : Nat} {P : Program} {id : Nat} {Q : Exit → Act → World → Prop} {a : Act} {w : World} {ls : List Oper} (hnd : ∀ o ∈ ls, ∀ c, o.op ≠ .defer c) (hm : P.follows .mixedOrders = true)
    (h : wpAnyIn F n P .any ls.toArray Q ls.length (Array.replicate ls.length false) a w.drew) : (Code.region id ls.toArray true).wpIn (F.inRound l) n P Q a w := by
  refine wpIn_region_draw fun t => ?_
  have h3 := wpAnyIn_sound _ t _ a _ h
  simp only [Region.schedule, hm, Bool.true_or, if_true]
  refine ops_round (fun i o hi c => ?_) _ _ _ ?_
  · rw [List.getElem?_toArray] at hi
    exact hnd o (List.mem_of_getElem? hi) c
  · simpa [Region.linearise] using h3
end

section
open Go.RowKit Go.Shelf Go.Lib

/-- m elements that lie from A on hold the cells xs -/
structure Src (w : World) (size : Nat) (A : Option Addr) (c m : Nat) (xs : List Value) : Prop where
  len : xs.length = m * size
  nil : A = none → m = 0 ∧ c = 0
  cells : 0 < m → ∃ k off, A = some ⟨k, off, none⟩ ∧ k < w.heap.size ∧ ∀ j u, xs[j]? = some u → w.cell? ⟨k, off + j, none⟩ = some u
theorem Src.below {w w' : World} {size : Nat} {A : Option Addr} {c m : Nat} {xs : List Value} (h : Src w size A c m xs) (hb : Below w.heap.size w w') : Src w' size A c m xs := by
  refine ⟨h.len, h.nil, fun hm => ?_⟩
  obtain ⟨k, off, e, hk, hc⟩ := h.cells hm
  exact ⟨k, off, e, Nat.lt_of_lt_of_le hk hb.size, fun j u hu => (hb.cell (p := ⟨k, off + j, none⟩) hk).trans (hc j u hu)⟩
theorem add_off (k off j : Nat) : (⟨k, off, none⟩ : Addr).add j = ⟨k, off + j, none⟩ := by
  unfold Addr.add
  split
  · next h => subst h; rfl
  · rfl
/-- where the rest of a slice lies -/
def tailA (A : Option Addr) (cap i size : Nat) : Option Addr := if cap = i then A else A.map (·.add (i * size))
theorem own_form {w : World} {base size n : Nat} {e : TypeId} {v : Value} {xs : List Value} (h : w.ownsRow base e size v n xs) : ∃ A cap, v = .slice A n cap ∧ n ≤ cap ∧ (A = none → cap = 0) := by
  rcases h.2 with ⟨rfl, h0⟩ | ⟨g, cap, cur, rfl, _, _, hn, _⟩
  · exact ⟨none, 0, by rw [h0], by omega, fun _ => rfl⟩
  · exact ⟨some ⟨g, 0, none⟩, cap, rfl, hn, fun e => by cases e⟩
theorem own_head {w : World} {base size n cap i : Nat} {e : TypeId} {A : Option Addr} {xs : List Value} (h : w.ownsRow base e size (.slice A n cap) n xs) (hi : i ≤ n) : Src w size A cap i (xs.take (i * size)) := by
  have hl := h.1
  have hmul : i * size ≤ n * size := Nat.mul_le_mul_right _ hi
  rcases h.2 with ⟨e1, h0⟩ | ⟨g, cap', cur, e1, _, hg, hn, _, hs, ht⟩
  · injection e1 with e1 e2 e3
    subst e1 e3
    exact ⟨by rw [List.length_take]; omega, fun _ => ⟨by omega, rfl⟩, fun hm => by omega⟩
  · injection e1 with e1 e2 e3
    subst e1
    refine ⟨by rw [List.length_take]; omega, (fun e => by cases e), fun _ => ⟨g, 0, rfl, (Array.getElem?_eq_some_iff.1 hg).1, fun j u hu => ?_⟩⟩
    rw [Nat.zero_add, cell_of_row w g j cur _ (0, 0) hg]
    rw [List.getElem?_take] at hu
    split at hu
    · rw [← ht, List.getElem?_take] at hu
      split at hu
      · rw [← hu, Array.getElem?_toList]
      · cases hu
    · cases hu
theorem own_tail {w : World} {base size n cap i : Nat} {e : TypeId} {A : Option Addr} {xs : List Value} (h : w.ownsRow base e size (.slice A n cap) n xs) (hi : i ≤ n) : Src w size (tailA A cap i size) (cap - i) (n - i) (xs.drop (i * size)) := by
  have hl := h.1
  have hd : (xs.drop (i * size)).length = (n - i) * size := by rw [List.length_drop, hl, Nat.sub_mul]
  rcases h.2 with ⟨e1, h0⟩ | ⟨g, cap', cur, e1, _, hg, hn, _, hs, ht⟩
  · injection e1 with e1 e2 e3
    subst e1 e3
    exact ⟨hd, fun _ => ⟨by omega, by omega⟩, fun hm => by omega⟩
  · injection e1 with e1 e2 e3
    subst e1 e3
    refine ⟨hd, (fun e => ?_), fun hm => ⟨g, i * size, ?_, (Array.getElem?_eq_some_iff.1 hg).1, fun j u hu => ?_⟩⟩
    · unfold tailA at e
      split at e <;> simp at e
    · unfold tailA
      rw [if_neg (by omega)]
      simp [add_off]
    · rw [cell_of_row w g (i * size + j) cur _ (0, 0) hg]
      rw [List.getElem?_drop, ← ht, List.getElem?_take] at hu
      split at hu
      · rw [← hu, Array.getElem?_toList]
      · cases hu

theorem run_append_src {P : Program} (w : World) (base : Nat) (t ty e : TypeId) (i : TypeInfo) (z : Value) (size bytes : Nat) (ht : P.underlying t = some (.slice e)) (hi : P.info? e = some i) (hz : i.zero = some z)
    (hsize : i.size = size) (hby : i.bytes = bytes) (hzs : z.cells.size = size) (hsz : 0 < size)
    (v : Value) (n : Nat) (xs : List Value) (hown : w.ownsRow base e size v n xs) {A : Option Addr} {c m : Nat} {news : List Value} (hs : Src w size A c m news) (h1 : ∀ u ∈ news, u.oneCell' = true)
    (h63 : n + m ≤ maxLen) (hbytes : (n + m) * bytes ≤ 140737488355328) (hbase : base ≤ w.heap.size) :
    ∃ v' w', (Builtin.append_ #[t, t] ty #[v, .slice A m c]).run P w = .ok v' w' ∧ w'.ownsRow base e size v' (n + m) (xs ++ news) ∧ w.grownBy w' v.ownBlock ∧ (v'.ownBlock = v.ownBlock ∨ v'.ownBlock = some w.heap.size) := by
  cases A with
  | none =>
    obtain ⟨rfl, rfl⟩ := hs.nil rfl
    have hn : news = [] := List.eq_nil_of_length_eq_zero (by have := hs.len; omega)
    subst hn
    exact ⟨v, w, run_append_owned_none (P := P) (w := w) base t ty e i size ht hi v n xs hown, by simpa using hown, ⟨rfl, rfl, rfl, Nat.le_refl _, fun _ _ _ => rfl⟩, .inl rfl⟩
  | some a =>
    have hnews : ∀ j u, news[j]? = some u → w.cell? (a.add j) = some u := fun j u hu => by
      rcases Nat.eq_zero_or_pos m with h0 | h0
      · have hn : news = [] := List.eq_nil_of_length_eq_zero (by have := hs.len; rw [h0] at this; omega)
        rw [hn] at hu
        cases hu
      · obtain ⟨k, off, e1, _, hc⟩ := hs.cells h0
        injection e1 with e1
        subst e1
        rw [add_off]
        exact hc j u hu
    obtain ⟨v', w', hrun, h2, h3, _, h5⟩ := run_append_own_at (P := P) w base t ty e i z size bytes ht hi hz hsize hby hzs hsz v n xs hown a m c news hs.len hnews h1 h63 hbytes hbase
    exact ⟨v', w', hrun, h2, h3, h5⟩
/-- what an append to a row of later blocks leaves -/
theorem grown_below {w w' : World} {B : Nat} {row : Option Nat} (hg : w.grownBy w' row) (hB : B ≤ w.heap.size) (hr : ∀ k, row = some k → B ≤ k) : Below B w w' :=
  (Touch.of_grown (T := fun k => B ≤ k) hg hr).below hB fun _ h => h
end

section
open Go

def upd {α : Type} (f : Nat → α) (i : Nat) (x : α) (j : Nat) : α := if j = i then x else f j
theorem upd_same {α : Type} (f : Nat → α) (i : Nat) (x : α) : upd f i x i = x := by simp [upd]
theorem upd_ne {α : Type} (f : Nat → α) {i j : Nat} (x : α) (h : j ≠ i) : upd f i x j = f j := by simp [upd, h]
/-- which operation of the region writes a slot -/
def ownerOf (ops : Array Oper) (s : Nat) : Option Nat := (List.range ops.size).find? fun j => (ops[j]?.bind (·.dst)) == some s
def ownOk (ops : Array Oper) (n : Nat) : Bool := (List.range ops.size).all fun j => match ops[j]?.bind (·.dst) with | some d => ownerOf ops d == some j && decide (d < n) | none => true
def depsOk (ops : Array Oper) : Bool := (List.range ops.size).all fun j => match ops[j]? with | some o => o.after.all fun e => decide (e.on < j) | none => true
def slotAt (ops : Array Oper) (a0 : Act) (L : Nat → Bool) (f : Nat → Value) (s : Nat) : Option Value :=
  match ownerOf ops s with
  | some j => if L j then some (f j) else a0.tmps[s]?
  | none => a0.tmps[s]?
/-- the frame, where the operations L have been carried out and gave f -/
structure ActAt (ops : Array Oper) (a0 a : Act) (L : Nat → Bool) (f : Nat → Value) : Prop where
  defers : a.defers = a0.defers
  size : a.tmps.size = a0.tmps.size
  slots : ∀ s, a.tmps[s]? = slotAt ops a0 L f s
theorem ActAt.val {ops : Array Oper} {a0 a : Act} {L : Nat → Bool} {f : Nat → Value} (h : ActAt ops a0 a L f) {s j : Nat} (ho : ownerOf ops s = some j) (hL : L j = true) : a.eval (.tmp s) = f j := by
  have := h.slots s
  rw [slotAt, ho] at this
  simp only [hL, if_true] at this
  simp [Act.eval, Array.getD_eq_getD_getElem?, this]
theorem ActAt.base {ops : Array Oper} {a0 a : Act} {L : Nat → Bool} {f : Nat → Value} (h : ActAt ops a0 a L f) {s : Nat} (ho : ownerOf ops s = none) : a.eval (.tmp s) = a0.eval (.tmp s) := by
  have := h.slots s
  rw [slotAt, ho] at this
  simp only at this
  simp [Act.eval, Array.getD_eq_getD_getElem?, this]
theorem owner_of {ops : Array Oper} {n j d : Nat} {o : Oper} (hok : ownOk ops n = true) (ho : ops[j]? = some o) (hd : o.dst = some d) : ownerOf ops d = some j ∧ d < n := by
  have hlt : j < ops.size := (Array.getElem?_eq_some_iff.1 ho).1
  have := List.all_eq_true.1 hok j (List.mem_range.2 hlt)
  rw [ho] at this
  simp only [Option.bind_some, hd, Bool.and_eq_true, beq_iff_eq, decide_eq_true_eq] at this
  exact this
theorem owner_is {ops : Array Oper} {s j : Nat} (h : ownerOf ops s = some j) : ops[j]?.bind (·.dst) = some s := by
  have := List.find?_some h
  simpa using this
theorem ActAt.put {ops : Array Oper} {a0 a : Act} {L : Nat → Bool} {f : Nat → Value} {i : Nat} {o : Oper} (hok : ownOk ops a0.tmps.size = true) (h : ActAt ops a0 a L f) (ho : ops[i]? = some o) (v : Value) :
    ActAt ops a0 (a.put o.dst v) (upd L i true) (upd f i v) := by
  cases hd : o.dst with
  | none =>
    refine ⟨h.defers, h.size, fun s => ?_⟩
    show a.tmps[s]? = _
    rw [h.slots s, slotAt, slotAt]
    cases hs : ownerOf ops s with
    | none => rfl
    | some j =>
      have hne : j ≠ i := by
        rintro rfl
        have := owner_is hs
        rw [ho] at this
        simp [hd] at this
      simp only [upd_ne _ _ hne]
  | some d =>
    obtain ⟨hown, hlt⟩ := owner_of hok ho hd
    refine ⟨h.defers, by simp [Act.put, h.size], fun s => ?_⟩
    show (a.tmps.setIfInBounds d v)[s]? = _
    by_cases hsd : d = s
    · subst hsd
      rw [Array.getElem?_setIfInBounds_self, if_pos (by rw [h.size]; exact hlt), slotAt, hown]
      simp [upd_same]
    · rw [Array.getElem?_setIfInBounds_ne hsd, h.slots s, slotAt, slotAt]
      cases hs : ownerOf ops s with
      | none => rfl
      | some j =>
        have hne : j ≠ i := by
          rintro rfl
          have := owner_is hs
          rw [ho] at this
          simp [hd] at this
          exact hsd this
        simp only [upd_ne _ _ hne]

theorem count_upd {l : List Bool} {i : Nat} (h : l[i]? = some false) : (l.set i true).count false + 1 = l.count false := by
  induction l generalizing i with
  | nil => simp at h
  | cons x l ih =>
    cases i with
    | zero => simp at h; subst h; simp
    | succ i => have := ih (i := i) (by simpa using h); simp [List.count_cons]; omega
theorem ready_all {ops : Array Oper} {listed : Array Bool} (hs : listed.size = ops.size) (hd : depsOk ops = true) (h : Region.ready .any ops listed = []) : ∀ i, i < ops.size → listed.getD i false = true := by
  intro i
  induction i using Nat.strongRecOn with
  | _ i ih =>
    intro hi
    by_cases hl : listed.getD i true = false
    · exfalso
      have : i ∈ Region.ready .any ops listed := by
        rw [mem_ready]
        refine ⟨hl, ops[i], Array.getElem?_eq_getElem hi, fun e he _ => ?_⟩
        have h1 := List.all_eq_true.1 hd i (List.mem_range.2 hi)
        rw [Array.getElem?_eq_getElem hi] at h1
        have h2 := Array.all_eq_true_iff_forall_mem.1 h1 e he
        have h3 : e.on < i := by simpa using h2
        exact ih e.on h3 (by omega)
      rw [h] at this
      cases this
    · have hlt : i < listed.size := by omega
      simp [hlt] at hl ⊢
      exact hl

theorem wp_region_facts {P : Program} {ops : Array Oper} {Q : Exit → Act → World → Prop} {a0 : Act} {w0 : World} {id : Nat} (hm : P.follows .mixedOrders = true) (J : (Nat → Bool) → (Nat → Value) → World → Prop)
    (hok : ownOk ops a0.tmps.size = true) (hdeps : depsOk ops = true) (h0 : J (fun _ => false) (fun _ => undef) w0.drew)
    (hstep : ∀ i o, ops[i]? = some o → ∀ L f W a, J L f W → ActAt ops a0 a L f → L i = false → (∀ e ∈ o.after, Region.binds .any e = true → L e.on = true) →
      (∀ j o', ops[j]? = some o' → L j = true → ∀ e ∈ o'.after, Region.binds .any e = true → L e.on = true) →
      wpOp P ops Q i (fun a' W' => ∃ v, a' = a.put o.dst v ∧ J (upd L i true) (upd f i v) W') a W)
    (hend : ∀ f W a, J (fun j => decide (j < ops.size)) f W → ActAt ops a0 a (fun j => decide (j < ops.size)) f → Q .normal a W) : (Code.region id ops true).wp P Q a0 w0 := by
  refine wp_region_any hm ?_
  have key : ∀ fuel (listed : Array Bool) (f : Nat → Value) (a : Act) (w : World), listed.size = ops.size → listed.toList.count false ≤ fuel → J (fun j => listed.getD j false) f w → ActAt ops a0 a (fun j => listed.getD j false) f →
      (∀ j o', ops[j]? = some o' → listed.getD j false = true → ∀ e ∈ o'.after, Region.binds .any e = true → listed.getD e.on false = true) → wpAny P .any ops Q fuel listed a w := by
    intro fuel
    induction fuel with
    | zero =>
      intro listed f a w hs hc hJ hA hcl
      have hall : ∀ i, i < ops.size → listed.getD i false = true := fun i hi => by
        have hi' : i < listed.size := by omega
        by_cases hx : listed[i] = true
        · simp [hi', hx]
        · exfalso
          have hm : false ∈ listed.toList := by
            have := Array.getElem_mem_toList hi'
            simp at hx
            rwa [hx] at this
          have := List.count_pos_iff.2 hm
          omega
      have hfun : (fun j => listed.getD j false) = fun j => decide (j < ops.size) := by
        funext j
        by_cases hj : j < ops.size
        · rw [hall j hj]; simp [hj]
        · have : ¬ j < listed.size := by omega
          simp [hj, Array.getElem?_eq_none (show listed.size ≤ j by omega)]
      rw [hfun] at hJ hA
      refine ⟨?_, hend f w a hJ hA⟩
      rw [List.eq_nil_iff_forall_not_mem]
      intro i hi
      obtain ⟨h1, o, ho, _⟩ := mem_ready.1 hi
      have hlt : i < ops.size := (Array.getElem?_eq_some_iff.1 ho).1
      have h2 := hall i hlt
      have hi' : i < listed.size := by omega
      simp [hi'] at h1 h2
      rw [h1] at h2
      cases h2
    | succ fuel ih =>
      intro listed f a w hs hc hJ hA hcl
      refine ⟨fun hr => ?_, fun i hi => ?_⟩
      · have hall := ready_all hs hdeps hr
        have hfun : (fun j => listed.getD j false) = fun j => decide (j < ops.size) := by
          funext j
          by_cases hj : j < ops.size
          · rw [hall j hj]; simp [hj]
          · simp [hj, Array.getElem?_eq_none (show listed.size ≤ j by omega)]
        rw [hfun] at hJ hA
        exact hend f w a hJ hA
      · obtain ⟨h1, o, ho, hd⟩ := mem_ready.1 hi
        have hlt : i < ops.size := (Array.getElem?_eq_some_iff.1 ho).1
        have hi' : i < listed.size := by omega
        have h1' : listed[i] = false := by simpa [hi'] using h1
        have hset : (fun j => (listed.setIfInBounds i true).getD j false) = upd (fun j => listed.getD j false) i true := by
          funext j
          by_cases hj : j = i
          · subst hj
            rw [upd_same]
            simp [hi']
          · rw [upd_ne _ _ hj]
            exact getD_set_ne false (Ne.symm hj)
        refine wpOp_mono ?_ (hstep i o ho _ f w a hJ hA (by simp [hi', h1']) hd hcl)
        rintro a' w' ⟨v, rfl, hJ'⟩
        refine ih _ (upd f i v) _ _ (by simp [hs]) ?_ (by rw [hset]; exact hJ') (by rw [hset]; exact hA.put hok ho v) fun j o' ho' hj e he hb => ?_
        · have : listed.toList[i]? = some false := by rw [Array.getElem?_toList, Array.getElem?_eq_getElem hi', h1']
          have := count_upd this
          rw [Array.toList_setIfInBounds]
          omega
        · by_cases hji : j = i
          · subst hji
            rw [ho] at ho'
            injection ho' with ho'
            subst ho'
            exact getD_set_true (hd e he hb)
          · rw [getD_set_ne false (Ne.symm hji)] at hj
            exact getD_set_true (hcl j o' ho' hj e he hb)
  have hrep : (fun j => (Array.replicate ops.size false).getD j false) = fun _ => false := by
    funext j
    by_cases hj : j < ops.size <;> simp [hj]
  refine key ops.size (Array.replicate ops.size false) (fun _ => undef) a0 _ (by simp) (by simp) (by rw [hrep]; exact h0) ⟨rfl, rfl, fun s => ?_⟩ fun j o' ho' hj => ?_
  · rw [hrep, slotAt]
    cases ownerOf ops s <;> simp
  · have h2 : (Array.replicate ops.size false).getD j false = false := congrFun hrep j
    rw [h2] at hj
    cases hj

/-- one operation of a region, by what it does -/
theorem op_value {P : Program} {ops : Array Oper} {Q : Exit → Act → World → Prop} {i : Nat} {o : Oper} {K : Act → World → Prop} {a : Act} {w w' : World} {v : Value} (ho : ops[i]? = some o) (hg : o.guard = none) (hr : (execOp a.eval o).run P w = .ok (.value v) w') (hK : K (a.put o.dst v) w') : wpOp P ops Q i K a w := by
  unfold wpOp
  rw [ho]
  simp only [Region.wanted, hg, if_true]
  left
  unfold Oper.wp
  rw [hr]
  exact hK
theorem op_skip {P : Program} {ops : Array Oper} {Q : Exit → Act → World → Prop} {i : Nat} {o : Oper} {K : Act → World → Prop} {a : Act} {w w' : World} (ho : ops[i]? = some o) (hg : o.guard = none) (hr : (execOp a.eval o).run P w = .ok .skip w') (hK : K (a.put o.dst undef) w') : wpOp P ops Q i K a w := by
  unfold wpOp
  rw [ho]
  simp only [Region.wanted, hg, if_true]
  left
  unfold Oper.wp
  rw [hr]
  exact hK
theorem op_call {P : Program} {ops : Array Oper} {Q : Exit → Act → World → Prop} {i : Nat} {o : Oper} {K : Act → World → Prop} {a : Act} {w w' : World} {g : FuncId} {args : Array Value} (ho : ops[i]? = some o) (hg : o.guard = none) (hr : (execOp a.eval o).run P w = .ok (.enter g args) w') (hK : Calls P g args w' fun e w'' => ∃ v, e = .returned v ∧ K (a.put o.dst v) w'') : wpOp P ops Q i K a w := by
  unfold wpOp
  rw [ho]
  simp only [Region.wanted, hg, if_true]
  left
  unfold Oper.wp
  rw [hr]
  refine Calls.mono hK ?_
  rintro e w'' ⟨v, rfl, h⟩
  exact h
/-- the region of a function's body with a number -/
def regionsOf : Code → List (Nat × Array Oper)
  | .region n ops _ => [(n, ops)]
  | .seq a b => regionsOf a ++ regionsOf b
  | .block _ c => regionsOf c
  | .loop c => regionsOf c
  | .cond _ a b => regionsOf a ++ regionsOf b
  | _ => []
def regionOf (f : Func) (n : Nat) : Array Oper := (((f.body.map regionsOf).getD []).find? fun p => p.1 == n).elim #[] (·.2)
/-- what an operation is: what it does, its slot, its guard, what it waits for -/
def opIs (ops : Array Oper) (i : Nat) : Option (Op × Option Nat × Bool × List Nat) := (ops[i]?).map fun o => (o.op, o.dst, o.guard.isNone, ((o.after.filter (Region.binds .any)).map (·.on)).toList)
theorem op_is {ops : Array Oper} {i : Nat} {o : Oper} {op : Op} {d : Option Nat} {g : Bool} {l : List Nat} (ho : ops[i]? = some o) (h : opIs ops i = some (op, d, g, l)) : o.op = op ∧ o.dst = d ∧ o.guard.isNone = g ∧ ∀ j ∈ l, ∃ e ∈ o.after, Region.binds .any e = true ∧ e.on = j := by
  unfold opIs at h
  rw [ho] at h
  simp only [Option.map_some, Option.some.injEq, Prod.mk.injEq] at h
  obtain ⟨h1, h2, h3, h4⟩ := h
  refine ⟨h1, h2, h3, fun j hj => ?_⟩
  rw [← h4] at hj
  simp at hj
  obtain ⟨e, ⟨he, hb⟩, hon⟩ := hj
  exact ⟨e, he, hb, hon⟩
end

section
open Go.RowKit Go.Lib

/-- kind, first index, names -/
def runT : List (Int × Int × List UInt8) :=
  [(0, 0, [98, 119, 32, 97, 109, 32, 120, 115, 98, 32, 120, 104, 112, 32, 120, 101, 110, 108, 32, 101, 111, 32, 103, 110, 32, 104, 99, 32, 107, 109, 32, 104, 115, 32, 105, 110, 32, 100, 97, 32, 100, 98, 32, 109, 105, 114, 32, 109, 115, 103, 114, 32, 111, 115]),
   (1, 0, [99, 111, 108, 115, 32, 105, 116, 32, 108, 105, 110, 101, 115, 32, 108, 109, 32, 120, 109, 99, 32, 112, 98, 32, 118, 116, 32, 119, 115, 108, 32, 110, 108, 97, 98, 32, 108, 104, 32, 108, 119, 32, 109, 97, 32, 119, 110, 117, 109, 32, 99, 111, 108, 111, 114, 115, 32, 112, 97, 105, 114, 115, 32, 110, 99, 118]),
   (2, 0, [99, 98, 116, 32, 98, 101, 108, 32, 99, 114, 32, 99, 115, 114, 32, 116, 98, 99, 32, 99, 108, 101, 97, 114, 32, 101, 108, 32, 101, 100, 32, 104, 112, 97, 32, 99, 109, 100, 99, 104, 32, 99, 117, 112, 32, 99, 117, 100, 49, 32, 104, 111, 109, 101, 32, 99, 105, 118, 105, 115, 32, 99, 117, 98, 49, 32, 109, 114, 99, 117, 112, 32, 99, 110, 111, 114, 109, 32, 99, 117, 102, 49, 32, 108, 108, 32, 99, 117, 117, 49, 32, 99, 118, 118, 105, 115]),
   (2, 21, [100, 99, 104, 49, 32, 100, 108, 49, 32, 100, 115, 108, 32, 104, 100, 32, 115, 109, 97, 99, 115, 32, 98, 108, 105, 110, 107, 32, 98, 111, 108, 100, 32, 115, 109, 99, 117, 112, 32, 115, 109, 100, 99, 32, 100, 105, 109, 32, 115, 109, 105, 114, 32, 105, 110, 118, 105, 115, 32, 112, 114, 111, 116, 32, 114, 101, 118, 32, 115, 109, 115, 111, 32, 115, 109, 117, 108, 32, 101, 99, 104, 32, 114, 109, 97, 99, 115, 32, 115, 103, 114, 48]),
   (2, 40, [114, 109, 99, 117, 112, 32, 114, 109, 100, 99, 32, 114, 109, 105, 114, 32, 114, 109, 115, 111, 32, 114, 109, 117, 108, 32, 102, 108, 97, 115, 104]),
   (2, 52, [105, 99, 104, 49, 32, 105, 108, 49, 32, 105, 112, 32, 107, 98, 115]),
   (2, 59, [107, 100, 99, 104, 49]),
   (2, 61, [107, 99, 117, 100, 49]),
   (2, 76, [107, 104, 111, 109, 101, 32, 107, 105, 99, 104, 49]),
   (2, 79, [107, 99, 117, 98, 49]),
   (2, 81, [107, 110, 112, 32, 107, 112, 112, 32, 107, 99, 117, 102, 49]),
   (2, 87, [107, 99, 117, 117, 49, 32, 114, 109, 107, 120, 32, 115, 109, 107, 120]),
   (2, 103, [110, 101, 108]),
   (2, 105, [100, 99, 104, 32, 100, 108, 32, 99, 117, 100, 32, 105, 99, 104, 32, 105, 110, 100, 110, 32, 105, 108, 32, 99, 117, 98, 32, 99, 117, 102, 32, 114, 105, 110, 32, 99, 117, 117]),
   (2, 126, [114, 99, 32, 118, 112, 97, 32, 115, 99, 32, 105, 110, 100, 32, 114, 105, 32, 115, 103, 114, 32, 104, 116, 115]),
   (2, 164, [107, 101, 110, 100])]
theorem runT_len : runT.length = 16 := rfl
def runRow (s : Int × Int × List UInt8) : List Value := [.int .i64 s.1, .int .i64 s.2.1, str s.2.2]
def runCells : Array Value := (runT.flatMap runRow).toArray
/-- it lies in its variable -/
def RunTab (w : World) : Prop := ∃ t fr, w.heap[0]? = some (.cells runCells t fr)
end
end Go.Proofs.YtcfgppjhgobboaaGreatDoor
