/-
  A list of edits in memory: its block of four cells, and the chain of entries behind it. No program is walked here, and nothing is assumed.
-/
import Derived.Test.YtjgjbdpknfplkaaUdEdit
namespace Go.Proofs.Ytjgjbdpknfplkaa
open Go.RowKit Go.Shelf Go.Lib

/-- the blocks of K are in W as they are in w -/
structure Agree (K : Nat → Prop) (w W : World) : Prop where
  size : w.heap.size ≤ W.heap.size
  block : ∀ k, K k → k < w.heap.size → W.heap[k]? = w.heap[k]?
theorem Agree.refl (K : Nat → Prop) (w : World) : Agree K w w := ⟨Nat.le_refl _, fun _ _ _ => rfl⟩
theorem Agree.trans {K : Nat → Prop} {a b c : World} (h : Agree K a b) (k : Agree K b c) : Agree K a c :=
  ⟨Nat.le_trans h.size k.size, fun i hi hl => (k.block i hi (Nat.lt_of_lt_of_le hl h.size)).trans (h.block i hi hl)⟩
theorem Agree.mono {K K' : Nat → Prop} {a b : World} (h : Agree K a b) (hK : ∀ k, k < a.heap.size → K' k → K k) : Agree K' a b := ⟨h.size, fun k hk hl => h.block k (hK k hl hk) hl⟩
theorem Agree.of_below {K : Nat → Prop} {a b : World} (h : Below a.heap.size a b) : Agree K a b := ⟨h.size, fun k _ hl => h.block k hl⟩
theorem Agree.of_touch {K T : Nat → Prop} {a b : World} (h : Touch T a b) (hK : ∀ k, K k → ¬ T k) : Agree K a b := ⟨h.size, fun k hk hl => h.block k hl (hK k hk)⟩
/-- runes that lie in blocks of K: a slice that holds them as long as these blocks stay -/
def RIn (K : Nat → Prop) (w : World) (v : Value) (l : List Int) : Prop := ∀ W, Agree K w W → Holds1 W v (runeVals l)
theorem RIn.to {K : Nat → Prop} {w W : World} {v : Value} {l : List Int} (h : RIn K w v l) (ha : Agree K w W) : RIn K W v l := fun W' hW => h W' (ha.trans hW)
theorem RIn.now {K : Nat → Prop} {w : World} {v : Value} {l : List Int} (h : RIn K w v l) : Holds1 w v (runeVals l) := h w (Agree.refl _ _)
theorem RIn.mono {K K' : Nat → Prop} {w : World} {v : Value} {l : List Int} (h : RIn K w v l) (hK : ∀ k, K k → K' k) : RIn K' w v l := fun W hW => h W (hW.mono fun k _ hk => hK k hk)
theorem RIn.form {K : Nat → Prop} {w : World} {v : Value} {l : List Int} (h : RIn K w v l) : ∃ A c, v = .slice A l.length c := by
  obtain ⟨A, c, e, _⟩ := h.now
  exact ⟨A, c, by rw [e, runeVals_length]⟩
theorem RIn.own {K : Nat → Prop} {w : World} {B : Nat} {v : Value} {l : List Int} (h : RRow w B v l) (hK : ∀ k, B ≤ k → k < w.heap.size → K k) : RIn K w v l := fun W hW =>
  RRow.holds (B := B) (own_same h fun k hk => by
    have := own_lt h k hk
    exact hW.block k (hK k this.1 this.2) this.2)
theorem RIn.less {w W : World} {v : Value} {l : List Int} (h : Holds1 w v (runeVals l)) (hb : Below w.heap.size w W) : RIn (fun k => k < w.heap.size) W v l := fun W' hW => by
  obtain ⟨A, c, rfl, hc, h⟩ := h
  refine ⟨A, c, rfl, hc, fun hn => ?_⟩
  obtain ⟨b, off, hA, hlt, hcell⟩ := h hn
  have h2 : b < W.heap.size := Nat.lt_of_lt_of_le hlt hb.size
  refine ⟨b, off, hA, Nat.lt_of_lt_of_le h2 hW.size, fun j u hu => ?_⟩
  rw [World.cell?_of_block (w := W) (w' := W') (a := ⟨b, off + j, none⟩) (hW.block b hlt h2)]
  exact (hb.cell (p := ⟨b, off + j, none⟩) hlt).trans (hcell j u hu)

/-- an edit that can be in a list -/
structure EdOk (e : Ed) : Prop where
  p0 : 0 ≤ e.p ∧ e.p ≤ 9223372036854775807
  d : e.d.length ≤ 35184372088832
  i : e.i.length ≤ 35184372088832
/-- the entries from one on: the edits with their groups' numbers, the last one first -/
def Chain (K : Nat → Prop) (w : World) : Option Addr → List (Ed × Nat) → Prop
  | q, [] => q = none
  | q, x :: l => ∃ b r dv iv, q = some ⟨b, 0, none⟩ ∧ K b ∧ b < w.heap.size ∧ w.heap[b]? = some (.cells #[.int .i64 x.1.p, dv, iv, .pointer r, .int .i64 ((l.length + 1 : Nat) : Int), .int .i64 (x.2 : Int)] 88 (0, 0)) ∧ (RIn K w dv x.1.d ∧ RIn K w iv x.1.i ∧ EdOk x.1) ∧ Chain K w r l
theorem Chain.to {K : Nat → Prop} {w W : World} (ha : Agree K w W) {q : Option Addr} {l : List (Ed × Nat)} (h : Chain K w q l) : Chain K W q l := by
  induction l generalizing q with
  | nil => exact h
  | cons x l ih =>
    obtain ⟨b, r, dv, iv, hq, hK, hlt, hh, ⟨h1, h2, h3⟩, hl⟩ := h
    exact ⟨b, r, dv, iv, hq, hK, Nat.lt_of_lt_of_le hlt ha.size, (ha.block b hK hlt).trans hh, ⟨h1.to ha, h2.to ha, h3⟩, ih hl⟩
theorem Chain.mono {K K' : Nat → Prop} {w : World} (hK : ∀ k, K k → K' k) {q : Option Addr} {l : List (Ed × Nat)} (h : Chain K w q l) : Chain K' w q l := by
  induction l generalizing q with
  | nil => exact h
  | cons x l ih =>
    obtain ⟨b, r, dv, iv, hq, hk, hlt, hh, ⟨h1, h2, h3⟩, hl⟩ := h
    exact ⟨b, r, dv, iv, hq, hK b hk, hlt, hh, ⟨h1.mono hK, h2.mono hK, h3⟩, ih hl⟩

/-- the edits of all groups with their groups' numbers; the last group first, each with its last edit first -/
def numbered : List (List Ed) → List (Ed × Nat)
  | [] => []
  | g :: r => g.map (fun e => (e, r.length + 1)) ++ numbered r
/-- how many edits there are -/
def many (gs : List (List Ed)) : Nat := gs.flatten.length
theorem many_cons (g : List Ed) (r : List (List Ed)) : many (g :: r) = g.length + many r := by simp [many]
theorem numbered_length (gs : List (List Ed)) : (numbered gs).length = many gs := by
  induction gs with
  | nil => rfl
  | cons g r ih => rw [many_cons]; simp [numbered, ih]
def Full (gs : List (List Ed)) : Prop := ∀ g ∈ gs, g ≠ []
theorem full_cons {g : List Ed} {r : List (List Ed)} (h : Full (g :: r)) : g ≠ [] ∧ Full r := ⟨h g (by simp), fun x hx => h x (by simp [hx])⟩
theorem full_nil {gs : List (List Ed)} (h : Full gs) : numbered gs = [] ↔ gs = [] := by
  cases gs with
  | nil => simp [numbered]
  | cons g r =>
    have := (full_cons h).1
    cases g with
    | nil => exact absurd rfl this
    | cons e g => simp [numbered]
theorem full_length {gs : List (List Ed)} (h : Full gs) : gs.length ≤ (numbered gs).length := by
  induction gs with
  | nil => simp
  | cons g r ih =>
    obtain ⟨h1, h2⟩ := full_cons h
    have := ih h2
    have : 0 < g.length := List.length_pos_iff.2 h1
    simp [numbered]
    omega
/-- a head cell and the groups behind it -/
structure GAt (K : Nat → Prop) (w : World) (g : Nat) (gs : List (List Ed)) (p : Option Addr) : Prop where
  cell : w.cell? ⟨g, 0, none⟩ = some (.pointer p)
  chain : Chain K w p (numbered gs)
  full : Full gs
  many : (numbered gs).length ≤ 16384
  lt : g < w.heap.size
  off : ¬ K g
  inw : ∀ k, K k → k < w.heap.size
theorem GAt.head {K : Nat → Prop} {w : World} {g : Nat} {e : Ed} {n : Nat} {l : List (Ed × Nat)} {gs : List (List Ed)} {p : Option Addr} (h : GAt K w g gs p) (hn : numbered gs = (e, n) :: l) : ∃ b r dv iv, p = some ⟨b, 0, none⟩ ∧ K b ∧ b < w.heap.size ∧ w.heap[b]? = some (.cells #[.int .i64 e.p, dv, iv, .pointer r, .int .i64 ((l.length + 1 : Nat) : Int), .int .i64 (n : Int)] 88 (0, 0)) ∧ (RIn K w dv e.d ∧ RIn K w iv e.i ∧ EdOk e) ∧ Chain K w r l := by
  have := h.chain
  rw [hn] at this
  exact this
/-- the first entry's number is the number of groups -/
theorem numbered_head {gs : List (List Ed)} {e : Ed} {n : Nat} {l : List (Ed × Nat)} (hn : numbered gs = (e, n) :: l) (h : Full gs) : n = gs.length ∧ l.length + 1 = (numbered gs).length := by
  refine ⟨?_, by rw [hn]; rfl⟩
  cases gs with
  | nil => cases hn
  | cons g r =>
    have := (full_cons h).1
    cases g with
    | nil => exact absurd rfl this
    | cons x g =>
      simp [numbered] at hn
      simp
      omega
/-- what a list says -/
structure LS where
  gs : List (List Ed)
  opn : Nat
  joins : Bool
structure LOk (S : LS) : Prop where
  joins : S.joins = true → S.gs ≠ []
  open' : S.opn ≤ 4611686018427387904
def lrow (S : LS) (p : Option Addr) : Array Value := #[.pointer p, .bool true, .int .i64 (S.opn : Int), .bool S.joins]
structure LAt (K : Nat → Prop) (w : World) (g : Nat) (S : LS) : Prop where
  ex : ∃ p, w.heap[g]? = some (.cells (lrow S p) 73 (0, 0)) ∧ GAt K w g S.gs p
  ok : LOk S
theorem LAt.lt {K : Nat → Prop} {w : World} {g : Nat} {S : LS} (h : LAt K w g S) : g < w.heap.size := by obtain ⟨_, _, h⟩ := h.ex; exact h.lt
theorem LAt.off {K : Nat → Prop} {w : World} {g : Nat} {S : LS} (h : LAt K w g S) : ¬ K g := by obtain ⟨_, _, h⟩ := h.ex; exact h.off
theorem LAt.inw {K : Nat → Prop} {w : World} {g : Nat} {S : LS} (h : LAt K w g S) : ∀ k, K k → k < w.heap.size := by obtain ⟨_, _, h⟩ := h.ex; exact h.inw
theorem LAt.many {K : Nat → Prop} {w : World} {g : Nat} {S : LS} (h : LAt K w g S) : many S.gs ≤ 16384 := by obtain ⟨_, _, h⟩ := h.ex; rw [← numbered_length]; exact h.many
theorem LAt.full {K : Nat → Prop} {w : World} {g : Nat} {S : LS} (h : LAt K w g S) : Full S.gs := by obtain ⟨_, _, h⟩ := h.ex; exact h.full
theorem LAt.to {K : Nat → Prop} {w W : World} {g : Nat} {S : LS} (h : LAt K w g S) (ha : Agree (fun k => K k ∨ k = g) w W) : LAt K W g S := by
  obtain ⟨p, h1, h2⟩ := h.ex
  have hb := ha.block g (.inr rfl) h2.lt
  refine ⟨⟨p, hb.trans h1, (World.cell?_of_block (w := w) (w' := W) (a := ⟨g, 0, none⟩) hb).trans h2.cell, h2.chain.to (ha.mono fun _ _ h => .inl h), h2.full, h2.many, Nat.lt_of_lt_of_le h2.lt ha.size, h2.off, fun k hk => Nat.lt_of_lt_of_le (h2.inw k hk) ha.size⟩, h.ok⟩
theorem LAt.below {K : Nat → Prop} {w W : World} {g : Nat} {S : LS} (h : LAt K w g S) (hb : Below w.heap.size w W) : LAt K W g S := h.to (Agree.of_below hb)
/-- the four cells -/
structure LCells (w : World) (g : Nat) (S : LS) (p : Option Addr) : Prop where
  c0 : w.cell? ⟨g, 0, none⟩ = some (.pointer p)
  c1 : w.cell? ⟨g, 1, none⟩ = some (.bool true)
  c2 : w.cell? ⟨g, 2, none⟩ = some (.int .i64 (S.opn : Int))
  c3 : w.cell? ⟨g, 3, none⟩ = some (.bool S.joins)
  f : ∀ k, w.frozen? ⟨g, k, none⟩ = false
theorem lcells {w : World} {g : Nat} {S : LS} {p : Option Addr} (h : w.heap[g]? = some (.cells (lrow S p) 73 (0, 0))) : LCells w g S p :=
  ⟨cell_of_row w g 0 _ _ _ h, cell_of_row w g 1 _ _ _ h, cell_of_row w g 2 _ _ _ h, cell_of_row w g 3 _ _ _ h, fun k => frozen_of_row w g k _ _ h⟩
/-- the chain stays while the list's own block is written -/
theorem Chain.own {K : Nat → Prop} {w W : World} {g : Nat} {q : Option Addr} {l : List (Ed × Nat)} (h : Chain K w q l) (hg : ¬ K g) (ht : Touch (Only g) w W) : Chain K W q l :=
  h.to (Agree.of_touch ht fun k hk e => by simp only [Only] at e; subst e; exact hg hk)
/-- a list whose row was written anew -/
theorem LAt.put {K : Nat → Prop} {w W : World} {g : Nat} {gs : List (List Ed)} {p : Option Addr} (h : GAt K w g gs p) (ht : Touch (Only g) w W) {S : LS} (hr : W.heap[g]? = some (.cells (lrow S p) 73 (0, 0))) (hS : S.gs = gs) (ok : LOk S) : LAt K W g S := by
  subst hS
  exact ⟨⟨p, hr, cell_of_row W g 0 _ _ _ hr, h.chain.own h.off ht, h.full, h.many, Nat.lt_of_lt_of_le h.lt ht.size, h.off, fun k hk => Nat.lt_of_lt_of_le (h.inw k hk) ht.size⟩, ok⟩
end Go.Proofs.Ytjgjbdpknfplkaa
