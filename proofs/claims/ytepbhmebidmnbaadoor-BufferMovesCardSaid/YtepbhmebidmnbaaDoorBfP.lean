/-
  The edited line, plain: its runes, point and mark; a line in two parts with a gap between them. No program is spoken of here, and nothing is assumed.
-/
import Derived.WalkKit
import Derived.Laws.CopyOwn
namespace Go.Proofs.YtepbhmebidmnbaaDoor

/-- a line, its point, its mark -/
structure BS where
  l : List Int
  pt : Nat
  mr : Int
structure BOk (S : BS) : Prop where
  len : S.l.length ≤ 1024
  pt : S.pt ≤ S.l.length
  mr0 : -1 ≤ S.mr
  mr : S.mr ≤ S.l.length
def pointP (p a b n : Nat) : Nat := if b < p then p + n - (b - a) else if a ≤ p then a + n else p
def markP (m : Int) (a b n : Nat) : Int := if (b : Int) < m then m + ((n : Int) - ((b : Int) - a)) else if (a : Int) < m then (a : Int) else m
def replP (S : BS) (a b : Nat) (x : List Int) : BS := ⟨S.l.take a ++ (x ++ S.l.drop b), pointP S.pt a b x.length, markP S.mr a b x.length⟩
def partP (l : List Int) (a b : Nat) : List Int := (l.take b).drop a
theorem partP_length {l : List Int} {a b : Nat} (hab : a ≤ b) (hb : b ≤ l.length) : (partP l a b).length = b - a := by
  unfold partP; rw [List.length_drop, List.length_take]; omega
theorem partP_all (l : List Int) : partP l 0 l.length = l := by simp [partP]
theorem replP_ok {S : BS} (h : BOk S) {a b : Nat} {x : List Int} (hab : a ≤ b) (hb : b ≤ S.l.length) (hl : S.l.length - (b - a) + x.length ≤ 1024) : BOk (replP S a b x) := by
  have e : (replP S a b x).l.length = a + (x.length + (S.l.length - b)) := by
    simp only [replP, List.length_append, List.length_take, List.length_drop]; omega
  have h1 := h.pt
  have h2 := h.mr0
  have h3 := h.mr
  refine ⟨by rw [e]; omega, ?_, ?_, ?_⟩
  · rw [e]; show pointP S.pt a b x.length ≤ _; unfold pointP; split
    · omega
    · split <;> omega
  · show -1 ≤ markP S.mr a b x.length; unfold markP; split
    · omega
    · split <;> omega
  · rw [e]; show markP S.mr a b x.length ≤ _; unfold markP; split
    · omega
    · split <;> omega

/-- the line that lies in two parts -/
def gapLine (A : List Int) (u v : Nat) : List Int := A.take u ++ A.drop (1024 - v)
section
variable {A : List Int} {u v : Nat}
theorem gapLine_length (hA : A.length = 1024) (h : u + v ≤ 1024) : (gapLine A u v).length = u + v := by
  unfold gapLine; rw [List.length_append, List.length_take, List.length_drop]; omega
theorem gapLine_at (hA : A.length = 1024) (h : u + v ≤ 1024) (k : Nat) : (gapLine A u v)[k]? = if k < u then A[k]? else A[k + (1024 - (u + v))]? := by
  unfold gapLine
  split
  · rename_i hk
    rw [List.getElem?_append_left (by rw [List.length_take]; omega), List.getElem?_take, if_pos hk]
  · rename_i hk
    rw [List.getElem?_append_right (by rw [List.length_take]; omega), List.length_take, List.getElem?_drop]
    congr 1; omega
/-- a part of the line, out of the two -/
def cutOf (A : List Int) (a b : Nat) : List Int := (A.take b).drop a
theorem cutOf_length (A : List Int) {a b : Nat} (h : b ≤ A.length) : (cutOf A a b).length = b - a := by
  unfold cutOf; rw [List.length_drop, List.length_take]; omega
theorem cutOf_at (A : List Int) (a b k : Nat) : (cutOf A a b)[k]? = if a + k < b then A[a + k]? else none := by
  unfold cutOf; rw [List.getElem?_drop, List.getElem?_take]
theorem part_two (hA : A.length = 1024) (h : u + v ≤ 1024) {a b : Nat} (hab : a ≤ b) (hb : b ≤ u + v) :
    cutOf A (min a u) (min b u) ++ cutOf A (max a u + (1024 - (u + v))) (max b u + (1024 - (u + v))) = partP (gapLine A u v) a b := by
  have hl1 := cutOf_length A (a := min a u) (b := min b u) (by omega)
  apply List.ext_getElem?
  intro k
  show _ = (cutOf (gapLine A u v) a b)[k]?
  rw [cutOf_at, gapLine_at hA h]
  by_cases hk : k < min b u - min a u
  · rw [List.getElem?_append_left (by rw [hl1]; exact hk), cutOf_at, if_pos (by omega), if_pos (by omega), if_pos (by omega)]
    congr 1; omega
  · rw [List.getElem?_append_right (by rw [hl1]; omega), hl1, cutOf_at]
    by_cases hk2 : a + k < b
    · rw [if_pos (by omega), if_pos hk2, if_neg (by omega)]
      congr 1; omega
    · rw [if_neg (by omega), if_neg hk2]
/-- a list laid over the row -/
theorem splice_at (A : List Int) (o : Nat) (x : List Int) (h : o + x.length ≤ A.length) (k : Nat) : (splice A o x)[k]? = if k < o then A[k]? else if k < o + x.length then x[k - o]? else A[k]? := by
  unfold splice
  split
  · rename_i hk
    rw [List.getElem?_append_left (by rw [List.length_take]; omega), List.getElem?_take, if_pos hk]
  · rename_i hk
    rw [List.getElem?_append_right (by rw [List.length_take]; omega), List.length_take, show min o A.length = o by omega]
    split
    · rw [List.getElem?_append_left (by omega)]
    · rw [List.getElem?_append_right (by omega), List.getElem?_drop]
      congr 1; omega
/-- the gap is moved -/
def movedA (A : List Int) (u v p : Nat) : List Int :=
  if p < u then splice A (p + (1024 - (u + v))) (cutOf A p u) else splice A u (cutOf A (u + (1024 - (u + v))) (p + (1024 - (u + v))))
theorem movedA_length (hA : A.length = 1024) (h : u + v ≤ 1024) {p : Nat} (hp : p ≤ u + v) : (movedA A u v p).length = 1024 := by
  unfold movedA
  split
  · rw [length_splice _ _ _ (by rw [cutOf_length A (by omega)]; omega), hA]
  · rw [length_splice _ _ _ (by rw [cutOf_length A (by omega)]; omega), hA]
theorem movedA_line (hA : A.length = 1024) (h : u + v ≤ 1024) {p : Nat} (hp : p ≤ u + v) : gapLine (movedA A u v p) p (u + v - p) = gapLine A u v := by
  apply List.ext_getElem?
  intro k
  rw [gapLine_at (movedA_length hA h hp) (by omega), gapLine_at hA h, show p + (u + v - p) = u + v by omega]
  unfold movedA
  by_cases hpu : p < u
  · rw [if_pos hpu]
    have hl := cutOf_length A (a := p) (b := u) (by omega)
    rw [splice_at _ _ _ (by rw [hl]; omega), splice_at _ _ _ (by rw [hl]; omega), hl]
    by_cases h1 : k < p
    · rw [if_pos h1, if_pos (by omega), if_pos (by omega)]
    · rw [if_neg h1, if_neg (by omega)]
      by_cases h2 : k < u
      · rw [if_pos (by omega), if_pos h2, cutOf_at, if_pos (by omega)]
        congr 1; omega
      · rw [if_neg (by omega), if_neg h2]
  · rw [if_neg hpu]
    have hl := cutOf_length A (a := u + (1024 - (u + v))) (b := p + (1024 - (u + v))) (by omega)
    rw [splice_at _ _ _ (by rw [hl]; omega), splice_at _ _ _ (by rw [hl]; omega), hl]
    by_cases h1 : k < u
    · rw [if_pos (by omega), if_pos h1, if_pos h1]
    · by_cases h2 : k < p
      · rw [if_pos h2, if_neg h1, if_neg h1, if_pos (by omega), cutOf_at, if_pos (by omega)]
        congr 1; omega
      · rw [if_neg h2, if_neg (by omega), if_neg (by omega), if_neg h1]
/-- what comes is laid behind the first part -/
theorem put_line (hA : A.length = 1024) (h : u + v ≤ 1024) {d : Nat} (hd : d ≤ v) {x : List Int} (hx : u + (v - d) + x.length ≤ 1024) :
    gapLine (splice A u x) (u + x.length) (v - d) = (gapLine A u v).take u ++ (x ++ (gapLine A u v).drop (u + d)) := by
  have hl : (splice A u x).length = 1024 := by rw [length_splice _ _ _ (by omega), hA]
  have hg := gapLine_length hA h
  apply List.ext_getElem?
  intro k
  rw [gapLine_at hl (by omega), splice_at _ _ _ (by omega), splice_at _ _ _ (by omega)]
  by_cases h1 : k < u
  · rw [if_pos (by omega), if_pos h1, List.getElem?_append_left (by rw [List.length_take]; omega), List.getElem?_take, if_pos h1, gapLine_at hA h, if_pos h1]
  · rw [List.getElem?_append_right (by rw [List.length_take]; omega), List.length_take, hg, show min u (u + v) = u by omega]
    by_cases h2 : k < u + x.length
    · rw [if_pos h2, if_neg h1, if_pos h2, List.getElem?_append_left (by omega)]
    · rw [if_neg h2, if_neg (by omega), if_neg (by omega), List.getElem?_append_right (by omega), List.getElem?_drop, gapLine_at hA h, if_neg (by omega)]
      congr 1; omega
end
end Go.Proofs.YtepbhmebidmnbaaDoor
