/-
  The state of the document's reader, as plain data. No program is walked here, and nothing is assumed.
  The state of the document's reader, as plain data: the counts, the sections. No program is walked here, and nothing is assumed.
  The document's reader of package tinfo, in its block: what is wrong first, whether bytes are there.
  The document's reader of package tinfo: a short, an even place, bytes that are passed over.
-/
import Derived.Test.YtcfgppjhgobboaaGreatDoorTiReadP
import Derived.Test.YtcfgppjhgobboaaGreatDoorTiTexts
namespace Go.Proofs.YtcfgppjhgobboaaGreatDoor
section
open Go.RowKit Go.Lib

/-- where the document's reader is, and what is wrong first -/
structure RS where
  pos : Nat
  e : Int
  bad : Nat
  wide : Bool
deriving DecidableEq
def failS (s : RS) (e : Int) (p : Nat) : RS := if s.e = 0 then { s with e := e, bad := p } else s
def needB (len : Nat) (s : RS) (n : Int) : Bool := decide (s.e = 0) && decide ((s.pos : Int) + n ≤ (len : Int))
def needS (len : Nat) (s : RS) (n : Int) : RS := if s.e = 0 then (if (s.pos : Int) + n ≤ (len : Int) then s else { s with e := 31, bad := len }) else s
def skipS (len : Nat) (s : RS) (n : Int) : RS := if needB len s n then { s with pos := s.pos + n.toNat } else needS len s n
def evenS (len : Nat) (s : RS) : RS := if s.e = 0 ∧ s.pos % 2 = 1 then skipS len s 1 else s
theorem skipS_ok {len : Nat} {s : RS} {n : Nat} (h : s.e = 0) (hn : s.pos + n ≤ len) : skipS len s n = { s with pos := s.pos + n } := by
  unfold skipS needB
  rw [h]
  have : (s.pos : Int) + (n : Int) ≤ (len : Int) := by omega
  simp [this]
theorem skipS_bad {len : Nat} {s : RS} {n : Nat} (h : s.e = 0) (hn : len < s.pos + n) : skipS len s n = { s with e := 31, bad := len } := by
  unfold skipS needB needS
  rw [h]
  have : ¬ (s.pos : Int) + (n : Int) ≤ (len : Int) := by omega
  simp [this]
theorem skipS_stop {len : Nat} {s : RS} {n : Int} (h : s.e ≠ 0) : skipS len s n = s := by
  unfold skipS needB needS
  simp [h]
theorem evenS_ok {len : Nat} {s : RS} (h : s.e = 0) (hn : evenUp s.pos ≤ len) : evenS len s = { s with pos := evenUp s.pos } := by
  unfold evenS
  unfold evenUp at hn ⊢
  split
  · next h1 =>
    have := skipS_ok (len := len) (s := s) (n := 1) h (by omega)
    rw [show ((1 : Nat) : Int) = 1 from rfl] at this
    rw [this, h1.2]
  · next h1 =>
    have h0 : s.pos % 2 = 0 := by rcases Nat.mod_two_eq_zero_or_one s.pos with h2 | h2; exact h2; exact absurd ⟨h, h2⟩ h1
    rw [h0]
    rfl
theorem evenS_bad {len : Nat} {s : RS} (h : s.e = 0) (hp : s.pos ≤ len) (hn : len < evenUp s.pos) : evenS len s = { s with e := 31, bad := len } := by
  unfold evenUp at hn
  have h1 : s.pos % 2 = 1 := by omega
  unfold evenS
  rw [if_pos ⟨h, h1⟩]
  have := skipS_bad (len := len) (s := s) (n := 1) h (by omega)
  rwa [show ((1 : Nat) : Int) = 1 from rfl] at this
theorem evenS_stop {len : Nat} {s : RS} (h : s.e ≠ 0) : evenS len s = s := by
  unfold evenS
  rw [if_neg (fun x => h x.1)]

/-- the sections behind the counts: a file that is long enough -/
def sectS (len : Nat) (s : RS) (f n : Int) : RS := skipS len (evenS len (skipS len s f)) n
theorem sect_stop {len : Nat} {s : RS} {f n : Int} (h : s.e ≠ 0) : sectS len s f n = s := by
  unfold sectS
  rw [skipS_stop h, evenS_stop h, skipS_stop h]
end

section
open Go.RowKit Go.Lib

/-- the wrong ones of n counts, told one after another -/
def countS (bad : Nat → Bool) (p : Nat) (s : RS) : Nat → RS
  | 0 => s
  | n + 1 => if bad n then failS (countS bad p s n) 32 (p + 2 * n) else countS bad p s n
theorem failS_stop {s : RS} {e : Int} {p : Nat} (h : s.e ≠ 0) : failS s e p = s := by unfold failS; rw [if_neg h]
theorem failS_ok {s : RS} {e : Int} {p : Nat} (h : s.e = 0) : failS s e p = { s with e := e, bad := p } := by unfold failS; rw [if_pos h]
theorem countS_pos (bad : Nat → Bool) (p : Nat) (s : RS) (n : Nat) : (countS bad p s n).pos = s.pos := by
  induction n with
  | zero => rfl
  | succ n ih => unfold countS failS; split <;> (try split) <;> simp [ih]
theorem countS_none {bad : Nat → Bool} {p : Nat} {s : RS} {n : Nat} (h : ∀ i, i < n → bad i = false) : countS bad p s n = s := by
  induction n with
  | zero => rfl
  | succ n ih => unfold countS; rw [h n (by omega), if_neg (by decide), ih fun i hi => h i (by omega)]
theorem countS_some {bad : Nat → Bool} {p i : Nat} {s : RS} {n : Nat} (hs : s.e = 0) (hi : i < n) (h1 : bad i = true) (h0 : ∀ j, j < i → bad j = false) : countS bad p s n = { s with e := 32, bad := p + 2 * i } := by
  induction n with
  | zero => omega
  | succ n ih =>
    unfold countS
    by_cases hin : i = n
    · subst hin
      rw [h1, if_pos rfl, countS_none h0, failS_ok hs]
    · have := ih (by omega)
      rw [this]
      split
      · rw [failS_stop (by simp)]
      · rfl
theorem skipS_cases (len : Nat) (s : RS) (n : Nat) (h : s.e = 0) : (s.pos + n ≤ len ∧ skipS len s n = { s with pos := s.pos + n }) ∨ (len < s.pos + n ∧ skipS len s n = { s with e := 31, bad := len }) := by
  rcases Nat.lt_or_ge len (s.pos + n) with hl | hl
  · exact .inr ⟨hl, skipS_bad h hl⟩
  · exact .inl ⟨hl, skipS_ok h hl⟩
theorem skipS_pos {len : Nat} {s : RS} {n : Int} (h : s.pos ≤ len) : (skipS len s n).pos ≤ len := by
  unfold skipS needB needS
  split
  · next h1 =>
    simp at h1
    simp only
    omega
  · split
    · split <;> simpa using h
    · exact h
theorem needS_pos (len : Nat) (s : RS) (n : Int) : (needS len s n).pos = s.pos := by
  unfold needS
  split
  · split <;> rfl
  · rfl
theorem needS_of {len : Nat} {s : RS} {n : Int} (h : needB len s n = true) : needS len s n = s := by
  unfold needB at h
  simp at h
  unfold needS
  rw [if_pos h.1, if_pos h.2]
theorem skipS_need {len : Nat} {s : RS} {n : Int} (h : needB len s n = true) : skipS len s n = { s with pos := s.pos + n.toNat } := by unfold skipS; rw [if_pos h]
theorem skipS_not {len : Nat} {s : RS} {n : Int} (h : needB len s n = false) : skipS len s n = needS len s n := by unfold skipS; rw [if_neg (by rw [h]; decide)]
theorem evenS_pos {len : Nat} {s : RS} (h : s.pos ≤ len) : (evenS len s).pos ≤ len := by
  unfold evenS
  split
  · exact skipS_pos h
  · exact h
/-- what a stopped reader says: the file ends -/
def Ends (len : Nat) (s : RS) : Prop := s.e = 31 ∧ s.bad = len
theorem Ends.skip {len : Nat} {s : RS} {n : Int} (h : Ends len s) : Ends len (skipS len s n) := by rw [skipS_stop (by rw [h.1]; decide)]; exact h
theorem Ends.even {len : Nat} {s : RS} (h : Ends len s) : Ends len (evenS len s) := by rw [evenS_stop (by rw [h.1]; decide)]; exact h
theorem skip_or {len p q : Nat} {s : RS} {n : Nat} (h : (s.e = 0 ∧ s.pos = p ∧ p ≤ len) ∨ (Ends len s ∧ len < p)) (hq : p + n = q) : ((skipS len s n).e = 0 ∧ (skipS len s n).pos = q ∧ q ≤ len) ∨ (Ends len (skipS len s n) ∧ len < q) := by
  rcases h with ⟨h1, h2, h3⟩ | ⟨h1, h2⟩
  · rcases skipS_cases len s n h1 with ⟨h4, h5⟩ | ⟨h4, h5⟩
    · rw [h5]; exact .inl ⟨h1, by simp only; omega, by omega⟩
    · rw [h5]; exact .inr ⟨⟨rfl, rfl⟩, by omega⟩
  · exact .inr ⟨h1.skip, by omega⟩
theorem even_or' {len p : Nat} {s : RS} (h : (s.e = 0 ∧ s.pos = p ∧ p ≤ len) ∨ (Ends len s ∧ len < p)) : ((evenS len s).e = 0 ∧ (evenS len s).pos = evenUp p ∧ evenUp p ≤ len) ∨ (Ends len (evenS len s) ∧ len < evenUp p) := by
  rcases h with ⟨h1, h2, h3⟩ | ⟨h1, h2⟩
  · rcases Nat.lt_or_ge len (evenUp s.pos) with hl | hl
    · rw [evenS_bad h1 (by omega) hl]; exact .inr ⟨⟨rfl, rfl⟩, by rw [← h2]; exact hl⟩
    · rw [evenS_ok h1 hl]; exact .inl ⟨h1, by rw [← h2], by rw [← h2]; exact hl⟩
  · exact .inr ⟨h1.even, by unfold evenUp; omega⟩
/-- the sections of the first part -/
def sections1 (len : Nat) (s : RS) (wide : Bool) (c : Nat → Int) : RS := skipS len (skipS len (skipS len (evenS len (skipS len (skipS len s (c 0)) (c 1))) (c 2 * (sizeOf wide : Nat))) (2 * c 3)) (c 4)
theorem sections1_stop {len : Nat} {s : RS} {wide : Bool} {c : Nat → Int} (h : s.e ≠ 0) : sections1 len s wide c = s := by
  unfold sections1
  rw [skipS_stop h, skipS_stop h, evenS_stop h, skipS_stop h, skipS_stop h, skipS_stop h]
theorem sections1_or {len : Nat} {s : RS} {wide : Bool} {c : Nat → Int} {n : Nat → Nat} (hn : ∀ i, i < 5 → c i = n i) (h : s.e = 0) (hp : s.pos = 12) (hl : 12 ≤ len) :
    ((sections1 len s wide c).e = 0 ∧ (lay1 wide n).fin ≤ len) ∨ (Ends len (sections1 len s wide c) ∧ len < (lay1 wide n).fin) := by
  unfold sections1
  rw [hn 0 (by omega), hn 1 (by omega), hn 2 (by omega), hn 3 (by omega), hn 4 (by omega), ← Int.natCast_mul, show (2 : Int) * (n 3 : Nat) = ((2 * n 3 : Nat) : Int) by push_cast; rfl]
  have h1 := skip_or (n := n 0) (.inl ⟨h, hp, hl⟩) rfl
  have h2 := even_or' (skip_or (n := n 1) h1 rfl)
  have h3 := skip_or (n := 2 * n 3) (skip_or (n := n 2 * sizeOf wide) h2 rfl) rfl
  have h4 := skip_or (n := n 4) h3 rfl
  have hf : (lay1 wide n).fin = evenUp (12 + n 0 + n 1) + n 2 * sizeOf wide + 2 * n 3 + n 4 := by unfold lay1; simp [Nat.mul_comm]
  rw [hf]
  rcases h4 with ⟨a, _, c⟩ | ⟨a, c⟩
  · exact .inl ⟨a, c⟩
  · exact .inr ⟨a, c⟩
/-- the sections of the extended part -/
def sections2 (len : Nat) (s : RS) (wide : Bool) (c : Nat → Int) : RS := skipS len (skipS len (skipS len (skipS len (evenS len (skipS len s (c 0))) (c 1 * (sizeOf wide : Nat))) (2 * c 2)) (2 * (c 0 + c 1 + c 2))) (c 4)
theorem sections2_stop {len : Nat} {s : RS} {wide : Bool} {c : Nat → Int} (h : s.e ≠ 0) : sections2 len s wide c = s := by
  unfold sections2
  rw [skipS_stop h, evenS_stop h, skipS_stop h, skipS_stop h, skipS_stop h, skipS_stop h]
theorem sections2_or {len p : Nat} {s : RS} {wide : Bool} {c : Nat → Int} {n : Nat → Nat} (hn : ∀ i, i < 5 → c i = n i) (h : s.e = 0) (hp : s.pos = p + 10) (hl : p + 10 ≤ len) :
    ((sections2 len s wide c).e = 0 ∧ (lay2 wide p n).fin ≤ len) ∨ (Ends len (sections2 len s wide c) ∧ len < (lay2 wide p n).fin) := by
  unfold sections2
  rw [hn 0 (by omega), hn 1 (by omega), hn 2 (by omega), hn 4 (by omega), ← Int.natCast_mul, show (2 : Int) * (n 2 : Nat) = ((2 * n 2 : Nat) : Int) by push_cast; rfl, show (2 : Int) * ((n 0 : Nat) + (n 1 : Nat) + (n 2 : Nat)) = ((2 * (n 0 + n 1 + n 2) : Nat) : Int) by push_cast; rfl]
  have h1 := even_or' (skip_or (n := n 0) (.inl ⟨h, hp, hl⟩) rfl)
  have h2 := skip_or (n := n 1 * sizeOf wide) h1 rfl
  have h3 := skip_or (n := 2 * (n 0 + n 1 + n 2)) (skip_or (n := 2 * n 2) h2 rfl) rfl
  have h4 := skip_or (n := n 4) h3 rfl
  have hf : (lay2 wide p n).fin = evenUp (p + 10 + n 0) + n 1 * sizeOf wide + 2 * n 2 + 2 * (n 0 + n 1 + n 2) + n 4 := by unfold lay2; simp [Nat.mul_comm]
  rw [hf]
  rcases h4 with ⟨a, _, c⟩ | ⟨a, c⟩
  · exact .inl ⟨a, c⟩
  · exact .inr ⟨a, c⟩
end

section
open Go.RowKit Go.Shelf Go.Lib
attribute [local go_sem] Oper.semAt_some

/-- the document's reader in its block: its bytes stay while it is written -/
structure DrAt (W : World) (kb : Nat) (v : Value) (b : List UInt8) (s : RS) : Prop where
  box : W.heap[kb]? = some (.cells #[v, .int .i64 s.pos, .int .i64 s.e, .int .i64 s.bad, .bool s.wide] 64 (0, 0))
  bytes : ∀ W', Touch (fun k => k = kb) W W' → BytesV W' v b
  pos : s.pos ≤ b.length
theorem DrAt.lt {W : World} {kb : Nat} {v : Value} {b : List UInt8} {s : RS} (h : DrAt W kb v b s) : kb < W.heap.size := (Array.getElem?_eq_some_iff.1 h.box).1
theorem DrAt.val {W : World} {kb : Nat} {v : Value} {b : List UInt8} {s : RS} (h : DrAt W kb v b s) : BytesV W v b := h.bytes W (Touch.refl _ _)
theorem DrAt.cells {W : World} {kb : Nat} {v : Value} {b : List UInt8} {s : RS} (h : DrAt W kb v b s) :
    W.cell? ⟨kb, 0, none⟩ = some v ∧ W.cell? ⟨kb, 1, none⟩ = some (.int .i64 s.pos) ∧ W.cell? ⟨kb, 2, none⟩ = some (.int .i64 s.e) ∧ W.cell? ⟨kb, 3, none⟩ = some (.int .i64 s.bad) ∧ W.cell? ⟨kb, 4, none⟩ = some (.bool s.wide) ∧
    W.frozen? ⟨kb, 0, none⟩ = false ∧ W.frozen? ⟨kb, 1, none⟩ = false ∧ W.frozen? ⟨kb, 2, none⟩ = false ∧ W.frozen? ⟨kb, 3, none⟩ = false ∧ W.frozen? ⟨kb, 4, none⟩ = false :=
  ⟨cell_of_row W kb 0 _ _ _ h.box, cell_of_row W kb 1 _ _ _ h.box, cell_of_row W kb 2 _ _ _ h.box, cell_of_row W kb 3 _ _ _ h.box, cell_of_row W kb 4 _ _ _ h.box, frozen_of_row W kb 0 _ _ h.box, frozen_of_row W kb 1 _ _ h.box, frozen_of_row W kb 2 _ _ h.box, frozen_of_row W kb 3 _ _ h.box, frozen_of_row W kb 4 _ _ h.box⟩
theorem DrAt.below {W W' : World} {kb : Nat} {v : Value} {b : List UInt8} {s : RS} (h : DrAt W kb v b s) (hb : Below W.heap.size W W') : DrAt W' kb v b s :=
  ⟨(hb.block _ h.lt).trans h.box, fun W2 h2 => h.bytes W2 ((Touch.of_below hb).trans h2), h.pos⟩
theorem DrAt.setPos {W : World} {kb : Nat} {v : Value} {b : List UInt8} {s : RS} (h : DrAt W kb v b s) (q : Nat) (hq : q ≤ b.length) : DrAt (W.setCell ⟨kb, 1, none⟩ (.int .i64 q)) kb v b { s with pos := q } :=
  ⟨heap_setCell_same W kb 1 _ _ (.int .i64 q) h.box, fun W2 h2 => h.bytes W2 ((Touch.setCell (T := fun k => k = kb) W ⟨kb, 1, none⟩ _ rfl).trans h2), hq⟩
theorem DrAt.setE {W : World} {kb : Nat} {v : Value} {b : List UInt8} {s : RS} (h : DrAt W kb v b s) (er : Int) : DrAt (W.setCell ⟨kb, 2, none⟩ (.int .i64 er)) kb v b { s with e := er } :=
  ⟨heap_setCell_same W kb 2 _ _ (.int .i64 er) h.box, fun W2 h2 => h.bytes W2 ((Touch.setCell (T := fun k => k = kb) W ⟨kb, 2, none⟩ _ rfl).trans h2), h.pos⟩
theorem DrAt.setBad {W : World} {kb : Nat} {v : Value} {b : List UInt8} {s : RS} (h : DrAt W kb v b s) (q : Nat) : DrAt (W.setCell ⟨kb, 3, none⟩ (.int .i64 q)) kb v b { s with bad := q } :=
  ⟨heap_setCell_same W kb 3 _ _ (.int .i64 q) h.box, fun W2 h2 => h.bytes W2 ((Touch.setCell (T := fun k => k = kb) W ⟨kb, 3, none⟩ _ rfl).trans h2), h.pos⟩
theorem DrAt.setWide {W : World} {kb : Nat} {v : Value} {b : List UInt8} {s : RS} (h : DrAt W kb v b s) (x : Bool) : DrAt (W.setCell ⟨kb, 4, none⟩ (.bool x)) kb v b { s with wide := x } :=
  ⟨heap_setCell_same W kb 4 _ _ (.bool x) h.box, fun W2 h2 => h.bytes W2 ((Touch.setCell (T := fun k => k = kb) W ⟨kb, 4, none⟩ _ rfl).trans h2), h.pos⟩
theorem touch_over {T : Nat → Prop} {w W w' : World} (h : Touch T w W) (hb : Below w.heap.size W w') : Touch T w w' :=
  ⟨hb.os.trans h.os, hb.tape.trans h.tape, hb.output.trans h.output, Nat.le_trans h.size hb.size, fun k hk hn => (hb.block k hk).trans (h.block k hk hn)⟩
/-- behind a step of the document's reader -/
structure DStep (w : World) (kb : Nat) (v : Value) (b : List UInt8) (s : RS) (w' : World) : Prop where
  rd : DrAt w' kb v b s
  ht : Touch (fun k => k = kb) w w'
theorem DrAt.step {w : World} {kb : Nat} {v : Value} {b : List UInt8} {s : RS} (h : DrAt w kb v b s) : DStep w kb v b s w := ⟨h, Touch.refl _ _⟩
theorem DStep.next {w w' W : World} {kb : Nat} {v : Value} {b : List UInt8} {s : RS} (h : DStep w kb v b s W) (hb : Below W.heap.size W w') : DStep w kb v b s w' := ⟨h.rd.below hb, h.ht.trans (Touch.of_below hb)⟩
theorem DStep.over {w w' W : World} {kb : Nat} {v : Value} {b : List UInt8} {s s0 : RS} (h : DStep w kb v b s W) (h0 : DrAt w kb v b s0) (hb : Below w.heap.size W w') : DStep w kb v b s w' :=
  ⟨⟨(hb.block _ h0.lt).trans h.rd.box, fun W2 h2 => h0.bytes W2 ((touch_over h.ht hb).trans h2), h.rd.pos⟩, touch_over h.ht hb⟩
theorem DStep.trans {w w' W : World} {kb : Nat} {v : Value} {b : List UInt8} {s s' : RS} (h : DStep w kb v b s W) (h' : DStep W kb v b s' w') : DStep w kb v b s' w' := ⟨h'.rd, h.ht.trans h'.ht⟩
theorem DStep.setPos {w W : World} {kb : Nat} {v : Value} {b : List UInt8} {s : RS} (h : DStep w kb v b s W) (q : Nat) (hq : q ≤ b.length) : DStep w kb v b { s with pos := q } (W.setCell ⟨kb, 1, none⟩ (.int .i64 q)) := ⟨h.rd.setPos q hq, h.ht.trans (Touch.setCell (T := fun k => k = kb) W ⟨kb, 1, none⟩ _ rfl)⟩
theorem DStep.setE {w W : World} {kb : Nat} {v : Value} {b : List UInt8} {s : RS} (h : DStep w kb v b s W) (er : Int) : DStep w kb v b { s with e := er } (W.setCell ⟨kb, 2, none⟩ (.int .i64 er)) := ⟨h.rd.setE er, h.ht.trans (Touch.setCell (T := fun k => k = kb) W ⟨kb, 2, none⟩ _ rfl)⟩
theorem DStep.setBad {w W : World} {kb : Nat} {v : Value} {b : List UInt8} {s : RS} (h : DStep w kb v b s W) (q : Nat) : DStep w kb v b { s with bad := q } (W.setCell ⟨kb, 3, none⟩ (.int .i64 q)) := ⟨h.rd.setBad q, h.ht.trans (Touch.setCell (T := fun k => k = kb) W ⟨kb, 3, none⟩ _ rfl)⟩
theorem DStep.setWide {w W : World} {kb : Nat} {v : Value} {b : List UInt8} {s : RS} (h : DStep w kb v b s W) (x : Bool) : DStep w kb v b { s with wide := x } (W.setCell ⟨kb, 4, none⟩ (.bool x)) := ⟨h.rd.setWide x, h.ht.trans (Touch.setCell (T := fun k => k = kb) W ⟨kb, 4, none⟩ _ rfl)⟩

set_option maxRecDepth 100000 in
theorem dfail_any (w : World) (kb : Nat) (v : Value) (b : List UInt8) (s : RS) (er : Int) (p : Nat) (h : DrAt w kb v b s) :
    Calls Tryz.prog 28 #[.pointer (some ⟨kb, 0, none⟩), .int .i64 er, .int .i64 p] w fun e w' => e = .returned (.tuple #[]) ∧ DStep w kb v b (failS s er p) w' := by
  obtain ⟨c0, c1, c2, c3, c4, f0, f1, f2, f3, f4⟩ := h.cells
  by_cases h0 : s.e = 0
  · rw [failS_ok h0]
    have HS : Hid (DStep w kb v b { s with e := er, bad := p } ((w.setCell ⟨kb, 2, none⟩ (.int .i64 er)).setCell ⟨kb, 3, none⟩ (.int .i64 p))) := Lib.hid ((h.step.setE er).setBad p)
    rw [h0] at c2
    clear h h0
    go_enter Tryz.func28, Tryz.ntmps28
    go_wp2
    go_end0
    exact ⟨rfl, HS.out⟩
  · rw [failS_stop h0]
    have HS := Lib.hid h.step
    clear h
    generalize s.e = e0 at *
    go_enter Tryz.func28, Tryz.ntmps28
    go_wp2
    go_end0
    exact ⟨rfl, HS.out⟩
set_option maxRecDepth 100000 in
theorem dneed_any (w : World) (kb : Nat) (v : Value) (b : List UInt8) (s : RS) (n : Int) (h : DrAt w kb v b s) (hn : -1000000 ≤ n) (hn2 : n ≤ 1000000) :
    Calls Tryz.prog 80 #[.pointer (some ⟨kb, 0, none⟩), .int .i64 n] w fun e w' => e = .returned (.bool (needB b.length s n)) ∧ DStep w kb v b (needS b.length s n) w' := by
  obtain ⟨A, cap, rfl, h1, h2⟩ := h.val.form
  obtain ⟨c0, c1, c2, c3, c4, f0, f1, f2, f3, f4⟩ := h.cells
  have hp := h.pos
  by_cases h0 : s.e = 0
  · by_cases hok : (s.pos : Int) + n ≤ (b.length : Int)
    · have e1 : needB b.length s n = true := by unfold needB; simp [h0, hok]
      have e2 : needS b.length s n = s := needS_of e1
      rw [e1, e2]
      have HS : Hid (∀ N, DStep w kb (.slice A b.length cap) b s (w.drewN N)) := Lib.hid fun N => h.step.next (drewN_below w N)
      have i1 : ¬ (b.length : Int) - (s.pos : Int) < n := by omega
      have h0' := h0
      rw [h0] at c2
      clear h h0 h0' e1 e2 hok
      go_enter Tryz.func80, Tryz.ntmps80
      go_wp2
      go_quiet (fail)
      go_wp2
      go_ret
      exact ⟨rfl, HS.out _⟩
    · have e1 : needB b.length s n = false := by unfold needB; simp [hok]
      have e2 : needS b.length s n = failS s 31 b.length := by unfold needS failS; rw [if_pos h0, if_neg hok, if_pos h0]
      rw [e1, e2]
      have CF : Hid (∀ N, Calls Tryz.prog 28 #[.pointer (some ⟨kb, 0, none⟩), .int .i64 31, .int .i64 (b.length : Nat)] (w.drewN N) fun e w' => e = .returned (.tuple #[]) ∧ DStep w kb (.slice A b.length cap) b (failS s 31 b.length) w') := Lib.hid fun N => (dfail_any _ kb _ b s 31 b.length (h.below (drewN_below w N))).mono fun e w' hx => ⟨hx.1, (h.step.next (drewN_below w N)).trans hx.2⟩
      have i1 : (b.length : Int) - (s.pos : Int) < n := by omega
      rw [h0] at c2
      clear h h0 e1 e2 hok
      go_enter Tryz.func80, Tryz.ntmps80
      go_wp2
      go_quiet (fail)
      go_wp2_with (go_at_call 28; (refine (CF.out _).mono ?_); rintro e w' ⟨rfl, hs⟩; have HS := Lib.hid hs; clear hs)
      go_ret
      exact ⟨rfl, HS.out⟩
  · have e1 : needB b.length s n = false := by unfold needB; simp [h0]
    have e2 : needS b.length s n = s := by unfold needS; rw [if_neg h0]
    rw [e1, e2]
    have HS := Lib.hid h.step
    clear h e1 e2
    generalize s.e = e0 at *
    go_enter Tryz.func80, Tryz.ntmps80
    go_wp2
    go_ret
    exact ⟨rfl, HS.out⟩
set_option maxRecDepth 100000 in
theorem dpeek_drew (w : World) (kb : Nat) (v : Value) (b : List UInt8) (s : RS) (p : Nat) (h : DrAt w kb v b s) (hp : p + 1 < b.length) :
    Calls Tryz.prog 81 #[.pointer (some ⟨kb, 0, none⟩), .int .i64 p] w fun e w' => e = .returned (.int .i64 (shortAt b p)) ∧ ∃ n, w' = w.drewN n := by
  obtain ⟨A, cap, rfl, h1, h2⟩ := h.val.form
  obtain ⟨c0, _⟩ := h.cells
  obtain ⟨k, off, rfl, _, d0⟩ := h.val.cell (i := p) (by omega)
  obtain ⟨k', off', e, _, d1⟩ := h.val.cell (i := p + 1) (by omega)
  injection e with e
  injection e with e1 e2
  subst e1 e2
  have i1 : (p : Int) + 1 < (b.length : Int) := by omega
  clear h
  unfold shortAt
  generalize byteAt b p = x at *
  generalize byteAt b (p + 1) = y at *
  go_enter Tryz.func81, Tryz.ntmps81
  go_wp2
  go_quiet (fail)
  go_wp2
  go_ret
  exact ⟨ret_int (signed2_val x y), _, rfl⟩
theorem dpeek_any (w : World) (kb : Nat) (v : Value) (b : List UInt8) (s : RS) (p : Nat) (h : DrAt w kb v b s) (hp : p + 1 < b.length) :
    Calls Tryz.prog 81 #[.pointer (some ⟨kb, 0, none⟩), .int .i64 p] w fun e w' => e = .returned (.int .i64 (shortAt b p)) ∧ DStep w kb v b s w' :=
  (dpeek_drew w kb v b s p h hp).mono fun _ _ ⟨h1, n, h2⟩ => ⟨h1, h2 ▸ h.step.next (drewN_below w n)⟩
/-- the same, wherever the place is spelt -/
theorem dpeek_at (w : World) (kb : Nat) (v : Value) (b : List UInt8) (s : RS) (z : Int) (p : Nat) (hz : z = p) (h : DrAt w kb v b s) (hp : p + 1 < b.length) :
    Calls Tryz.prog 81 #[.pointer (some ⟨kb, 0, none⟩), .int .i64 z] w fun e w' => e = .returned (.int .i64 (shortAt b p)) ∧ ∃ n, w' = w.drewN n := by
  subst hz
  exact dpeek_drew w kb v b s p h hp
end

section
open Go.RowKit Go.Shelf Go.Lib
attribute [local go_sem] Oper.semAt_some

theorem ret_val {k : IntKind} {a c : Int} (h : a = c) {P : Prop} (hp : P) : Ending.returned (.int k a) = .returned (.int k c) ∧ P := ⟨by rw [h], hp⟩
set_option maxRecDepth 100000 in
theorem dskip_any (w : World) (kb : Nat) (v : Value) (b : List UInt8) (s : RS) (n : Int) (h : DrAt w kb v b s) (hn : -1000000 ≤ n) (hn2 : n ≤ 1000000) (hn3 : s.e = 0 → 0 ≤ n) :
    Calls Tryz.prog 75 #[.pointer (some ⟨kb, 0, none⟩), .int .i64 n] w fun e w' => e = .returned (.int .i64 s.pos) ∧ DStep w kb v b (skipS b.length s n) w' := by
  obtain ⟨c0, c1, c2, c3, c4, f0, f1, f2, f3, f4⟩ := h.cells
  have hp := h.pos
  obtain ⟨hcap, hbig⟩ : b.length ≤ b.length ∧ b.length ≤ 140737488351232 := by obtain ⟨A, cap, rfl, h1, h2⟩ := h.val.form; exact ⟨Nat.le_refl _, h.val.size.2⟩
  have CN := Lib.hid (dneed_any w kb v b s n h hn hn2)
  cases hok : needB b.length s n with
  | true =>
    rw [hok, needS_of hok] at CN
    rw [skipS_need hok]
    have hpos : s.pos + n.toNat ≤ b.length ∧ 0 ≤ n := by unfold needB at hok; simp at hok; have := hn3 hok.1; omega
    have hcast : ((s.pos + n.toNat : Nat) : Int) = (s.pos : Int) + n := by omega
    have HS : Hid (∀ W, DStep w kb v b s W → DStep w kb v b { s with pos := s.pos + n.toNat } (W.setCell ⟨kb, 1, none⟩ (.int .i64 ((s.pos : Int) + n)))) := Lib.hid fun W hW => by have := hW.setPos _ hpos.1; rwa [hcast] at this
    have hle : (s.pos : Int) + n ≤ 140737488351232 := by omega
    have hge : 0 ≤ (s.pos : Int) + n := by omega
    clear h hok hcast hpos
    generalize hz : s.pos = q at *
    go_enter Tryz.func75, Tryz.ntmps75
    go_wp2_with (go_at_call 80; (refine (CN.out).mono ?_); rintro e w1 ⟨rfl, hs⟩; have H1 := Lib.hid hs; clear c0 c1 c2 c3 c4 f0 f1 f2 f3 f4; obtain ⟨c0, c1, c2, c3, c4, f0, f1, f2, f3, f4⟩ := hs.rd.cells; rw [hz] at c1; clear hs)
    go_ret
    exact ⟨rfl, HS.out _ H1.out⟩
  | false =>
    rw [hok] at CN
    rw [skipS_not hok]
    clear h hok
    go_enter Tryz.func75, Tryz.ntmps75
    go_wp2_with (go_at_call 80; (refine (CN.out).mono ?_); rintro e w1 ⟨rfl, hs⟩; have H1 := Lib.hid hs; clear hs c0 c1 c2 c3 c4 f0 f1 f2 f3 f4)
    go_ret
    exact ⟨rfl, H1.out⟩
set_option maxRecDepth 100000 in
theorem dshort_any (w : World) (kb : Nat) (v : Value) (b : List UInt8) (s : RS) (h : DrAt w kb v b s) :
    Calls Tryz.prog 73 #[.pointer (some ⟨kb, 0, none⟩)] w fun e w' => e = .returned (.int .i64 (if needB b.length s 2 then shortAt b s.pos else 0)) ∧ DStep w kb v b (skipS b.length s 2) w' := by
  obtain ⟨c0, c1, c2, c3, c4, f0, f1, f2, f3, f4⟩ := h.cells
  have hp := h.pos
  have hbig : b.length ≤ 140737488351232 := by obtain ⟨A, cap, rfl, h1, h2⟩ := h.val.form; exact h.val.size.2
  have CN := Lib.hid (dneed_any w kb v b s 2 h (by decide) (by decide))
  cases hok : needB b.length s 2 with
  | true =>
    rw [hok, needS_of hok] at CN
    rw [skipS_need hok, if_pos rfl]
    have hpos : s.pos + 2 ≤ b.length := by unfold needB at hok; simp at hok; omega
    have HS : Hid (∀ W, DStep w kb v b s W → DStep w kb v b { s with pos := s.pos + (2 : Int).toNat } (W.setCell ⟨kb, 1, none⟩ (.int .i64 ((s.pos : Int) + 2)))) := Lib.hid fun W hW => by have := hW.setPos (s.pos + 2) hpos; rwa [Int.natCast_add] at this
    have CP : Hid (∀ W, DStep w kb v b s W → Calls Tryz.prog 81 #[.pointer (some ⟨kb, 0, none⟩), .int .i64 s.pos] W fun e w' => e = .returned (.int .i64 (shortAt b s.pos)) ∧ DStep w kb v b s w') := Lib.hid fun W hW => (dpeek_any W kb v b s s.pos hW.rd (by omega)).mono fun e w' hx => ⟨hx.1, hW.trans hx.2⟩
    have hle : (s.pos : Int) + 2 ≤ 140737488351232 := by omega
    clear h hok hpos
    generalize hz : s.pos = q at *
    generalize shortAt b q = x at *
    go_enter Tryz.func73, Tryz.ntmps73
    go_wp2_with (first
      | (go_at_call 80; (refine (CN.out).mono ?_); rintro e w1 ⟨rfl, hs⟩; have H1 := Lib.hid hs; clear c0 c1 c2 c3 c4 f0 f1 f2 f3 f4; obtain ⟨c0, c1, c2, c3, c4, f0, f1, f2, f3, f4⟩ := hs.rd.cells; rw [hz] at c1; clear hs)
      | (go_at_call 81; (refine (CP.out _ H1.out).mono ?_); rintro e w2 ⟨rfl, hs⟩; have H2 := Lib.hid hs; clear c0 c1 c2 c3 c4 f0 f1 f2 f3 f4; obtain ⟨c0, c1, c2, c3, c4, f0, f1, f2, f3, f4⟩ := hs.rd.cells; rw [hz] at c1; clear hs))
    go_ret
    exact ⟨rfl, HS.out _ H2.out⟩
  | false =>
    rw [hok] at CN
    rw [skipS_not hok, if_neg (by decide)]
    clear h hok
    go_enter Tryz.func73, Tryz.ntmps73
    go_wp2_with (go_at_call 80; (refine (CN.out).mono ?_); rintro e w1 ⟨rfl, hs⟩; have H1 := Lib.hid hs; clear hs c0 c1 c2 c3 c4 f0 f1 f2 f3 f4)
    go_ret
    exact ⟨rfl, H1.out⟩
set_option maxRecDepth 100000 in
theorem deven_any (w : World) (kb : Nat) (v : Value) (b : List UInt8) (s : RS) (h : DrAt w kb v b s) :
    Calls Tryz.prog 26 #[.pointer (some ⟨kb, 0, none⟩)] w fun e w' => e = .returned (.tuple #[]) ∧ DStep w kb v b (evenS b.length s) w' := by
  obtain ⟨c0, c1, c2, c3, c4, f0, f1, f2, f3, f4⟩ := h.cells
  have hp := h.pos
  have hbig : b.length ≤ 140737488351232 := by obtain ⟨A, cap, rfl, h1, h2⟩ := h.val.form; exact h.val.size.2
  have HW0 := Lib.hid h.step
  by_cases h0 : s.e = 0
  · rw [h0] at c2
    by_cases h1 : s.pos % 2 = 1
    · have e0 : evenS b.length s = skipS b.length s 1 := by unfold evenS; rw [if_pos ⟨h0, h1⟩]
      rw [e0]
      have CN := Lib.hid (dneed_any w kb v b s 1 h (by decide) (by decide))
      have hm : ((s.pos : Nat) : Int).tmod 2 = 1 := by rw [Int.tmod_eq_emod_of_nonneg (by omega)]; omega
      have hm2 : ((s.pos : Nat) : Int) % 2 = 1 := by omega
      cases hok : needB b.length s 1 with
      | true =>
        rw [hok, needS_of hok] at CN
        rw [skipS_need hok]
        have hpos : s.pos + 1 ≤ b.length := by unfold needB at hok; simp at hok; omega
        have HS : Hid (∀ W, DStep w kb v b s W → DStep w kb v b { s with pos := s.pos + (1 : Int).toNat } (W.setCell ⟨kb, 1, none⟩ (.int .i64 ((s.pos : Int) + 1)))) := Lib.hid fun W hW => by have := hW.setPos (s.pos + 1) hpos; rwa [Int.natCast_add] at this
        have hle : (s.pos : Int) + 1 ≤ 140737488351232 := by omega
        clear h hok hpos e0 h1
        generalize hz : s.pos = q at *
        go_enter Tryz.func26, Tryz.ntmps26
        go_wp2_with (go_at_call 80; (refine (CN.out).mono ?_); rintro e w1 ⟨rfl, hs⟩; have H1 := Lib.hid hs; clear c0 c1 c2 c3 c4 f0 f1 f2 f3 f4; obtain ⟨c0, c1, c2, c3, c4, f0, f1, f2, f3, f4⟩ := hs.rd.cells; rw [hz] at c1; clear hs)
        go_end0
        exact ⟨rfl, HS.out _ H1.out⟩
      | false =>
        rw [hok] at CN
        rw [skipS_not hok]
        clear h hok e0 h1
        generalize hz : s.pos = q at *
        go_enter Tryz.func26, Tryz.ntmps26
        go_wp2_with (go_at_call 80; (refine (CN.out).mono ?_); rintro e w1 ⟨rfl, hs⟩; have H1 := Lib.hid hs; clear hs c0 c1 c2 c3 c4 f0 f1 f2 f3 f4)
        go_end0
        exact ⟨rfl, H1.out⟩
    · have e0 : evenS b.length s = s := by unfold evenS; rw [if_neg (fun x => h1 x.2)]
      rw [e0]
      have hm : ¬ ((s.pos : Nat) : Int).tmod 2 = 1 := by rw [Int.tmod_eq_emod_of_nonneg (by omega)]; omega
      have hm2 : ¬ ((s.pos : Nat) : Int) % 2 = 1 := by omega
      clear h e0 h1
      generalize hz : s.pos = q at *
      go_enter Tryz.func26, Tryz.ntmps26
      go_wp2
      go_end0
      exact ⟨rfl, HW0.out⟩
  · rw [evenS_stop h0]
    clear h
    generalize s.e = e0 at *
    go_enter Tryz.func26, Tryz.ntmps26
    go_wp2
    go_end0
    exact ⟨rfl, HW0.out⟩
theorem capOf_eq (z : Int) : capOfNum z = if z = -2 then ⟨2, 0, []⟩ else if z < 0 then ⟨0, 0, []⟩ else ⟨1, z, []⟩ := by
  unfold capOfNum stateOf
  by_cases h : z = -2
  · subst h; rfl
  · rw [if_neg h]
    by_cases h2 : z < 0
    · rw [if_pos h2, if_neg (by omega), if_neg (by omega), if_neg h]
    · rw [if_neg h2, if_pos (by omega), if_pos (by omega), if_neg h]
set_option maxRecDepth 100000 in
theorem dcapOf_any (w : World) (z : Int) : Calls Tryz.prog 123 #[.int .i64 z] w fun e w' => e = .returned (capVal (capOfNum z)) ∧ Below w.heap.size w w' := by
  have hbz := build_cap0
  have hb1 := build_st 2
  have hb2 := build_sn 1 z
  have hbox := World.alloc_heap_new w capZero
  obtain ⟨d0, d1, d2, f0, f1, f2⟩ := capZero_facts hbox
  clear hbox
  rw [capOf_eq]
  by_cases h : z = -2
  · rw [if_pos h]
    subst h
    go_enter Tryz.func123, Tryz.ntmps123
    go_wp2
    have hr := fun j => cell_of_row _ w.heap.size j _ _ _ (World.alloc_heap_new w (.cells #[.int .i64 2, .int .i64 0, .string ⟨#[]⟩] 37))
    have hbb : Below w.heap.size w (w.alloc (.cells #[.int .i64 2, .int .i64 0, .string ⟨#[]⟩] 37)) := (Below.refl _ w).alloc (Nat.le_refl _) _
    generalize w.alloc (.cells #[.int .i64 2, .int .i64 0, .string ⟨#[]⟩] 37) = w1 at *
    simp only [List.getElem?_toArray] at hr
    exact bodyPost_ret (v := capVal ⟨2, 0, []⟩) (by simp [results, Tryz.results123, go_sem, hr]) rfl ⟨rfl, hbb⟩
  · rw [if_neg h]
    by_cases h2 : z < 0
    · rw [if_pos h2]
      go_enter Tryz.func123, Tryz.ntmps123
      go_wp2
      have hr := fun j => cell_of_row _ w.heap.size j _ _ _ (World.alloc_heap_new w (.cells #[.int .i64 0, .int .i64 0, .string ⟨#[]⟩] 37))
      have hbb : Below w.heap.size w (w.alloc (.cells #[.int .i64 0, .int .i64 0, .string ⟨#[]⟩] 37)) := (Below.refl _ w).alloc (Nat.le_refl _) _
      generalize w.alloc (.cells #[.int .i64 0, .int .i64 0, .string ⟨#[]⟩] 37) = w1 at *
      simp only [List.getElem?_toArray] at hr
      exact bodyPost_ret (v := capVal ⟨0, 0, []⟩) (by simp [results, Tryz.results123, go_sem, hr]) rfl ⟨rfl, hbb⟩
    · rw [if_neg h2]
      go_enter Tryz.func123, Tryz.ntmps123
      go_wp2
      have hr := fun j => cell_of_row _ w.heap.size j _ _ _ (World.alloc_heap_new w (.cells #[.int .i64 1, .int .i64 z, .string ⟨#[]⟩] 37))
      have hbb : Below w.heap.size w (w.alloc (.cells #[.int .i64 1, .int .i64 z, .string ⟨#[]⟩] 37)) := (Below.refl _ w).alloc (Nat.le_refl _) _
      generalize w.alloc (.cells #[.int .i64 1, .int .i64 z, .string ⟨#[]⟩] 37) = w1 at *
      simp only [List.getElem?_toArray] at hr
      exact bodyPost_ret (v := capVal ⟨1, z, []⟩) (by simp [results, Tryz.results123, go_sem, hr]) rfl ⟨rfl, hbb⟩
end
end Go.Proofs.YtcfgppjhgobboaaGreatDoor
