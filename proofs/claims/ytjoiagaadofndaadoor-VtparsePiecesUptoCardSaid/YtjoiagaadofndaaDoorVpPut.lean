/-
  What a parser collects: intermediates, texts, parameters; how its block changes with them. No program is walked here, and nothing is assumed.
-/
import Derived.Test.YtjoiagaadofndaaDoorVpDec
namespace Go.Proofs.YtjoiagaadofndaaDoor
open Go.RowKit Go.Shelf Go.Lib

theorem take_set_succ {α : Type} (l : List α) (k : Nat) (x : α) (h : k < l.length) : (l.set k x).take (k + 1) = l.take k ++ [x] := by
  rw [List.take_succ_eq_append_getElem (by simpa using h)]
  simp [List.take_set_of_le]
theorem take_last {α : Type} (l : List α) (k : Nat) (h : k < l.length) : (l.take (k + 1)).dropLast = l.take k := by
  have e : ∀ (m : List α) (x : α), (m ++ [x]).dropLast = m := fun m x => by simp
  rw [List.take_succ_eq_append_getElem h, e]
theorem take_getLast (l : List Int) (k : Nat) (h : k < l.length) : (l.take (k + 1)).getLastD 0 = l[k] := by
  have e : ∀ (m : List Int) (x : Int), (m ++ [x]).getLastD 0 = x := fun m x => by simp
  rw [List.take_succ_eq_append_getElem h, e]

/-- the parser's block is the one block that turns -/
abbrev Only (g : Nat) : Nat → Prop := fun k => k = g
theorem only_set (w : World) (g k : Nat) (v : Value) : Touch (Only g) w (w.setCell ⟨g, k, none⟩ v) := Touch.setCell w ⟨g, k, none⟩ v rfl

section
variable {w : World} {g : Nat} {S : PS}
theorem ParAt.lt (h : ParAt w g S) : g < w.heap.size := by obtain ⟨R, _, h, _⟩ := h; exact h.lt
theorem ParAt.frozen (h : ParAt w g S) (k : Nat) : w.frozen? ⟨g, k, none⟩ = false := by obtain ⟨R, _, h, _⟩ := h; exact h.frozen k
theorem ParAt.st (h : ParAt w g S) : w.cell? ⟨g, 1, none⟩ = some (.int .i64 S.st) := by obtain ⟨R, ok, h, rfl⟩ := h; exact (h.cells ok).c1
theorem ParAt.made (h : ParAt w g S) : w.cell? ⟨g, 0, none⟩ = some (.bool true) := by obtain ⟨R, ok, h, rfl⟩ := h; exact (h.cells ok).c0
theorem ParAt.same {w' : World} (h : ParAt w g S) (e : w'.heap[g]? = w.heap[g]?) : ParAt w' g S := by
  obtain ⟨R, ok, h, rfl⟩ := h
  exact ⟨R, ok, h.same e, rfl⟩
theorem ParAt.below {w' : World} (h : ParAt w g S) (hb : Below w.heap.size w w') : ParAt w' g S := h.same (hb.block g h.lt)
theorem ParAt.setSt (h : ParAt w g S) (k : Nat) (hk : k ≤ 13) : ParAt (w.setCell ⟨g, 1, none⟩ (.int .i64 k)) g { S with st := k } := by
  obtain ⟨R, ok, h, rfl⟩ := h
  exact ⟨{ R with st := k }, ⟨ok.L16, ok.T1024, ok.n3, ok.c16, ok.ni2, ok.nt1024, ok.ints, hk⟩, h.set rfl, rfl⟩
theorem ParAt.setPriv (h : ParAt w g S) (b : UInt8) : ParAt (w.setCell ⟨g, 7, none⟩ (.int .u8 b.toNat)) g { S with priv := b } := by
  obtain ⟨R, ok, h, rfl⟩ := h
  exact ⟨{ R with pr := b }, ⟨ok.L16, ok.T1024, ok.n3, ok.c16, ok.ni2, ok.nt1024, ok.ints, ok.st13⟩, h.set rfl, rfl⟩
theorem ParAt.setFin (h : ParAt w g S) (b : UInt8) : ParAt (w.setCell ⟨g, 8, none⟩ (.int .u8 b.toNat)) g { S with fin := b } := by
  obtain ⟨R, ok, h, rfl⟩ := h
  exact ⟨{ R with fi := b }, ⟨ok.L16, ok.T1024, ok.n3, ok.c16, ok.ni2, ok.nt1024, ok.ints, ok.st13⟩, h.set rfl, rfl⟩
theorem ParAt.st13 (h : ParAt w g S) : S.st ≤ 13 := by obtain ⟨R, ok, h, rfl⟩ := h; exact ok.st13
end

section
variable {R : Raw}
/-- one intermediate more -/
def Raw.inter (R : Raw) (b : UInt8) : Raw := if R.ni = 0 then { R with i0 := b, ni := 1 } else { R with i1 := b, ni := 2 }
theorem inter_ok (ok : RawOk R) (h : R.ni < 2) (b : UInt8) : RawOk (R.inter b) ∧ PS.of (R.inter b) = addInterP (PS.of R) b := by
  have hn : R.ni = 0 ∨ R.ni = 1 := by omega
  rcases hn with hn | hn
  · have e : R.inter b = { R with i0 := b, ni := 1 } := by unfold Raw.inter; rw [if_pos hn]
    rw [e]
    refine ⟨⟨ok.L16, ok.T1024, ok.n3, ok.c16, by show 1 ≤ 2; omega, ok.nt1024, ok.ints, ok.st13⟩, ?_⟩
    simp [PS.of, addInterP, hn]
  · have e : R.inter b = { R with i1 := b, ni := 2 } := by unfold Raw.inter; rw [if_neg (by omega)]
    rw [e]
    refine ⟨⟨ok.L16, ok.T1024, ok.n3, ok.c16, by show 2 ≤ 2; omega, ok.nt1024, ok.ints, ok.st13⟩, ?_⟩
    simp [PS.of, addInterP, hn]
theorem inter_full (ok : RawOk R) (h : ¬ R.ni < 2) (b : UInt8) : addInterP (PS.of R) b = PS.of R := by
  have : R.ni = 2 := by have := ok.ni2; omega
  simp [PS.of, addInterP, this]
theorem inter_set (ok : RawOk R) (b : UInt8) {k : Nat} (hk : R.ni = k) (h2 : k < 2) : (R.row.set (27 + k) (.int .u8 b.toNat)).set 29 (.int .i64 ((k + 1 : Nat) : Int)) = (R.inter b).row := by
  have hc : k = 0 ∨ k = 1 := by omega
  rcases hc with rfl | rfl
  · have e : R.inter b = { R with i0 := b, ni := 1 } := by unfold Raw.inter; rw [if_pos hk]
    rw [e, show 27 + 0 = 25 + 2 from rfl, set_mid ok 2 _ (by omega), show (29 : Nat) = 25 + 4 from rfl]
    exact set_mid (R := { R with i0 := b }) ⟨ok.L16, ok.T1024, ok.n3, ok.c16, ok.ni2, ok.nt1024, ok.ints, ok.st13⟩ 4 _ (by omega)
  · have e : R.inter b = { R with i1 := b, ni := 2 } := by unfold Raw.inter; rw [if_neg (by omega)]
    rw [e, show 27 + 1 = 25 + 3 from rfl, set_mid ok 3 _ (by omega), show (29 : Nat) = 25 + 4 from rfl]
    exact set_mid (R := { R with i1 := b }) ⟨ok.L16, ok.T1024, ok.n3, ok.c16, ok.ni2, ok.nt1024, ok.ints, ok.st13⟩ 4 _ (by omega)
/-- one byte of text more -/
def Raw.txt (R : Raw) (b : UInt8) : Raw := { R with T := R.T.set R.nt b, nt := R.nt + 1 }
theorem txt_ok (ok : RawOk R) (h : R.nt < 1024) (b : UInt8) : RawOk (R.txt b) ∧ PS.of (R.txt b) = addTextP (PS.of R) b := by
  refine ⟨⟨ok.L16, by simp [Raw.txt, ok.T1024], ok.n3, ok.c16, ok.ni2, h, ok.ints, ok.st13⟩, ?_⟩
  have hl : (R.T.take R.nt).length < 1024 := by rw [List.length_take]; omega
  unfold addTextP
  rw [if_pos (show (PS.of R).text.length < 1024 from hl)]
  simp only [PS.of, Raw.txt]
  rw [take_set_succ _ _ _ (by rw [ok.T1024]; exact h)]
theorem txt_full (ok : RawOk R) (h : ¬ R.nt < 1024) (b : UInt8) : addTextP (PS.of R) b = PS.of R := by
  unfold addTextP
  have hl : (R.T.take R.nt).length = 1024 := by rw [List.length_take, ok.T1024]; have := ok.nt1024; omega
  rw [if_neg (show ¬ (PS.of R).text.length < 1024 by show ¬ (R.T.take R.nt).length < 1024; omega)]
theorem txt_set (ok : RawOk R) (h : R.nt < 1024) (b : UInt8) : (R.row.set (30 + R.nt) (.int .u8 b.toNat)).set 1054 (.int .i64 ((R.nt + 1 : Nat) : Int)) = (R.txt b).row := by
  rw [set_T ok R.nt b h]
  exact set_nt (R := { R with T := R.T.set R.nt b }) ⟨ok.L16, by simp [ok.T1024], ok.n3, ok.c16, ok.ni2, ok.nt1024, ok.ints, ok.st13⟩ (R.nt + 1)
/-- one parameter more -/
def Raw.beg (R : Raw) : Raw := { R with L := R.L.set R.c (-1), c := R.c + 1 }
theorem beg_ok (ok : RawOk R) (h : R.c < 16) : RawOk R.beg ∧ PS.of R.beg = beginP (PS.of R) := by
  have hk := take_set_succ R.L R.c (-1) (by rw [ok.L16]; exact h)
  refine ⟨⟨by simp [Raw.beg, ok.L16], ok.T1024, ok.n3, h, ok.ni2, ok.nt1024, fun x hx => ?_, ok.st13⟩, ?_⟩
  · simp only [Raw.beg] at hx
    rw [hk] at hx
    rcases List.mem_append.1 hx with hx | hx
    · exact ok.ints x hx
    · simp at hx; omega
  · have hl : (R.L.take R.c).length ≠ 16 := by rw [List.length_take]; omega
    unfold beginP
    rw [if_neg (show ¬ (PS.of R).ps.length = 16 from hl)]
    simp only [PS.of, Raw.beg]
    rw [hk]
theorem beg_set (ok : RawOk R) (h : R.c < 16) : (R.row.set (9 + R.c) (.int .i64 (-1))).set 25 (.int .i64 ((R.c + 1 : Nat) : Int)) = R.beg.row := by
  rw [set_L ok R.c (-1) h, show (25 : Nat) = 25 + 0 from rfl]
  exact set_mid (R := { R with L := R.L.set R.c (-1) }) ⟨by simp [ok.L16], ok.T1024, ok.n3, ok.c16, ok.ni2, ok.nt1024, fun x hx => by
    simp only [List.take_set_of_le (Nat.le_refl _)] at hx; exact ok.ints x hx, ok.st13⟩ 0 _ (by omega)
theorem full_ok (ok : RawOk R) (h : R.c = 16) : RawOk { R with be := true } ∧ PS.of { R with be := true } = beginP (PS.of R) := by
  refine ⟨⟨ok.L16, ok.T1024, ok.n3, ok.c16, ok.ni2, ok.nt1024, ok.ints, ok.st13⟩, ?_⟩
  have hl : (R.L.take R.c).length = 16 := by rw [List.length_take, ok.L16]; omega
  unfold beginP
  rw [if_pos (show (PS.of R).ps.length = 16 from hl)]
  rfl
theorem full_set (ok : RawOk R) : R.row.set 26 (.bool true) = { R with be := true }.row := by
  rw [show (26 : Nat) = 25 + 1 from rfl]
  exact set_mid ok 1 _ (by omega)
/-- a digit -/
def digN (x : Int) (b : UInt8) : Int := min (max x 0 * 10 + ((b.toNat : Int) - 48)) 65535
def Raw.dig (R : Raw) (k : Nat) (x : Int) : Raw := { R with L := R.L.set k x }
theorem dig_ok (ok : RawOk R) {k : Nat} (h : R.c = k + 1) (hb : R.be = false) (b : UInt8) (h0 : 48 ≤ b.toNat) (x : Int) (hx : R.L[k]? = some x) :
    RawOk (R.dig k (digN x b)) ∧ PS.of (R.dig k (digN x b)) = digitP (PS.of R) b ∧ -1 ≤ x ∧ x ≤ 65535 := by
  have h16 := ok.c16
  have hk : k < R.L.length := by rw [ok.L16]; omega
  have ht := take_set_succ R.L k (digN x b) hk
  have hxe : R.L[k] = x := by
    have := List.getElem?_eq_getElem hk
    rw [hx] at this
    exact (Option.some.inj this).symm
  have hm : x ∈ R.L.take R.c := by
    rw [h, List.take_succ_eq_append_getElem hk, hxe]
    simp
  have hr := ok.ints x hm
  refine ⟨⟨by simp [Raw.dig, ok.L16], ok.T1024, ok.n3, ok.c16, ok.ni2, ok.nt1024, fun y hy => ?_, ok.st13⟩, ?_, hr⟩
  · simp only [Raw.dig] at hy
    rw [h, ht] at hy
    rcases List.mem_append.1 hy with hy | hy
    · refine ok.ints y ?_
      rw [h, List.take_succ_eq_append_getElem hk]
      exact List.mem_append_left _ hy
    · simp at hy
      subst hy
      unfold digN
      omega
  · unfold digitP
    rw [if_neg (show ¬ (PS.of R).beyond = true by show ¬ R.be = true; rw [hb]; decide)]
    simp only [PS.of, Raw.dig]
    rw [h, ht, take_last _ _ hk, take_getLast _ _ hk, hxe]
    rfl
theorem dig_set (ok : RawOk R) (k : Nat) (x : Int) (hk : k < 16) : R.row.set (9 + k) (.int .i64 x) = (R.dig k x).row := set_L ok k x hk
end
end Go.Proofs.YtjoiagaadofndaaDoor
