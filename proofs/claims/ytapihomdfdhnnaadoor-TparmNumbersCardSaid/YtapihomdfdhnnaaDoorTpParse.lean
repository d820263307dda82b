/-
  How package tparm reads a string: its sequences, one behind the other.
-/
import Derived.Test.YtapihomdfdhnnaaDoorTpLex4
import Derived.Lib.SliceRun
namespace Go.Proofs.YtapihomdfdhnnaaDoor
open Go.RowKit Go.Shelf Go.Lib
attribute [local go_sem] Oper.semAt_some

set_option maxRecDepth 100000 in
set_option maxHeartbeats 4000000 in
theorem first_any (s : List UInt8) (hl : s.length ≤ 4000000) (w : World) : Calls Tryd.prog 27 #[str s] w (FirstPost w (firstP s)) := by
  have CI : Hid (∀ W, Calls Tryd.prog 41 #[str s, .int .u8 37] W fun e w' => e = .returned (.int .i64 (indexByte s 37)) ∧ W = w') := Lib.hid (fun W => index_any s 37 W)
  have hge := indexByte_ge s 37
  have hle := indexByte_len s 37
  by_cases h0 : indexByte s 37 = 0
  · have HP := Lib.hid (show firstP s = sequenceP s by unfold firstP; rw [if_pos h0])
    have CS := Lib.hid (fun W => sequence_any s hl W)
    unfold FirstPost at CS
    rw [h0] at CI
    generalize sequenceP s = r at *
    clear h0 hge hle hl
    go_enter Tryd.func27, Tryd.ntmps27
    go_wp2_with (first
      | (go_at_call 41; (with_reducible refine (CI.out _).mono ?_); rintro e w' ⟨rfl, rfl⟩)
      | (go_at_call 42; (with_reducible refine (CS.out _).mono ?_); rintro e w1 ⟨rfl, hb1⟩; have hbx := box_of hb1; have r0 := cell_of_row w1 _ 0 _ _ _ hbx; have r1 := cell_of_row w1 _ 1 _ _ _ hbx; have r2 := cell_of_row w1 _ 2 _ _ _ hbx; have r3 := cell_of_row w1 _ 3 _ _ _ hbx; have r4 := cell_of_row w1 _ 4 _ _ _ hbx; have r5 := cell_of_row w1 _ 5 _ _ _ hbx; have r6 := cell_of_row w1 _ 6 _ _ _ hbx; have r7 := cell_of_row w1 _ 7 _ _ _ hbx; have r8 := cell_of_row w1 _ 8 _ _ _ hbx; have r9 := cell_of_row w1 _ 9 _ _ _ hbx; have r10 := cell_of_row w1 _ 10 _ _ _ hbx; have hfr := fun i => frozen_of_row w1 _ i _ _ hbx; have HB1 := Lib.hid (And.intro hbx hb1); clear hbx hb1))
    with_reducible refine item_end (n := w.heap.size) (x := .int .i64 r.2) Tryd.results27 ?_ ?_ ?_ (item_set0 ?_ _ _ _ _ _ _ _ _ _ _ _) ?_
    · rfl
    · rfl
    · rfl
    · exact HB1.out.1
    · refine ⟨?_, ?_⟩
      · rw [HP.out]
      · repeat with_reducible refine Below.setCell ?_ (by simp) _
        exact below_of HB1.out.2
  · by_cases h1 : indexByte s 37 = -1
    · have HP := Lib.hid (show firstP s = (⟨0, 0, 0, s, fmtZ⟩, s.length) by unfold firstP; rw [if_neg h0, if_pos h1])
      rw [h1] at CI
      clear h0 h1 hge hle hl
      go_enter Tryd.func27, Tryd.ntmps27
      go_wp2_with (go_at_call 41; (with_reducible refine (CI.out _).mono ?_); rintro e w' ⟨rfl, rfl⟩)
      exact bodyPost_ret (v := .tuple #[plainV 0 0 s, .int .i64 s.length]) (by simp [results, Tryd.results27, go_sem]) rfl ⟨by rw [HP.out]; rfl, (Below.refl _ _).alloc (Nat.le_refl _) _⟩
    · obtain ⟨i, hi⟩ : ∃ i : Nat, indexByte s 37 = i := ⟨(indexByte s 37).toNat, by omega⟩
      have HP := Lib.hid (show firstP s = (⟨0, 0, 0, s.take i, fmtZ⟩, i) by unfold firstP; rw [if_neg h0, if_neg h1, hi]; rfl)
      rw [hi] at CI hle
      have hx := take_str s i
      have i1 : (0 : Int) ≤ (i : Int) := by omega
      have i2 : ((i : Int) == 0) = false := by rw [hi] at h0; simp; omega
      clear h0 h1 hge hi hl
      go_enter Tryd.func27, Tryd.ntmps27
      go_wp2_with (go_at_call 41; (with_reducible refine (CI.out _).mono ?_); rintro e w' ⟨rfl, rfl⟩)
      exact bodyPost_ret (v := .tuple #[plainV 0 0 (s.take i), .int .i64 i]) (by simp [results, Tryd.results27, go_sem]) rfl ⟨by rw [HP.out]; rfl, (Below.refl _ _).alloc (Nat.le_refl _) _⟩

/-! ### rows of sequences -/
def itemCells (i : ItemD) : List Value := [.int .i64 i.pos, .int .u8 i.verb.toNat, .int .i32 i.num, str i.text, .bool i.form.left, .bool i.form.plus, .bool i.form.sharp, .bool i.form.blank, .bool i.form.zero, .int .i64 i.form.width, .int .i64 i.form.prec]
def itemVals (l : List ItemD) : List Value := l.flatMap itemCells
theorem itemVals_length (l : List ItemD) : (itemVals l).length = l.length * 11 := by
  induction l with
  | nil => rfl
  | cons x l ih => simp [itemVals, itemCells] at ih ⊢; omega
theorem itemVals_append (a b : List ItemD) : itemVals (a ++ b) = itemVals a ++ itemVals b := List.flatMap_append
theorem itemCells_one (i : ItemD) : ∀ u ∈ itemCells i, u.oneCell' = true := by
  intro u hu
  simp [itemCells] at hu
  rcases hu with rfl | rfl | rfl | rfl | rfl | rfl | rfl | rfl | rfl | rfl | rfl <;> rfl
theorem itemVals_at {l : List ItemD} {i : Nat} {c : ItemD} (h : l[i]? = some c) (j : Nat) (hj : j < 11) : (itemVals l)[i * 11 + j]? = (itemCells c)[j]? := by
  induction l generalizing i with
  | nil => simp at h
  | cons x l ih =>
    cases i with
    | zero =>
      simp at h
      subst h
      show (itemCells x ++ itemVals l)[0 * 11 + j]? = _
      rw [List.getElem?_append_left (by simp [itemCells]; omega)]
      simp
    | succ i =>
      show (itemCells x ++ itemVals l)[(i + 1) * 11 + j]? = _
      rw [List.getElem?_append_right (by simp [itemCells]; omega)]
      have := ih (by simpa using h)
      rw [← this]
      congr 1
      simp [itemCells]
      omega
def ItemRow (W : World) (B : Nat) (v : Value) (l : List ItemD) : Prop := W.ownsRow B 75 11 v l.length (itemVals l)
theorem info_item : (Tryd.prog.info? 75).map (fun i => (i.zero, i.size, i.bytes)) = some (some (.agg #[.int .i64 0, .int .u8 0, .int .i32 0, .string ⟨#[]⟩, .bool false, .bool false, .bool false, .bool false, .bool false, .int .i64 0, .int .i64 0]), 11, 56) := by kernel_rfl
theorem run_append_item (w : World) (B : Nat) (ty : TypeId) (v : Value) (l : List ItemD) (hrow : ItemRow w B v l) (c : ItemD) {g cp : Nat} {cs : Array Value} {t2 : TypeId} {fr : Nat × Nat} (h : w.heap[g]? = some (.cells cs t2 fr)) (hcs : cs.toList = itemCells c) (hl : l.length ≤ 100000) (hB : B ≤ w.heap.size) :
    ∃ v' w', (Builtin.append_ #[39, 39] ty #[v, .slice (some ⟨g, 0, none⟩) 1 cp]).run Tryd.prog w = .ok v' w' ∧ ItemRow w' B v' (l ++ [c]) ∧ w.grownBy w' v.ownBlock ∧ (v'.ownBlock = v.ownBlock ∨ v'.ownBlock = some w.heap.size) := by
  obtain ⟨i, hi, hz, hs2, hby⟩ := info_parts info_item
  have hsrc : Src w 11 (some ⟨g, 0, none⟩) cp 1 (itemCells c) := ⟨rfl, (fun e => by cases e), fun _ => ⟨g, 0, rfl, (Array.getElem?_eq_some_iff.1 h).1, fun j u hu => by
    rw [Nat.zero_add, cell_of_row w g j _ _ _ h, ← Array.getElem?_toList, hcs]
    exact hu⟩⟩
  obtain ⟨v', w', hr, h4, h5, h6⟩ := run_append_src (P := Tryd.prog) w B 39 ty 75 i _ 11 56 Tryd.underlying39 hi hz hs2 hby rfl (by decide) v l.length (itemVals l) hrow hsrc (itemCells_one c) (by unfold maxLen; omega) (by omega) hB
  refine ⟨v', w', hr, ?_, h5, h6⟩
  unfold ItemRow
  rw [List.length_append, itemVals_append]
  have e : itemVals [c] = itemCells c := by simp [itemVals]
  rw [e]
  exact h4
theorem wpList_append_item {ops : Array Oper} {rest : List Oper} {o : Oper} {a : Act} {w : World} {Q : Exit → Act → World → Prop} (hgd : o.guard = none) (s x : Operand)
    (ho : o.op = .call { callee := .builtin .append, args := #[s, x], argTypes := #[39, 39] }) (B : Nat) (v : Value) (l : List ItemD) (hs : a.eval s = v) (hrow : ItemRow w B v l) (c : ItemD) {g cp : Nat} {cs : Array Value} {t2 : TypeId} {fr : Nat × Nat} (hx : a.eval x = .slice (some ⟨g, 0, none⟩) 1 cp)
    (hh : w.heap[g]? = some (.cells cs t2 fr)) (hcs : cs.toList = itemCells c) (hl : l.length ≤ 100000) (hB : B ≤ w.heap.size)
    (h : ∀ v' w', ItemRow w' B v' (l ++ [c]) → w.grownBy w' v.ownBlock → (v'.ownBlock = v.ownBlock ∨ v'.ownBlock = some w.heap.size) → wpList Tryd.prog ops Q rest (a.put o.dst v') w') : wpList Tryd.prog ops Q (o :: rest) a w := by
  refine wpList_plain hgd fun K hK => ?_
  obtain ⟨v', w', hrun, r1, r2, r3⟩ := run_append_item w B o.type v l hrow c (cp := cp) hh hcs hl hB
  unfold Oper.wp
  simp [execOp, ho, resolve, invoke, builtin, hs, hx, hrun, Result.andThen]
  exact hK _ _ (h v' w' r1 r2 r3)
theorem ItemRow.form {W : World} {B : Nat} {v : Value} {l : List ItemD} (h : ItemRow W B v l) : ∃ A cap, v = .slice A l.length cap := by
  obtain ⟨A, c, e, _⟩ := own_form h
  exact ⟨A, c, e⟩

/-- what a string is made of, or where it is wrong, from a place on -/
theorem parseFrom_end {n : Nat} {s : List UInt8} {p : Nat} (h : s.length ≤ p) : parseFrom n s p = .ok [] := by
  cases n with
  | zero => rfl
  | succ n => unfold parseFrom; rw [if_pos h]
theorem parseFrom_more : ∀ (n : Nat) (s : List UInt8) (p : Nat), s.length < n + p → parseFrom (n + 1) s p = parseFrom n s p := by
  intro n
  induction n with
  | zero => intro s p h; rw [parseFrom_end (by omega), parseFrom_end (by omega)]
  | succ n ih =>
    intro s p h
    unfold parseFrom
    by_cases h0 : s.length ≤ p
    · rw [if_pos h0, if_pos h0]
    · by_cases h1 : (firstP (s.drop p)).2 = 0
      · rw [if_neg h0, if_neg h0, if_pos h1, if_pos h1]
      · rw [if_neg h0, if_neg h0, if_neg h1, if_neg h1, ih s _ (by omega)]
def restP (s : List UInt8) (p : Nat) : Except Nat (List ItemD) := parseFrom (s.length + 1 - p) s p
theorem restP_end {s : List UInt8} {p : Nat} (h : s.length ≤ p) : restP s p = .ok [] := parseFrom_end h
theorem restP_bad {s : List UInt8} {p : Nat} (h : p < s.length) (h0 : (firstP (s.drop p)).2 = 0) : restP s p = .error p := by
  unfold restP
  obtain ⟨n, hn⟩ : ∃ n, s.length + 1 - p = n + 1 := ⟨s.length - p, by omega⟩
  rw [hn]
  unfold parseFrom
  rw [if_neg (by omega), if_pos h0]
theorem parseFrom_enough : ∀ (k n : Nat) (s : List UInt8) (p : Nat), s.length < n + p → parseFrom (n + k) s p = parseFrom n s p := by
  intro k
  induction k with
  | zero => intro n s p _; rfl
  | succ k ih => intro n s p h; rw [show n + (k + 1) = (n + k) + 1 by omega, parseFrom_more _ _ _ (by omega), ih n s p h]
theorem restP_step {s : List UInt8} {p : Nat} (h : p < s.length) (h0 : (firstP (s.drop p)).2 ≠ 0) : restP s p = match restP s (p + (firstP (s.drop p)).2) with | .ok l => .ok ({ (firstP (s.drop p)).1 with pos := p } :: l) | .error q => .error q := by
  unfold restP
  obtain ⟨n, hn⟩ : ∃ n, s.length + 1 - p = n + 1 := ⟨s.length - p, by omega⟩
  rw [hn]
  have e : parseFrom n s (p + (firstP (s.drop p)).2) = parseFrom (s.length + 1 - (p + (firstP (s.drop p)).2)) s (p + (firstP (s.drop p)).2) := by
    obtain ⟨k, hk⟩ : ∃ k, n = (s.length + 1 - (p + (firstP (s.drop p)).2)) + k := ⟨n - (s.length + 1 - (p + (firstP (s.drop p)).2)), by omega⟩
    conv => lhs; rw [hk]
    rcases Nat.lt_or_ge (p + (firstP (s.drop p)).2) (s.length + 1) with hq | hq
    · exact parseFrom_enough _ _ _ _ (by omega)
    · rw [parseFrom_end (by omega), parseFrom_end (by omega)]
  conv => lhs; unfold parseFrom
  rw [if_neg (by omega), if_neg h0, e]
  rfl
theorem parseP_rest (s : List UInt8) : parseP s = restP s 0 := rfl
/-- what parse returns: the sequences lie in a row of the call's own -/
def ParsePost (w : World) (s : List UInt8) (e : Ending) (w' : World) : Prop :=
  Below w.heap.size w w' ∧ match parseP s with
    | .ok l => ∃ v, e = .returned (.tuple #[v, .int .i64 0, .int .i64 0]) ∧ ItemRow w' w.heap.size v l ∧ l.length ≤ s.length
    | .error q => e = .returned (.tuple #[.slice none 0 0, .int .i64 q, .int .i64 40])
/-- between two sequences -/
def ParseI (w : World) (s : List UInt8) (u a : Value) (W : World) : Prop :=
  ∃ (p : Nat) (l : List ItemD), a = .int .i64 p ∧ p ≤ s.length ∧ l.length ≤ p ∧ ItemRow W w.heap.size u l ∧ Below w.heap.size w W ∧
    parseP s = match restP s p with | .ok r => .ok (l ++ r) | .error q => .error q
theorem ParseI.start (w : World) (s : List UInt8) : ParseI w s (.slice none 0 0) (.int .i64 0) w :=
  ⟨0, [], rfl, Nat.zero_le _, Nat.le_refl _, World.ownsRow_nil _ _ _ _, Below.refl _ _, by rw [parseP_rest]; cases restP s 0 <;> rfl⟩
end Go.Proofs.YtapihomdfdhnnaaDoor
