/-
  What list, placed and put of package tinfo return and change.
-/
import Derived.Test.YtcfgppjhgobboaaGreatDoorTiRep
namespace Go.Proofs.YtcfgppjhgobboaaGreatDoor
open Go.RowKit Go.Shelf Go.Lib
attribute [local go_sem] Oper.semAt_some

theorem info_cap : (Tryz.prog.info? 37).map (fun i => (i.zero, i.size, i.bytes)) = some (some (.agg #[.int .i64 0, .int .i64 0, .string ⟨#[]⟩]), 3, 32) := by kernel_rfl
theorem build_cap0 (w : World) : (Instr.build 37 #[]).run Tryz.prog w = .ok (.agg #[.int .i64 0, .int .i64 0, .string ⟨#[]⟩]) w := run_build w _ _ _ (by kernel_rfl)

/-- the list of a kind -/
theorem list_any (tb : Nat) (k : Int) (w : World) : Calls Tryz.prog 100 #[.pointer (some ⟨tb, 0, none⟩), .int .i64 k] w fun e w' => e = .returned (.pointer (some ⟨tb, if k = 0 then 2 else if k = 1 then 3 else 4, none⟩)) ∧ w = w' := by
  by_cases h0 : k = 0
  · subst h0
    go_enter Tryz.func100, Tryz.ntmps100
    go_wp2
    go_ret
    exact ⟨rfl, rfl⟩
  · by_cases h1 : k = 1
    · subst h1
      go_enter Tryz.func100, Tryz.ntmps100
      go_wp2
      go_ret
      exact ⟨rfl, rfl⟩
    · have h0' : (k == 0) = false := by simpa using h0
      have h1' : (k == 1) = false := by simpa using h1
      have H0 := Lib.hid h0
      have H1 := Lib.hid h1
      clear h0 h1
      go_enter Tryz.func100, Tryz.ntmps100
      go_wp2
      go_ret
      exact ⟨rfl, rfl⟩

/-- an append of one capability that lies in a block -/
theorem run_append_cap (w : World) (ty : TypeId) (v : Value) (l : List CapD) (hrow : CapRow w v l) (c : CapD) {A : Addr} {cp : Nat} (h0 : w.cell? A = some (.int .i64 c.st)) (h1 : w.cell? (A.add 1) = some (.int .i64 c.num)) (h2 : w.cell? (A.add 2) = some (str c.text)) (hl : l.length ≤ 1000) :
    ∃ v' w', (Builtin.append_ #[23, 23] ty #[v, .slice (some A) 1 cp]).run Tryz.prog w = .ok v' w' ∧ CapRow w' v' (l ++ [c]) ∧ w.grownBy w' v.ownBlock ∧ (v'.ownBlock = v.ownBlock ∨ v'.ownBlock = some w.heap.size) := by
  obtain ⟨i, hi, hz, hs, hby⟩ := info_parts info_cap
  obtain ⟨v', w', hrun, h3, h4, _, h5⟩ := run_append_own_at (P := Tryz.prog) w 0 23 ty 37 i _ 3 32 Tryz.underlying23 hi hz hs hby rfl (by decide) v l.length (capVals l) hrow A 1 cp (capCells c) (by simp [capCells]) (fun j u hu => by
    match j with
    | 0 => simp [capCells] at hu; subst hu; simpa [Addr.add] using h0
    | 1 => simp [capCells] at hu; subst hu; exact h1
    | 2 => simp [capCells] at hu; subst hu; exact h2
    | j + 3 => simp [capCells] at hu) (fun u hu => by simp [capCells] at hu; rcases hu with rfl | rfl | rfl <;> rfl) (by unfold maxLen; omega) (by omega) (Nat.zero_le _)
  refine ⟨v', w', hrun, ?_, h4, h5⟩
  unfold CapRow
  rw [List.length_append, capVals_append]
  simpa [capVals] using h3

theorem capVals_set (l : List CapD) (i : Nat) (c : CapD) : capVals (l.set i c) = if i < l.length then (((capVals l).set (i * 3) (.int .i64 c.st)).set (i * 3 + 1) (.int .i64 c.num)).set (i * 3 + 2) (str c.text) else capVals l := by
  induction l generalizing i with
  | nil => simp
  | cons x l ih =>
    cases i with
    | zero => simp [capVals, capCells]
    | succ i =>
      have e : (i + 1) * 3 = i * 3 + 1 + 1 + 1 := by omega
      have := ih i
      simp only [List.set_cons_succ, capVals, List.flatMap_cons, capCells, List.length_cons, Nat.add_lt_add_iff_right, e, List.cons_append, List.nil_append] at this ⊢
      rw [this]
      split
      · rfl
      · rfl
/-- a row of capabilities, one of them another -/
theorem CapRow.setAt {W : World} {g cap n i : Nat} {l : List CapD} {c : CapD} (h : CapRow W (.slice (some ⟨g, 0, none⟩) n cap) l) (hi : i < l.length) :
    CapRow (((W.setCell ⟨g, i * 3, none⟩ (.int .i64 c.st)).setCell ⟨g, i * 3 + 1, none⟩ (.int .i64 c.num)).setCell ⟨g, i * 3 + 2, none⟩ (str c.text)) (.slice (some ⟨g, 0, none⟩) n cap) (l.set i c) := by
  obtain ⟨h1, h2⟩ := h
  rcases h2 with ⟨e, _⟩ | ⟨g', cap', cur, e, hb, hh, hn, hcm, hs, ht⟩
  · cases e
  · injection e with e1 e2 e3
    injection e1 with e1
    injection e1 with e1
    subst e1 e2 e3
    have s1 : (W.setCell ⟨g, i * 3, none⟩ (.int .i64 c.st)).heap[g]? = some (.cells (cur.setIfInBounds (i * 3) (.int .i64 c.st)) _ (0, 0)) := heap_setCell_same W g _ _ _ _ hh
    have s2 : ((W.setCell ⟨g, i * 3, none⟩ (.int .i64 c.st)).setCell ⟨g, i * 3 + 1, none⟩ (.int .i64 c.num)).heap[g]? = some (.cells ((cur.setIfInBounds (i * 3) (.int .i64 c.st)).setIfInBounds (i * 3 + 1) (.int .i64 c.num)) _ (0, 0)) := heap_setCell_same _ g _ _ _ _ s1
    have s3 : (((W.setCell ⟨g, i * 3, none⟩ (.int .i64 c.st)).setCell ⟨g, i * 3 + 1, none⟩ (.int .i64 c.num)).setCell ⟨g, i * 3 + 2, none⟩ (str c.text)).heap[g]? = some (.cells (((cur.setIfInBounds (i * 3) (.int .i64 c.st)).setIfInBounds (i * 3 + 1) (.int .i64 c.num)).setIfInBounds (i * 3 + 2) (str c.text)) _ (0, 0)) := heap_setCell_same _ g _ _ _ _ s2
    refine ⟨by rw [capVals_length], .inr ⟨g, cap, _, by rw [List.length_set], hb, s3, by rw [List.length_set]; exact hn, hcm, by simp [hs], ?_⟩⟩
    rw [List.length_set, Array.toList_setIfInBounds, Array.toList_setIfInBounds, Array.toList_setIfInBounds, List.take_set, List.take_set, List.take_set, ht, capVals_set, if_pos hi]
/-- where one lies, and that it may be written -/
theorem CapRow.at {W : World} {g cap n i : Nat} {l : List CapD} {c : CapD} (h : CapRow W (.slice (some ⟨g, 0, none⟩) n cap) l) (hi : l[i]? = some c) :
    W.cell? ⟨g, i * 3, none⟩ = some (.int .i64 c.st) ∧ W.cell? ⟨g, i * 3 + 1, none⟩ = some (.int .i64 c.num) ∧ W.cell? ⟨g, i * 3 + 2, none⟩ = some (str c.text) ∧ ∀ j, W.frozen? ⟨g, j, none⟩ = false := by
  obtain ⟨h1, h2⟩ := h
  rcases h2 with ⟨e, _⟩ | ⟨g', cap', cur, e, hb, hh, hn, hcm, hs, ht⟩
  · cases e
  · injection e with e1 e2 e3
    injection e1 with e1
    injection e1 with e1
    subst e1 e2 e3
    have hlt := (List.getElem?_eq_some_iff.1 hi).1
    have each : ∀ j, j < 3 → cur[i * 3 + j]? = (capCells c)[j]? := fun j hj => by
      rw [← capVals_at hi j hj, ← ht, List.getElem?_take_of_lt (by omega), Array.getElem?_toList]
    refine ⟨?_, ?_, ?_, fun j => frozen_of_row W g j _ _ hh⟩
    · rw [cell_of_row W g (i * 3) cur _ (0, 0) hh]; exact each 0 (by omega)
    · rw [cell_of_row W g (i * 3 + 1) cur _ (0, 0) hh]; exact each 1 (by omega)
    · rw [cell_of_row W g (i * 3 + 2) cur _ (0, 0) hh]; exact each 2 (by omega)
theorem CapRow.form {W : World} {v : Value} {l : List CapD} (h : CapRow W v l) : ∃ A cap, v = .slice A l.length cap := by
  obtain ⟨A, cap, e, _⟩ := own_form h
  exact ⟨A, cap, e⟩
theorem CapRow.head {W : World} {A : Option Addr} {n cap : Nat} {l : List CapD} (h : CapRow W (.slice A n cap) l) (hl : 0 < l.length) : ∃ g, A = some ⟨g, 0, none⟩ ∧ g < W.heap.size := by
  rcases h.2 with ⟨e, h0⟩ | ⟨g, cap', cur, e, _, hh, _⟩
  · omega
  · injection e with e1 _ _; exact ⟨g, e1, (Array.getElem?_eq_some_iff.1 hh).1⟩

/-- the same append, at the operation -/
theorem wpList_append_cap {ops : Array Oper} {rest : List Oper} {o : Oper} {a : Act} {w : World} {Q : Exit → Act → World → Prop} (hgd : o.guard = none) (s x : Operand)
    (ho : o.op = .call { callee := .builtin .append, args := #[s, x], argTypes := #[23, 23] }) (v : Value) (l : List CapD) (hs : a.eval s = v) (hrow : CapRow w v l) (c : CapD) {A : Addr} {cp : Nat} (hx : a.eval x = .slice (some A) 1 cp)
    (h0 : w.cell? A = some (.int .i64 c.st)) (h1 : w.cell? (A.add 1) = some (.int .i64 c.num)) (h2 : w.cell? (A.add 2) = some (str c.text)) (hl : l.length ≤ 1000)
    (h : ∀ v' w', CapRow w' v' (l ++ [c]) → w.grownBy w' v.ownBlock → (v'.ownBlock = v.ownBlock ∨ v'.ownBlock = some w.heap.size) → wpList Tryz.prog ops Q rest (a.put o.dst v') w') : wpList Tryz.prog ops Q (o :: rest) a w := by
  refine wpList_plain hgd fun K hK => ?_
  obtain ⟨v', w', hrun, r1, r2, r3⟩ := run_append_cap w o.type v l hrow c (cp := cp) h0 h1 h2 hl
  unfold Oper.wp
  simp [execOp, ho, resolve, invoke, builtin, hs, hx, hrun, Result.andThen]
  exact hK _ _ (h v' w' r1 r2 r3)

def lenV : Value → Nat | .slice _ n _ => n | _ => 0
/-- between two appends of placed; w: behind the box of the capability -/
def PlacedR (w : World) (l : List CapD) (v : Value) (n : Nat) (u : Value) (W : World) : Prop :=
  ∃ k : Nat, (k = 0 ∨ l.length + k ≤ n + 1) ∧ CapRow W u (l ++ List.replicate k cap0) ∧ Touch (fun b => v.ownBlock = some b) w W ∧ (u.ownBlock = v.ownBlock ∨ ∃ b, u.ownBlock = some b ∧ w.heap.size ≤ b)
theorem PlacedR.next {w W W' : World} {l : List CapD} {v u u' : Value} {n k : Nat} {o : Obj} (hk : l.length + k ≤ n) (ht : Touch (fun b => v.ownBlock = some b) w W) (hu : u.ownBlock = v.ownBlock ∨ ∃ b, u.ownBlock = some b ∧ w.heap.size ≤ b)
    (hrow : CapRow W' u' (l ++ List.replicate k cap0 ++ [cap0])) (hg : (W.alloc o).grownBy W' u.ownBlock) (hb : u'.ownBlock = u.ownBlock ∨ u'.ownBlock = some (W.alloc o).heap.size) : PlacedR w l v n u' W' := by
  refine ⟨k + 1, .inr (by omega), by rw [List.replicate_succ', ← List.append_assoc]; exact hrow, ?_, ?_⟩
  · refine ⟨(Touch.of_grown (T := fun _ => True) hg fun _ _ => trivial).os.trans ht.os, (Touch.of_grown (T := fun _ => True) hg fun _ _ => trivial).tape.trans ht.tape, (Touch.of_grown (T := fun _ => True) hg fun _ _ => trivial).output.trans ht.output, ?_, fun b hb0 hnb => ?_⟩
    · have := (Touch.of_grown (T := fun _ => True) hg fun _ _ => trivial).size
      have := ht.size
      simp at *
      omega
    · have h1 := ht.block b hb0 hnb
      have h2 : W'.heap[b]? = (W.alloc o).heap[b]? := hg.block b (by have := ht.size; simp; omega) fun e => by
        rcases hu with hu | ⟨b', hu, hb'⟩
        · exact hnb (by rw [← hu, ← e])
        · rw [hu] at e; injection e with e; omega
      rw [h2, Below.heap_alloc _ _ _ (by have := ht.size; omega), h1]
  · rcases hb with hb | hb
    · rw [hb]; exact hu
    · exact .inr ⟨_, hb, by have := ht.size; simp; omega⟩
theorem placed_touch {T : Nat → Prop} {w w1 wr w' : World} {g : Nat} (h1 : Below w.heap.size w w1) (ht : Touch T w1 wr) (hs : Touch (fun b => b = g) wr w') (hg : T g ∨ w1.heap.size ≤ g) : Touch T w w' := by
  have h0 := Touch.of_below (T := T) h1
  refine ⟨hs.os.trans (ht.os.trans h0.os), hs.tape.trans (ht.tape.trans h0.tape), hs.output.trans (ht.output.trans h0.output), Nat.le_trans h0.size (Nat.le_trans ht.size hs.size), fun b hb hn => ?_⟩
  have e1 := h0.block b hb hn
  have e2 := ht.block b (Nat.lt_of_lt_of_le hb h0.size) hn
  refine (hs.block b (Nat.lt_of_lt_of_le hb (Nat.le_trans h0.size ht.size)) fun e => ?_).trans (e2.trans e1)
  subst e
  rcases hg with hg | hg
  · exact hn hg
  · have := h0.size; omega
def PlacedPost (w : World) (l : List CapD) (v : Value) (n : Nat) (c : CapD) (e : Ending) (w' : World) : Prop :=
  ∃ u, e = .returned u ∧ CapRow w' u (placedP l n c) ∧ Touch (fun b => v.ownBlock = some b) w w' ∧ (u.ownBlock = v.ownBlock ∨ ∃ b, u.ownBlock = some b ∧ w.heap.size ≤ b)

set_option maxRecDepth 100000 in
set_option maxHeartbeats 2000000 in
theorem placed_any (w : World) (v : Value) (l : List CapD) (n : Nat) (c : CapD) (hrow : CapRow w v l) (hn : n ≤ 164) :
    Calls Tryz.prog 101 #[v, .int .i64 n, capVal c] w (PlacedPost w l v n c) := by
  have hbz := build_cap0
  obtain ⟨A0, cap0', rfl⟩ := hrow.form
  have HROW := Lib.hid hrow
  clear hrow
  go_enter Tryz.func101, Tryz.ntmps101
  go_wp2_with fail
  have hb1 : (w.alloc (.cells #[.int .i64 c.st, .int .i64 c.num, str c.text] 37)).heap[w.heap.size]? = some (.cells #[.int .i64 c.st, .int .i64 c.num, str c.text] 37 (0, 0)) := World.alloc_heap_new w _
  have hw1 : Below w.heap.size w (w.alloc (.cells #[.int .i64 c.st, .int .i64 c.num, str c.text] 37)) := (Below.refl _ w).alloc (Nat.le_refl _) _
  have hs1 : (w.alloc (.cells #[.int .i64 c.st, .int .i64 c.num, str c.text] 37)).heap.size = w.heap.size + 1 := by simp
  generalize w.alloc (.cells #[.int .i64 c.st, .int .i64 c.num, str c.text] 37) = w1 at *
  have HI := Lib.hid (show PlacedR w1 l (.slice A0 l.length cap0') n (.slice A0 l.length cap0') w1 from ⟨0, .inl rfl, by rw [List.replicate_zero, List.append_nil]; exact own_same HROW.out fun k hk => hw1.block k (own_lt HROW.out k hk).2, Touch.refl _ _, .inl rfl⟩)
  have HB1 := Lib.hid (And.intro hb1 (And.intro hw1 hs1))
  clear hb1 hw1 hs1
  go_loopw [0] (fun u wr => PlacedR w1 l (.slice A0 l.length cap0') n u wr) (fun u _ => n + 1 - lenV u)
  case atStart => exact HI.out
  case round =>
    obtain ⟨k, hk, hrow, ht, hu⟩ := hrel
    obtain ⟨A, cap, rfl⟩ := hrow.form
    have hlen : (l ++ List.replicate k cap0).length = l.length + k := by simp
    have HT := Lib.hid ht
    have HU := Lib.hid hu
    have HR := Lib.hid hrow
    rw [hlen] at HR HU ⊢
    obtain ⟨m, hm⟩ : ∃ m, m = l.length + k := ⟨_, rfl⟩
    obtain ⟨L, hL⟩ : ∃ L, L = l ++ List.replicate k cap0 := ⟨_, rfl⟩
    have hLm : L.length = m := by rw [hL, hlen, hm]
    have HM := Lib.hid (And.intro hm (And.intro hL hLm))
    rw [← hm] at HR HU ⊢
    rw [← hL] at HR
    by_cases hle : m ≤ n
    · have hle' : (m : Int) ≤ (n : Int) := by omega
      have hnew : (wr.alloc (.cells #[.int .i64 0, .int .i64 0, .string ⟨#[]⟩] 37)).heap[wr.heap.size]? = some (.cells #[.int .i64 0, .int .i64 0, .string ⟨#[]⟩] 37 (0, 0)) := World.alloc_heap_new wr _
      have HC := Lib.hid (fun j => cell_of_row _ wr.heap.size j _ _ _ hnew)
      clear ht hu hrow hk hlen hm hL hLm hnew
      go_wp2_with (at_builtin; refine wpList_append_cap rfl _ _ rfl (.slice A m cap) L rfl (own_same HR.out fun b hb => Below.heap_alloc _ _ _ (own_lt HR.out b hb).2) cap0 rfl (HC.out 0) (HC.out 1) (HC.out 2) (by have := HM.out.2.2; omega) ?_; intro v' w' hr' hg' hb'; have H1 := Lib.hid hr'; have H2 := Lib.hid hg'; have H3 := Lib.hid hb'; clear hr' hg' hb')
      go_roundw
      case rel =>
        exact PlacedR.next (k := k) (by have := HM.out.1; omega) HT.out HU.out (by have := H1.out; rw [HM.out.2.1] at this; exact this) H2.out H3.out
      case measure =>
        obtain ⟨A', cap', e⟩ := H1.out.form
        rw [e]
        have := HM.out.2.2
        simp [lenV]
        omega
    · have hle' : ¬ (m : Int) ≤ (n : Int) := by omega
      have hi1 : 0 ≤ (n : Int) := by omega
      have hi2 : (n : Int) < (m : Int) := by omega
      have hLn : n < L.length := by omega
      have hval : placedP l n c = L.set n c := by
        unfold placedP
        rw [hL]
        rcases hk with hk | hk
        · subst hk; rw [show n + 1 - l.length = 0 by omega]
        · rw [show n + 1 - l.length = k by omega]
      obtain ⟨g, rfl, hg⟩ := HR.out.head (by omega)
      obtain ⟨x, hx⟩ : ∃ x, L[n]? = some x := ⟨_, List.getElem?_eq_getElem hLn⟩
      obtain ⟨d0, d1, d2, fz⟩ := HR.out.at hx
      have f0 := fz (n * 3)
      have f1 := fz (n * 3 + 1)
      have f2 := fz (n * 3 + 2)
      have hbox : wr.heap[w.heap.size]? = some (.cells #[.int .i64 c.st, .int .i64 c.num, str c.text] 37 (0, 0)) :=
        (HT.out.block _ (Array.getElem?_eq_some_iff.1 HB1.out.1).1 fun e => by have := (own_lt HROW.out _ e).2; omega).trans HB1.out.1
      have k0 := cell_of_row wr w.heap.size 0 _ _ _ hbox
      have k1 := cell_of_row wr w.heap.size 1 _ _ _ hbox
      have k2 := cell_of_row wr w.heap.size 2 _ _ _ hbox
      simp only [List.getElem?_toArray, List.getElem?_cons_zero, List.getElem?_cons_succ] at k0 k1 k2
      have HV := Lib.hid hval
      have HLN := Lib.hid hLn
      clear ht hu hrow hk hlen hm hL hLm hval hx fz hLn hbox
      go_wp2_with fail
      go_ret
      refine ⟨_, rfl, by rw [HV.out]; exact HR.out.setAt HLN.out, ?_, ?_⟩
      · refine placed_touch HB1.out.2.1 HT.out (g := g) (((Touch.setCell (T := fun b => b = g) wr ⟨g, n * 3, none⟩ _ rfl).trans (Touch.setCell _ ⟨g, n * 3 + 1, none⟩ _ rfl)).trans (Touch.setCell _ ⟨g, n * 3 + 2, none⟩ _ rfl)) ?_
        rcases HU.out with h | ⟨b, h, hb⟩
        · exact .inl h.symm
        · injection h with h; subst h; exact .inr hb
      · rcases HU.out with h | ⟨b, h, hb⟩
        · exact .inl h
        · exact .inr ⟨b, h, by have := HB1.out.2.2; omega⟩

end Go.Proofs.YtcfgppjhgobboaaGreatDoor
