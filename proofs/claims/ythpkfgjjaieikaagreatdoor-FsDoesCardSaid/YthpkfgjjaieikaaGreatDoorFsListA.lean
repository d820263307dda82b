/-
  What List of package simfs returns and changes, for every file system and every directory.
-/
import Derived.Test.YthpkfgjjaieikaaGreatDoorFsNew
import Derived.Deep.RegionHeld3
namespace Go.Proofs.YthpkfgjjaieikaaGreatDoor
open Go.RowKit Go.Shelf Go.Lib Go.Maps Go.Sort
attribute [local go_sem] Oper.semAt_some

/-- the names of what lies below a directory, in the order of the paths -/
def namesOf (d : List UInt8) (ps : List (List UInt8)) : List (List UInt8) := ps.filterMap fun p => if (entryP d p).2 then some (entryP d p).1 else none
/-- what List tells -/
def listP (es : List Ent) (s : St) (d : List UInt8) : List (List UInt8) × Int × St :=
  if (startP s (d == [47] || goodP d)).1 ≠ 0 then ([], startP s (d == [47] || goodP d))
  else if (isP es d).1 then ([], 24, (startP s (d == [47] || goodP d)).2)
  else if !(isP es d).2 then ([], 4, (startP s (d == [47] || goodP d)).2)
  else (Lib.compact (namesOf d (pathsOf es)), 0, (startP s (d == [47] || goodP d)).2)
def ListPost (w : World) (FP : Nat → Prop) (b bm : Nat) (es : List Ent) (r : List (List UInt8) × Int × St) (e : Ending) (w' : World) : Prop :=
  ∃ v, e = .returned (.tuple #[v, .int .i64 r.2.1]) ∧ w'.ownsRow w.heap.size 9 1 v r.1.length (r.1.map str) ∧ FsAt w' FP b bm es r.2.2 ∧ Touch (fun k => k = b) w w'

theorem own_take {w : World} {base : Nat} {e : TypeId} {g n cap m : Nat} {xs : List Value} (h : w.ownsRow base e 1 (.slice (some ⟨g, 0, none⟩) n cap) n xs) (hm : m ≤ n) : w.ownsRow base e 1 (.slice (some ⟨g, 0, none⟩) m cap) m (xs.take m) := by
  obtain ⟨h1, h2⟩ := h
  refine ⟨by rw [List.length_take]; omega, ?_⟩
  rcases h2 with ⟨hv, _⟩ | ⟨g', cap', cur, hv, hb, hh, hn, hc, hs, ht⟩
  · cases hv
  · injection hv with e1 e2 e3
    subst e3
    refine .inr ⟨g', cap, cur, by rw [e1], hb, hh, by omega, hc, hs, ?_⟩
    rw [← ht, List.take_take]
    congr 1
    omega
theorem compact_le (zs : List (List UInt8)) : (Lib.compact zs).length ≤ zs.length := by
  unfold Lib.compact Lib.compactUpTo
  rw [List.length_map]
  exact Nat.le_trans (List.length_filter_le _ _) (by simp)
theorem compact_any (w : World) (base : Nat) (v : Value) (zs : List (List UInt8)) (hrow : w.ownsRow base 9 1 v zs.length (zs.map str)) (hl : zs.length ≤ 1000000) :
    Calls Tryz.prog 95 #[v] w fun e w' => ∃ v', e = .returned v' ∧ w'.ownsRow base 9 1 v' (Lib.compact zs).length ((Lib.compact zs).map str) ∧ Touch (fun k => base ≤ k) w w' := by
  rcases id hrow.2 with ⟨rfl, h0⟩ | ⟨g, cap, cur, rfl, hbase, hb, h1, h2, h3, h4⟩
  · obtain rfl : zs = [] := List.eq_nil_of_length_eq_zero h0
    refine (Any.slices_Compact_string_empty Tryz.layCompact none 0 w).mono ?_
    rintro e w' ⟨rfl, rfl⟩
    exact ⟨_, rfl, World.ownsRow_nil _ _ _ _, Touch.refl _ _⟩
  · refine (Any.slices_Compact_string Tryz.layCompact g 0 cap zs w (holds_of_block hb (by simpa using h4)) (by omega) h1).mono ?_
    rintro e w' ⟨rfl, q, rfl⟩
    have hle := compact_le zs
    have hlen : (Lib.compact zs ++ List.replicate (zs.length - (Lib.compact zs).length) []).length = zs.length := by rw [List.length_append, List.length_replicate]; omega
    have hr := ownsRow_sorted (n := q) (os := #[]) hlen hbase hb h1 h2 h3
    have hg := grownBy_sorted (w := w) (g := g) (n := q) (os := #[]) (Lib.compact zs ++ List.replicate (zs.length - (Lib.compact zs).length) []).toArray
    rw [grow_empty] at hr hg
    refine ⟨_, rfl, ?_, Touch.of_grown hg fun k hk => by cases hk; exact hbase⟩
    have := own_take hr hle
    rw [← List.map_take, List.take_left] at this
    exact this

theorem info_string : (Tryz.prog.info? 9).map (fun i => (i.zero, i.size, i.bytes)) = some (some (.string ⟨#[]⟩), 1, 16) := by kernel_rfl
/-- an append of one text to a row of the call's own -/
theorem run_append_str (w : World) (base : Nat) (ty : TypeId) (v : Value) (zs : List (List UInt8)) (x : List UInt8) (k c : Nat) (hk : w.cell? ⟨k, 0, none⟩ = some (str x)) (hrow : w.ownsRow base 9 1 v zs.length (zs.map str)) (hb : base ≤ w.heap.size) (hl : zs.length ≤ 1000000) :
    ∃ v' w', (Builtin.append_ #[80, 80] ty #[v, .slice (some ⟨k, 0, none⟩) 1 c]).run Tryz.prog w = .ok v' w' ∧ w'.ownsRow base 9 1 v' (zs ++ [x]).length ((zs ++ [x]).map str) ∧ w.grownBy w' v.ownBlock ∧ (v'.ownBlock = v.ownBlock ∨ v'.ownBlock = some w.heap.size) := by
  obtain ⟨i, hi, hz, hs, hby⟩ := info_parts info_string
  obtain ⟨v', w', hrun, r1, r2, _, r4⟩ := run_append_own_at (P := Tryz.prog) w base 80 ty 9 i (.string ⟨#[]⟩) 1 16 Tryz.underlying80 hi hz hs hby rfl (by decide) v zs.length (zs.map str) hrow ⟨k, 0, none⟩ 1 c [str x] (by simp) (fun j u hu => by
      cases j with
      | zero => simp at hu; subst hu; exact hk
      | succ j => simp at hu) (fun u hu => by simp at hu; subst hu; rfl) (by unfold maxLen; omega) (by omega) hb
  refine ⟨v', w', hrun, ?_, r2, r4⟩
  rw [List.length_append, List.map_append]
  exact r1


/-- the same at the operation, inside the fence -/
theorem wpListIn_append_str {F : Fence} {nF : Nat} {w : World} {ops : Array Oper} {rest : List Oper} {o : Oper} {a : Act} {Q : Exit → Act → World → Prop} (hgd : o.guard = none) (s x : Operand)
    (ho : o.op = .call { callee := .builtin .append, args := #[s, x], argTypes := #[80, 80] }) (base : Nat) (v : Value) (zs : List (List UInt8)) (y : List UInt8) (k c : Nat) (hs : a.eval s = v) (hx : a.eval x = .slice (some ⟨k, 0, none⟩) 1 c)
    (hk : w.cell? ⟨k, 0, none⟩ = some (str y)) (hrow : w.ownsRow base 9 1 v zs.length (zs.map str)) (hb : base ≤ w.heap.size) (hl : zs.length ≤ 1000000)
    (h : ∀ g cap w', w'.ownsRow base 9 1 (.slice (some ⟨g, 0, none⟩) (zs ++ [y]).length cap) (zs ++ [y]).length ((zs ++ [y]).map str) → w.grownBy w' v.ownBlock → (some g = v.ownBlock ∨ some g = some w.heap.size) →
      wpListIn F nF Tryz.prog ops Q rest (a.put o.dst (.slice (some ⟨g, 0, none⟩) (zs ++ [y]).length cap)) w') :
    wpListIn F nF Tryz.prog ops Q (o :: rest) a w := by
  refine wpListIn_plain hgd fun K hK => ?_
  obtain ⟨v', w', hr, h2, h3, h5⟩ := run_append_str w base o.type v zs y k c hk hrow hb hl
  have hfin : wpListIn F nF Tryz.prog ops Q rest (a.put o.dst v') w' := by
    obtain ⟨g, cap, rfl⟩ : ∃ g cap, v' = .slice (some ⟨g, 0, none⟩) (zs ++ [y]).length cap := by
      rcases h2.2 with ⟨_, h0⟩ | ⟨g, cap, cur, e, _⟩
      · simp at h0
      · exact ⟨g, cap, e⟩
    exact h g cap w' h2 h3 h5
  unfold Oper.wpIn
  refine ⟨by simp [Oper.about, ho, resolve, Target.leads, Sem.run_pure], ?_⟩
  rw [Oper.semAt_plain F _ _ (by rw [ho]; intro c hc'; cases hc')]
  simp [execOp, ho, resolve, invoke, builtin, hs, hx, hr, Result.andThen]
  exact hK _ _ hfin

/-- between two rounds of List: k paths have come -/
def ListI (w w2 : World) (nb base : Nat) (d : List UInt8) (ps : List (List UInt8)) (k : Nat) (W : World) : Prop :=
  ∃ v, Box W nb v 80 ∧ W.ownsRow base 9 1 v (namesOf d (ps.take k)).length ((namesOf d (ps.take k)).map str) ∧ Box W w.heap.size (str d) 9 ∧ Below w2.heap.size w2 W
theorem namesOf_append (d : List UInt8) (a b : List (List UInt8)) : namesOf d (a ++ b) = namesOf d a ++ namesOf d b := List.filterMap_append
theorem namesOf_le (d : List UInt8) (a : List (List UInt8)) : (namesOf d a).length ≤ a.length := List.length_filterMap_le _ _
theorem namesOf_skip {d : List UInt8} {ps : List (List UInt8)} {k : Nat} {p : List UInt8} (h : ps[k]? = some p) (he : (entryP d p).2 = false) : namesOf d (ps.take (k + 1)) = namesOf d (ps.take k) := by
  rw [List.take_add_one, h, namesOf_append]
  simp [namesOf, he]
theorem namesOf_more {d : List UInt8} {ps : List (List UInt8)} {k : Nat} {p : List UInt8} (h : ps[k]? = some p) (he : (entryP d p).2 = true) : namesOf d (ps.take (k + 1)) = namesOf d (ps.take k) ++ [(entryP d p).1] := by
  rw [List.take_add_one, h, namesOf_append]
  simp [namesOf, he]

end Go.Proofs.YthpkfgjjaieikaaGreatDoor
