/-
  What tinfo.Place returns, for every name.
-/
import Derived.Test.YtcfgppjhgobboaaGreatDoorTiP
import Derived.Test.YtcfgppjhgobboaaGreatDoorTmBase
import Derived.Laws.Rows
namespace Go.Proofs.YtcfgppjhgobboaaGreatDoor
open Go.RowKit Go.Shelf Go.Lib
attribute [local go_sem] Oper.semAt_some

/-- the three boxes that SplitSeq lays -/
abbrev splitBoxes (z : UInt8) (r : List UInt8) (w : World) : World := ((w.alloc (.cells #[str r] 9)).alloc (.cells #[str [z]] 9)).alloc (.cells #[.int .i64 0] 3)
theorem split_seq_at (z : UInt8) (r : List UInt8) (w : World) :
    Calls Tryz.prog 85 #[str r, str [z]] w fun e w' =>
      e = .returned (.func (.func 142) #[] #[.pointer (some ⟨w.heap.size + 1, 0, none⟩), .pointer (some ⟨w.heap.size, 0, none⟩), .pointer (some ⟨w.heap.size + 2, 0, none⟩)]) ∧ w' = splitBoxes z r w := by
  go_enter Tryz.func85, Tryz.ntmps85
  go_wp2
  go_ret
  exact ⟨rfl, rfl⟩

set_option maxRecDepth 100000 in
/-- the row of the table at an index -/
theorem index_runs (k : Nat) (s : Int × Int × List UInt8) (hs : runT[k]? = some s) (w : World) : (Instr.index 122 (.agg runCells) (.int .i64 (k : Int))).run Tryz.prog w = .ok (.agg #[.int .i64 s.1, .int .i64 s.2.1, str s.2.2]) w := by
  have hk : k < 16 := by have := (List.getElem?_eq_some_iff.1 hs).1; rwa [runT_len] at this
  have h : ∀ k : Fin 16, (Instr.index 122 (.agg runCells) (.int .i64 (k.val : Int))).run Tryz.prog w = .ok (.agg (runRow (runT[k.val]'(by rw [runT_len]; exact k.isLt))).toArray) w := by
    intro k
    obtain ⟨k, hk⟩ := k
    rcases k with _ | k
    · exact (show _ = _ by kernel_rfl)
    rcases k with _ | k
    · exact (show _ = _ by kernel_rfl)
    rcases k with _ | k
    · exact (show _ = _ by kernel_rfl)
    rcases k with _ | k
    · exact (show _ = _ by kernel_rfl)
    rcases k with _ | k
    · exact (show _ = _ by kernel_rfl)
    rcases k with _ | k
    · exact (show _ = _ by kernel_rfl)
    rcases k with _ | k
    · exact (show _ = _ by kernel_rfl)
    rcases k with _ | k
    · exact (show _ = _ by kernel_rfl)
    rcases k with _ | k
    · exact (show _ = _ by kernel_rfl)
    rcases k with _ | k
    · exact (show _ = _ by kernel_rfl)
    rcases k with _ | k
    · exact (show _ = _ by kernel_rfl)
    rcases k with _ | k
    · exact (show _ = _ by kernel_rfl)
    rcases k with _ | k
    · exact (show _ = _ by kernel_rfl)
    rcases k with _ | k
    · exact (show _ = _ by kernel_rfl)
    rcases k with _ | k
    · exact (show _ = _ by kernel_rfl)
    rcases k with _ | k
    · exact (show _ = _ by kernel_rfl)
    omega
  have h2 := (List.getElem?_eq_some_iff.1 hs).2
  rw [h ⟨k, hk⟩]
  simp only [h2, runRow]

/-- a whole array read out of a variable, inside the fence -/
theorem wpListIn_load_row {F : Fence} {nF : Nat} {P : Program} {ops : Array Oper} {rest : List Oper} {o : Oper} {a : Act} {w : World} {Q : Exit → Act → World → Prop} (hgd : o.guard = none) (ty : TypeId) (x : Operand) (ho : o.op = .load ty x)
    (g : Nat) (hx : a.eval x = .pointer (some ⟨g, 0, none⟩)) (t : TypeId) (cs : Array Value) (fr : Nat × Nat) (d : TypeDesc) (hg : w.heap[g]? = some (.cells cs t fr))
    (hu : P.underlying ty = some d) (hd : (match d with | .struct _ | .array _ _ => true | _ => false) = true) (hi : (P.info? ty).map (·.size) = some cs.size)
    (h : wpListIn F nF P ops Q rest (a.put o.dst (.agg cs)) w) : wpListIn F nF P ops Q (o :: rest) a w := by
  refine wpListIn_plain hgd fun K hK => ?_
  unfold Oper.wpIn
  refine ⟨?_, ?_⟩
  · simp [Oper.about, ho]
  · rw [Oper.semAt_plain F _ _ (by rw [ho]; intro c hc'; cases hc')]
    simp [execOp, ho, hx, Instr.loadAt, Instr.sureAddr, run_loadVar_row w g t ty cs fr d hg hu hd hi, Result.andThen]
    exact hK _ _ h

/-- between two names: what lies -/
structure PlaceW (name : List UInt8) (w W : World) (ds : List Deferred) : Prop where
  b0 : Box W w.heap.size (str name) 9
  b1 : Box W (w.heap.size + 1) (.int .i64 0) 3
  b2 : Box W (w.heap.size + 1 + 1) (.int .i64 0) 3
  b3 : Box W (w.heap.size + 1 + 1 + 1) (.bool false) 4
  below : Below w.heap.size w W
  marks : Marks (w.heap.size + 4) ds W
theorem PlaceW.touch {name : List UInt8} {w W W' : World} {ds : List Deferred} {T : Nat → Prop} (h : PlaceW name w W ds) (ht : Touch T W W') (hT : ∀ k, T k → w.heap.size + 4 ≤ k ∧ markOf k ∉ ds) : PlaceW name w W' ds := by
  have no : ∀ k, k < w.heap.size + 4 → ¬ T k := fun k hk ht => by have := (hT k ht).1; omega
  exact ⟨h.b0.same (ht.block _ h.b0.lt (no _ (by omega))), h.b1.same (ht.block _ h.b1.lt (no _ (by omega))), h.b2.same (ht.block _ h.b2.lt (no _ (by omega))), h.b3.same (ht.block _ h.b3.lt (no _ (by omega))),
    h.below.trans (ht.below h.below.size fun k hk => by have := (hT k hk).1; omega), h.marks.same fun b hb => ht.block b (h.marks.lt hb) fun hk => (hT b hk).2 hb⟩
/-- between two rows -/
def PlaceR (name : List UInt8) (w : World) (k : Nat) (A : Act) (W : World) : Prop :=
  ∃ u5 u6 u7 u8 u11 u12 u13 u14 u15 u16 u17 u18 u19 u20 u21 u22 u23 u24 u25 u26 u27 : Value,
    A.tmps = #[str name, .pointer (some ⟨w.heap.size, 0, none⟩), .pointer (some ⟨w.heap.size + 1, 0, none⟩), .pointer (some ⟨w.heap.size + 1 + 1, 0, none⟩), .pointer (some ⟨w.heap.size + 1 + 1 + 1, 0, none⟩),
      u5, u6, u7, u8, .agg runCells, .int .i64 k, u11, u12, u13, u14, u15, u16, u17, u18, u19, u20, u21, u22, u23, u24, u25, u26, u27] ∧
    PlaceW name w W A.defers ∧ findTab ((runT.take k).flatMap rowNames) name = none
/-- between two names of a row that lies at h -/
def PlaceI (name : List UInt8) (w : World) (ds : List Deferred) (h : Nat) (s : Int × Int × List UInt8) (j : Nat) (W : World) : Prop :=
  PlaceW name w W ds ∧ W.heap[h]? = some (.cells #[.int .i64 s.1, .int .i64 s.2.1, str s.2.2] 121 (0, 0)) ∧ Box W (h + 1) (.int .i64 (s.2.1 + (j : Int))) 3 ∧ ∀ (i : Nat) (n : List UInt8), i < j → (partsAt 32 s.2.2)[i]? = some n → n ≠ name
/-- behind a name that is found -/
def PlaceX (name : List UInt8) (w : World) (ds : List Deferred) (W : World) : Prop :=
  ∃ q, placeP name = some q ∧ Box W (w.heap.size + 1) (.int .i64 q.1) 3 ∧ Box W (w.heap.size + 1 + 1) (.int .i64 q.2) 3 ∧ Box W (w.heap.size + 1 + 1 + 1) (.bool true) 4 ∧ Below w.heap.size w W ∧ Marks (w.heap.size + 4) ds W
def placeRes (name : List UInt8) : Value := match placeP name with | some q => .tuple #[.int .i64 q.1, .int .i64 q.2, .bool true] | none => .tuple #[.int .i64 0, .int .i64 0, .bool false]
def PlacePost (name : List UInt8) (w : World) (e : Ending) (w' : World) : Prop := e = .returned (placeRes name) ∧ Below w.heap.size w w'
theorem runT_short : (runT.all fun r => decide (r.2.2.length ≤ 1024) && decide (0 ≤ r.2.1) && decide (r.2.1 ≤ 1000)) = true := by decide +kernel
theorem parts_le (z : UInt8) (s : List UInt8) : (partsAt z s).length ≤ s.length + 1 := by
  induction s with
  | nil => simp [partsAt]
  | cons c r ih =>
    simp only [partsAt]
    split
    · simp; omega
    · split
      · next h => rw [h] at ih; simp at ih ⊢; omega
      · simp
theorem found_at {name : List UInt8} {k j : Nat} {s : Int × Int × List UInt8} (hs : runT[k]? = some s) (hno : findTab ((runT.take k).flatMap rowNames) name = none) (hj : (partsAt 32 s.2.2)[j]? = some name)
    (ha : ∀ (i : Nat) (n : List UInt8), i < j → (partsAt 32 s.2.2)[i]? = some n → n ≠ name) : placeP name = some (s.1, s.2.1 + j) := by
  have hlt := (List.getElem?_eq_some_iff.1 hs).1
  have e : capTab = (runT.take k).flatMap rowNames ++ (rowNames s ++ (runT.drop (k + 1)).flatMap rowNames) := by
    have h1 : runT = runT.take k ++ (s :: runT.drop (k + 1)) := by
      have := (List.take_append_drop k runT).symm
      rw [List.drop_eq_getElem_cons hlt, (List.getElem?_eq_some_iff.1 hs).2] at this
      exact this
    unfold capTab
    conv => lhs; rw [h1]
    simp
  unfold placeP
  rw [e, findTab_append, hno, findTab_append, find_hit (rowNames_get hj) fun i n p hi hn => ?_]
  · rfl
  · refine ha i n hi ?_
    have : ((rowNames s).map (·.1))[i]? = some n := by rw [List.getElem?_map, hn]; rfl
    rw [← this]
    simp [rowNames, List.getElem?_map, List.getElem?_zipIdx]
    cases (partsAt 32 s.2.2)[i]? <;> rfl
theorem none_next {name : List UInt8} {k : Nat} {s : Int × Int × List UInt8} (hs : runT[k]? = some s) (hno : findTab ((runT.take k).flatMap rowNames) name = none)
    (ha : ∀ (i : Nat) (n : List UInt8), i < (partsAt 32 s.2.2).length → (partsAt 32 s.2.2)[i]? = some n → n ≠ name) : findTab ((runT.take (k + 1)).flatMap rowNames) name = none := by
  rw [List.take_add_one, hs, List.flatMap_append, findTab_append, hno]
  simp only [Option.toList, List.flatMap_cons, List.flatMap_nil, List.append_nil, Option.or]
  refine find_miss fun j n p hj => ?_
  have : ((rowNames s).map (·.1))[j]? = some n := by rw [List.getElem?_map, hj]; rfl
  have h2 : (partsAt 32 s.2.2)[j]? = some n := by
    rw [← this]
    simp [rowNames, List.getElem?_map, List.getElem?_zipIdx]
    cases (partsAt 32 s.2.2)[j]? <;> rfl
  exact ha j n (List.getElem?_eq_some_iff.1 h2).1 h2

theorem heap_alloc_if (w : World) (o : Obj) (k : Nat) : (w.alloc o).heap[k]? = if k = w.heap.size then some o else w.heap[k]? := by
  by_cases h : k = w.heap.size
  · rw [if_pos h, h]; exact World.alloc_heap_new w o
  · rw [if_neg h]
    by_cases h2 : k < w.heap.size
    · exact Below.heap_alloc w o k h2
    · rw [Array.getElem?_eq_none (by simp; omega), Array.getElem?_eq_none (by omega)]
/-- the world in which a row's names are gone through -/
theorem row_world (W : World) (a b : Int) (s : List UInt8) :
    (splitBoxes 32 s ((W.alloc (.cells #[.int .i64 a, .int .i64 b, str s] 121)).alloc (.cells #[.int .i64 b] 3))).heap[W.heap.size]? = some (.cells #[.int .i64 a, .int .i64 b, str s] 121 (0, 0)) ∧
    Box (splitBoxes 32 s ((W.alloc (.cells #[.int .i64 a, .int .i64 b, str s] 121)).alloc (.cells #[.int .i64 b] 3))) (W.heap.size + 1) (.int .i64 b) 3 ∧
    Box (splitBoxes 32 s ((W.alloc (.cells #[.int .i64 a, .int .i64 b, str s] 121)).alloc (.cells #[.int .i64 b] 3))) (W.heap.size + 1 + 1) (str s) 9 ∧
    Box (splitBoxes 32 s ((W.alloc (.cells #[.int .i64 a, .int .i64 b, str s] 121)).alloc (.cells #[.int .i64 b] 3))) (W.heap.size + 1 + 1 + 1) (str [32]) 9 ∧
    Box (splitBoxes 32 s ((W.alloc (.cells #[.int .i64 a, .int .i64 b, str s] 121)).alloc (.cells #[.int .i64 b] 3))) (W.heap.size + 1 + 1 + 2) (.int .i64 0) 3 ∧
    (splitBoxes 32 s ((W.alloc (.cells #[.int .i64 a, .int .i64 b, str s] 121)).alloc (.cells #[.int .i64 b] 3))).heap.size = W.heap.size + 5 ∧
    Below W.heap.size W (splitBoxes 32 s ((W.alloc (.cells #[.int .i64 a, .int .i64 b, str s] 121)).alloc (.cells #[.int .i64 b] 3))) := by
  refine ⟨?_, ?_, ?_, ?_, ?_, ?_, ?_⟩
  · simp only [splitBoxes, heap_alloc_if, World.size_alloc]
    repeat (first | rw [if_neg (by omega)])
    first | exact if_pos rfl | simp
  · simp only [splitBoxes, Box, heap_alloc_if, World.size_alloc]
    repeat (first | rw [if_neg (by omega)])
    first | exact if_pos rfl | simp
  · simp only [splitBoxes, Box, heap_alloc_if, World.size_alloc]
    repeat (first | rw [if_neg (by omega)])
    first | exact if_pos rfl | simp
  · simp only [splitBoxes, Box, heap_alloc_if, World.size_alloc]
    repeat (first | rw [if_neg (by omega)])
    first | exact if_pos rfl | simp
  · simp only [splitBoxes, Box, heap_alloc_if, World.size_alloc]
    repeat (first | rw [if_neg (by omega)])
    first | exact if_pos rfl | simp
  · simp [splitBoxes]
  · exact (((((Below.refl _ W).alloc (Nat.le_refl _) _).alloc (by simp) _).alloc (by simp <;> omega) _).alloc (by simp <;> omega) _).alloc (by simp <;> omega) _

/-- a name that is found: the results are laid down -/
abbrev foundW (w X : World) (a b : Int) : World := (((X.setCell ⟨w.heap.size + 1, 0, none⟩ (.int .i64 a)).setCell ⟨w.heap.size + 1 + 1, 0, none⟩ (.int .i64 b)).setCell ⟨w.heap.size + 1 + 1 + 1, 0, none⟩ (.bool true)).drew
theorem place_found {name : List UInt8} {w X : World} {ds : List Deferred} (g : PlaceW name w X ds) {a b : Int} (hq : placeP name = some (a, b)) :
    PlaceX name w ds (foundW w X a b) ∧ Touch (fun k => w.heap.size ≤ k ∧ k < w.heap.size + 4) X (foundW w X a b) := by
  have ht : Touch (fun k => w.heap.size ≤ k ∧ k < w.heap.size + 4) X (foundW w X a b) :=
    (((Touch.setCell X ⟨w.heap.size + 1, 0, none⟩ _ ⟨by simp, by simp⟩).trans (Touch.setCell _ ⟨w.heap.size + 1 + 1, 0, none⟩ _ ⟨by simp <;> omega, by simp⟩)).trans (Touch.setCell _ ⟨w.heap.size + 1 + 1 + 1, 0, none⟩ _ ⟨by simp <;> omega, by simp⟩)).drew
  refine ⟨⟨(a, b), hq, ((g.b1.set _).other (by omega)).other (by omega), ((g.b2.other (by omega)).set _).other (by omega), ((g.b3.other (by omega)).other (by omega)).set _, g.below.trans (ht.below g.below.size fun k hk => hk.1), g.marks.same fun c hc => ht.block c (g.marks.lt hc) fun hk => ?_⟩, ht⟩
  obtain ⟨bs, rfl, _, h3⟩ := g.marks
  obtain ⟨c', hc', e⟩ := List.mem_map.1 hc
  have e' : c' = c := by simpa [markOf] using e
  subst e'
  have := (h3 c' hc').1
  omega
/-- a name that is another one -/
theorem place_other {name : List UInt8} {w X : World} {ds : List Deferred} {h j : Nat} {s : Int × Int × List UInt8} (g : PlaceI name w ds h s j X) (hh : w.heap.size + 4 ≤ h) (hm : markOf (h + 1) ∉ ds) {n : List UInt8} (hn : (partsAt 32 s.2.2)[j]? = some n) (hne : n ≠ name) :
    PlaceI name w ds h s (j + 1) (X.setCell ⟨h + 1, 0, none⟩ (.int .i64 (s.2.1 + (j : Int) + 1))) := by
  obtain ⟨g1, g2, g3, g4⟩ := g
  have ht : Touch (fun k => k = h + 1) X (X.setCell ⟨h + 1, 0, none⟩ (.int .i64 (s.2.1 + (j : Int) + 1))) := Touch.setCell _ _ _ rfl
  refine ⟨g1.touch ht fun k hk => ?_, (ht.block _ (Array.getElem?_eq_some_iff.1 g2).1 (by omega)).trans g2, ?_, fun i n' hi hn' => ?_⟩
  · subst hk; exact ⟨by omega, hm⟩
  · have := g3.set (.int .i64 (s.2.1 + (j : Int) + 1))
    rwa [show s.2.1 + ((j + 1 : Nat) : Int) = s.2.1 + (j : Int) + 1 by omega]
  · rcases Nat.lt_or_ge i j with hij | hij
    · exact g4 i n' hij hn'
    · obtain rfl : i = j := by omega
      rw [hn] at hn'
      cases hn'
      exact hne
/-- the results, read behind all marks -/
theorem place_leave {name : List UInt8} {w X : World} {ds : List Deferred} {tmps : Array Value} {v1 v2 : Int} {v3 : Bool} (hx : Below w.heap.size w X) (b1 : Box X (w.heap.size + 1) (.int .i64 v1) 3) (b2 : Box X (w.heap.size + 1 + 1) (.int .i64 v2) 3) (b3 : Box X (w.heap.size + 1 + 1 + 1) (.bool v3) 4)
    (hm : Marks (w.heap.size + 4) ds X) (t2 : tmps[2]? = some (.pointer (some ⟨w.heap.size + 1, 0, none⟩))) (t3 : tmps[3]? = some (.pointer (some ⟨w.heap.size + 1 + 1, 0, none⟩))) (t4 : tmps[4]? = some (.pointer (some ⟨w.heap.size + 1 + 1 + 1, 0, none⟩)))
    (hr : placeRes name = .tuple #[.int .i64 v1, .int .i64 v2, .bool v3]) : LeavesInM Fence.wide 6 Tryz.prog Tryz.f30 tmps (PlacePost name w) ds .returning X := by
  refine leaves_marks hm fun X' ht => ?_
  have no : ∀ k, k < w.heap.size + 4 → ¬ (w.heap.size + 4 ≤ k) := fun k hk h => by omega
  have d1 := (b1.same (ht.block _ b1.lt (no _ (by omega)))).cell
  have d2 := (b2.same (ht.block _ b2.lt (no _ (by omega)))).cell
  have d3 := (b3.same (ht.block _ b3.lt (no _ (by omega)))).cell
  refine ⟨.tuple #[.int .i64 v1, .int .i64 v2, .bool v3], by simp [results, Tryz.results30, go_sem, d1, d2, d3, t2, t3, t4], by rw [hr], ?_⟩
  exact hx.trans (ht.below hx.size fun k hk => by omega)

set_option maxRecDepth 100000 in
set_option maxHeartbeats 4000000 in
theorem place_any (name : List UInt8) (w : World) (hT : RunTab w) : Calls Tryz.prog 30 #[str name] w (PlacePost name w) := by
  obtain ⟨tt, fr, hT⟩ := hT
  have hglt : 0 < w.heap.size := (Array.getElem?_eq_some_iff.1 hT).1
  refine (callsIn_wide (n := 6)).1 ?_
  refine callsIn_of_wp_marks Tryz.func30 rfl trivial ?_ rfl
  simp only [Tryz.ntmps30, List.size_toArray, List.length_cons, List.length_nil, Nat.reduceAdd, Nat.reduceSub, Array.replicate_succ, Array.replicate_zero, List.push_toArray, List.append_toArray, List.nil_append, List.cons_append]
  have hf2 : Fence.wide.fn 85 := trivial
  have hdep : Fence.wide.depth.isSome = false := rfl
  have hrows : (Tryz.prog.info? 122).map (·.size) = some runCells.size := by kernel_rfl
  gi_wp2_with (refine wpListIn_load_row rfl 122 _ rfl 0 rfl tt runCells fr _ (by rw [Below.heap_alloc _ _ _ (by simp <;> omega), Below.heap_alloc _ _ _ (by simp <;> omega), Below.heap_alloc _ _ _ (by simp <;> omega), Below.heap_alloc _ _ _ (by omega)]; exact hT) Tryz.underlying122 rfl hrows ?_)
  clear hT hglt hrows
  have e1 : (w.alloc (.cells #[str name] 9)).heap.size = w.heap.size + 1 := by simp
  have e2 : ((w.alloc (.cells #[str name] 9)).alloc (.cells #[.int .i64 0] 3)).heap.size = w.heap.size + 1 + 1 := by simp
  have e3 : (((w.alloc (.cells #[str name] 9)).alloc (.cells #[.int .i64 0] 3)).alloc (.cells #[.int .i64 0] 3)).heap.size = w.heap.size + 1 + 1 + 1 := by simp
  refine wpIn_loop_inv 16 (PlaceR name w) ⟨_, _, _, _, _, _, _, _, _, _, _, _, _, _, _, _, _, _, _, _, _, rfl, ⟨?_, ?_, ?_, ?_, ?_, Marks.nil _ _⟩, rfl⟩ ?_
  · unfold Box
    rw [Below.heap_alloc _ _ _ (by simp <;> omega), Below.heap_alloc _ _ _ (by simp <;> omega), Below.heap_alloc _ _ _ (by simp)]
    exact World.alloc_heap_new w _
  · unfold Box
    rw [Below.heap_alloc _ _ _ (by simp <;> omega), Below.heap_alloc _ _ _ (by simp)]
    have := World.alloc_heap_new (w.alloc (.cells #[str name] 9)) (.cells #[.int .i64 0] 3)
    rwa [e1] at this
  · unfold Box
    rw [Below.heap_alloc _ _ _ (by simp)]
    have := World.alloc_heap_new ((w.alloc (.cells #[str name] 9)).alloc (.cells #[.int .i64 0] 3)) (.cells #[.int .i64 0] 3)
    rwa [e2] at this
  · unfold Box
    have := World.alloc_heap_new (((w.alloc (.cells #[str name] 9)).alloc (.cells #[.int .i64 0] 3)).alloc (.cells #[.int .i64 0] 3)) (.cells #[.bool false] 4)
    rwa [e3] at this
  · exact ((((Below.refl _ w).alloc (Nat.le_refl _) _).alloc (by simp) _).alloc (by simp <;> omega) _).alloc (by simp <;> omega) _
  clear e1 e2 e3
  rintro k ⟨tmps, ds⟩ W hk ⟨u5, u6, u7, u8, u11, u12, u13, u14, u15, u16, u17, u18, u19, u20, u21, u22, u23, u24, u25, u26, u27, htm, hW, hno⟩
  simp only at htm hW
  subst htm
  by_cases hlt : k < 16
  · obtain ⟨s, hs⟩ : ∃ s, runT[k]? = some s := ⟨_, List.getElem?_eq_getElem (by rw [runT_len]; exact hlt)⟩
    have hix := index_runs k s hs
    have hshort := List.all_eq_true.1 runT_short s (List.mem_of_getElem? hs)
    obtain ⟨s1, s2, s3⟩ := s
    simp only [Bool.and_eq_true, decide_eq_true_eq] at hshort hix
    obtain ⟨⟨hl1, hl2⟩, hl3⟩ := hshort
    have HW := Lib.hid hW
    have HNO := Lib.hid hno
    have HS := Lib.hid hs
    have HL := Lib.hid (And.intro hl1 (And.intro hl2 hl3))
    clear hW hno hs hl1 hl2 hl3
    gi_wp2_with (gi_at_call 85; refine (callsIn_wide.2 (split_seq_at 32 s3 _)).mono ?_; rintro e w' ⟨rfl, rfl⟩)
    have hb := row_world W s1 s2 s3
    generalize splitBoxes 32 s3 ((W.alloc (.cells #[.int .i64 s1, .int .i64 s2, str s3] 121)).alloc (.cells #[.int .i64 s2] 3)) = W0 at *
    obtain ⟨r0, r1, r2, r3, r4, rsz, rB⟩ := hb
    have hI0 : PlaceI name w ds W.heap.size (s1, s2, s3) 0 W0 := ⟨HW.out.touch (Touch.of_below (T := fun _ => False) rB) (fun _ h => h.elim), r0, by simpa using r1, fun i n hi => by omega⟩
    have hit := split_iter_at 32 s3 HL.out.1 (W.heap.size + 1 + 1) W0 r2 r3 r4
    have HM : Hid (∀ b, W.heap.size ≤ b → markOf b ∉ ds) := Lib.hid fun b hb hm => by have := HW.out.marks.lt hm; omega
    have HWB : Hid (w.heap.size + 4 ≤ W.heap.size) := Lib.hid (by have := HW.out.b3.lt; omega)
    have HI0 := Lib.hid hI0
    have HSZ := Lib.hid rsz
    clear hI0 r0 r1 r2 r3 r4 rsz rB hix
    refine range_law (gf := 142) (xs := (partsAt 32 s3).map str) (T := Boxes (W.heap.size + 1 + 1)) rfl (enters_of Tryz.func142 (by kernel_rfl) rfl) hit
      (fun k hk => by have := HSZ.out; unfold Boxes at hk; omega)
      (PlaceI name w ds W.heap.size (s1, s2, s3)) (fun c W => c = .ret ∧ PlaceX name w ds W) ?hI ?hIx ?h0
      (fun x => { tmps := #[str name, .pointer (some ⟨w.heap.size, 0, none⟩), .pointer (some ⟨w.heap.size + 1, 0, none⟩), .pointer (some ⟨w.heap.size + 1 + 1, 0, none⟩), .pointer (some ⟨w.heap.size + 1 + 1 + 1, 0, none⟩), u5,
          .pointer (some ⟨W.heap.size, 0, none⟩), .pointer (some ⟨W.heap.size + 1, 0, none⟩), x, .agg runCells, .int .i64 k, .bool true, .agg #[.int .i64 s1, .int .i64 s2, str s3],
          .pointer (some ⟨W.heap.size, 1, none⟩), .int .i64 s2, .pointer (some ⟨W.heap.size, 2, none⟩), str s3,
          .func (.func 142) #[] #[.pointer (some ⟨W.heap.size + 1 + 1 + 1, 0, none⟩), .pointer (some ⟨W.heap.size + 1 + 1, 0, none⟩), .pointer (some ⟨W.heap.size + 1 + 1 + 2, 0, none⟩)],
          x, u19, u20, u21, u22, u23, u24, u25, u26, u27], defers := [] }) ?assign ?body ?done ?stop
    case hI =>
      rintro j X X' ⟨g1, g2, g3, g4⟩ ht
      have hno : ∀ k, (Boxes (W.heap.size + 1 + 1) k ∨ k = W0.heap.size + 1) → W.heap.size + 2 ≤ k := fun k hk => by have := HSZ.out; unfold Boxes at hk; omega
      exact ⟨g1.touch ht fun k hk => ⟨by have := hno k hk; have := HWB.out; omega, HM.out k (by have := hno k hk; omega)⟩, (ht.block _ (Array.getElem?_eq_some_iff.1 g2).1 fun h => by have := hno _ h; omega).trans g2,
        g3.same (ht.block _ g3.lt fun h => by have := hno _ h; omega), g4⟩
    case hIx =>
      rintro c X X' ⟨hc, q, g0, g1, g2, g3, g4, g5⟩ ht
      have hno : ∀ k, (Boxes (W.heap.size + 1 + 1) k ∨ k = W0.heap.size + 1) → W.heap.size + 2 ≤ k := fun k hk => by have := HSZ.out; unfold Boxes at hk; omega
      have hlow : ∀ k, k < W.heap.size → ¬ (Boxes (W.heap.size + 1 + 1) k ∨ k = W0.heap.size + 1) := fun k hk h => by have := hno k h; omega
      have := HWB.out
      exact ⟨hc, q, g0, g1.same (ht.block _ g1.lt (hlow _ (by omega))), g2.same (ht.block _ g2.lt (hlow _ (by omega))), g3.same (ht.block _ g3.lt (hlow _ (by omega))), g4.trans (ht.below g4.size fun k hk => by have := hno k hk; omega),
        g5.same fun b hb => ht.block b (g5.lt hb) fun h => HM.out b (by have := hno b h; omega) hb⟩
    case h0 => exact HI0.out
    case assign =>
      intro l x X K hK
      gi_wp2_with fail
      exact hK
    case body =>
      rintro l j x X hx ⟨g1, g2, g3, g4⟩ hX
      obtain ⟨n, hn, rfl⟩ : ∃ n, (partsAt 32 s3)[j]? = some n ∧ str n = x := by simpa using hx
      have c0 := g1.b0.cell
      have HG := Lib.hid (And.intro g1 (And.intro g2 (And.intro g3 g4)))
      have HN := Lib.hid hn
      have HX := Lib.hid hX
      by_cases hq : n = name
      · have hq' : (n == name) = true := by simpa using hq
        have HQ := Lib.hid hq
        have k0 := cell_of_row X W.heap.size 0 _ _ _ g2
        have k1 := g3.cell
        have f1 := g1.b1.frozen
        have f2 := g1.b2.frozen
        have f3 := g1.b3.frozen
        have c1 := g1.b1.cell
        have c2 := g1.b2.cell
        have c3 := g1.b3.cell
        clear g1 g2 g3 g4 hn hx hX hq
        simp only [List.getElem?_toArray, List.getElem?_cons_zero] at k0
        have hne : ¬ W.heap.size = w.heap.size := by have := HWB.out; omega
        gi_wp2_with fail
        refine wpIn_region_any_round (by simp) (by kernel_rfl) ?_
        refine wpAnyIn_take (i := 0) (v := .pointer (some ⟨W.heap.size, 0, none⟩)) rfl rfl (by kernel_rfl) (by kernel_rfl) (by kernel_rfl) (fun _ _ _ h => h) ⟨Or.inl ⟨by rfl, ?_⟩, fun _ => rfl⟩ ?_
        · intro w; go_simp
        refine wpAnyIn_ready (rs := [1, 2]) (by kernel_rfl) (by simp) ?_
        have HF := Lib.hid (place_found HG.out.1 (found_at HS.out HNO.out (by rw [← HQ.out]; exact HN.out) HG.out.2.2.2))
        have HS2 : Hid (Same (fun j => j = W0.heap.size ∨ j = W0.heap.size + 1) X (foundW w X s1 (s2 + (j : Int)))) := Lib.hid (Same.of_touch HF.out.2 fun i hi => by have := HX.out; have := HWB.out; have := HSZ.out; omega)
        refine AllReadyIn.cons rfl (fun K hK => ?_) ?_
        · go_simp
          refine hK _ _ ?_
          clear hK K
          refine wpAnyIn_ready (rs := [2, 3]) (by kernel_rfl) (by simp) ?_
          refine AllReadyIn.cons rfl (fun K hK => ?_) ?_
          · go_simp
            refine hK _ _ ?_
            clear hK K
            refine wpAnyIn_ready (rs := [3]) (by kernel_rfl) (by simp) ?_
            refine AllReadyIn.cons rfl (fun K hK => ?_) AllReadyIn.nil
            go_simp
            refine hK _ _ ?_
            clear hK K
            refine wpAnyIn_ready (rs := [4]) (by kernel_rfl) (by simp) ?_
            refine AllReadyIn.cons rfl (fun K hK => ?_) AllReadyIn.nil
            go_simp
            refine hK _ _ ?_
            clear hK K
            refine wpAnyIn_ready (rs := [5]) (by kernel_rfl) (by simp) ?_
            refine AllReadyIn.cons rfl (fun K hK => ?_) AllReadyIn.nil
            go_simp
            refine hK _ _ ?_
            clear hK K
            refine wpAnyIn_done (by kernel_rfl) ?_ _
            gi_wp2_with fail
            exact ⟨HS2.out, rfl, HF.out.1⟩
          refine AllReadyIn.cons rfl (fun K hK => ?_) AllReadyIn.nil
          go_simp
          refine hK _ _ ?_
          clear hK K
          refine wpAnyIn_ready (rs := [2]) (by kernel_rfl) (by simp) ?_
          refine AllReadyIn.cons rfl (fun K hK => ?_) AllReadyIn.nil
          go_simp
          refine hK _ _ ?_
          clear hK K
          refine wpAnyIn_ready (rs := [4]) (by kernel_rfl) (by simp) ?_
          refine AllReadyIn.cons rfl (fun K hK => ?_) AllReadyIn.nil
          go_simp
          refine hK _ _ ?_
          clear hK K
          refine wpAnyIn_ready (rs := [5]) (by kernel_rfl) (by simp) ?_
          refine AllReadyIn.cons rfl (fun K hK => ?_) AllReadyIn.nil
          go_simp
          refine hK _ _ ?_
          clear hK K
          refine wpAnyIn_done (by kernel_rfl) ?_ _
          gi_wp2_with fail
          exact ⟨HS2.out, rfl, HF.out.1⟩
        refine AllReadyIn.cons rfl (fun K hK => ?_) AllReadyIn.nil
        go_simp
        refine hK _ _ ?_
        clear hK K
        refine wpAnyIn_ready (rs := [1]) (by kernel_rfl) (by simp) ?_
        refine AllReadyIn.cons rfl (fun K hK => ?_) AllReadyIn.nil
        go_simp
        refine hK _ _ ?_
        clear hK K
        refine wpAnyIn_ready (rs := [3]) (by kernel_rfl) (by simp) ?_
        refine AllReadyIn.cons rfl (fun K hK => ?_) AllReadyIn.nil
        go_simp
        refine hK _ _ ?_
        clear hK K
        refine wpAnyIn_ready (rs := [4]) (by kernel_rfl) (by simp) ?_
        refine AllReadyIn.cons rfl (fun K hK => ?_) AllReadyIn.nil
        go_simp
        refine hK _ _ ?_
        clear hK K
        refine wpAnyIn_ready (rs := [5]) (by kernel_rfl) (by simp) ?_
        refine AllReadyIn.cons rfl (fun K hK => ?_) AllReadyIn.nil
        go_simp
        refine hK _ _ ?_
        clear hK K
        refine wpAnyIn_done (by kernel_rfl) ?_ _
        gi_wp2_with fail
        exact ⟨HS2.out, rfl, HF.out.1⟩
      · have hq' : (n == name) = false := by simpa using hq
        have HQ := Lib.hid hq
        have k1 := g3.cell
        have f1 := g3.frozen
        have h1 : 0 ≤ s2 := HL.out.2.1
        have h2 : s2 ≤ 1000 := HL.out.2.2
        have h3 : j ≤ 1025 := by have := (List.getElem?_eq_some_iff.1 hn).1; have := parts_le 32 s3; have := HL.out.1; omega
        have HO := Lib.hid (place_other HG.out (s := (s1, s2, s3)) HWB.out (HM.out _ (by omega)) hn hq)
        clear g1 g2 g3 g4 hn hx hX hq
        gi_wp2_with fail
        exact ⟨Same.of_touch (Touch.setCell (T := fun k => k = W.heap.size + 1) X ⟨W.heap.size + 1, 0, none⟩ _ rfl) fun i hi => by (have := HX.out; have := HSZ.out; unfold Boxes at hi; omega), HO.out⟩
    case done =>
      rintro X ⟨g1, g2, g3, g4⟩ hK
      have HG := Lib.hid (And.intro g1 g4)
      have HK := Lib.hid hK
      clear g1 g2 g3 g4 hK
      have hk1 : ((k + 1 : Nat) : Int) = (k : Int) + 1 := by omega
      have HK1 := Lib.hid hk1
      clear hk1
      gi_wp2_with fail
      refine ⟨_, _, _, _, _, _, _, _, _, _, _, _, _, _, _, _, _, _, _, _, _, by rw [HK1.out], ⟨HG.out.1.b0, HG.out.1.b1, HG.out.1.b2, HG.out.1.b3, HG.out.1.below, HG.out.1.marks.cons (b := W0.heap.size) (by have := HWB.out; have := HSZ.out; omega) HK.out (fun c e => by subst e; exact HM.out _ (by have := HSZ.out; omega))⟩, ?_⟩
      refine none_next HS.out HNO.out fun i n hi hn => HG.out.2 i n ?_ hn
      rw [List.length_map]
      exact hi
    case stop =>
      rintro c X ⟨rfl, q, g0, g1, g2, g3, g4, g5⟩ hK
      gi_wp2_with fail
      refine place_leave g4 g1 g2 g3 (g5.cons (b := W0.heap.size) (by have := HWB.out; have := HSZ.out; omega) hK (fun c e => by subst e; exact HM.out _ (by have := HSZ.out; omega))) rfl rfl rfl ?_
      unfold placeRes
      rw [g0]
  · obtain rfl : k = 16 := by omega
    have f1 := hW.b1.frozen
    have f2 := hW.b2.frozen
    have f3 := hW.b3.frozen
    have c1 := hW.b1.cell
    have c2 := hW.b2.cell
    have c3 := hW.b3.cell
    have HW := Lib.hid hW
    have HNO := Lib.hid hno
    clear hW hno
    gi_wp2_with fail
    have hW := HW.out
    have ht : Touch (fun k => w.heap.size ≤ k ∧ k < w.heap.size + 4) W (((W.setCell ⟨w.heap.size + 1, 0, none⟩ (.int .i64 0)).setCell ⟨w.heap.size + 1 + 1, 0, none⟩ (.int .i64 0)).setCell ⟨w.heap.size + 1 + 1 + 1, 0, none⟩ (.bool false)) :=
      ((Touch.setCell W ⟨w.heap.size + 1, 0, none⟩ _ ⟨by simp, by simp⟩).trans (Touch.setCell _ ⟨w.heap.size + 1 + 1, 0, none⟩ _ ⟨by simp <;> omega, by simp⟩)).trans (Touch.setCell _ ⟨w.heap.size + 1 + 1 + 1, 0, none⟩ _ ⟨by simp <;> omega, by simp⟩)
    refine place_leave (hW.below.trans (ht.below hW.below.size fun k hk => hk.1)) (((hW.b1.set _).other (by omega)).other (by omega)) (((hW.b2.other (by omega)).set _).other (by omega)) (((hW.b3.other (by omega)).other (by omega)).set _) (hW.marks.same fun c hc => ht.block c (hW.marks.lt hc) fun hk => ?_) rfl rfl rfl ?_
    · obtain ⟨bs, e1, _, h3⟩ := hW.marks
      rw [e1] at hc
      obtain ⟨c', hc', e⟩ := List.mem_map.1 hc
      have e' : c' = c := by simpa [markOf] using e
      subst e'
      have := (h3 c' hc').1
      omega
    · unfold placeRes
      have : placeP name = none := HNO.out
      rw [this]

end Go.Proofs.YtcfgppjhgobboaaGreatDoor
