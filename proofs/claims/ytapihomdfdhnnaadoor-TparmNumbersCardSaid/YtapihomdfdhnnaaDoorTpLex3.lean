/-
  How package tparm reads a format.
-/
import Derived.Test.YtapihomdfdhnnaaDoorTpLex2
import Derived.Deep.Cut
import Derived.Deep.RegionHeld3
import Derived.Shelf.SlicesQ.Load
import Derived.Laws.Tables
namespace Go.Proofs.YtapihomdfdhnnaaDoor
open Go.RowKit Go.Shelf Go.Lib
attribute [local go_sem] Oper.semAt_some

theorem flagsP_at {fl s : List UInt8} {k : Nat} {f : FmtD} (h : k < s.length) : flagsP fl (s.drop k) f = if 0 ≤ indexByte fl (byteAt s k) then ((flagsP fl (s.drop (k + 1)) (setP f (byteAt s k))).1, (flagsP fl (s.drop (k + 1)) (setP f (byteAt s k))).2 + 1) else (f, 0) := by
  have e : byteAt s k = s[k] := by unfold byteAt; rw [List.getD_eq_getElem?_getD, List.getElem?_eq_getElem h]; rfl
  rw [e, List.drop_eq_getElem_cons h]
  rfl
theorem flagsP_end {fl s : List UInt8} {k : Nat} {f : FmtD} (h : s.length ≤ k) : flagsP fl (s.drop k) f = (f, 0) := by
  rw [List.drop_eq_nil_of_le h]
  rfl
theorem setP_prec (f : FmtD) (c : UInt8) : (setP f c).prec = f.prec := by
  unfold setP
  repeat' split
  all_goals rfl
theorem flags_rest (fl : List UInt8) : ∀ (s : List UInt8) (f : FmtD), (flagsP fl s f).1.prec = f.prec := by
  intro s
  induction s with
  | nil => intro f; rfl
  | cons c t ih =>
    intro f
    unfold flagsP
    split
    · exact (ih _).trans (setP_prec f c)
    · rfl
/-- between two flags -/
def FlagI (w : World) (s fl : List UInt8) (at1 : Nat) (at' : Value) (wr : World) : Prop :=
  ∃ (k : Nat) (f : FmtD), at' = .int .i64 k ∧ at1 ≤ k ∧ k ≤ s.length ∧ FmtAt wr (w.heap.size + 1) f ∧ wr.heap[w.heap.size]? = some (.cells #[.int .i64 0, .int .u8 0, .int .i32 0, .string ⟨#[]⟩, .bool false, .bool false, .bool false, .bool false, .bool false, .int .i64 0, .int .i64 0] 75 (0, 0)) ∧ Below w.heap.size w wr ∧
    (flagsP fl (s.drop at1) fmt0).1 = (flagsP fl (s.drop k) f).1 ∧ at1 + (flagsP fl (s.drop at1) fmt0).2 = k + (flagsP fl (s.drop k) f).2
theorem flag_next {w wr w' : World} {s fl : List UInt8} {at1 k : Nat} {c : UInt8} {f : FmtD} (hbox : wr.heap[w.heap.size]? = some (.cells #[.int .i64 0, .int .u8 0, .int .i32 0, .string ⟨#[]⟩, .bool false, .bool false, .bool false, .bool false, .bool false, .int .i64 0, .int .i64 0] 75 (0, 0))) (hbel : Below w.heap.size w wr) (hk : at1 ≤ k) (hlt : k < s.length)
    (hf : FmtAt w' (w.heap.size + 1) (setP f c)) (ht : Touch (fun k => k = w.heap.size + 1) wr w') (e1 : (flagsP fl (s.drop at1) fmt0).1 = (flagsP fl (s.drop k) f).1) (e2 : at1 + (flagsP fl (s.drop at1) fmt0).2 = k + (flagsP fl (s.drop k) f).2)
    (hn : flagsP fl (s.drop k) f = ((flagsP fl (s.drop (k + 1)) (setP f c)).1, (flagsP fl (s.drop (k + 1)) (setP f c)).2 + 1)) : FlagI w s fl at1 (.int .i64 ((k : Int) + 1)) w' := by
  rw [hn] at e1 e2
  have hs : w.heap.size < wr.heap.size := (Array.getElem?_eq_some_iff.1 hbox).1
  exact ⟨k + 1, _, by simp, by omega, hlt, hf, (ht.block _ hs (by omega)).trans hbox, hbel.trans (ht.below hbel.size fun k hk => by omega), e1, by rw [e2]; simp only; omega⟩
theorem flag_stop {s fl : List UInt8} {at1 k : Nat} {f : FmtD} (h1 : fmtAt1 s = at1) (h2 : fmtFl s = fl) (e1 : (flagsP fl (s.drop at1) fmt0).1 = (flagsP fl (s.drop k) f).1) (e2 : at1 + (flagsP fl (s.drop at1) fmt0).2 = k + (flagsP fl (s.drop k) f).2)
    (hn : flagsP fl (s.drop k) f = (f, 0)) : fmtAt2 s = k ∧ (fmtF s).1 = f := by
  rw [hn] at e1 e2
  unfold fmtAt2 fmtF
  rw [h1, h2]
  exact ⟨e2, e1⟩
theorem fmt_bad1 {s : List UInt8} {at4 : Nat} (h4 : fmtAt4 s = at4) (h : at4 = s.length) : formattedP s = (item0, 0) := by unfold formattedP fmtBad; rw [h4, h]; simp
theorem fmt_bad2 {s : List UInt8} {at4 : Nat} (h4 : fmtAt4 s = at4) (h : indexByte formatVerbs (byteAt s at4) < 0) : formattedP s = (item0, 0) := by unfold formattedP fmtBad; rw [h4, decide_eq_true h]; simp
theorem fmt_bad3 {s : List UInt8} {a : Nat} {P : Int} (hw : (fmtW s).1 = a) (hp : fmtPrec s = P) (h : 1000 < max (a : Int) P) : formattedP s = (item0, 0) := by unfold formattedP fmtBad; rw [hw, hp, decide_eq_true h]; simp
theorem fmt_good {s : List UInt8} {at4 a : Nat} {P : Int} {f : FmtD} (h4 : fmtAt4 s = at4) (hw : (fmtW s).1 = a) (hp : fmtPrec s = P) (hf : (fmtF s).1 = f) (h : at4 < s.length) (h2 : ¬ indexByte formatVerbs (byteAt s at4) < 0) (h3 : ¬ 1000 < max (a : Int) P) : formattedP s = (⟨0, byteAt s at4, 0, [], { f with width := a, prec := P }⟩, at4 + 1) := by
  unfold formattedP fmtBad fmtIt
  rw [h4, hw, hp, hf, decide_eq_false h2, decide_eq_false h3, decide_eq_false (by omega)]
  rfl
theorem alloc_two (w : World) (o o2 : Obj) : ((w.alloc o).alloc o2).heap[w.heap.size + 1]? = some o2 := by
  have := alloc_new (w.alloc o) o2
  have e : (w.alloc o).heap.size = w.heap.size + 1 := by simp
  rwa [e] at this
theorem flag_start (w : World) (s fl : List UInt8) (at1 : Nat) (h : at1 ≤ s.length) : FlagI w s fl at1 (.int .i64 (at1 : Int)) ((w.alloc (.cells #[.int .i64 0, .int .u8 0, .int .i32 0, .string ⟨#[]⟩, .bool false, .bool false, .bool false, .bool false, .bool false, .int .i64 0, .int .i64 0] 75)).alloc (.cells #[.bool false, .bool false, .bool false, .bool false, .bool false, .int .i64 0, .int .i64 (-1)] 73)) := by
  refine ⟨at1, fmt0, rfl, Nat.le_refl _, h, ?_, ?_, ?_, rfl, rfl⟩
  · exact alloc_two w _ _
  · rw [Below.heap_alloc _ _ _ (by simp)]
    exact alloc_new w _
  · exact ((Below.refl _ w).alloc (Nat.le_refl _) _).alloc (by simp) _
theorem drew_heap (w : World) : w.drew.heap = w.heap := rfl
theorem item_set {W : World} {n : Nat} {ty : TypeId} {o0 o1 o2 o3 o4 o5 o6 o7 o8 o9 o10 : Value} (h : W.heap[n]? = some (.cells #[o0, o1, o2, o3, o4, o5, o6, o7, o8, o9, o10] ty (0, 0))) (v0 v1 v2 v3 v4 v5 v6 v7 v8 v9 v10 : Value) :
    (((((((((((W.setCell ⟨n, 0, none⟩ v0).setCell ⟨n, 1, none⟩ v1).setCell ⟨n, 2, none⟩ v2).setCell ⟨n, 3, none⟩ v3).setCell ⟨n, 4, none⟩ v4).setCell ⟨n, 5, none⟩ v5).setCell ⟨n, 6, none⟩ v6).setCell ⟨n, 7, none⟩ v7).setCell ⟨n, 8, none⟩ v8).setCell ⟨n, 9, none⟩ v9).setCell ⟨n, 10, none⟩ v10).heap[n]? = some (.cells #[v0, v1, v2, v3, v4, v5, v6, v7, v8, v9, v10] ty (0, 0)) := by
  have h0 := heap_setCell_same _ n 0 _ _ v0 h
  have e0 : (#[o0, o1, o2, o3, o4, o5, o6, o7, o8, o9, o10] : Array Value).setIfInBounds 0 v0 = #[v0, o1, o2, o3, o4, o5, o6, o7, o8, o9, o10] := rfl
  rw [e0] at h0
  have h1 := heap_setCell_same _ n 1 _ _ v1 h0
  have e1 : (#[v0, o1, o2, o3, o4, o5, o6, o7, o8, o9, o10] : Array Value).setIfInBounds 1 v1 = #[v0, v1, o2, o3, o4, o5, o6, o7, o8, o9, o10] := rfl
  rw [e1] at h1
  have h2 := heap_setCell_same _ n 2 _ _ v2 h1
  have e2 : (#[v0, v1, o2, o3, o4, o5, o6, o7, o8, o9, o10] : Array Value).setIfInBounds 2 v2 = #[v0, v1, v2, o3, o4, o5, o6, o7, o8, o9, o10] := rfl
  rw [e2] at h2
  have h3 := heap_setCell_same _ n 3 _ _ v3 h2
  have e3 : (#[v0, v1, v2, o3, o4, o5, o6, o7, o8, o9, o10] : Array Value).setIfInBounds 3 v3 = #[v0, v1, v2, v3, o4, o5, o6, o7, o8, o9, o10] := rfl
  rw [e3] at h3
  have h4 := heap_setCell_same _ n 4 _ _ v4 h3
  have e4 : (#[v0, v1, v2, v3, o4, o5, o6, o7, o8, o9, o10] : Array Value).setIfInBounds 4 v4 = #[v0, v1, v2, v3, v4, o5, o6, o7, o8, o9, o10] := rfl
  rw [e4] at h4
  have h5 := heap_setCell_same _ n 5 _ _ v5 h4
  have e5 : (#[v0, v1, v2, v3, v4, o5, o6, o7, o8, o9, o10] : Array Value).setIfInBounds 5 v5 = #[v0, v1, v2, v3, v4, v5, o6, o7, o8, o9, o10] := rfl
  rw [e5] at h5
  have h6 := heap_setCell_same _ n 6 _ _ v6 h5
  have e6 : (#[v0, v1, v2, v3, v4, v5, o6, o7, o8, o9, o10] : Array Value).setIfInBounds 6 v6 = #[v0, v1, v2, v3, v4, v5, v6, o7, o8, o9, o10] := rfl
  rw [e6] at h6
  have h7 := heap_setCell_same _ n 7 _ _ v7 h6
  have e7 : (#[v0, v1, v2, v3, v4, v5, v6, o7, o8, o9, o10] : Array Value).setIfInBounds 7 v7 = #[v0, v1, v2, v3, v4, v5, v6, v7, o8, o9, o10] := rfl
  rw [e7] at h7
  have h8 := heap_setCell_same _ n 8 _ _ v8 h7
  have e8 : (#[v0, v1, v2, v3, v4, v5, v6, v7, o8, o9, o10] : Array Value).setIfInBounds 8 v8 = #[v0, v1, v2, v3, v4, v5, v6, v7, v8, o9, o10] := rfl
  rw [e8] at h8
  have h9 := heap_setCell_same _ n 9 _ _ v9 h8
  have e9 : (#[v0, v1, v2, v3, v4, v5, v6, v7, v8, o9, o10] : Array Value).setIfInBounds 9 v9 = #[v0, v1, v2, v3, v4, v5, v6, v7, v8, v9, o10] := rfl
  rw [e9] at h9
  have h10 := heap_setCell_same _ n 10 _ _ v10 h9
  have e10 : (#[v0, v1, v2, v3, v4, v5, v6, v7, v8, v9, o10] : Array Value).setIfInBounds 10 v10 = #[v0, v1, v2, v3, v4, v5, v6, v7, v8, v9, v10] := rfl
  rw [e10] at h10
  exact h10
theorem item_set0 {W : World} {n : Nat} (h : W.heap[n]? = some (.cells #[.int .i64 0, .int .u8 0, .int .i32 0, .string ⟨#[]⟩, .bool false, .bool false, .bool false, .bool false, .bool false, .int .i64 0, .int .i64 0] 75 (0, 0))) (v0 v1 v2 v3 v4 v5 v6 v7 v8 v9 v10 : Value) :
    (((((((((((W.setCell ⟨n, 0, none⟩ v0).setCell ⟨n, 1, none⟩ v1).setCell ⟨n, 2, none⟩ v2).setCell ⟨n, 3, none⟩ v3).setCell ⟨n, 4, none⟩ v4).setCell ⟨n, 5, none⟩ v5).setCell ⟨n, 6, none⟩ v6).setCell ⟨n, 7, none⟩ v7).setCell ⟨n, 8, none⟩ v8).setCell ⟨n, 9, none⟩ v9).setCell ⟨n, 10, none⟩ v10).heap[n]? = some (.cells #[v0, v1, v2, v3, v4, v5, v6, v7, v8, v9, v10] 75 (0, 0)) := item_set h _ _ _ _ _ _ _ _ _ _ _
theorem fmt_end {R : Ending → World → Prop} {a : Act} {W : World} {n : Nat} {ty : TypeId} {v0 v1 v2 v3 v4 v5 v6 v7 v8 v9 v10 x : Value} (h2 : a.tmps[2]? = some (.pointer (some ⟨n, 0, none⟩))) (h3 : a.tmps[3]? = some x) (hd : a.defers = []) (h : W.heap[n]? = some (.cells #[v0, v1, v2, v3, v4, v5, v6, v7, v8, v9, v10] ty (0, 0)))
    (hR : R (.returned (.tuple #[.agg #[v0, v1, v2, v3, v4, v5, v6, v7, v8, v9, v10], x])) W) : bodyPost Tryd.prog Tryd.f62 R .ret a W := by
  have hr := fun i => cell_of_row W n i _ _ _ h
  have r0 := hr 0
  have r1 := hr 1
  have r2 := hr 2
  have r3 := hr 3
  have r4 := hr 4
  have r5 := hr 5
  have r6 := hr 6
  have r7 := hr 7
  have r8 := hr 8
  have r9 := hr 9
  have r10 := hr 10
  exact bodyPost_ret (v := .tuple #[.agg #[v0, v1, v2, v3, v4, v5, v6, v7, v8, v9, v10], x]) (by simp [results, Tryd.results62, go_sem, h2, h3, r0, r1, r2, r3, r4, r5, r6, r7, r8, r9, r10]) hd hR
theorem fmt_end_drew {R : Ending → World → Prop} {a : Act} {W : World} {n : Nat} {ty : TypeId} {v0 v1 v2 v3 v4 v5 v6 v7 v8 v9 v10 x : Value} (h2 : a.tmps[2]? = some (.pointer (some ⟨n, 0, none⟩))) (h3 : a.tmps[3]? = some x) (hd : a.defers = []) (h : W.heap[n]? = some (.cells #[v0, v1, v2, v3, v4, v5, v6, v7, v8, v9, v10] ty (0, 0)))
    (hR : R (.returned (.tuple #[.agg #[v0, v1, v2, v3, v4, v5, v6, v7, v8, v9, v10], x])) W.drew) : bodyPost Tryd.prog Tryd.f62 R .ret a W.drew := fmt_end h2 h3 hd h hR
/-- behind the flags -/
def FmtM (s : List UInt8) (w : World) (A : Act) (wr : World) : Prop :=
  ∃ (k : Nat) (f : FmtD) (u6 u9 u10 u11 u12 u13 u14 u15 u16 u17 u18 u19 u20 u21 u22 u23 u24 u25 u26 u27 u28 u29 u30 u31 u32 u33 : Value), A = ⟨#[str s, undef, .pointer (some ⟨w.heap.size, 0, none⟩), .int .i64 0, .pointer (some ⟨w.heap.size + 1, 0, none⟩), .int .i64 k, u6, undef, undef, u9, u10, u11, u12, u13, u14, u15, u16, u17, u18, u19, u20, u21, u22, u23, u24, u25, u26, u27, u28, u29, u30, u31, u32, u33, undef, undef, undef, undef, undef, undef, undef, undef, undef, undef, undef, undef, undef, undef, undef, undef, undef, undef, undef, undef, undef, undef, undef, undef, undef, undef, undef, undef, undef, undef, undef, undef, undef, undef, undef, undef, undef, undef, undef, undef, undef, undef, undef, undef, undef, undef, undef, undef, undef, undef, undef, undef, undef, undef, undef, undef], []⟩ ∧ k ≤ s.length ∧ FmtAt wr (w.heap.size + 1) f ∧ wr.heap[w.heap.size]? = some (.cells #[.int .i64 0, .int .u8 0, .int .i32 0, .string ⟨#[]⟩, .bool false, .bool false, .bool false, .bool false, .bool false, .int .i64 0, .int .i64 0] 75 (0, 0)) ∧ Below w.heap.size w wr ∧ (fmtAt2 s = k ∧ (fmtF s).1 = f)
end Go.Proofs.YtapihomdfdhnnaaDoor
