/-
  A history and a walk that no call made: the law holds.
-/
import Derived.Test.YtojhppcnpjajaaaHlWalk
import Derived.Sort.CutIn
namespace Go.Proofs.Ytojhppcnpjajaaa
open Go.RowKit Go.Shelf Go.Lib
attribute [local go_sem] Oper.semAt_some

/-- an operation's cells -/
def opRow (d : Int) (A : Option Addr) (m c : Nat) (i n : Int) (s : ByteArray) (bk bg : Bool) : Array Value := #[.int .i64 d, .slice A m c, .int .i64 i, .int .i64 n, .string s, .bool bk, .bool bg]
set_option maxRecDepth 1000000 in
theorem line_any (w : World) (d : Int) (A : Option Addr) (m c : Nat) (i n : Int) (s : ByteArray) (bk bg : Bool) (l : List HL) (hv : HH w (.slice A m c) l) : Calls Try.prog 37 #[.agg (opRow d A m c i n s bk bg)] w fun e w' => e = .returned (hlV (l.getD 0 (s, 0))) ∧ Below w.heap.size w w' := by
  obtain rfl := hv.len
  have hb0 := (Below.refl w.heap.size w).alloc (Nat.le_refl _) (.cells (opRow d A l.length c i n s bk bg) 35)
  have HB0 := Lib.hid hb0
  unfold opRow
  cases l with
  | nil =>
    clear hv hb0
    go_enter Try.func37, Try.ntmps37
    go_wp2
    refine bodyPost_ret (v := hlV (s, 0)) (by simp [results, Try.results37, go_sem]) rfl ⟨rfl, ?_⟩
    exact HB0.out.alloc HB0.out.size _
  | cons x r =>
    obtain ⟨bb, off, rfl, hlt, c0, c1⟩ := hv.cell (i := 0) (x := x) rfl
    rw [Nat.zero_mul, Nat.add_zero] at c0 c1
    have i1 : (((x :: r).length : Int) == 0) = false := by simp only [List.length_cons]; rw [beq_eq_false_iff_ne]; omega
    have i2 : ((0 : Int) < ((x :: r).length : Int)) = True := eq_true (by simp only [List.length_cons]; omega)
    have i3 : ((x :: r).length = 0) = False := by simp
    have i4 : (0 < (x :: r).length) = True := by simp
    clear hv hb0
    unfold opRow at HB0
    generalize (x :: r).length = k at *
    go_enter Try.func37, Try.ntmps37
    go_wp2
    refine bodyPost_ret (v := hlV x) (by simp [results, Try.results37, go_sem]) rfl ⟨rfl, ?_⟩
    exact HB0.out.alloc HB0.out.size _
/-- what lies while the calls are made: the operation, the answer; what waits for the end -/
structure NV (w : World) (opc : Array Value) (D : List Nat) (W : World) : Prop where
  op : W.heap[w.heap.size]? = some (.cells opc 35 (0, 0))
  ans : Box W (w.heap.size + 1) (.bool false) 4
  b : Below w.heap.size w W
  dfr : ∀ x ∈ D, W.heap[x]? = some (.deferred (some []))
theorem NV.below {w W W' : World} {opc : Array Value} {D : List Nat} (h : NV w opc D W) (hb : Below W.heap.size W W') : NV w opc D W' :=
  ⟨(hb.block _ (heap_lt h.op)).trans h.op, h.ans.same (hb.block _ h.ans.lt), h.b.trans (hb.mono h.b.size), fun x hx => (hb.block x (heap_lt (h.dfr x hx))).trans (h.dfr x hx)⟩
theorem NV.more {w W : World} {opc : Array Value} {D : List Nat} (h : NV w opc D W) {x : Nat} (hx : W.heap[x]? = some (.deferred (some []))) : NV w opc (x :: D) W := ⟨h.op, h.ans, h.b, fun y hy => by rcases List.mem_cons.1 hy with rfl | hy; exact hx; exact h.dfr y hy⟩
theorem NV.get {w W : World} {d : Int} {A : Option Addr} {m c : Nat} {i n : Int} {s : ByteArray} {bk bg : Bool} {D : List Nat} (h : NV w (opRow d A m c i n s bk bg) D W) : W.cell? ⟨w.heap.size, 0, none⟩ = some (.int .i64 d) ∧ W.cell? ⟨w.heap.size, 1, none⟩ = some (.slice A m c) ∧ W.cell? ⟨w.heap.size, 2, none⟩ = some (.int .i64 i) ∧ W.cell? ⟨w.heap.size, 3, none⟩ = some (.int .i64 n) ∧
    W.cell? ⟨w.heap.size, 4, none⟩ = some (.string s) ∧ W.cell? ⟨w.heap.size, 5, none⟩ = some (.bool bk) ∧ W.cell? ⟨w.heap.size, 6, none⟩ = some (.bool bg) :=
  ⟨cell_of_row W _ 0 _ _ _ h.op, cell_of_row W _ 1 _ _ _ h.op, cell_of_row W _ 2 _ _ _ h.op, cell_of_row W _ 3 _ _ _ h.op, cell_of_row W _ 4 _ _ _ h.op, cell_of_row W _ 5 _ _ _ h.op, cell_of_row W _ 6 _ _ _ h.op⟩
/-- .. and the two histories, or the two walks -/
def NE (w : World) (opc : Array Value) (zb : Nat) (D : List Nat) (W : World) : Prop := NV w opc D W ∧ NoneP W (some ⟨zb, 0, none⟩) ∧ W.heap[zb + 1]? = some (.cells #[.pointer none, .pointer (some ⟨zb, 0, none⟩)] 24 (0, 0))
theorem NE.below {w W W' : World} {opc : Array Value} {zb : Nat} {D : List Nat} (h : NE w opc zb D W) (hb : Below W.heap.size W W') : NE w opc zb D W' := ⟨h.1.below hb, h.2.1.below hb, (hb.block _ (heap_lt h.2.2)).trans h.2.2⟩
theorem NE.more {w W : World} {opc : Array Value} {zb : Nat} {D : List Nat} (h : NE w opc zb D W) {x : Nat} (hx : W.heap[x]? = some (.deferred (some []))) : NE w opc zb (x :: D) W := ⟨h.1.more hx, h.2⟩
theorem NE.get2 {w W : World} {opc : Array Value} {zb : Nat} {D : List Nat} (h : NE w opc zb D W) : W.cell? ⟨zb + 1, 0, none⟩ = some (.pointer none) ∧ W.cell? ⟨zb + 1, 1, none⟩ = some (.pointer (some ⟨zb, 0, none⟩)) := ⟨cell_of_row W _ 0 _ _ _ h.2.2, cell_of_row W _ 1 _ _ _ h.2.2⟩
def NW (w : World) (opc : Array Value) (zb : Nat) (D : List Nat) (W : World) : Prop := NV w opc D W ∧ WNone W (some ⟨zb, 0, none⟩) ∧ W.heap[zb + 1]? = some (.cells #[.pointer none, .pointer (some ⟨zb, 0, none⟩)] 45 (0, 0))
theorem NW.below {w W W' : World} {opc : Array Value} {zb : Nat} {D : List Nat} (h : NW w opc zb D W) (hb : Below W.heap.size W W') : NW w opc zb D W' := ⟨h.1.below hb, h.2.1.below hb, (hb.block _ (heap_lt h.2.2)).trans h.2.2⟩
theorem NW.more {w W : World} {opc : Array Value} {zb : Nat} {D : List Nat} (h : NW w opc zb D W) {x : Nat} (hx : W.heap[x]? = some (.deferred (some []))) : NW w opc zb (x :: D) W := ⟨h.1.more hx, h.2⟩
theorem NW.get2 {w W : World} {opc : Array Value} {zb : Nat} {D : List Nat} (h : NW w opc zb D W) : W.cell? ⟨zb + 1, 0, none⟩ = some (.pointer none) ∧ W.cell? ⟨zb + 1, 1, none⟩ = some (.pointer (some ⟨zb, 0, none⟩)) := ⟨cell_of_row W _ 0 _ _ _ h.2.2, cell_of_row W _ 1 _ _ _ h.2.2⟩
/-- behind a history's Replace: its error, and what lies -/
def NR (w : World) (opc : Array Value) (zb : Nat) (D : List Nat) (r : Value) (W : World) : Prop := r = .int .i64 2 ∧ NE w opc zb D W
theorem wpIn_noPanic {c : Code} {F : Fence} {n : Nat} {P : Program} {Q : Exit → Act → World → Prop} {a : Act} {w : World} (h : c.wpIn F n P (NoPanic Q) a w) : c.wpIn F n P Q a w := wpIn_mono h NoPanic.imp
theorem touch_old {w W : World} (h : Touch (fun j => w.heap.size + 1 ≤ j) w W) : Below w.heap.size w W := h.below (Nat.le_refl _) fun k hk => by omega
theorem it_none {w : World} {b : Nat} {v : Value} (h : ItB w b v [] 0 false) : IterG2 Try.prog 73 #[.pointer (some ⟨b + 1, 0, none⟩), .pointer (some ⟨b, 0, none⟩), .pointer (some ⟨b + 2, 0, none⟩)] (ItK b v) 0 (fun k x y bb W => bb ≤ W.heap.size ∧ ItR [] 0 false k x y) w := by
  have := from_iter w b v [] 0 false h (by simp)
  rwa [show itN ([] : List HL).length 0 false = 0 from by decide] at this
theorem chg_none {w : World} {b : Nat} {vt vc : Value} (h : ChB w b vt vc [] []) : IterG2 Try.prog 65 #[.pointer (some ⟨b, 0, none⟩)] (ChK b vt vc) 0 (fun k x y bb W => bb ≤ W.heap.size ∧ ChR [] [] k x y) w :=
  chg_iter w b vt vc [] [] h (by simp) (by simp)
set_option maxRecDepth 1000000 in
set_option maxHeartbeats 8000000 in
theorem none_walk (d : Int) (A : Option Addr) (m c : Nat) (i n : Int) (s : ByteArray) (bk bg : Bool) (l : List HL) (w : World) (hv : HH w (.slice A m c) l) (hn : -9223372036854775808 ≤ n ∧ n ≤ 9223372036854775807) :
    Calls Try.prog 8 #[.agg (opRow d A m c i n s bk bg)] w fun e w' => e = .returned (.bool true) ∧ Below w.heap.size w w' := by
  refine (callsIn_wide (n := 8)).1 ?_
  refine callsIn_of_wp_marks Try.func8 rfl trivial ?_ rfl
  simp only [Try.ntmps8, List.size_toArray, List.length_cons, List.length_nil, Nat.reduceAdd, Nat.reduceSub, Array.replicate_succ, Array.replicate_zero, List.push_toArray, List.append_toArray, List.nil_append, List.cons_append]
  have hdep : Fence.wide.depth.isSome = false := rfl
  have hf : ∀ k, Fence.wide.fn k := fun k => trivial
  have hf0 : Fence.wide.fn 13 := trivial
  have hf1 : Fence.wide.fn 31 := trivial
  have hf2 : Fence.wide.fn 29 := trivial
  have hf3 : Fence.wide.fn 36 := trivial
  have hf4 : Fence.wide.fn 37 := trivial
  have hf5 : Fence.wide.fn 38 := trivial
  have hf6 : Fence.wide.fn 34 := trivial
  have hf7 : Fence.wide.fn 18 := trivial
  have hf8 : Fence.wide.fn 20 := trivial
  have hf9 : Fence.wide.fn 39 := trivial
  have hf10 : Fence.wide.fn 15 := trivial
  have hf11 : Fence.wide.fn 16 := trivial
  have hf12 : Fence.wide.fn 40 := trivial
  have hf13 : Fence.wide.fn 41 := trivial
  have hf14 : Fence.wide.fn 28 := trivial
  have hf15 : Fence.wide.fn 21 := trivial
  have hf16 : Fence.wide.fn 23 := trivial
  have hf17 : Fence.wide.fn 25 := trivial
  have hf18 : Fence.wide.fn 35 := trivial
  have HV := Lib.hid hv
  have HNB := Lib.hid hn
  clear hv hn hf
  gi_wp2_with (gi_at_call 13; refine (callsIn_wide.2 (begun_any _)).mono ?_; rintro e w1 ⟨rfl, hb1⟩; have HB1 := Lib.hid hb1; clear hb1)
  have hE : NV w (opRow d A m c i n s bk bg) [] w1 := by
    have hs : w.heap.size + 2 ≤ w1.heap.size := by have := HB1.out.size; simp [opRow] at this; omega
    refine ⟨(HB1.out.block _ (by simp; omega)).trans (alloc2_first w _ _), (HB1.out.block (w.heap.size + 1) (by simp)).trans ?_, (((Below.refl _ w).alloc (Nat.le_refl _) _).alloc (by simp) _).trans (HB1.out.mono (by simp; omega)), fun x hx => by cases hx⟩
    have := World.alloc_heap_new (w.alloc (.cells (opRow d A m c i n s bk bg) 35)) (.cells #[.bool false] 4)
    rwa [show (w.alloc (.cells (opRow d A m c i n s bk bg) 35)).heap.size = w.heap.size + 1 by simp] at this
  have hE2 : NE w (opRow d A m c i n s bk bg) w1.heap.size [] ((w1.alloc (.cells #[.slice none 0 0, .int .i64 0, .int .i64 0, .bool false] 87)).alloc (.cells #[.pointer none, .pointer (some ⟨w1.heap.size, 0, none⟩)] 24)) := by
    refine ⟨hE.below (((Below.refl w1.heap.size w1).alloc (Nat.le_refl _) _).alloc (by simp) _), .inr ⟨_, rfl, cell_of_row _ _ 3 _ _ _ (alloc2_first w1 _ _), by simp; omega⟩, ?_⟩
    have := alloc_new (w1.alloc (.cells #[.slice none 0 0, .int .i64 0, .int .i64 0, .bool false] 87)) (.cells #[.pointer none, .pointer (some ⟨w1.heap.size, 0, none⟩)] 24)
    rwa [show (w1.alloc (.cells #[.slice none 0 0, .int .i64 0, .int .i64 0, .bool false] 87)).heap.size = w1.heap.size + 1 by simp] at this
  generalize hW0 : (w1.alloc (.cells #[.slice none 0 0, .int .i64 0, .int .i64 0, .bool false] 87)).alloc (.cells #[.pointer none, .pointer (some ⟨w1.heap.size, 0, none⟩)] 24) = W0 at *
  have HE := Lib.hid hE2
  obtain ⟨x0, x1, x2, x3, x4, x5, x6⟩ := hE2.1.get
  obtain ⟨y0, y1, y2, y3, y4, y5, y6⟩ := hE2.1.get
  obtain ⟨t0, t1⟩ := hE2.get2
  generalize w1.heap.size = zb at *
  clear hW0 hE hE2 HB1
  refine wpIn_loop_rounds 3 ?_
  rw [roundsIn_succ]
  gi_upto_region 8 with (first
    | (gi_at_call 31; refine (callsIn_wide.2 (At_n _ _ (.inl rfl) _)).mono ?_; rintro e wa ⟨rfl, hb⟩; replace HE := Lib.hid (HE.out.below hb); clear hb x0 x1 x2 x3 x4 x5 x6 y0 y1 y2 y3 y4 y5 y6 t0 t1; obtain ⟨x0, x1, x2, x3, x4, x5, x6⟩ := HE.out.1.get; replace HE := Lib.hid (HE.out.below ((Below.refl wa.heap.size wa).alloc (Nat.le_refl _) (.cells #[.string ⟨#[]⟩, .int .i64 0] 69))); obtain ⟨y0, y1, y2, y3, y4, y5, y6⟩ := HE.out.1.get; obtain ⟨t0, t1⟩ := HE.out.get2)
    | (gi_at_call 29; refine (callsIn_wide.2 (Number_n _ _ (.inl rfl) _ HNB.out)).mono ?_; rintro e wb ⟨rfl, hb⟩; replace HE := Lib.hid (HE.out.below hb); clear hb x0 x1 x2 x3 x4 x5 x6 y0 y1 y2 y3 y4 y5 y6 t0 t1; obtain ⟨x0, x1, x2, x3, x4, x5, x6⟩ := HE.out.1.get; replace HE := Lib.hid (HE.out.below ((Below.refl wb.heap.size wb).alloc (Nat.le_refl _) (.cells #[.string ⟨#[]⟩, .int .i64 0] 69))); obtain ⟨y0, y1, y2, y3, y4, y5, y6⟩ := HE.out.1.get; obtain ⟨t0, t1⟩ := HE.out.get2))
  generalize hWr : wb.alloc (.cells #[.string ⟨#[]⟩, .int .i64 0] 69) = Wr at *
  clear hWr
  have hz0 : w.heap.size < Wr.heap.size := heap_lt HE.out.1.op
  have FIN := Lib.hid fun (W : World) (hb : Below Wr.heap.size Wr W) => HE.out.below hb
  gi_cut [10] from 192 (fun r wx => NR w (opRow d A m c i n s bk bg) zb [] r wx)
  case first =>
    refine wpIn_noPanic ?_
    gi_region_with (first
      | (gi_at_call 37; refine (callsIn_wide.2 (line_any _ d A m c i n s bk bg l (HV.out.below (HE.out.1.b.trans (by first | exact (Below.refl _ _).drew | exact ((Below.refl _ _).drew.alloc HE.out.1.b.size _) | exact ((Below.refl _ _).alloc HE.out.1.b.size _).drew))))).mono ?_; rintro e wc ⟨rfl, hb⟩; have HWc : Hid (Below Wr.heap.size Wr wc) := Lib.hid (Below.trans (by first | exact (Below.refl _ _).drew | exact ((Below.refl _ _).alloc (Nat.le_refl _) _).drew) (hb.mono (by first | exact Nat.le_refl _ | simp))); have HEc := Lib.hid (FIN.out _ HWc.out).1; obtain ⟨z0, z1, z2, z3, z4, z5, z6⟩ := HEc.out.get; obtain ⟨hbc, hbf⟩ := bcell hb; have hz4 : w.heap.size < wc.heap.size := (by (have := hb.size; simp at this; omega)); (try have hz1 : Wr.heap.size < wc.heap.size := by (have := hb.size; simp at this; omega)); clear hb)
      | (gi_at_call 36; refine (callsIn_wide.2 (replace_n _ _ (.inl rfl) _ _ _)).mono ?_; rintro e wd ⟨rfl, hb⟩; have HWd : Hid (Below Wr.heap.size Wr wd) := Lib.hid (by first | exact HWc.out.trans (hb.mono HWc.out.size) | exact (HWc.out.alloc HWc.out.size _).trans (hb.mono (by have := HWc.out.size; simp; omega))); obtain ⟨hbc2, hbf2⟩ := bcell hb; (try have hz2 : wc.heap.size < wd.heap.size := by (have := hb.size; simp at this; omega)); (try have hz3 : Wr.heap.size < wd.heap.size := by (have := hb.size; simp at this; omega)); clear hb))
    all_goals
      refine NoPanic.normal ?_
      gi_wp2
      gi_meet
      case rel =>
        first
          | exact ⟨rfl, FIN.out _ (HWd.out.alloc HWd.out.size _)⟩
          | exact ⟨rfl, FIN.out _ ((HWd.out.setCell (p := ⟨wc.heap.size, 0, none⟩) HWc.out.size _).setCell (p := ⟨wc.heap.size, 1, none⟩) HWc.out.size _)⟩
          | exact ⟨rfl, FIN.out _ ((HWd.out.setCell (p := ⟨Wr.heap.size, 0, none⟩) (Nat.le_refl _) _).setCell (p := ⟨Wr.heap.size, 1, none⟩) (Nat.le_refl _) _)⟩
  case rest =>
    obtain ⟨rfl, hE3⟩ := hcut
    replace HE := Lib.hid hE3
    clear FIN hE3 hz0 x0 x1 x2 x3 x4 x5 x6 y0 y1 y2 y3 y4 y5 y6 t0 t1
    obtain ⟨x0, x1, x2, x3, x4, x5, x6⟩ := HE.out.1.get
    obtain ⟨y0, y1, y2, y3, y4, y5, y6⟩ := HE.out.1.get
    obtain ⟨t0, t1⟩ := HE.out.get2
    gi_wp2_with (first
      | (gi_at_call 38; refine (callsIn_wide.2 (remove_n _ _ (.inl rfl) _)).mono ?_; rintro e we ⟨rfl, hb⟩; replace HE := Lib.hid (HE.out.below hb); clear hb x0 x1 x2 x3 x4 x5 x6 y0 y1 y2 y3 y4 y5 y6 t0 t1; obtain ⟨x0, x1, x2, x3, x4, x5, x6⟩ := HE.out.1.get; replace HE := Lib.hid (HE.out.below ((Below.refl we.heap.size we).alloc (Nat.le_refl _) (.cells #[.string ⟨#[]⟩, .int .i64 0] 69))); obtain ⟨y0, y1, y2, y3, y4, y5, y6⟩ := HE.out.1.get; obtain ⟨t0, t1⟩ := HE.out.get2)
      | (gi_at_call 34; refine (callsIn_wide.2 (search_n _ _ (.inl rfl) _ _ _ _)).mono ?_; rintro e wf ⟨rfl, hb⟩; replace HE := Lib.hid (HE.out.below hb); clear hb x0 x1 x2 x3 x4 x5 x6 y0 y1 y2 y3 y4 y5 y6 t0 t1; obtain ⟨x0, x1, x2, x3, x4, x5, x6⟩ := HE.out.1.get; obtain ⟨y0, y1, y2, y3, y4, y5, y6⟩ := HE.out.1.get; obtain ⟨t0, t1⟩ := HE.out.get2)
      | (gi_at_call 18; refine (callsIn_wide.2 (newWalk_n _ _ (.inl rfl))).mono ?_; rintro e wg ⟨rfl, rfl⟩)
      | (gi_at_call 20; refine (callsIn_wide.2 (add_n _ _ (.inl rfl) _)).mono ?_; rintro e wg ⟨rfl, rfl⟩)
      | (gi_at_call 39; refine (callsIn_wide.2 (stifle_n _ _ (.inl rfl) _)).mono ?_; rintro e wg ⟨rfl, rfl⟩)
      | (gi_at_call 15; refine (callsIn_wide.2 (len_n _ _ (.inl rfl))).mono ?_; rintro e wg ⟨rfl, hb⟩; replace HE := Lib.hid (HE.out.below hb); clear hb x0 x1 x2 x3 x4 x5 x6 y0 y1 y2 y3 y4 y5 y6 t0 t1; obtain ⟨x0, x1, x2, x3, x4, x5, x6⟩ := HE.out.1.get; obtain ⟨y0, y1, y2, y3, y4, y5, y6⟩ := HE.out.1.get; obtain ⟨t0, t1⟩ := HE.out.get2)
      | (gi_at_call 16; refine (callsIn_wide.2 (base_n _ _ (.inl rfl))).mono ?_; rintro e wg ⟨rfl, hb⟩; replace HE := Lib.hid (HE.out.below hb); clear hb x0 x1 x2 x3 x4 x5 x6 y0 y1 y2 y3 y4 y5 y6 t0 t1; obtain ⟨x0, x1, x2, x3, x4, x5, x6⟩ := HE.out.1.get; obtain ⟨y0, y1, y2, y3, y4, y5, y6⟩ := HE.out.1.get; obtain ⟨t0, t1⟩ := HE.out.get2)
      | (gi_at_call 40; refine (callsIn_wide.2 (most_n _ _ (.inl rfl))).mono ?_; rintro e wg ⟨rfl, hb⟩; replace HE := Lib.hid (HE.out.below hb); clear hb x0 x1 x2 x3 x4 x5 x6 y0 y1 y2 y3 y4 y5 y6 t0 t1; obtain ⟨x0, x1, x2, x3, x4, x5, x6⟩ := HE.out.1.get; obtain ⟨y0, y1, y2, y3, y4, y5, y6⟩ := HE.out.1.get; obtain ⟨t0, t1⟩ := HE.out.get2)
      | (gi_at_call 41; refine (callsIn_wide.2 (clone_n _ _ (.inl rfl))).mono ?_; rintro e wg ⟨rfl, rfl⟩)
      | (gi_at_call 28; refine (callsIn_wide.2 (all_n _ _ (.inl rfl))).mono ?_; rintro e wg ⟨bi, vi, rfl, hi, hb, hk⟩; have HI := Lib.hid hi; clear hi hk; replace HE := Lib.hid (HE.out.below hb); clear hb x0 x1 x2 x3 x4 x5 x6 y0 y1 y2 y3 y4 y5 y6 t0 t1; obtain ⟨x0, x1, x2, x3, x4, x5, x6⟩ := HE.out.1.get; obtain ⟨y0, y1, y2, y3, y4, y5, y6⟩ := HE.out.1.get; obtain ⟨t0, t1⟩ := HE.out.get2))
    refine range_none2 rfl (enters_of Try.func73 (by kernel_rfl) rfl) (it_none HI.out) HI.out.lt ?_
    intro W2 hT2 hK2
    have hE4 := (HE.out.below (touch_old hT2)).more hK2
    obtain ⟨b1, hb1⟩ : ∃ b1, b1 = wg.heap.size := ⟨_, rfl⟩
    rw [← hb1] at hE4
    rw [← hb1]
    have HLb1 : Hid (w.heap.size + 1 < b1) := Lib.hid (by rw [hb1]; exact HE.out.1.ans.lt)
    have HOb1 := Lib.hid fun x hx => (by rw [hb1]; exact heap_lt (HE.out.1.dfr x hx) : x < b1)
    replace HE := Lib.hid hE4
    clear hT2 hK2 hE4 HI hb1 x0 x1 x2 x3 x4 x5 x6 y0 y1 y2 y3 y4 y5 y6 t0 t1
    obtain ⟨x0, x1, x2, x3, x4, x5, x6⟩ := HE.out.1.get
    obtain ⟨y0, y1, y2, y3, y4, y5, y6⟩ := HE.out.1.get
    obtain ⟨t0, t1⟩ := HE.out.get2
    gi_wp2_with fail
    rw [roundsIn_succ]
    gi_upto_region 8 with (first
      | (gi_at_call 31; refine (callsIn_wide.2 (At_n _ _ HE.out.2.1 _)).mono ?_; rintro e wa ⟨rfl, hb⟩; replace HE := Lib.hid (HE.out.below hb); clear hb x0 x1 x2 x3 x4 x5 x6 y0 y1 y2 y3 y4 y5 y6 t0 t1; obtain ⟨x0, x1, x2, x3, x4, x5, x6⟩ := HE.out.1.get; replace HE := Lib.hid (HE.out.below ((Below.refl wa.heap.size wa).alloc (Nat.le_refl _) (.cells #[.string ⟨#[]⟩, .int .i64 0] 69))); obtain ⟨y0, y1, y2, y3, y4, y5, y6⟩ := HE.out.1.get; obtain ⟨t0, t1⟩ := HE.out.get2)
      | (gi_at_call 29; refine (callsIn_wide.2 (Number_n _ _ HE.out.2.1 _ HNB.out)).mono ?_; rintro e wb ⟨rfl, hb⟩; replace HE := Lib.hid (HE.out.below hb); clear hb x0 x1 x2 x3 x4 x5 x6 y0 y1 y2 y3 y4 y5 y6 t0 t1; obtain ⟨x0, x1, x2, x3, x4, x5, x6⟩ := HE.out.1.get; replace HE := Lib.hid (HE.out.below ((Below.refl wb.heap.size wb).alloc (Nat.le_refl _) (.cells #[.string ⟨#[]⟩, .int .i64 0] 69))); obtain ⟨y0, y1, y2, y3, y4, y5, y6⟩ := HE.out.1.get; obtain ⟨t0, t1⟩ := HE.out.get2))
    generalize hWr : wb.alloc (.cells #[.string ⟨#[]⟩, .int .i64 0] 69) = Wr at *
    clear hWr
    have hz0 : w.heap.size < Wr.heap.size := heap_lt HE.out.1.op
    have FIN := Lib.hid fun (W : World) (hb : Below Wr.heap.size Wr W) => HE.out.below hb
    gi_cut [10] from 192 (fun r wx => NR w (opRow d A m c i n s bk bg) zb [b1] r wx)
    case first =>
      refine wpIn_noPanic ?_
      gi_region_with (first
        | (gi_at_call 37; refine (callsIn_wide.2 (line_any _ d A m c i n s bk bg l (HV.out.below (HE.out.1.b.trans (by first | exact (Below.refl _ _).drew | exact ((Below.refl _ _).drew.alloc HE.out.1.b.size _) | exact ((Below.refl _ _).alloc HE.out.1.b.size _).drew))))).mono ?_; rintro e wc ⟨rfl, hb⟩; have HWc : Hid (Below Wr.heap.size Wr wc) := Lib.hid (Below.trans (by first | exact (Below.refl _ _).drew | exact ((Below.refl _ _).alloc (Nat.le_refl _) _).drew) (hb.mono (by first | exact Nat.le_refl _ | simp))); have HEc := Lib.hid (FIN.out _ HWc.out).1; obtain ⟨z0, z1, z2, z3, z4, z5, z6⟩ := HEc.out.get; obtain ⟨hbc, hbf⟩ := bcell hb; have hz4 : w.heap.size < wc.heap.size := (by (have := hb.size; simp at this; omega)); (try have hz1 : Wr.heap.size < wc.heap.size := by (have := hb.size; simp at this; omega)); clear hb)
        | (gi_at_call 36; refine (callsIn_wide.2 (replace_n _ _ (by first | exact (FIN.out _ HWc.out).2.1 | exact (FIN.out _ (HWc.out.alloc HWc.out.size _)).2.1) _ _ _)).mono ?_; rintro e wd ⟨rfl, hb⟩; have HWd : Hid (Below Wr.heap.size Wr wd) := Lib.hid (by first | exact HWc.out.trans (hb.mono HWc.out.size) | exact (HWc.out.alloc HWc.out.size _).trans (hb.mono (by have := HWc.out.size; simp; omega))); obtain ⟨hbc2, hbf2⟩ := bcell hb; (try have hz2 : wc.heap.size < wd.heap.size := by (have := hb.size; simp at this; omega)); (try have hz3 : Wr.heap.size < wd.heap.size := by (have := hb.size; simp at this; omega)); clear hb))
      all_goals
        refine NoPanic.normal ?_
        gi_wp2
        gi_meet
        case rel =>
          first
            | exact ⟨rfl, FIN.out _ (HWd.out.alloc HWd.out.size _)⟩
            | exact ⟨rfl, FIN.out _ ((HWd.out.setCell (p := ⟨wc.heap.size, 0, none⟩) HWc.out.size _).setCell (p := ⟨wc.heap.size, 1, none⟩) HWc.out.size _)⟩
            | exact ⟨rfl, FIN.out _ ((HWd.out.setCell (p := ⟨Wr.heap.size, 0, none⟩) (Nat.le_refl _) _).setCell (p := ⟨Wr.heap.size, 1, none⟩) (Nat.le_refl _) _)⟩
    case rest =>
      obtain ⟨rfl, hE3⟩ := hcut
      replace HE := Lib.hid hE3
      clear FIN hE3 hz0 x0 x1 x2 x3 x4 x5 x6 y0 y1 y2 y3 y4 y5 y6 t0 t1
      obtain ⟨x0, x1, x2, x3, x4, x5, x6⟩ := HE.out.1.get
      obtain ⟨y0, y1, y2, y3, y4, y5, y6⟩ := HE.out.1.get
      obtain ⟨t0, t1⟩ := HE.out.get2
      gi_wp2_with (first
        | (gi_at_call 38; refine (callsIn_wide.2 (remove_n _ _ HE.out.2.1 _)).mono ?_; rintro e we ⟨rfl, hb⟩; replace HE := Lib.hid (HE.out.below hb); clear hb x0 x1 x2 x3 x4 x5 x6 y0 y1 y2 y3 y4 y5 y6 t0 t1; obtain ⟨x0, x1, x2, x3, x4, x5, x6⟩ := HE.out.1.get; replace HE := Lib.hid (HE.out.below ((Below.refl we.heap.size we).alloc (Nat.le_refl _) (.cells #[.string ⟨#[]⟩, .int .i64 0] 69))); obtain ⟨y0, y1, y2, y3, y4, y5, y6⟩ := HE.out.1.get; obtain ⟨t0, t1⟩ := HE.out.get2)
        | (gi_at_call 34; refine (callsIn_wide.2 (search_n _ _ HE.out.2.1 _ _ _ _)).mono ?_; rintro e wf ⟨rfl, hb⟩; replace HE := Lib.hid (HE.out.below hb); clear hb x0 x1 x2 x3 x4 x5 x6 y0 y1 y2 y3 y4 y5 y6 t0 t1; obtain ⟨x0, x1, x2, x3, x4, x5, x6⟩ := HE.out.1.get; obtain ⟨y0, y1, y2, y3, y4, y5, y6⟩ := HE.out.1.get; obtain ⟨t0, t1⟩ := HE.out.get2)
        | (gi_at_call 18; refine (callsIn_wide.2 (newWalk_n _ _ HE.out.2.1)).mono ?_; rintro e wg ⟨rfl, rfl⟩)
        | (gi_at_call 20; refine (callsIn_wide.2 (add_n _ _ HE.out.2.1 _)).mono ?_; rintro e wg ⟨rfl, rfl⟩)
        | (gi_at_call 39; refine (callsIn_wide.2 (stifle_n _ _ HE.out.2.1 _)).mono ?_; rintro e wg ⟨rfl, rfl⟩)
        | (gi_at_call 15; refine (callsIn_wide.2 (len_n _ _ HE.out.2.1)).mono ?_; rintro e wg ⟨rfl, hb⟩; replace HE := Lib.hid (HE.out.below hb); clear hb x0 x1 x2 x3 x4 x5 x6 y0 y1 y2 y3 y4 y5 y6 t0 t1; obtain ⟨x0, x1, x2, x3, x4, x5, x6⟩ := HE.out.1.get; obtain ⟨y0, y1, y2, y3, y4, y5, y6⟩ := HE.out.1.get; obtain ⟨t0, t1⟩ := HE.out.get2)
        | (gi_at_call 16; refine (callsIn_wide.2 (base_n _ _ HE.out.2.1)).mono ?_; rintro e wg ⟨rfl, hb⟩; replace HE := Lib.hid (HE.out.below hb); clear hb x0 x1 x2 x3 x4 x5 x6 y0 y1 y2 y3 y4 y5 y6 t0 t1; obtain ⟨x0, x1, x2, x3, x4, x5, x6⟩ := HE.out.1.get; obtain ⟨y0, y1, y2, y3, y4, y5, y6⟩ := HE.out.1.get; obtain ⟨t0, t1⟩ := HE.out.get2)
        | (gi_at_call 40; refine (callsIn_wide.2 (most_n _ _ HE.out.2.1)).mono ?_; rintro e wg ⟨rfl, hb⟩; replace HE := Lib.hid (HE.out.below hb); clear hb x0 x1 x2 x3 x4 x5 x6 y0 y1 y2 y3 y4 y5 y6 t0 t1; obtain ⟨x0, x1, x2, x3, x4, x5, x6⟩ := HE.out.1.get; obtain ⟨y0, y1, y2, y3, y4, y5, y6⟩ := HE.out.1.get; obtain ⟨t0, t1⟩ := HE.out.get2)
        | (gi_at_call 41; refine (callsIn_wide.2 (clone_n _ _ HE.out.2.1)).mono ?_; rintro e wg ⟨rfl, rfl⟩)
        | (gi_at_call 28; refine (callsIn_wide.2 (all_n _ _ HE.out.2.1)).mono ?_; rintro e wg ⟨bi, vi, rfl, hi, hb, hk⟩; have HI := Lib.hid hi; clear hi hk; replace HE := Lib.hid (HE.out.below hb); clear hb x0 x1 x2 x3 x4 x5 x6 y0 y1 y2 y3 y4 y5 y6 t0 t1; obtain ⟨x0, x1, x2, x3, x4, x5, x6⟩ := HE.out.1.get; obtain ⟨y0, y1, y2, y3, y4, y5, y6⟩ := HE.out.1.get; obtain ⟨t0, t1⟩ := HE.out.get2))
      refine range_none2 rfl (enters_of Try.func73 (by kernel_rfl) rfl) (it_none HI.out) HI.out.lt ?_
      intro W2 hT2 hK2
      have hE4 := (HE.out.below (touch_old hT2)).more hK2
      obtain ⟨b2, hb2⟩ : ∃ b2, b2 = wg.heap.size := ⟨_, rfl⟩
      rw [← hb2] at hE4
      rw [← hb2]
      have HLb2 : Hid (w.heap.size + 1 < b2) := Lib.hid (by rw [hb2]; exact HE.out.1.ans.lt)
      have HOb2 := Lib.hid fun x hx => (by rw [hb2]; exact heap_lt (HE.out.1.dfr x hx) : x < b2)
      replace HE := Lib.hid hE4
      clear hT2 hK2 hE4 HI hb2 x0 x1 x2 x3 x4 x5 x6 y0 y1 y2 y3 y4 y5 y6 t0 t1
      obtain ⟨x0, x1, x2, x3, x4, x5, x6⟩ := HE.out.1.get
      obtain ⟨y0, y1, y2, y3, y4, y5, y6⟩ := HE.out.1.get
      obtain ⟨t0, t1⟩ := HE.out.get2
      gi_wp2_with fail
      rw [roundsIn_succ]
      gi_wp2_with fail
      have hE5 : NW w (opRow d A m c i n s bk bg) W2.heap.size [b2, b1] ((W2.alloc (.cells #[.slice none 0 0, .slice none 0 0, .int .i64 0] 96)).alloc (.cells #[.pointer none, .pointer (some ⟨W2.heap.size, 0, none⟩)] 45)) := by
        refine ⟨HE.out.1.below (((Below.refl W2.heap.size W2).alloc (Nat.le_refl _) _).alloc (by simp) _), .inr ⟨_, rfl, cell_of_row _ _ 1 _ _ _ (alloc2_first W2 _ _), by simp; omega⟩, ?_⟩
        have := alloc_new (W2.alloc (.cells #[.slice none 0 0, .slice none 0 0, .int .i64 0] 96)) (.cells #[.pointer none, .pointer (some ⟨W2.heap.size, 0, none⟩)] 45)
        rwa [show (W2.alloc (.cells #[.slice none 0 0, .slice none 0 0, .int .i64 0] 96)).heap.size = W2.heap.size + 1 by simp] at this
      generalize hW5 : (W2.alloc (.cells #[.slice none 0 0, .slice none 0 0, .int .i64 0] 96)).alloc (.cells #[.pointer none, .pointer (some ⟨W2.heap.size, 0, none⟩)] 45) = W5 at *
      generalize W2.heap.size = zc at *
      replace HE := Lib.hid hE5
      clear hW5 hE5 x0 x1 x2 x3 x4 x5 x6 y0 y1 y2 y3 y4 y5 y6 t0 t1
      obtain ⟨x0, x1, x2, x3, x4, x5, x6⟩ := HE.out.1.get
      obtain ⟨y0, y1, y2, y3, y4, y5, y6⟩ := HE.out.1.get
      obtain ⟨t0, t1⟩ := HE.out.get2
      refine wpIn_loop_rounds 3 ?_
      rw [roundsIn_succ]
      gi_wp2_with (first
        | (gi_at_call 21; refine (callsIn_wide.2 (to_n _ _ (.inl rfl) _ _)).mono ?_; rintro e wg ⟨rfl, rfl⟩)
        | (gi_at_call 23; refine (callsIn_wide.2 (here_n _ _ (.inl rfl) _)).mono ?_; rintro e wg ⟨rfl, rfl⟩)
        | (gi_at_call 25; refine (callsIn_wide.2 (place_n _ _ (.inl rfl))).mono ?_; rintro e wg ⟨rfl, rfl⟩)
        | (gi_at_call 35; refine (callsIn_wide.2 (changed_n _ _ (.inl rfl))).mono ?_; rintro e wg ⟨rfl, hi, hb⟩; have HI := Lib.hid hi; clear hi; replace HE := Lib.hid (HE.out.below hb); clear hb x0 x1 x2 x3 x4 x5 x6 y0 y1 y2 y3 y4 y5 y6 t0 t1; obtain ⟨x0, x1, x2, x3, x4, x5, x6⟩ := HE.out.1.get; obtain ⟨y0, y1, y2, y3, y4, y5, y6⟩ := HE.out.1.get; obtain ⟨t0, t1⟩ := HE.out.get2))
      refine range_none2 rfl (enters_of Try.func65 (by kernel_rfl) rfl) (chg_none HI.out) HI.out.lt ?_
      intro W2 hT2 hK2
      have hE4 := (HE.out.below (touch_old hT2)).more hK2
      obtain ⟨b3, hb3⟩ : ∃ b3, b3 = wg.heap.size := ⟨_, rfl⟩
      rw [← hb3] at hE4
      rw [← hb3]
      have HLb3 : Hid (w.heap.size + 1 < b3) := Lib.hid (by rw [hb3]; exact HE.out.1.ans.lt)
      have HOb3 := Lib.hid fun x hx => (by rw [hb3]; exact heap_lt (HE.out.1.dfr x hx) : x < b3)
      replace HE := Lib.hid hE4
      clear hT2 hK2 hE4 HI hb3 x0 x1 x2 x3 x4 x5 x6 y0 y1 y2 y3 y4 y5 y6 t0 t1
      obtain ⟨x0, x1, x2, x3, x4, x5, x6⟩ := HE.out.1.get
      obtain ⟨y0, y1, y2, y3, y4, y5, y6⟩ := HE.out.1.get
      obtain ⟨t0, t1⟩ := HE.out.get2
      gi_wp2_with fail
      rw [roundsIn_succ]
      gi_wp2_with (first
        | (gi_at_call 21; refine (callsIn_wide.2 (to_n _ _ HE.out.2.1 _ _)).mono ?_; rintro e wg ⟨rfl, rfl⟩)
        | (gi_at_call 23; refine (callsIn_wide.2 (here_n _ _ HE.out.2.1 _)).mono ?_; rintro e wg ⟨rfl, rfl⟩)
        | (gi_at_call 25; refine (callsIn_wide.2 (place_n _ _ HE.out.2.1)).mono ?_; rintro e wg ⟨rfl, rfl⟩)
        | (gi_at_call 35; refine (callsIn_wide.2 (changed_n _ _ HE.out.2.1)).mono ?_; rintro e wg ⟨rfl, hi, hb⟩; have HI := Lib.hid hi; clear hi; replace HE := Lib.hid (HE.out.below hb); clear hb x0 x1 x2 x3 x4 x5 x6 y0 y1 y2 y3 y4 y5 y6 t0 t1; obtain ⟨x0, x1, x2, x3, x4, x5, x6⟩ := HE.out.1.get; obtain ⟨y0, y1, y2, y3, y4, y5, y6⟩ := HE.out.1.get; obtain ⟨t0, t1⟩ := HE.out.get2))
      refine range_none2 rfl (enters_of Try.func65 (by kernel_rfl) rfl) (chg_none HI.out) HI.out.lt ?_
      intro W2 hT2 hK2
      have hE4 := (HE.out.below (touch_old hT2)).more hK2
      obtain ⟨b4, hb4⟩ : ∃ b4, b4 = wg.heap.size := ⟨_, rfl⟩
      rw [← hb4] at hE4
      rw [← hb4]
      have HLb4 : Hid (w.heap.size + 1 < b4) := Lib.hid (by rw [hb4]; exact HE.out.1.ans.lt)
      have HOb4 := Lib.hid fun x hx => (by rw [hb4]; exact heap_lt (HE.out.1.dfr x hx) : x < b4)
      replace HE := Lib.hid hE4
      clear hT2 hK2 hE4 HI hb4 x0 x1 x2 x3 x4 x5 x6 y0 y1 y2 y3 y4 y5 y6 t0 t1
      obtain ⟨x0, x1, x2, x3, x4, x5, x6⟩ := HE.out.1.get
      obtain ⟨y0, y1, y2, y3, y4, y5, y6⟩ := HE.out.1.get
      obtain ⟨t0, t1⟩ := HE.out.get2
      gi_wp2_with fail
      rw [roundsIn_succ]
      have hac := HE.out.1.ans.cell
      have haf := HE.out.1.ans.frozen
      gi_wp2_with fail
      have hbx := HE.out.1.ans.set (.bool true)
      have hw1 : ∀ x, x ≠ w.heap.size + 1 → (W2.setCell ⟨w.heap.size + 1, 0, none⟩ (.bool true)).heap[x]? = W2.heap[x]? := fun x hx => Below.heap_setCell _ _ _ x hx
      have l1 := HLb1.out
      have l2 := HLb2.out
      have l3 := HLb3.out
      have l4 := HLb4.out
      have o21 := HOb2.out b1 (by simp)
      have o31 := HOb3.out b1 (by simp)
      have o32 := HOb3.out b2 (by simp)
      have o41 := HOb4.out b1 (by simp)
      have o42 := HOb4.out b2 (by simp)
      have o43 := HOb4.out b3 (by simp)
      have d4 := (hw1 b4 (by omega)).trans (HE.out.1.dfr b4 (by simp))
      have d3 := (hw1 b3 (by omega)).trans (HE.out.1.dfr b3 (by simp))
      have d2 := (hw1 b2 (by omega)).trans (HE.out.1.dfr b2 (by simp))
      have d1 := (hw1 b1 (by omega)).trans (HE.out.1.dfr b1 (by simp))
      have hB : Below w.heap.size w (W2.setCell ⟨w.heap.size + 1, 0, none⟩ (.bool true)) := HE.out.1.b.setCell (p := ⟨w.heap.size + 1, 0, none⟩) (Nat.le_succ _) _
      have p : ∀ {x y : Nat} (W : World), x ≠ y → (W.putObj y (.deferred none)).heap[x]? = W.heap[x]? := fun W h => World.putObj_heap_other h
      have pb : ∀ {y : Nat} (W : World), w.heap.size ≤ y → Below w.heap.size w W → Below w.heap.size w (W.putObj y (.deferred none)) := fun {y} W hy h => h.trans ((Touch.putObj (T := fun x => x = y) _ y (.deferred none) rfl).below h.size fun x hx => by omega)
      refine ⟨by simp, .inl ⟨_, _, rfl, run_takeDeferred d4, ?_⟩⟩
      replace d3 := (p _ (show b3 ≠ b4 by omega)).trans d3
      replace d2 := (p _ (show b2 ≠ b4 by omega)).trans d2
      replace d1 := (p _ (show b1 ≠ b4 by omega)).trans d1
      replace hbx := hbx.same (p _ (show w.heap.size + 1 ≠ b4 by omega))
      replace hB := pb (y := b4) _ (by omega) hB
      refine ⟨by simp, .inl ⟨_, _, rfl, run_takeDeferred d3, ?_⟩⟩
      replace d2 := (p _ (show b2 ≠ b3 by omega)).trans d2
      replace d1 := (p _ (show b1 ≠ b3 by omega)).trans d1
      replace hbx := hbx.same (p _ (show w.heap.size + 1 ≠ b3 by omega))
      replace hB := pb (y := b3) _ (by omega) hB
      refine ⟨by simp, .inl ⟨_, _, rfl, run_takeDeferred d2, ?_⟩⟩
      replace d1 := (p _ (show b1 ≠ b2 by omega)).trans d1
      replace hbx := hbx.same (p _ (show w.heap.size + 1 ≠ b2 by omega))
      replace hB := pb (y := b2) _ (by omega) hB
      refine ⟨by simp, .inl ⟨_, _, rfl, run_takeDeferred d1, ?_⟩⟩
      replace hbx := hbx.same (p _ (show w.heap.size + 1 ≠ b1 by omega))
      replace hB := pb (y := b1) _ (by omega) hB
      have hc := hbx.cell
      clear d1 d2 d3 d4 hw1 p pb
      exact ⟨.bool true, by simp [results, Try.results8, go_sem, hc], rfl, hB⟩
end Go.Proofs.Ytojhppcnpjajaaa
