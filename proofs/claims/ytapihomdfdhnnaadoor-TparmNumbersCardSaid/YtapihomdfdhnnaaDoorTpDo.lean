/-
  What the evaluator of package tparm does at one sequence.
-/
import Derived.Test.YtapihomdfdhnnaaDoorTpForm
import Derived.Deep.RegionHeld3
import Derived.Deep.Cut
namespace Go.Proofs.YtapihomdfdhnnaaDoor
open Go.RowKit Go.Shelf Go.Lib
attribute [local go_sem] Oper.semAt_some

def writeE (m : MD) (x : List UInt8) : Int × MD := if 16384 < m.out.length + x.length then (3, m) else (0, { m with out := m.out ++ x })
def pushE' (m : MD) (p : PrmD) : Int × MD := if m.stack.length = 64 then (41, m) else (0, pushM m p)
def DoPost (w : World) (B : Nat) (K : Nat → Prop) (mb vb bm : Nat) (r : Int × MD) (e : Ending) (w' : World) : Prop := OpPost w B K mb vb bm r.2 (.int .i64 r.1) e w'
/-- the table of powers lies where evaluation turns nothing -/
def PowB (B bm : Nat) (W : World) : Prop := Pow W ∧ 0 < B ∧ 0 ≠ bm ∧ 3 < B ∧ 3 ≠ bm
theorem PowB.below {B bm : Nat} {W W' : World} (h : PowB B bm W) (hb : Below W.heap.size W W') : PowB B bm W' := ⟨h.1.below hb, h.2⟩
theorem PowB.touch {B bm : Nat} {K : Nat → Prop} {W W' : World} (h : PowB B bm W) (ht : Touch (Turns B bm K) W W') : PowB B bm W' :=
  ⟨⟨h.1.1.same (ht.block _ h.1.1.lt fun e => by have := h.2; rcases e.1 with e | e <;> omega), h.1.2.same (ht.block _ h.1.2.lt fun e => by have := h.2; rcases e.1 with e | e <;> omega)⟩, h.2⟩
theorem write_e (w : World) (B : Nat) (K : Nat → Prop) (mb vb bm : Nat) (m : MD) (h : MachX w B K mb vb bm m) (x : List UInt8) (hx : x.length ≤ 1000000000) :
    Calls Tryd.prog 45 #[.pointer (some ⟨mb, 0, none⟩), str x] w (DoPost w B K mb vb bm (writeE m x)) := by
  refine (write_any w B K mb vb bm m h x hx).mono ?_
  intro e w' hh
  unfold DoPost writeE
  split at hh
  · next hl => rw [if_pos hl]; exact hh
  · next hl => rw [if_neg hl]; exact hh
theorem push_e (w : World) (B : Nat) (K : Nat → Prop) (mb vb bm : Nat) (m : MD) (h : MachX w B K mb vb bm m) (p : PrmD) :
    Calls Tryd.prog 48 #[.pointer (some ⟨mb, 0, none⟩), prmVal p] w (DoPost w B K mb vb bm (pushE' m p)) := by
  refine (push_any w B K mb vb bm m h p).mono ?_
  intro e w' hh
  unfold DoPost pushE'
  split at hh
  · next hl => rw [if_pos hl]; exact hh
  · next hl => rw [if_neg hl]; exact hh
/-- what a sequence does is known -/
theorem apply_len (f : FmtD) (v : UInt8) (p : PrmD) (hv : v ≠ 115) (hf : FOk f) (hD : DigSpec v p.num) (hP : PreSpec f v p.num) : (applyP f v p).length ≤ 10000 := by
  unfold applyP
  rw [if_neg hv]
  have h1 := digits_len (f := f) hf hD.2
  have h2 := headP_len (ds := digitsP f v p.num) hf (hP (digitsP f v p.num)).2
  have h3 := hf.1
  unfold padP
  split <;> simp [fillP] <;> omega
/-- a number of 32 bits -/
def NumOk (p : PrmD) : Prop := -2147483648 ≤ p.num ∧ p.num ≤ 2147483647
def MOk (m : MD) : Prop := (∀ p ∈ m.params, NumOk p) ∧ (∀ p ∈ m.stack, NumOk p)
theorem top_ok {m : MD} (h : MOk m) : NumOk (topP m) := by
  unfold topP
  cases hl : m.stack.getLast? with
  | none => exact ⟨by decide, by decide⟩
  | some p => exact h.2 p (List.mem_of_getLast? hl)
def DoSpec (it : ItemD) (r : MD → Int × MD) : Prop := ∀ (W : World) (B : Nat) (K : Nat → Prop) (mb vb bm : Nat) (m : MD), MachX W B K mb vb bm m → PowB B bm W → MOk m → Calls Tryd.prog 31 #[.pointer (some ⟨mb, 0, none⟩), itemVal it] W (DoPost W B K mb vb bm (r m))

abbrev itemObj (v : Int) (n : Int) (t : List UInt8) (f : FmtD) (p : Nat) : Obj := .cells #[.int .i64 p, .int .u8 v, .int .i32 n, str t, .bool f.left, .bool f.plus, .bool f.sharp, .bool f.blank, .bool f.zero, .int .i64 f.width, .int .i64 f.prec] 75
theorem alloc_one (w : World) (o : Obj) : Below w.heap.size w (w.alloc o) := (Below.refl _ _).alloc (Nat.le_refl _) _
theorem after_alloc {w w' : World} {o : Obj} {B mb vb bm : Nat} {K : Nat → Prop} {m : MD} {v : Value} {e : Ending} (h : OpPost (w.alloc o) B K mb vb bm m v e w') : OpPost w B K mb vb bm m v e w' := ⟨h.1, h.2.1, (touch_new (alloc_one w o)).trans h.2.2⟩

set_option maxRecDepth 100000 in
set_option maxHeartbeats 4000000 in
theorem do_i (it : ItemD) (hv : it.verb = 105) : DoSpec it (fun m => (0, incM m)) := by
  intro w B K mb vb bm m h _ _
  obtain ⟨p, v, n, t, f⟩ := it
  obtain rfl : v = 105 := hv
  have CI := Lib.hid (increment_any (w.alloc (itemObj 105 n t f p)) B K mb vb bm m (h.below (alloc_one _ _)))
  unfold OpPost at CI
  clear h
  show Calls Tryd.prog 31 #[.pointer (some ⟨mb, 0, none⟩), .agg #[.int .i64 p, .int .u8 105, .int .i32 n, str t, .bool f.left, .bool f.plus, .bool f.sharp, .bool f.blank, .bool f.zero, .int .i64 f.width, .int .i64 f.prec]] w _
  go_enter Tryd.func31, Tryd.ntmps31
  go_wp2_with (go_at_call 47; (with_reducible refine (CI.out).mono ?_); rintro e w1 ⟨rfl, hm1, ht1⟩; have H1 := Lib.hid (And.intro hm1 ht1); clear hm1 ht1)
  go_ret
  exact ⟨rfl, H1.out.1, (touch_new (alloc_one _ _)).trans H1.out.2⟩
set_option maxRecDepth 100000 in
set_option maxHeartbeats 4000000 in
theorem do_p (it : ItemD) (hv : it.verb = 112) (d : Nat) (hn : it.num = (d : Int)) (h1 : 1 ≤ d) (h9 : d ≤ 9) : DoSpec it (fun m => pushE' m (paramP m (d : Int))) := by
  intro w B K mb vb bm m h _ _
  obtain ⟨p, v, n, t, f⟩ := it
  obtain rfl : v = 112 := hv
  obtain rfl : n = (d : Int) := hn
  have CI := Lib.hid (param_any (w.alloc (itemObj 112 d t f p)) B K mb vb bm m (h.below (alloc_one _ _)) d h1)
  have CU := Lib.hid (fun W (hW : MachX W B K mb vb bm m) => push_e W B K mb vb bm m hW (paramP m (d : Int)))
  unfold OpPost at CI
  unfold DoPost OpPost at CU
  unfold DoPost OpPost
  dsimp only
  have w64e : wrap64 (d : Int) = (d : Int) := by unfold wrap64; omega
  have i1 : (d : Int) ≤ 9 := by omega
  generalize pushE' m (paramP m (d : Int)) = r at *
  generalize paramP m (d : Int) = q at *
  clear h h1 h9
  show Calls Tryd.prog 31 #[.pointer (some ⟨mb, 0, none⟩), .agg #[.int .i64 p, .int .u8 112, .int .i32 d, str t, .bool f.left, .bool f.plus, .bool f.sharp, .bool f.blank, .bool f.zero, .int .i64 f.width, .int .i64 f.prec]] w _
  go_enter Tryd.func31, Tryd.ntmps31
  go_wp2_with (first
    | (go_at_call 49; (with_reducible refine (CI.out).mono ?_); rintro e w1 ⟨rfl, hm1, ht1⟩; have H1 := Lib.hid (And.intro hm1 ht1); clear hm1 ht1)
    | (go_at_call 48; (with_reducible refine (CU.out _ H1.out.1).mono ?_); rintro e w2 ⟨rfl, hm2, ht2⟩; have H2 := Lib.hid (And.intro hm2 ht2); clear hm2 ht2))
  go_ret
  exact ⟨rfl, H2.out.1, ((touch_new (alloc_one _ _)).trans H1.out.2).trans H2.out.2⟩
set_option maxRecDepth 100000 in
set_option maxHeartbeats 4000000 in
theorem do_const (it : ItemD) (hv : it.verb = 123) : DoSpec it (fun m => pushE' m ⟨it.num, [], false⟩) := by
  intro w B K mb vb bm m h _ _
  obtain ⟨p, v, n, t, f⟩ := it
  obtain rfl : v = 123 := hv
  have CU := Lib.hid (show Calls Tryd.prog 48 #[.pointer (some ⟨mb, 0, none⟩), .agg #[.int .i32 n, .string ⟨#[]⟩, .bool false]] (w.alloc (itemObj 123 n t f p)) (DoPost (w.alloc (itemObj 123 n t f p)) B K mb vb bm (pushE' m ⟨n, [], false⟩)) from push_e (w.alloc (itemObj 123 n t f p)) B K mb vb bm m (h.below (alloc_one _ _)) ⟨n, [], false⟩)
  unfold DoPost OpPost at CU
  unfold DoPost OpPost
  dsimp only
  generalize pushE' m ⟨n, [], false⟩ = r at *
  clear h
  show Calls Tryd.prog 31 #[.pointer (some ⟨mb, 0, none⟩), .agg #[.int .i64 p, .int .u8 123, .int .i32 n, str t, .bool f.left, .bool f.plus, .bool f.sharp, .bool f.blank, .bool f.zero, .int .i64 f.width, .int .i64 f.prec]] w _
  go_enter Tryd.func31, Tryd.ntmps31
  go_wp2_with (go_at_call 48; (with_reducible refine (CU.out).mono ?_); rintro e w2 ⟨rfl, hm2, ht2⟩; have H2 := Lib.hid (And.intro hm2 ht2); clear hm2 ht2)
  go_ret
  exact ⟨rfl, H2.out.1, (touch_new (alloc_one _ _)).trans H2.out.2⟩
set_option maxRecDepth 100000 in
set_option maxHeartbeats 4000000 in
theorem do_d (it : ItemD) (hv : it.verb = 100) (hf : FOk it.form) : DoSpec it (fun m => writeE (popM m) (applyP it.form it.verb (topP m))) := by
  intro w B K mb vb bm m h hp hok
  obtain ⟨p, v, n, t, f⟩ := it
  obtain rfl : v = 100 := hv
  have hk := h.keep (itemObj 100 n t f p) (fun cur e => by injection e with _ e; exact absurd e (by decide))
  have hT0 : Touch (Turns B bm K) w (w.alloc (itemObj 100 n t f p)) := touch_new (alloc_one _ _)
  have hmb := h.lt.1
  obtain ⟨W0, hW0⟩ : ∃ W0, w.alloc (itemObj 100 n t f p) = W0 := ⟨_, rfl⟩
  have hbx : W0.heap[w.heap.size]? = some (itemObj 100 n t f p) := by rw [← hW0]; exact alloc_new _ _
  rw [hW0] at hk hT0
  have hpw : PowB B bm W0.drew := hp.touch hT0.drew
  have HX := Lib.hid (And.intro hT0.drew (And.intro hpw hbx))
  have HW0 := Lib.hid hW0
  have CO : Hid (∀ W, Below W0.heap.size W0 W → Calls Tryd.prog 44 #[.pointer (some ⟨mb, 0, none⟩)] W (OpPost W B (fun k => K k ∨ k = w.heap.size) mb vb bm (popM m) (prmVal (topP m)))) := Lib.hid (fun W hW => pop_any W B _ mb vb bm m (hk.below hW))
  have a1 := cell_of_row W0 _ 1 _ _ _ hbx
  have a4 := cell_of_row W0 _ 4 _ _ _ hbx
  have a5 := cell_of_row W0 _ 5 _ _ _ hbx
  have a6 := cell_of_row W0 _ 6 _ _ _ hbx
  have a7 := cell_of_row W0 _ 7 _ _ _ hbx
  have a8 := cell_of_row W0 _ 8 _ _ _ hbx
  have a9 := cell_of_row W0 _ 9 _ _ _ hbx
  have a10 := cell_of_row W0 _ 10 _ _ _ hbx
  have hno := top_ok hok
  have CA : Hid (∀ W, PowB B bm W → Calls Tryd.prog 46 #[fmtVal f, .int .u8 100, prmVal (topP m)] W (StrPost W (applyP f 100 (topP m)))) := Lib.hid (fun W hW => apply_num f 100 (topP m) (by decide) hf (plain_d 100 _ (by decide) (by decide) (by decide) hno.1 hno.2) (prefix_d f _) W hW.1)
  have hlen := apply_len f 100 (topP m) (by decide) hf (plain_d 100 _ (by decide) (by decide) (by decide) hno.1 hno.2) (prefix_d f _)
  have CW : Hid (∀ W, MachX W B (fun k => K k ∨ k = w.heap.size) mb vb bm (popM m) → Calls Tryd.prog 45 #[.pointer (some ⟨mb, 0, none⟩), str (applyP f 100 (topP m))] W (DoPost W B (fun k => K k ∨ k = w.heap.size) mb vb bm (writeE (popM m) (applyP f 100 (topP m))))) := Lib.hid (fun W hW => write_e W B _ mb vb bm _ hW _ (by omega))
  unfold OpPost at CO
  unfold DoPost OpPost at CW
  unfold StrPost at CA
  unfold DoPost OpPost
  dsimp only
  generalize writeE (popM m) (applyP f 100 (topP m)) = r at *
  generalize applyP f 100 (topP m) = x at *
  generalize topP m = q at *
  generalize popM m = m1 at *
  clear h hp hk hT0 hpw hbx hno hok hf hlen hW0
  show Calls Tryd.prog 31 #[.pointer (some ⟨mb, 0, none⟩), .agg #[.int .i64 p, .int .u8 100, .int .i32 n, str t, .bool f.left, .bool f.plus, .bool f.sharp, .bool f.blank, .bool f.zero, .int .i64 f.width, .int .i64 f.prec]] w _
  go_enter Tryd.func31, Tryd.ntmps31
  go_upto_region 12 with fail
  rw [HW0.out]
  go_region_held3 (fun w' => w'.cell? ⟨w.heap.size, 1, none⟩ = some (.int .u8 100) ∧ w'.cell? ⟨w.heap.size, 4, none⟩ = some (.bool f.left) ∧ w'.cell? ⟨w.heap.size, 5, none⟩ = some (.bool f.plus) ∧ w'.cell? ⟨w.heap.size, 6, none⟩ = some (.bool f.sharp) ∧ w'.cell? ⟨w.heap.size, 7, none⟩ = some (.bool f.blank) ∧ w'.cell? ⟨w.heap.size, 8, none⟩ = some (.bool f.zero) ∧ w'.cell? ⟨w.heap.size, 9, none⟩ = some (.int .i64 f.width) ∧ w'.cell? ⟨w.heap.size, 10, none⟩ = some (.int .i64 f.prec)) (first | go_keep | (refine ⟨?_, ?_, ?_, ?_, ?_, ?_, ?_, ?_⟩ <;> assumption)) (first
    | (go_at_call 44; refine (CO.out _ (Below.refl _ _).drew).mono ?_; rintro e w1 ⟨rfl, hm1, ht1⟩; have hbx1 := (ht1.block _ (Array.getElem?_eq_some_iff.1 HX.out.2.2).1 (fun e => e.2 (.inr rfl))).trans HX.out.2.2; have x1w1 : w1.cell? ⟨w.heap.size, 1, none⟩ = some (.int .u8 100) := cell_of_row _ _ 1 _ _ _ hbx1; have x4w1 : w1.cell? ⟨w.heap.size, 4, none⟩ = some (.bool f.left) := cell_of_row _ _ 4 _ _ _ hbx1; have x5w1 : w1.cell? ⟨w.heap.size, 5, none⟩ = some (.bool f.plus) := cell_of_row _ _ 5 _ _ _ hbx1; have x6w1 : w1.cell? ⟨w.heap.size, 6, none⟩ = some (.bool f.sharp) := cell_of_row _ _ 6 _ _ _ hbx1; have x7w1 : w1.cell? ⟨w.heap.size, 7, none⟩ = some (.bool f.blank) := cell_of_row _ _ 7 _ _ _ hbx1; have x8w1 : w1.cell? ⟨w.heap.size, 8, none⟩ = some (.bool f.zero) := cell_of_row _ _ 8 _ _ _ hbx1; have x9w1 : w1.cell? ⟨w.heap.size, 9, none⟩ = some (.int .i64 f.width) := cell_of_row _ _ 9 _ _ _ hbx1; have x10w1 : w1.cell? ⟨w.heap.size, 10, none⟩ = some (.int .i64 f.prec) := cell_of_row _ _ 10 _ _ _ hbx1; have H1 := Lib.hid (And.intro hbx1 (And.intro hm1 ht1)); clear hbx1 hm1 ht1)
    | (go_at_call 46; refine (CA.out _ (HX.out.2.1.touch H1.out.2.2)).mono ?_; rintro e w2 ⟨rfl, hb2⟩; have hbx2 := (hb2.block _ (Array.getElem?_eq_some_iff.1 H1.out.1).1).trans H1.out.1; have x1w2 : w2.cell? ⟨w.heap.size, 1, none⟩ = some (.int .u8 100) := cell_of_row _ _ 1 _ _ _ hbx2; have x4w2 : w2.cell? ⟨w.heap.size, 4, none⟩ = some (.bool f.left) := cell_of_row _ _ 4 _ _ _ hbx2; have x5w2 : w2.cell? ⟨w.heap.size, 5, none⟩ = some (.bool f.plus) := cell_of_row _ _ 5 _ _ _ hbx2; have x6w2 : w2.cell? ⟨w.heap.size, 6, none⟩ = some (.bool f.sharp) := cell_of_row _ _ 6 _ _ _ hbx2; have x7w2 : w2.cell? ⟨w.heap.size, 7, none⟩ = some (.bool f.blank) := cell_of_row _ _ 7 _ _ _ hbx2; have x8w2 : w2.cell? ⟨w.heap.size, 8, none⟩ = some (.bool f.zero) := cell_of_row _ _ 8 _ _ _ hbx2; have x9w2 : w2.cell? ⟨w.heap.size, 9, none⟩ = some (.int .i64 f.width) := cell_of_row _ _ 9 _ _ _ hbx2; have x10w2 : w2.cell? ⟨w.heap.size, 10, none⟩ = some (.int .i64 f.prec) := cell_of_row _ _ 10 _ _ _ hbx2; have H2 := Lib.hid (And.intro hbx2 hb2); clear hbx2 hb2)
    | (go_at_call 45; refine (CW.out _ (H1.out.2.1.below H2.out.2)).mono ?_; rintro e w3 ⟨rfl, hm3, ht3⟩; have hbx3 := (ht3.block _ (Array.getElem?_eq_some_iff.1 H2.out.1).1 (fun e => e.2 (.inr rfl))).trans H2.out.1; have x1w3 : w3.cell? ⟨w.heap.size, 1, none⟩ = some (.int .u8 100) := cell_of_row _ _ 1 _ _ _ hbx3; have x4w3 : w3.cell? ⟨w.heap.size, 4, none⟩ = some (.bool f.left) := cell_of_row _ _ 4 _ _ _ hbx3; have x5w3 : w3.cell? ⟨w.heap.size, 5, none⟩ = some (.bool f.plus) := cell_of_row _ _ 5 _ _ _ hbx3; have x6w3 : w3.cell? ⟨w.heap.size, 6, none⟩ = some (.bool f.sharp) := cell_of_row _ _ 6 _ _ _ hbx3; have x7w3 : w3.cell? ⟨w.heap.size, 7, none⟩ = some (.bool f.blank) := cell_of_row _ _ 7 _ _ _ hbx3; have x8w3 : w3.cell? ⟨w.heap.size, 8, none⟩ = some (.bool f.zero) := cell_of_row _ _ 8 _ _ _ hbx3; have x9w3 : w3.cell? ⟨w.heap.size, 9, none⟩ = some (.int .i64 f.width) := cell_of_row _ _ 9 _ _ _ hbx3; have x10w3 : w3.cell? ⟨w.heap.size, 10, none⟩ = some (.int .i64 f.prec) := cell_of_row _ _ 10 _ _ _ hbx3; have H3 := Lib.hid (And.intro hm3 ht3); clear hbx3 hm3 ht3))
  all_goals
    go_wp2
    go_ret
    exact ⟨rfl, H3.out.1.less fun _ h => .inl h, HX.out.1.trans (turns_less ((H1.out.2.2.trans (touch_new H2.out.2)).trans H3.out.2) fun _ h => .inl h)⟩
end Go.Proofs.YtapihomdfdhnnaaDoor
