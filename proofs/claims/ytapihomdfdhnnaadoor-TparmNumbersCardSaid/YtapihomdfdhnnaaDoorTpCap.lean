/-
  What a capability of package tparm comes to: Check, Run; new variables, numbers as values.
-/
import Derived.Test.YtapihomdfdhnnaaDoorTpRun
import Derived.Test.YtapihomdfdhnnaaDoorTpLayC
import Derived.Shelf.Abstract
import Derived.WideMake
namespace Go.Proofs.YtapihomdfdhnnaaDoor
open Go.RowKit Go.Shelf Go.Lib Go.Maps
attribute [local go_sem] Oper.semAt_some

/-- is a value both, a text and a number? -/
def noValP (p : PrmD) : Bool := if p.is then p.num != 0 else p.text != []
theorem noval_any (p : PrmD) (w : World) : Calls Tryd.prog 17 #[prmVal p] w fun e w' => e = .returned (.bool (noValP p)) ∧ Below w.heap.size w w' := by
  obtain ⟨n, t, b⟩ := p
  cases b with
  | true =>
    have hP : noValP ⟨n, t, true⟩ = (n != 0) := rfl
    rw [hP]
    show Calls Tryd.prog 17 #[.agg #[.int .i32 n, str t, .bool true]] w _
    go_enter Tryd.func17, Tryd.ntmps17
    go_wp2_with fail
    go_ret
    exact ⟨rfl, (Below.refl _ _).alloc (Nat.le_refl _) _⟩
  | false =>
    have hP : noValP ⟨n, t, false⟩ = (t != []) := rfl
    rw [hP]
    show Calls Tryd.prog 17 #[.agg #[.int .i32 n, str t, .bool false]] w _
    go_enter Tryd.func17, Tryd.ntmps17
    go_wp2_with fail
    go_ret
    refine ⟨?_, (Below.refl _ _).alloc (Nat.le_refl _) _⟩
    cases t <;> simp
set_option maxRecDepth 100000 in
theorem usable_any (W : World) (vb bm : Nat) (h : W.cell? ⟨vb, 0, none⟩ = some (.map (some bm))) : Calls Tryd.prog 15 #[.pointer (some ⟨vb, 0, none⟩)] W fun e w' => e = .returned (.bool true) ∧ W = w' := by
  have hnm : ∀ (w : World) (r : Option Nat), (binOp .neq 55 (.map r) (.map none)).run Tryd.prog w = .ok (.bool (!r.isNone)) w := fun w r => run_neq_map_nil w _ _ _ r Tryd.underlying55
  go_enter Tryd.func15, Tryd.ntmps15
  go_wp2_with fail
  go_ret
  exact ⟨rfl, rfl⟩
set_option maxRecDepth 100000 in
theorem newVars_any (w : World) : Calls Tryd.prog 8 #[] w fun e w' => e = .returned (.pointer (some ⟨w.heap.size + 1, 0, none⟩)) ∧ VarsAt w' (w.heap.size + 1) w.heap.size (fun _ => prm0) ∧ Below w.heap.size w w' := by
  have hmm := @run_makeMap_plain Tryd.prog
  go_enter Tryd.func8, Tryd.ntmps8
  go_wp2_with fail
  go_ret
  refine ⟨rfl, ⟨alloc_two w _ _, 0, .map [], ?_, by omega, fun c => rfl⟩, ((Below.refl _ _).alloc (Nat.le_refl _) _).alloc (by simp) _⟩
  exact (World.ownsMap_made w _ _ _).alloc _
theorem num_any (n : Int) (h0 : -2147483648 ≤ n) (h1 : n ≤ 2147483647) (w : World) : Calls Tryd.prog 11 #[.int .i64 n] w fun e w' => e = .returned (.agg #[.int .i32 n, .string ⟨#[]⟩, .bool false]) ∧ Below w.heap.size w w' := by
  have w32e : wrap32 n = n := by unfold wrap32; omega
  clear h0 h1
  go_enter Tryd.func11, Tryd.ntmps11
  go_wp2_with fail
  exact bodyPost_ret (v := .agg #[.int .i32 n, .string ⟨#[]⟩, .bool false]) (by simp [results, Tryd.results11, go_sem]) rfl ⟨rfl, (Below.refl _ _).alloc (Nat.le_refl _) _⟩
theorem check_any (W : World) (B cb : Nat) (v : Value) (s : List UInt8) (h : CapAt W B cb v s) : Calls Tryd.prog 14 #[.pointer (some ⟨cb, 0, none⟩)] W fun e w' => e = .returned (.tuple #[.int .i64 (checkS s).1, .int .i64 (checkS s).2]) ∧ ∃ n, w' = W.drewN n := by
  have c0 := cell_of_row W cb 0 _ _ _ h.box
  have c2 := cell_of_row W cb 2 _ _ _ h.box
  have c3 := cell_of_row W cb 3 _ _ _ h.box
  generalize checkS s = q at *
  clear h
  go_enter Tryd.func14, Tryd.ntmps14
  go_wp2_with fail
  go_quiet (fail)
  go_wp2
  exact bodyPost_ret (v := .tuple #[.int .i64 q.1, .int .i64 q.2]) (by simp [results, Tryd.results14, go_sem]) rfl ⟨rfl, _, rfl⟩
/-- a slice that reads as values -/
def PrmsV (W : World) (v : Value) (l : List PrmD) : Prop := ∃ A cap, v = .slice A l.length cap ∧ l.length ≤ cap ∧ Src W 3 A cap l.length (prmVals l)
instance : Inhabited PrmD := ⟨prm0⟩
theorem contains_any (W : World) (A : Option Addr) (cap : Nat) (l : List PrmD) (h : PrmsV W (.slice A l.length cap) l) (hl : l.length ≤ 100) (hpos : 0 < l.length) :
    Calls Tryd.prog 16 #[.slice A l.length cap, .func (.func 17) #[] #[]] W fun e w' => e = .returned (.bool (l.any noValP)) ∧ Below W.heap.size W w' := by
  obtain ⟨A', cap', e, hc, hs⟩ := h
  injection e with e1 e2 e3
  subst e1 e3
  obtain ⟨k, off, e, hk, hcell⟩ := hs.cells hpos
  subst e
  have := AnyQ.slices_ContainsFunc Tryd.layContains 3 (fun w => Tryd.isAgg32 w) (fun w => by kernel_rfl) prmCells (fun x => rfl) noValP 17 #[] (enters_of Tryd.func17 (by kernel_rfl) rfl) k off l.length cap l W (fun W' x hb => (noval_any x W').mono fun e w' h => ⟨h.1, hb.trans (h.2.mono hb.size)⟩) (Nat.le_refl _) (by omega) hk (fun j hj i v hv => by
    have hx : l[j]? = some l[j]! := by simp [hj]
    have hi3 : i < 3 := (List.getElem?_eq_some_iff.1 hv).1
    have := hcell (j * 3 + i) v (by rw [prmVals_at hx i hi3]; exact hv)
    rwa [← Nat.add_assoc] at this)
  rw [List.take_length] at this
  exact this
theorem clone_any (W : World) (A : Option Addr) (cap : Nat) (l : List PrmD) (h : PrmsV W (.slice A l.length cap) l) (hl : l.length ≤ 100) (hpos : 0 < l.length) :
    Calls Tryd.prog 18 #[.slice A l.length cap] W fun e w' => ∃ v', e = .returned v' ∧ PrmRow w' W.heap.size v' l ∧ Below W.heap.size W w' := by
  obtain ⟨A', cap', e, hc, hs⟩ := h
  injection e with e1 e2 e3
  subst e1 e3
  obtain ⟨i, hi, hz, hs2, hby⟩ := info_parts info_prm
  obtain ⟨k, off, e, hk, hcell⟩ := hs.cells hpos
  subst e
  refine (AnyE.slices_Clone Tryd.layClone i _ 3 32 hi hz hs2 hby rfl (by decide) (fun w => by kernel_rfl) k off l.length cap (prmVals l) W (prmVals_length l) (by unfold maxLen; omega) (by omega) hcell (fun u hu => by unfold prmVals at hu; obtain ⟨x, _, hx⟩ := List.mem_flatMap.1 hu; exact prmCells_one x u hx)).mono ?_
  rintro e w' ⟨v', rfl, hr, _, hb⟩
  exact ⟨v', rfl, hr, hb⟩

theorem map_cells {W : World} {vb bm : Nat} {vs : UInt8 → PrmD} (h : VarsAt W vb bm vs) {cs : Array Value} {t : TypeId} {fr : Nat × Nat} : W.heap[bm]? ≠ some (.cells cs t fr) := by
  obtain ⟨n, D, ⟨es, clock, g1, _⟩, _⟩ := h.map
  rw [g1]
  intro e
  injection e with e
  cases e
theorem PrmsV.below {W W' : World} {v : Value} {l : List PrmD} (h : PrmsV W v l) (hb : Below W.heap.size W W') : PrmsV W' v l := by
  obtain ⟨A, cap, e, hc, hs⟩ := h
  exact ⟨A, cap, e, hc, hs.below hb⟩
theorem VarsAt.below {W W' : World} {vb bm : Nat} {vs : UInt8 → PrmD} (h : VarsAt W vb bm vs) (hb : Below W.heap.size W W') : VarsAt W' vb bm vs := h.same (hb.block _ h.lt.1) (hb.block _ h.lt.2)
theorem start_mach {W w2 : World} {v : Value} {ps : List PrmD} {vb bm : Nat} {vs : UInt8 → PrmD} (hb : Below W.heap.size W w2) (hr : PrmRow w2 W.heap.size v ps) (hv : VarsAt W vb bm vs) (hn : ps.length ≤ 9) : MachX (w2.alloc (.cells #[.pointer (some ⟨vb, 0, none⟩), v, .slice none 0 0, .slice none 0 0, .int .i64 0] 53)) W.heap.size (fun _ => False) w2.heap.size vb bm ⟨ps, [], [], 0, vs⟩ := by
  have hv2 := hv.below hb
  have h2 := alloc_one w2 (.cells #[.pointer (some ⟨vb, 0, none⟩), v, .slice none 0 0, .slice none 0 0, .int .i64 0] 53)
  exact ⟨v, .slice none 0 0, .slice none 0 0, alloc_new _ _, hb.size, own_same hr fun j hj => h2.block j (own_lt hr j hj).2, World.ownsRow_nil _ _ _ _, World.ownsRow_nil _ _ _ _, (fun k hk e => by cases e), hv2.below h2, ⟨hv.lt.1, hv.lt.2⟩, (fun k hk => hk.elim), ⟨hn, by simp, by simp, Nat.zero_le _⟩⟩
theorem touch_cap {W w3 w4 : World} {o : Obj} {bm : Nat} (hb : Below W.heap.size W w3) (ht : Touch (Turns W.heap.size bm (fun _ => False)) (w3.alloc o) w4) : Touch (fun k => k = bm) W w4 := by
  have h1 : Touch (Turns W.heap.size bm (fun _ => False)) W (w3.alloc o) := touch_new (hb.alloc hb.size o)
  exact (h1.trans ht).mono fun k hk h => by rcases h.1 with h | h <;> omega
theorem run_at {W w3 : World} {B0 cb : Nat} {s : List UInt8} {l : List ItemD} {A1 : Option Addr} {c1 : Nat} (hlen : s.length ≤ 4096) {vb bm : Nat} {vs : UInt8 → PrmD} (hv : VarsAt W vb bm vs) (hp : Pow W) {br : Nat → MD → Nat × MD} {dd : ItemD → MD → Int × MD} (hd : Does l br dd) (htx : ∀ it ∈ l, it.text.length ≤ 4096 ∧ it.pos ≤ 4096) {ps : List PrmD} (hnum : ∀ p ∈ ps, NumOk p) (h9 : ps.length ≤ 9) (hit : ItemRow W B0 (.slice A1 l.length c1) l ∧ (Value.slice A1 l.length c1).ownBlock ≠ some cb ∧ l.length ≤ s.length) {v : Value} (hr : PrmRow w3 W.heap.size v ps) (hb : Below W.heap.size W w3) :
    Calls Tryd.prog 19 #[.pointer (some ⟨w3.heap.size, 0, none⟩), .slice A1 l.length c1] (w3.alloc (.cells #[.pointer (some ⟨vb, 0, none⟩), v, .slice none 0 0, .slice none 0 0, .int .i64 0] 53)) (RunPost (w3.alloc (.cells #[.pointer (some ⟨vb, 0, none⟩), v, .slice none 0 0, .slice none 0 0, .int .i64 0] 53)) W.heap.size (fun _ => False) bm (runFrom br dd l (l.length + 2) 0 ⟨ps, [], [], 0, vs⟩)) := by
  have hb3 := hb.alloc hb.size (.cells #[.pointer (some ⟨vb, 0, none⟩), v, .slice none 0 0, .slice none 0 0, .int .i64 0] 53)
  refine run_any _ _ _ _ vb bm _ br dd l hd (by omega) htx (start_mach hb hr hv h9) ⟨hnum, fun p hp => by cases hp⟩ ⟨hp.below hb3, hp.1.lt, fun e => ?_, hp.2.lt, fun e => ?_⟩ A1 c1 (own_zero (own_same hit.1 fun j hj => hb3.block j (own_lt hit.1 j hj).2)) fun k hk => ⟨(own_lt hit.1 k hk).2, fun e => ?_⟩
  · obtain ⟨t, fr, hc⟩ := hp.1.cells
    rw [e] at hc
    exact map_cells hv hc
  · obtain ⟨t, fr, hc⟩ := hp.2.cells
    rw [e] at hc
    exact map_cells hv hc
  · obtain ⟨cur, hc⟩ := own_type hit.1 hk
    rw [e] at hc
    exact map_cells hv hc
def CapPost (W : World) (bm : Nat) (r : List UInt8 × Int × Int) (e : Ending) (w' : World) : Prop := e = .returned (.tuple #[str r.1, .int .i64 r.2.1, .int .i64 r.2.2]) ∧ Touch (fun k => k = bm) W w'
set_option maxRecDepth 100000 in
set_option maxHeartbeats 8000000 in
theorem cap_run (W : World) (B0 cb : Nat) (s : List UInt8) (l : List ItemD) (A1 : Option Addr) (c1 : Nat) (hcap : CapAt W B0 cb (.slice A1 l.length c1) s) (hlen : s.length ≤ 4096) (hps : parseP s = .ok l) (vb bm : Nat) (vs : UInt8 → PrmD) (hv : VarsAt W vb bm vs) (ps : List PrmD) (A : Option Addr) (cap : Nat) (hP : PrmsV W (.slice A ps.length cap) ps) (h1 : 0 < ps.length) (h9 : ps.length ≤ 9) (hmay : ps.any noValP = false) (hnum : ∀ p ∈ ps, NumOk p) (hp : Pow W)
    (br : Nat → MD → Nat × MD) (dd : ItemD → MD → Int × MD) (hd : Does l br dd) (htx : ∀ it ∈ l, it.text.length ≤ 4096 ∧ it.pos ≤ 4096) :
    Calls Tryd.prog 7 #[.pointer (some ⟨cb, 0, none⟩), .pointer (some ⟨vb, 0, none⟩), .slice A ps.length cap] W (CapPost W bm (runFrom br dd l (l.length + 2) 0 ⟨ps, [], [], 0, vs⟩)) := by
  have hC : checkS s = (0, 0) := by unfold checkS; rw [if_neg (by omega), hps]
  have CK := Lib.hid (check_any W B0 cb _ s hcap)
  rw [hC] at CK
  have CU : Hid (∀ n, Calls Tryd.prog 15 #[.pointer (some ⟨vb, 0, none⟩)] (W.drewN n) fun e w' => e = .returned (.bool true) ∧ W.drewN n = w') := Lib.hid fun n => usable_any _ vb bm (cell_of_row W vb 0 _ _ _ hv.box)
  have CC := Lib.hid (fun n => contains_any (W.drewN n) A cap ps (hP.below (below_drewN (Below.refl _ _) n)) (by omega) h1)
  rw [hmay] at CC
  have CL : Hid (∀ W', Below W.heap.size W W' → Calls Tryd.prog 18 #[.slice A ps.length cap] W' fun e w' => ∃ v', e = .returned v' ∧ PrmRow w' W'.heap.size v' ps ∧ Below W'.heap.size W' w') := Lib.hid fun W' hb => clone_any W' A cap ps (hP.below hb) (by omega) h1
  have hit := hcap.items l hlen hps
  have HX := Lib.hid (And.intro hcap (And.intro hv (And.intro hp (And.intro hd (And.intro htx (And.intro hnum h9))))))
  have HI := Lib.hid (And.intro hit hlen)
  have c1' := cell_of_row W cb 1 _ _ _ hcap.box
  have hcb := hcap.lt
  have i9 : (ps.length : Int) ≤ 9 := by omega
  obtain ⟨r, hr⟩ : ∃ r, runFrom br dd l (l.length + 2) 0 ⟨ps, [], [], 0, vs⟩ = r := ⟨_, rfl⟩
  have HR := Lib.hid hr
  rw [hr]
  clear hcap hlen hps hv hP h1 h9 hmay hnum hp hd htx hC hit hr
  go_enter Tryd.func7, Tryd.ntmps7
  go_wp2_with (first
    | (go_at_call 14; refine (CK.out).mono ?_; rintro e w1 ⟨rfl, n1, rfl⟩)
    | (go_at_call 15; refine (CU.out _).mono ?_; rintro e w1 ⟨rfl, rfl⟩)
    | (go_at_call 16; refine (CC.out _).mono ?_; rintro e w2 ⟨rfl, hb2⟩; have hb2' : Below W.heap.size W w2 := (below_drewN (Below.refl _ _) n1).trans hb2; have HB2 := Lib.hid hb2'; clear hb2 hb2')
    | (go_at_call 18; refine (CL.out _ HB2.out).mono ?_; rintro e w3 ⟨v', rfl, hr3, hb3⟩; obtain ⟨A', c', rfl⟩ := hr3.form; have hb3' : Below W.heap.size W w3 := HB2.out.trans (hb3.mono HB2.out.size); have k1 : w3.cell? ⟨cb, 1, none⟩ = some (.slice A1 l.length c1) := by rw [hb3'.cell (p := ⟨cb, 1, none⟩) hcb]; exact c1'
       have hcb3 : cb < w3.heap.size := Nat.lt_of_lt_of_le hcb hb3'.size; have H3 := Lib.hid (And.intro (own_mono hr3 HB2.out.size) hb3'); clear hr3 hb3 hb3')
    | (go_at_call 19; refine (run_at HI.out.2 HX.out.2.1 HX.out.2.2.1 HX.out.2.2.2.1 HX.out.2.2.2.2.1 HX.out.2.2.2.2.2.1 HX.out.2.2.2.2.2.2 HI.out.1 H3.out.1 H3.out.2).mono ?_; rintro e w4 ⟨rfl, ht4⟩; rw [HR.out]; have H4 := Lib.hid ht4; clear ht4))
  refine bodyPost_ret (v := .tuple #[str r.1, .int .i64 r.2.1, .int .i64 r.2.2]) (by simp [results, Tryd.results7, go_sem]) rfl ⟨rfl, ?_⟩
  exact touch_cap H3.out.2 H4.out
end Go.Proofs.YtapihomdfdhnnaaDoor
