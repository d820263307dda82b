/-
  The walk of FsOwn: what is handed in is not kept, and what is answered is nobody's else.
-/
import Derived.Test.YthpkfgjjaieikaaDoorFsScript
namespace Go.Proofs.YthpkfgjjaieikaaDoor
open Go.RowKit Go.Shelf Go.Lib Go.Maps

def pOWN : List UInt8 := [47, 111, 119, 110]
theorem good_OWN : goodP pOWN = true := by decide
theorem put_own {c : List UInt8} (hc : c.length ≤ 1048576) : putP [] st0 pOWN c false = (0, some c, st1) := by
  have h : countP st0 (goodP pOWN) = ((0, 0, 0), 0, st1) := by rw [good_OWN]; rfl
  have hk : checkP [] pOWN (((putP.oldP [] pOWN false).length : Int) + c.length) = 0 := by
    have ho : putP.oldP [] pOWN false = [] := rfl
    unfold checkP
    rw [ho, if_neg (by simp), if_neg (by simp; omega), if_neg (by simp)]
  unfold putP
  rw [h, if_neg (fun h => h rfl), if_neg (fun h => h.elim (fun h => h hk) (fun h => by cases h))]
  rfl
theorem read_own {es : List Ent} {x : Ent} (hx : findE es pOWN = some x) (s : St) (hs : startP s true = (0, s)) : True := trivial
theorem read_at {es : List Ent} {x : Ent} {s s' : St} (hx : findE es pOWN = some x) (hs : startP s true = (0, s')) : readP es s pOWN = (x.data, 0, s') := by
  have h : startP s (goodP pOWN) = (0, s') := by rw [good_OWN]; exact hs
  have hl : lookP es pOWN = 0 := by
    have hi : isP es pOWN = (true, false) := by
      unfold isP
      rw [if_neg (by decide), if_neg (by rw [good_OWN]; decide), hx]
      rfl
    unfold lookP
    rw [hi]
    rfl
  unfold readP
  rw [h, hl, hx]
  rfl

/-- a row of bytes, one of them turned -/
theorem Row.setAt {W : World} {g cap n j : Nat} {c : List UInt8} {y : UInt8} (h : Row W (.slice (some ⟨g, 0, none⟩) n cap) c) :
    Row (W.setCell ⟨g, j, none⟩ (.int .u8 y.toNat)) (.slice (some ⟨g, 0, none⟩) n cap) (c.set j y) := by
  obtain ⟨h1, h2⟩ := h
  rcases h2 with ⟨e, _⟩ | ⟨g', cap', cur, e, hb, hh, hn, hcm, hs, ht⟩
  · cases e
  · injection e with e1 e2 e3
    injection e1 with e1
    injection e1 with e1
    subst e1 e2 e3
    refine ⟨by simp [byteVals], .inr ⟨g, cap, cur.setIfInBounds j (.int .u8 y.toNat), by rw [List.length_set], hb, heap_setCell_same W g j _ _ _ hh, by rw [List.length_set]; exact hn, hcm, by simp [hs], ?_⟩⟩
    rw [List.length_set, Array.toList_setIfInBounds, List.take_set, ht, byteVals, byteVals, List.map_set]
theorem Row.at {W : World} {g cap n j : Nat} {c : List UInt8} (h : Row W (.slice (some ⟨g, 0, none⟩) n cap) c) (hj : j < c.length) :
    W.cell? ⟨g, j, none⟩ = some (.int .u8 c[j].toNat) ∧ W.frozen? ⟨g, j, none⟩ = false := by
  obtain ⟨h1, h2⟩ := h
  rcases h2 with ⟨e, _⟩ | ⟨g', cap', cur, e, hb, hh, hn, hcm, hs, ht⟩
  · cases e
  · injection e with e1 e2 e3
    injection e1 with e1
    injection e1 with e1
    subst e1 e2 e3
    refine ⟨?_, frozen_of_row W g j _ _ hh⟩
    rw [cell_of_row W g j cur _ (0, 0) hh, ← Array.getElem?_toList]
    have : (cur.toList.take (c.length * 1))[j]? = (byteVals c)[j]? := by rw [ht]
    rw [List.getElem?_take_of_lt (by omega)] at this
    rw [this]
    simp [byteVals, hj]
theorem Row.head {W : World} {A : Option Addr} {cap n : Nat} {c : List UInt8} (h : Row W (.slice A n cap) c) (hn : 0 < n) : ∃ g, A = some ⟨g, 0, none⟩ := by
  rcases h.2 with ⟨e, _⟩ | ⟨g, cap', cur, e, _⟩
  · injection e with _ e2 _; omega
  · injection e with e1 _ _; exact ⟨g, e1⟩
theorem Row.some0 {W : World} {A : Option Addr} {cap n : Nat} {c : List UInt8} (h : Row W (.slice A n cap) c) (k : Nat) (hk : (Value.slice A n cap).ownBlock = some k) : A = some ⟨k, 0, none⟩ := by
  rcases h.2 with ⟨e, _⟩ | ⟨g, cap', cur, e, _⟩
  · rw [e] at hk; cases hk
  · rw [e] at hk
    injection hk with hk
    injection e with e1 _ _
    rw [e1, ← hk]
theorem xor_byte (z : UInt8) : ∃ y : UInt8, bits BinOp.xor IntKind.u8 (z.toNat : Int) 85 = (y.toNat : Int) := by
  have h : ∀ n : Fin 256, 0 ≤ bits BinOp.xor IntKind.u8 (n.val : Int) 85 ∧ bits BinOp.xor IntKind.u8 (n.val : Int) 85 < 256 := by decide +kernel
  obtain ⟨h1, h2⟩ := h ⟨z.toNat, z.toNat_lt⟩
  simp only at h1 h2
  refine ⟨UInt8.ofNat (bits BinOp.xor IntKind.u8 (z.toNat : Int) 85).toNat, ?_⟩
  rw [UInt8.toNat_ofNat']
  omega
/-- between two rounds of a loop that turns bytes: the file system stays -/
def TurnI (w : World) (FP : Nat → Prop) (b bm : Nat) (es : List Ent) (s : St) (A : Option Addr) (n cap : Nat) (k : Value) (W : World) : Prop :=
  ∃ (i : Nat) (c : List UInt8), k = .int .i64 i ∧ i ≤ n ∧ c.length = n ∧ Row W (.slice A n cap) c ∧ FsAt W FP b bm es s ∧ Below w.heap.size w W

theorem TurnI.step {w W : World} {FP : Nat → Prop} {b bm : Nat} {es : List Ent} {s : St} {g n cap i : Nat} {c : List UInt8} (z : UInt8) (hrow : Row W (.slice (some ⟨g, 0, none⟩) n cap) c) (hcl : c.length = n) (hi : i < n) (hF : FsAt W FP b bm es s) (hB : Below w.heap.size w W) (hg : ¬ FP g) (hgw : w.heap.size ≤ g) :
    TurnI w FP b bm es s (some ⟨g, 0, none⟩) n cap (.int .i64 ((i : Int) + 1)) (W.setCell ⟨g, i, none⟩ (.int .u8 (bits BinOp.xor IntKind.u8 (z.toNat : Int) 85))) := by
  obtain ⟨y, hy⟩ := xor_byte z
  rw [hy]
  exact ⟨i + 1, c.set i y, by go_num, hi, by rw [List.length_set]; exact hcl, hrow.setAt, hF.same fun k _ hk => Below.heap_setCell _ _ _ k fun e => hg (by have e' : k = g := e; rw [← e']; exact hk), hB.setCell (p := ⟨g, i, none⟩) hgw _⟩
theorem own_apart {w w1 w2 w3 : World} {A3 : Option Addr} {n3 cap3 : Nat} (h12 : w1.heap.size ≤ w2.heap.size) (hl : (Value.slice A3 n3 cap3).ownBlock = (Value.slice none 0 0).ownBlock ∨ (Value.slice A3 n3 cap3).ownBlock = some w2.heap.size) :
    ∀ k, k < w3.heap.size → (∃ A n cap off, Value.slice A3 n3 cap3 = .slice (some A) n cap ∧ A = ⟨k, off, none⟩) → ¬ (w.heap.size ≤ k ∧ k < w1.heap.size) := by
  rintro k _ ⟨A, n, cap, off, e, rfl⟩ ⟨_, h2⟩
  injection e with e1 _ _
  subst e1
  rcases hl with hl | hl
  · cases hl
  · have : k = w2.heap.size := by simpa [Value.ownBlock] using hl
    omega
theorem own_ge {w w1 w3 w5 : World} {b : Nat} (h : ((w.heap.size ≤ b ∧ b < w1.heap.size) ∨ w3.heap.size ≤ b) ∧ b < w5.heap.size) (h3 : w.heap.size ≤ w3.heap.size) : w.heap.size ≤ b := by
  rcases h.1 with h | h
  · exact h.1
  · omega
/-- an append of bytes to a row, at the operation -/
theorem wpList_append_row {ops : Array Oper} {rest : List Oper} {o : Oper} {a : Act} {w : World} {Q : Exit → Act → World → Prop} (hgd : o.guard = none) (s x : Operand)
    (ho : o.op = .call { callee := .builtin .append, args := #[s, x], argTypes := #[41, 41] }) (v : Value) (od : List UInt8) (hs : a.eval s = v) (hrow : Row w v od) (v2 : Value) (c : List UInt8) (hx : a.eval x = v2) (hr : Reads w v2 c) (hl : od.length + c.length ≤ 4000000000)
    (h : ∀ v' w', Row w' v' (od ++ c) → w.grownBy w' v.ownBlock → (v'.ownBlock = v.ownBlock ∨ v'.ownBlock = some w.heap.size) → wpList Tryd.prog ops Q rest (a.put o.dst v') w') : wpList Tryd.prog ops Q (o :: rest) a w := by
  refine wpList_plain hgd fun K hK => ?_
  obtain ⟨v', w', hrun, r1, r2, r3⟩ := run_append_row w o.type v od hrow v2 c hr hl
  unfold Oper.wp
  simp [execOp, ho, resolve, invoke, builtin, hs, hx, hrun, Result.andThen]
  exact hK _ _ (h v' w' r1 r2 r3)

/-- between two rounds of the script: the clone stays -/
def OwnI (w w7 w8 : World) (b bm bc bmc : Nat) (esc : List Ent) (n : Nat) (k : Value) (W : World) : Prop :=
  ∃ (i : Nat) (es : List Ent) (s : St), k = .int .i64 i ∧ i ≤ n ∧ FsAt W (fun k => (w.heap.size ≤ k ∧ k < w7.heap.size) ∨ w8.heap.size ≤ k) b bm es s ∧ StOk s ∧ s.calls ≤ (i : Int) + 3 ∧ es.length ≤ 4096 ∧ FsAt W (fun k => w7.heap.size ≤ k ∧ k < w8.heap.size) bc bmc esc st2 ∧ Below w.heap.size w W ∧ w8.heap.size ≤ W.heap.size
theorem op_cells_at {W : World} {b off : Nat} {o : OpD} (h : ∀ j u, o.cells[j]? = some u → W.cell? ⟨b, off + j, none⟩ = some u) :
    W.cell? ⟨b, off, none⟩ = some (.int .i64 o.d) ∧ W.cell? ⟨b, off + 1, none⟩ = some (str o.p) ∧ W.cell? ⟨b, off + 2, none⟩ = some (str o.q) ∧ W.cell? ⟨b, off + 3, none⟩ = some o.B ∧ W.cell? ⟨b, off + 4, none⟩ = some (.int .i64 o.k) ∧ W.cell? ⟨b, off + 5, none⟩ = some (.int .i64 o.i) ∧ W.cell? ⟨b, off + 6, none⟩ = some (.int .i64 o.j) :=
  ⟨h 0 _ rfl, h 1 _ rfl, h 2 _ rfl, h 3 _ rfl, h 4 _ rfl, h 5 _ rfl, h 6 _ rfl⟩
theorem own_more {w w1 w3 w5 w7 w8 : World} (h3 : w.heap.size ≤ w3.heap.size) : ∀ k, ((((w.heap.size ≤ k ∧ k < w1.heap.size) ∨ w3.heap.size ≤ k) ∧ k < w5.heap.size) ∧ k < w7.heap.size) → (w.heap.size ≤ k ∧ k < w7.heap.size) ∨ w8.heap.size ≤ k := by
  intro k hk
  refine .inl ⟨?_, hk.2⟩
  rcases hk.1.1 with h | h
  · exact h.1
  · omega
/-- a round of the script -/
theorem OwnI.step {w w7 w8 W W' : World} {b bm bc bmc : Nat} {es esc es' : List Ent} {n i : Nat} {o : OpD} {s s' : St} {r : Int} {X : Obj} (hi : i < n) (ho : StOk s) (hcl : s.calls ≤ (i : Int) + 3) (hes : es.length ≤ 4096) (hFc : FsAt W (fun k => w7.heap.size ≤ k ∧ k < w8.heap.size) bc bmc esc st2) (hB : Below w.heap.size w W) (h8 : w8.heap.size ≤ W.heap.size)
    (hok : OpOk o) (hn : n ≤ 140737488351232) (hF : FsAt W' (fun k => ((w.heap.size ≤ k ∧ k < w7.heap.size) ∨ w8.heap.size ≤ k) ∨ (W.alloc X).heap.size ≤ k) b bm es' s') (hT : Touch (fun k => (w.heap.size ≤ k ∧ k < w7.heap.size) ∨ w8.heap.size ≤ k) (W.alloc X) W') (hres : OneRes es s o r es' s') (h78 : w7.heap.size ≤ w8.heap.size) (h0 : w.heap.size ≤ w7.heap.size) :
    OwnI w w7 w8 b bm bc bmc esc n (.int .i64 ((i : Int) + 1)) W' := by
  have hx : (W.alloc X).heap.size = W.heap.size + 1 := by simp
  obtain ⟨hst, hca⟩ := one_next hres ho (by omega) hok
  refine ⟨i + 1, es', s', by go_num, hi, hF.more (fun k hk => ?_), hst, by omega, one_len hres hes, ?_, (hB.alloc hB.size _).trans (hT.below (by rw [hx]; have := hB.size; omega) fun k hk => by rcases hk with hk | hk; exact hk.1; omega), ?_⟩
  · rcases hk with hk | hk
    · exact hk
    · exact .inr (by omega)
  · exact (hFc.alloc X).same fun k hk hF => hT.block k hk fun h => by rcases h with h | h <;> omega
  · have := hT.size
    omega

set_option maxRecDepth 100000 in
set_option maxHeartbeats 4000000 in
theorem own_small (w : World) (vb vs : Value) (c : List UInt8) (os : List OpD) (hb : Reads w vb c) (hs : ScriptAt w vs os) (hc : c.length ≤ 1048576) :
    Calls Tryd.prog 6 #[vb, vs] w (BegunPost w) := by
  obtain ⟨A, cap, rfl, _⟩ := id hb
  obtain ⟨A2, cap2, rfl, _⟩ := id hs.cells
  have hc' : (c.length : Int) ≤ 1048576 := by omega
  have HRD := Lib.hid hb
  have HSC := Lib.hid hs
  have HC := Lib.hid hc
  clear hb hs hc
  go_enter Tryd.func6, Tryd.ntmps6
  go_wp2_with (first
    | (go_at_call 21; refine (new_any _).mono ?_; rintro e w1 ⟨b, bm, rfl, hF1, hb1⟩; have HF1 := Lib.hid hF1.tight; have HB1 := Lib.hid hb1; clear hF1 hb1)
    | (go_at_call 8; refine (begun_any _).mono ?_; rintro e w2 ⟨rfl, hb2⟩; have HB2 := Lib.hid (HB1.out.trans (hb2.mono HB1.out.size)); have HF2 := Lib.hid (HF1.out.below hb2); have H12 := Lib.hid hb2.size; clear hb2)
    | (at_builtin; refine wpList_append_row rfl _ _ rfl (.slice none 0 0) [] rfl (World.ownsRow_nil _ _ _ _) _ c rfl (HRD.out.kept (Touch.of_below (T := fun _ => False) HB2.out) (fun _ _ _ h => h)) (by have := HC.out; simp; omega) ?_; intro v3 w3 hr3 hg3 hl3; obtain ⟨A3, cap3, rfl⟩ := row_shape hr3;
       have hT3 : Touch (fun _ => False) w2 w3 := Touch.of_grown hg3 (fun k e => by cases e); have hb23 : Below w2.heap.size w2 w3 := hT3.below (Nat.le_refl _) (fun _ h => h.elim); have hF3 := HF2.out.below hb23;
       have CW := Lib.hid (write_any w3 _ b bm [] st0 pOWN c (.slice A3 ([] ++ c).length cap3) hF3 st0_ok (by decide) (fun W hT => (Reads.of_row hr3).kept hT (own_apart H12.out hl3)) (by have := HC.out; omega) (by decide)); rw [put_own HC.out] at CW;
       have hA3 : ∀ g, A3 = some ⟨g, 0, none⟩ → g = w2.heap.size ∧ g < w3.heap.size := (fun g e => by subst e; exact ⟨by (rcases hl3 with hl3 | hl3; cases hl3; simpa [Value.ownBlock] using hl3), (hr3.lt g rfl).2⟩);
       have HB3 := Lib.hid (HB2.out.trans (hb23.mono HB2.out.size)); have HR3 : Hid (Row w3 (.slice A3 c.length cap3) c) := Lib.hid hr3; have HA3 := Lib.hid hA3; have H23 := Lib.hid hb23.size; clear hr3 hg3 hl3 hT3 hb23 hF3 hA3)
    | (go_at_call 22; refine (CW.out).mono ?_; rintro e w4 ⟨es4, rfl, hF4, hT4, hP4⟩; obtain ⟨x4, rfl⟩ := putEs_0 hP4;
       have hb4 : Below w.heap.size w w4 := HB3.out.trans (hT4.below HB3.out.size fun k hk => hk.1);
       have hr4 : Row w4 (.slice A3 c.length cap3) c := row_kept HR3.out (fun k hk => hT4.block k (HR3.out.lt k hk).2 fun h => by (have := HA3.out k (HR3.out.some0 k hk); have := H12.out; omega));
       have HF4 := Lib.hid hF4; have HB4 := Lib.hid hb4; have HR4 := Lib.hid hr4; have H34 := Lib.hid hT4.size; clear hF4 hT4 hP4 hb4 hr4))
  have HI := Lib.hid (show TurnI w (fun k => (w.heap.size ≤ k ∧ k < w1.heap.size) ∨ w3.heap.size ≤ k) b bm [⟨pOWN, x4, c⟩] st1 A3 c.length cap3 (.int .i64 0) w4 from ⟨0, c, rfl, Nat.zero_le _, rfl, HR4.out, HF4.out, HB4.out⟩)
  go_loopw [37, 7] (fun k _ wr => TurnI w (fun k => (w.heap.size ≤ k ∧ k < w1.heap.size) ∨ w3.heap.size ≤ k) b bm [⟨pOWN, x4, c⟩] st1 A3 c.length cap3 k wr) (fun k _ _ => c.length - (intOf k).toNat)
  case atStart => exact HI.out
  case round =>
    obtain ⟨i, c1, rfl, hi, hcl, hrow, hF, hB⟩ := hrel
    by_cases hlt : i < c.length
    · obtain ⟨g, rfl⟩ := hrow.head (by omega)
      obtain ⟨hcell, hfr⟩ := hrow.at (j := i) (by omega)
      generalize c1[i] = z at hcell
      have HROW := Lib.hid hrow
      have HF := Lib.hid hF
      have HB := Lib.hid hB
      have HCL := Lib.hid hcl
      clear hrow hF hB hcl
      go_wp2_with fail
      have hg := HA3.out g rfl
      have h12 := H12.out
      have h2 := HB2.out.size
      exact ⟨TurnI.step z HROW.out HCL.out hlt HF.out HB.out (fun h => by omega) (by omega), by simp [intOf] <;> omega⟩
    · obtain rfl : i = c.length := by omega
      generalize wr = w5 at *
      have HF5 := Lib.hid hF.tight
      have HB5 := Lib.hid hB
      have CR := Lib.hid (read_any w5 _ b bm _ st1 pOWN hF.tight (by unfold StOk st1 st0; decide) (by decide))
      rw [read_at (s' := st2) (x := ⟨pOWN, x4, c⟩) (by simp [findE]) rfl] at CR
      clear hrow hF hB hcl hi hlt HI
      go_wp2_with (first
        | (go_at_call 23; refine (CR.out).mono ?_; rintro e w6 ⟨v6, rfl, hr6, hF6, hT6⟩; obtain ⟨A6, cap6, rfl⟩ := row_shape (own_base hr6 (Nat.zero_le _)); have HR6 := Lib.hid hr6; have HF6 := Lib.hid hF6; have H56 := Lib.hid hT6.size; have HB6 := Lib.hid (HB5.out.trans (hT6.below HB5.out.size fun k hk => by rw [hk]; exact own_ge HF5.out.own HB3.out.size)); clear hr6 hF6 hT6))
      have HA6 : Hid (∀ g, A6 = some ⟨g, 0, none⟩ → w5.heap.size ≤ g) := Lib.hid fun g e => by subst e; exact (HR6.out.lt g rfl).1
      have HI6 := Lib.hid (show TurnI w (fun k => ((w.heap.size ≤ k ∧ k < w1.heap.size) ∨ w3.heap.size ≤ k) ∧ k < w5.heap.size) b bm [⟨pOWN, x4, c⟩] st2 A6 c.length cap6 (.int .i64 0) w6 from ⟨0, c, rfl, Nat.zero_le _, rfl, own_base HR6.out (Nat.zero_le _), HF6.out, HB6.out⟩)
      go_loopw [54, 10] (fun k _ wr => TurnI w (fun k => ((w.heap.size ≤ k ∧ k < w1.heap.size) ∨ w3.heap.size ≤ k) ∧ k < w5.heap.size) b bm [⟨pOWN, x4, c⟩] st2 A6 c.length cap6 k wr) (fun k _ _ => c.length - (intOf k).toNat)
      case atStart => exact HI6.out
      case round =>
        obtain ⟨i, c1, rfl, hi, hcl, hrow, hF, hB⟩ := hrel
        by_cases hlt : i < c.length
        · obtain ⟨g, rfl⟩ := hrow.head (by omega)
          obtain ⟨hcell, hfr⟩ := hrow.at (j := i) (by omega)
          generalize c1[i] = z at hcell
          have HROW := Lib.hid hrow
          have HF := Lib.hid hF
          have HB := Lib.hid hB
          have HCL := Lib.hid hcl
          clear hrow hF hB hcl
          go_wp2_with fail
          have hg := HA6.out g rfl
          have h2 := HB5.out.size
          exact ⟨TurnI.step z HROW.out HCL.out hlt HF.out HB.out (fun h => by omega) (by omega), by simp [intOf] <;> omega⟩
        · obtain rfl : i = c.length := by omega
          generalize wr = w7 at *
          have HF7 := Lib.hid hF
          have HB7 := Lib.hid hB
          have CC := Lib.hid (clone_fs w7 _ b bm _ st2 hF (by simp))
          clear hrow hF hB hcl hi hlt HI6
          go_wp2_with (first
            | (go_at_call 24; refine (CC.out).mono ?_; rintro e w8 ⟨bc, bmc, esc, rfl, hFc, hS, hlc, hb8⟩; have HFC := Lib.hid hFc.tight; have HS := Lib.hid hS; have HF8 := Lib.hid (HF7.out.tight.below hb8); have H78 := Lib.hid hb8.size; have HB8 := Lib.hid (HB7.out.trans (hb8.mono HB7.out.size)); clear hFc hS hlc hb8))
          have HI8 := Lib.hid (show OwnI w w7 w8 b bm bc bmc esc os.length (.int .i64 0) w8 from ⟨0, _, _, rfl, Nat.zero_le _, HF8.out.more (own_more HB3.out.size), by unfold StOk st2 st0; decide, by decide, by simp, HFC.out, HB8.out, Nat.le_refl _⟩)
          go_loopw [68] (fun k wr => OwnI w w7 w8 b bm bc bmc esc os.length k wr) (fun k _ => os.length - (intOf k).toNat)
          case atStart => exact HI8.out
          case round =>
            obtain ⟨i, es, s, rfl, hi, hF, ho, hcl, hes, hFc, hB, h8⟩ := hrel
            by_cases hlt : i < os.length
            · obtain ⟨o, hio⟩ : ∃ o, os[i]? = some o := ⟨_, List.getElem?_eq_getElem hlt⟩
              have hs := HSC.out.touch (Touch.of_below (T := fun _ => False) hB) (fun _ _ h => h)
              obtain ⟨A', cap', e, hc⟩ := hs.cells
              obtain ⟨b2, off, rfl, _, hcell⟩ := hc (by omega)
              injection e with e1 _ e3
              subst e1
              obtain ⟨d0, d1, d2, d3, d4, d5, d6⟩ := op_cells_at (hcell i o hio)
              have hat := hs.ops o (List.mem_of_getElem? hio)
              obtain ⟨A9, cap9, hB9, _⟩ := hat.reads
              obtain ⟨od, op, oq, oB, oc, ok, oi, oj⟩ := o
              simp only at hB9 d0 d1 d2 d3 d4 d5 d6
              subst hB9
              have HAT := Lib.hid ((HSC.out.ops _ (List.mem_of_getElem? hio)))
              have HF9 := Lib.hid hF
              have HO9 := Lib.hid ho
              have HCL9 := Lib.hid hcl
              have HES9 := Lib.hid hes
              have HFC9 := Lib.hid hFc
              have HB9 := Lib.hid hB
              clear hs hcell hc e3 hat hF ho hcl hes hFc hB hio
              have hlen := HSC.out.len
              have CO := Lib.hid (one_any (wr.alloc (.cells #[.int .i64 od, str op, str oq, .slice A9 oc.length cap9, .int .i64 ok, .int .i64 oi, .int .i64 oj] 43)) _ b bm es s ⟨od, op, oq, .slice A9 oc.length cap9, oc, ok, oi, oj⟩ (HF9.out.alloc _) HO9.out (by have := HCL9.out; omega)
                (fun W hT => (HAT.out.touch (Touch.of_below (T := fun _ => False) ((HB9.out.alloc HB9.out.size _).trans (hT.below (by have := HB9.out.size; simp; omega) fun k hk => by rcases hk with hk | hk; exact hk.1; exact Nat.le_trans HB8.out.size hk))) (fun _ _ h => h)).reads) (by have := HAT.out.small; simp only at this ⊢; omega) HES9.out)
              have H8 := Lib.hid h8
              clear h8
              go_wp2_with (go_at_call 19; refine (CO.out).mono ?_; rintro e W9 ⟨r9, es9, s9, rfl, hF, hT, hres⟩; have GF := Lib.hid hF; have GT := Lib.hid hT; have GR := Lib.hid hres; clear hF hT hres)
              exact ⟨OwnI.step hlt HO9.out HCL9.out HES9.out HFC9.out HB9.out H8.out HAT.out.ok HSC.out.len GF.out GT.out GR.out H78.out HB7.out.size, by simp [intOf] <;> omega⟩
            · obtain rfl : i = os.length := by omega
              generalize wr = w9 at *
              obtain ⟨x, hx, rfl⟩ : ∃ x, findE esc pOWN = some x ∧ x.data = c := by
                have := HS.out pOWN
                rw [show (findE [⟨pOWN, x4, c⟩] pOWN).map (·.data) = some c by simp [findE]] at this
                exact Option.map_eq_some_iff.1 this
              have CR9 := Lib.hid (read_any w9 _ bc bmc esc st2 pOWN hFc (by unfold StOk st2 st0; decide) (by decide))
              rw [read_at (s' := st3) hx rfl] at CR9
              have HFC9 := Lib.hid hFc
              have HB9 := Lib.hid hB
              clear hF ho hcl hes hFc hB h8 hx hi hlt HI8
              go_wp2_with (first
                | (go_at_call 23; refine (CR9.out).mono ?_; rintro e w10 ⟨v10, rfl, hr10, hF10, hT10⟩;
                   have hb10 : Below w.heap.size w w10 := HB9.out.trans (hT10.below HB9.out.size fun k hk => by rw [hk]; exact Nat.le_trans HB7.out.size HFC9.out.own.1);
                   have hcv1 := conv_reads (Reads.of_row hr10); have hcv2 := conv_reads (HRD.out.kept (Touch.of_below (T := fun _ => False) hb10) (fun _ _ _ h => h));
                   have HB10 := Lib.hid hb10; clear hr10 hF10 hT10 hb10))
              go_ret
              exact ⟨rfl, HB10.out⟩

set_option maxRecDepth 100000 in
theorem own_big (w : World) (A : Option Addr) (n cap : Nat) (vs : Value) (hn : 1048576 < n) (hm : n ≤ 140737488351232) :
    Calls Tryd.prog 6 #[.slice A n cap, vs] w (BegunPost w) := by
  have h1 : (1048576 : Int) < (n : Int) := by omega
  clear hn
  go_enter Tryd.func6, Tryd.ntmps6
  go_wp2_with (first
    | (go_at_call 21; refine (new_any _).mono ?_; rintro e w1 ⟨b, bm, rfl, hF1, hb1⟩; have HB := Lib.hid hb1; clear hF1 hb1)
    | (go_at_call 8; refine (begun_any _).mono ?_; rintro e w2 ⟨rfl, hb2⟩; replace HB := Lib.hid (HB.out.trans (hb2.mono HB.out.size)); clear hb2))
  go_ret
  exact ⟨rfl, HB.out⟩

theorem own_any (w : World) (vb vs : Value) (c : List UInt8) (os : List OpD) (hb : Reads w vb c) (hs : ScriptAt w vs os) (hm : c.length ≤ 140737488351232) :
    Calls Tryd.prog 6 #[vb, vs] w (BegunPost w) := by
  by_cases hc : c.length ≤ 1048576
  · exact own_small w vb vs c os hb hs hc
  · obtain ⟨A, cap, rfl, _⟩ := hb
    exact own_big w A c.length cap vs (by omega) hm

end Go.Proofs.YthpkfgjjaieikaaDoor
