/-
  A buffer that no call made: the law holds.
-/
import Derived.Test.YtepbhmebidmnbaaDoorBfNone
import Derived.Test.YtepbhmebidmnbaaDoorBfArg
namespace Go.Proofs.YtepbhmebidmnbaaDoor
open Go.RowKit Go.Shelf Go.Lib
attribute [local go_sem] Oper.semAt_some

/-- an operation in a box of its own -/
def OpBox (W : World) (r : Nat) (v : Array Value) : Prop := W.heap[r]? = some (.cells v 35 (0, 0))
theorem OpBox.lt {W : World} {r : Nat} {v : Array Value} (h : OpBox W r v) : r < W.heap.size := (Array.getElem?_eq_some_iff.1 h).1
theorem OpBox.below {W W' : World} {r : Nat} {v : Array Value} (h : OpBox W r v) (hb : Below W.heap.size W W') : OpBox W' r v := (hb.block r h.lt).trans h
theorem OpBox.touch {W W' : World} {r g : Nat} {v : Array Value} (h : OpBox W r v) (ht : Touch (Only g) W W') (hr : r ≠ g) : OpBox W' r v := (ht.block r h.lt (fun e => hr e)).trans h
theorem OpBox.cell {W : World} {r : Nat} {v : Array Value} (h : OpBox W r v) (k : Nat) : W.cell? ⟨r, k, none⟩ = v[k]? := cell_of_row W r k _ _ _ h
theorem zero_made : (Tryd.zeroCells70)[1026]? = some (.bool false) := by kernel_rfl
/-- the two buffers -/
def TwoAt (W : World) (r z : Nat) : Prop := W.heap[r]? = some (.cells #[.pointer none, .pointer (some ⟨z, 0, none⟩)] 24 (0, 0))
theorem TwoAt.below {W W' : World} {r z : Nat} (h : TwoAt W r z) (hb : Below W.heap.size W W') : TwoAt W' r z := (hb.block r (Array.getElem?_eq_some_iff.1 h).1).trans h
structure NI (w wr : World) (r r2 z : Nat) (vs : Array Value) (q : Option Addr) : Prop where
  op : OpBox wr r vs
  two : TwoAt wr r2 z
  uz : Unus wr (some ⟨z, 0, none⟩)
  uq : Unus wr q
  b : Below w.heap.size w wr
theorem NI.below {w wr wr' : World} {r r2 z : Nat} {vs : Array Value} {q : Option Addr} (h : NI w wr r r2 z vs q) (hb : Below wr.heap.size wr wr') : NI w wr' r r2 z vs q :=
  ⟨h.op.below hb, h.two.below hb, h.uz.below hb, h.uq.below hb, h.b.trans (hb.mono h.b.size)⟩
theorem NI.to {w wr : World} {r r2 z : Nat} {vs : Array Value} {q q' : Option Addr} (h : NI w wr r r2 z vs q) (hq : Unus wr q') : NI w wr r r2 z vs q' := ⟨h.op, h.two, h.uz, hq, h.b⟩
theorem NI.at {w wr : World} {r r2 z : Nat} {vs : Array Value} {q : Option Addr} (h : NI w wr r r2 z vs q) {k : Nat} (hk : k < 2) : ∃ q', wr.cell? ⟨r2, k, none⟩ = some (.pointer q') ∧ Unus wr q' := by
  match k, hk with
  | 0, _ => exact ⟨none, cell_of_row _ _ 0 _ _ _ h.two, .inl rfl⟩
  | 1, _ => exact ⟨some ⟨z, 0, none⟩, cell_of_row _ _ 1 _ _ _ h.two, h.uz⟩
theorem ni_start {w w1 : World} {r : Nat} {vs : Array Value} (h : OpBox w1 r vs) (hb : Below w.heap.size w w1) :
    NI w ((w1.alloc (.cells Tryd.zeroCells70 70)).alloc (.cells #[.pointer none, .pointer (some ⟨w1.heap.size, 0, none⟩)] 24)) r (w1.heap.size + 1) w1.heap.size vs none := by
  have h1 : Below w1.heap.size w1 (w1.alloc (.cells Tryd.zeroCells70 70)) := (Below.refl _ _).alloc (Nat.le_refl _) _
  have hs : (w1.alloc (.cells Tryd.zeroCells70 70)).heap.size = w1.heap.size + 1 := by simp
  have h2 : Below (w1.alloc (.cells Tryd.zeroCells70 70)).heap.size (w1.alloc (.cells Tryd.zeroCells70 70)) ((w1.alloc (.cells Tryd.zeroCells70 70)).alloc (.cells #[.pointer none, .pointer (some ⟨w1.heap.size, 0, none⟩)] 24)) := (Below.refl _ _).alloc (Nat.le_refl _) _
  have hz : Unus (w1.alloc (.cells Tryd.zeroCells70 70)) (some ⟨w1.heap.size, 0, none⟩) :=
    .inr ⟨w1.heap.size, rfl, by rw [cell_of_row _ w1.heap.size 1026 _ _ _ (alloc_new w1 _)]; exact zero_made, by rw [hs]; omega⟩
  have hn := alloc_new (w1.alloc (.cells Tryd.zeroCells70 70)) (.cells #[.pointer none, .pointer (some ⟨w1.heap.size, 0, none⟩)] 24)
  rw [hs] at hn
  exact ⟨(h.below h1).below h2, hn, hz.below h2, .inl rfl, (hb.trans (h1.mono hb.size)).trans (h2.mono (hb.trans (h1.mono hb.size)).size)⟩
theorem edit_below (w : World) : Below w.heap.size w (w.alloc (.cells #[.int .i64 0, .slice none 0 0, .slice none 0 0] 33)) := (Below.refl _ _).alloc (Nat.le_refl _) _
theorem field_text (W : World) (t : Value) (p m : Int) : (Instr.field 55 (lineV t p m) 0).run Tryd.prog W = .ok t W := by kernel_rfl
set_option maxRecDepth 1000000 in
set_option maxHeartbeats 8000000 in
theorem none_walk (w : World) (hT : WidTab w) (k a b p : Int) (At : Option Addr) (nt ct : Nat) (Ad : Option Addr) (nd cd : Nat) (Ai : Option Addr) (ni ci : Nat) :
    Calls Tryd.prog 9 #[.agg #[.int .i64 k, .int .i64 a, .int .i64 b, .slice At nt ct, .int .i64 p, .slice Ad nd cd, .slice Ai ni ci]] w fun e w' => e = .returned (.bool true) ∧ Below w.heap.size w w' := by
  have hb0 : Below w.heap.size w (w.alloc (.cells #[.int .i64 k, .int .i64 a, .int .i64 b, .slice At nt ct, .int .i64 p, .slice Ad nd cd, .slice Ai ni ci] 35)) := (Below.refl _ _).alloc (Nat.le_refl _) _
  have CL := Lib.hid (live_any _ (hT.below hb0))
  have X0 : Hid (OpBox (w.alloc (.cells #[.int .i64 k, .int .i64 a, .int .i64 b, .slice At nt ct, .int .i64 p, .slice Ad nd cd, .slice Ai ni ci] 35)) w.heap.size #[.int .i64 k, .int .i64 a, .int .i64 b, .slice At nt ct, .int .i64 p, .slice Ad nd cd, .slice Ai ni ci]) := Lib.hid (alloc_new _ _)
  have B0 := Lib.hid hb0
  have hfield : ∀ W, (Instr.field 55 (lineV (.slice none 0 0) 0 0) 0).run Tryd.prog W = .ok (.slice none 0 0) W := fun W => field_text W _ _ _
  clear hb0 hT
  go_enter Tryd.func9, Tryd.ntmps9
  go_wp2_with (first
    | (go_at_call 13; refine (CL.out).mono ?_; rintro e w1 ⟨rfl, hb1⟩; have S0 := Lib.hid (ni_start (X0.out.below hb1) (B0.out.trans (hb1.mono B0.out.size))); clear hb1))
  generalize (w1.alloc (.cells Tryd.zeroCells70 70)).alloc (.cells #[.pointer none, .pointer (some ⟨w1.heap.size, 0, none⟩)] 24) = W0 at *
  go_loopw [17] (fun v17 wr => ∃ j : Nat, j ≤ 2 ∧ v17 = .int .i64 j ∧ NI w wr w.heap.size (w1.heap.size + 1) w1.heap.size #[.int .i64 k, .int .i64 a, .int .i64 b, .slice At nt ct, .int .i64 p, .slice Ad nd cd, .slice Ai ni ci] none) (fun v17 _ => 2 - (RowKit.intOf v17).toNat)
  case atStart => exact ⟨0, by omega, rfl, S0.out⟩
  case round =>
    obtain ⟨j, hj, rfl, hI⟩ := hrel
    by_cases hlt : j < 2
    · obtain ⟨q, hq, hu⟩ := hI.at hlt
      have I := Lib.hid (hI.to hu)
      have o1 := I.out.op.cell 1
      have o2 := I.out.op.cell 2
      have o3 := I.out.op.cell 3
      have i1 : (0 : Int) ≤ (j : Int) := by omega
      have i2 : ((j : Int) < 2) = True := by simp; omega
      have hwj : wrap64 ((j : Int) + 1) = (j : Int) + 1 := by unfold wrap64; omega
      have HJ := Lib.hid hlt
      clear hI hlt hj hu
      go_wp2_with (first
        | (go_at_call 40; refine (insertN_any _ q _ _ _ I.out.uq).mono ?_; rintro e w2 ⟨rfl, hb⟩; have I := Lib.hid ((I.out.below hb).below (edit_below w2)); have o1 := I.out.op.cell 1; have o2 := I.out.op.cell 2; have o3 := I.out.op.cell 3; clear hb)
        | (go_at_call 41; refine (deleteN_any _ q _ _ I.out.uq).mono ?_; rintro e w3 ⟨rfl, hb⟩; have I := Lib.hid ((I.out.below hb).below (edit_below w3)); have o1 := I.out.op.cell 1; have o2 := I.out.op.cell 2; have o3 := I.out.op.cell 3; clear hb)
        | (go_at_call 15; refine (replaceN_any _ q _ _ _ _ _ I.out.uq).mono ?_; rintro e w4 ⟨rfl, hb⟩; have I := Lib.hid ((I.out.below hb).below (edit_below w4)); have o4 := I.out.op.cell 4; have o5 := I.out.op.cell 5; have o6 := I.out.op.cell 6; clear hb)
        | (go_at_call 36; refine (applyN_any _ q _ _ _ _ _ _ _ I.out.uq).mono ?_; rintro e w5 ⟨rfl, hb⟩; have I := Lib.hid (I.out.below hb); clear hb)
        | (go_at_call 16; refine (moveN_any _ q _ I.out.uq).mono ?_; rintro e w6 ⟨rfl, rfl⟩)
        | (go_at_call 42; refine (setMarkN_any _ q _ I.out.uq).mono ?_; rintro e w6 ⟨rfl, rfl⟩)
        | (go_at_call 43; refine (swapN_any _ q I.out.uq).mono ?_; rintro e w6 ⟨rfl, rfl⟩)
        | (go_at_call 34; refine (textN_any _ q I.out.uq).mono ?_; rintro e w6 ⟨rfl, rfl⟩)
        | (go_at_call 45; refine (lenN_any _ q I.out.uq).mono ?_; rintro e w6 ⟨rfl, rfl⟩)
        | (go_at_call 35; refine (pointN_any _ q I.out.uq).mono ?_; rintro e w6 ⟨rfl, rfl⟩)
        | (go_at_call 46; refine (markN_any _ q I.out.uq).mono ?_; rintro e w6 ⟨rfl, rfl⟩)
        | (go_at_call 14; refine (cloneN_any _ q I.out.uq).mono ?_; rintro e w6 ⟨rfl, rfl⟩)
        | (go_at_call 39; refine (lineN_any _ q I.out.uq).mono ?_; rintro e w7 ⟨rfl, hb⟩; have I := Lib.hid (I.out.below hb); clear hb))
      go_roundw
      case rel => exact ⟨j + 1, HJ.out, by rw [hwj]; rfl, I.out.to (.inl rfl)⟩
      case measure => rw [hwj]; clear hwj; have := HJ.out; simp [RowKit.intOf]; omega
    · obtain rfl : j = 2 := by omega
      have I := Lib.hid hI
      clear hI hlt hj
      go_wp2
      go_ret
      exact ⟨rfl, I.out.b⟩
theorem OpOk.forms {W : World} {o : OpB} (h : OpOk W o) : (∃ A c, o.tv = .slice A o.x.length c) ∧ (∃ A c, o.dv = .slice A o.del.length c) ∧ (∃ A c, o.iv = .slice A o.ins.length c) := by
  obtain ⟨A1, c1, e1, _⟩ := h.t
  obtain ⟨A2, c2, e2, _⟩ := h.d
  obtain ⟨A3, c3, e3, _⟩ := h.i
  rw [runeVals_length] at e1 e2 e3
  exact ⟨⟨A1, c1, e1⟩, ⟨A2, c2, e2⟩, ⟨A3, c3, e3⟩⟩
theorem none_op (w : World) (hT : WidTab w) (o : OpB) (h : OpOk w o) : Calls Tryd.prog 9 #[o.val] w fun e w' => e = .returned (.bool true) ∧ Below w.heap.size w w' := by
  obtain ⟨⟨A1, c1, e1⟩, ⟨A2, c2, e2⟩, ⟨A3, c3, e3⟩⟩ := h.forms
  show Calls Tryd.prog 9 #[.agg #[.int .i64 o.k, .int .i64 o.a, .int .i64 o.b, o.tv, .int .i64 o.p, o.dv, o.iv]] w _
  rw [e1, e2, e3]
  exact none_walk w hT _ _ _ _ _ _ _ _ _ _ _ _ _
end Go.Proofs.YtepbhmebidmnbaaDoor
