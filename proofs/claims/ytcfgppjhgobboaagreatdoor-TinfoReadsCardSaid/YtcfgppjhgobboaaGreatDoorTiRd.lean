/-
  Slices of bytes and of integers that are read: parts of them, and how they are cut. No program is walked here, and nothing is assumed.
  The reader of package tinfo: a flaw, the next bytes.
  The reader of package tinfo: integers.
  The reader of package tinfo: flags, numbers; what ends too early.
-/
import Derived.Test.YtcfgppjhgobboaaGreatDoorTiReadP
import Derived.WalkLawsBesides
import Derived.Deep.QuietTactic
import Derived.BigQuiet
import Derived.Lib.EndianBits
namespace Go.Proofs.YtcfgppjhgobboaaGreatDoor
section
open Go.RowKit Go.Shelf Go.Lib

def byteVals (s : List UInt8) : List Value := s.map fun b => .int .u8 b.toNat
theorem byteVals_length (s : List UInt8) : (byteVals s).length = s.length := by simp [byteVals]
theorem byteVals_at {s : List UInt8} {i : Nat} (h : i < s.length) : (byteVals s)[i]? = some (.int .u8 (byteAt s i).toNat) := by
  simp [byteVals, byteAt, h]
/-- a slice that reads as bytes -/
def BytesV (W : World) (v : Value) (l : List UInt8) : Prop := ∃ A cap, v = .slice A l.length cap ∧ l.length ≤ cap ∧ l.length ≤ 140737488351232 ∧ Src W 1 A cap l.length (byteVals l)
theorem BytesV.below {W W' : World} {v : Value} {l : List UInt8} (h : BytesV W v l) (hb : Below W.heap.size W W') : BytesV W' v l := by
  obtain ⟨A, cap, e, h1, h2, h3⟩ := h
  exact ⟨A, cap, e, h1, h2, h3.below hb⟩
theorem BytesV.form {W : World} {v : Value} {l : List UInt8} (h : BytesV W v l) : ∃ A cap, v = .slice A l.length cap ∧ l.length ≤ cap ∧ l.length ≤ 140737488351232 := by
  obtain ⟨A, cap, e, h1, h2, _⟩ := h
  exact ⟨A, cap, e, h1, h2⟩
theorem BytesV.cell {W : World} {A : Option Addr} {n cap : Nat} {l : List UInt8} (h : BytesV W (.slice A n cap) l) {i : Nat} (hi : i < l.length) : ∃ k off, A = some ⟨k, off, none⟩ ∧ k < W.heap.size ∧ W.cell? ⟨k, off + i, none⟩ = some (.int .u8 (byteAt l i).toNat) := by
  obtain ⟨A', cap', e, _, _, h3⟩ := h
  injection e with e1 e2 e3
  subst e1
  obtain ⟨k, off, e, hk, hc⟩ := h3.cells (by omega)
  exact ⟨k, off, e, hk, hc i _ (byteVals_at hi)⟩
theorem part_length (b : List UInt8) {p n : Nat} (h : p + n ≤ b.length) : (part b p n).length = n := by
  unfold part
  rw [List.length_take, List.length_drop]
  omega
theorem byteAt_part (b : List UInt8) {p n i : Nat} (h : i < n) : byteAt (part b p n) i = byteAt b (p + i) := by
  unfold byteAt part
  simp [List.getD_eq_getElem?_getD, h]
theorem src_part {W : World} {size c m p n : Nat} {A : Option Addr} {xs : List Value} (h : Src W size A c m xs) (hp : p + n ≤ m) (hmc : m ≤ c) : Src W size (tailA A c p size) (c - p) n ((xs.drop (p * size)).take (n * size)) := by
  have hl := h.len
  have hmul : p * size + n * size ≤ m * size := by rw [← Nat.add_mul]; exact Nat.mul_le_mul_right _ hp
  refine ⟨by rw [List.length_take, List.length_drop]; omega, fun e => ?_, fun hn => ?_⟩
  · unfold tailA at e
    split at e
    · next hcp => have := h.nil e; omega
    · cases A with
      | none => have := h.nil rfl; omega
      | some a => cases e
  · obtain ⟨k, off, e, hk, hc⟩ := h.cells (by omega)
    subst e
    refine ⟨k, off + p * size, ?_, hk, fun j u hu => ?_⟩
    · unfold tailA
      rw [if_neg (by omega)]
      simp [add_off]
    · rw [List.getElem?_take] at hu
      split at hu
      · rw [List.getElem?_drop] at hu
        rw [Nat.add_assoc]
        exact hc _ u hu
      · cases hu
/-- a part of a slice -/
theorem BytesV.part {W : World} {A : Option Addr} {n cap p m : Nat} {l : List UInt8} (h : BytesV W (.slice A n cap) l) (hp : p + m ≤ l.length) : BytesV W (.slice (tailA A cap p 1) m (cap - p)) (part l p m) := by
  obtain ⟨A', cap', e, h1, h2, h3⟩ := h
  injection e with e1 e2 e3
  subst e1 e3
  have hs := src_part h3 hp h1
  have hl := part_length l hp
  refine ⟨_, _, by rw [hl], by rw [hl]; omega, by rw [hl]; omega, ?_⟩
  rw [hl]
  have : byteVals (Go.Proofs.YtcfgppjhgobboaaGreatDoor.part l p m) = ((byteVals l).drop (p * 1)).take (m * 1) := by
    unfold byteVals Go.Proofs.YtcfgppjhgobboaaGreatDoor.part
    rw [Nat.mul_one, Nat.mul_one, List.map_take, List.map_drop]
  rw [this]
  exact hs
theorem size_u8 (w : World) : (Go.sizeOf 5).run Tryz.prog w = .ok 1 w := by kernel_rfl
theorem size_int (w : World) : (Go.sizeOf 3).run Tryz.prog w = .ok 1 w := by kernel_rfl
/-- 's[l:h]', 's[:h]', 's[l:]' -/
theorem slice_both {P : Program} (t e : TypeId) (ht : P.underlying t = some (.slice e)) (size : Nat) (hz : ∀ w, (Go.sizeOf e).run P w = .ok size w) (A : Option Addr) (n cap l h : Nat) (hl : l ≤ h) (hh : h ≤ cap) (W : World) :
    (Instr.slice t (.slice A n cap) (some (.int .i64 (l : Int))) (some (.int .i64 (h : Int))) none).run P W = .ok (.slice (tailA A cap l size) (h - l) (cap - l)) W := by
  have ht' : P.underlying t = some (.slice (P.elem t)) := by simp [Program.elem, ht]
  have he : P.elem t = e := by simp [Program.elem, ht]
  rw [run_slice_lh W t _ _ _ ht' .i64 .i64 _ _ (by omega) (by omega) (by omega), he, hz]
  simp [Result.andThen, sliced, tailA]
theorem slice_head {P : Program} (t e : TypeId) (ht : P.underlying t = some (.slice e)) (size : Nat) (hz : ∀ w, (Go.sizeOf e).run P w = .ok size w) (A : Option Addr) (n cap h : Nat) (hh : h ≤ cap) (W : World) :
    (Instr.slice t (.slice A n cap) none (some (.int .i64 (h : Int))) none).run P W = .ok (.slice A h cap) W := by
  have ht' : P.underlying t = some (.slice (P.elem t)) := by simp [Program.elem, ht]
  have he : P.elem t = e := by simp [Program.elem, ht]
  rw [run_slice_h W t _ _ _ ht' .i64 _ (by omega) (by omega), he, hz]
  by_cases h0 : cap = 0
  · simp [Result.andThen, sliced, h0]
  · cases A with
    | none => simp [Result.andThen, sliced]
    | some a =>
      have : a.add 0 = a := by cases a; simp [Addr.add]
      simp [Result.andThen, sliced, this]
theorem slice_tail {P : Program} (t e : TypeId) (ht : P.underlying t = some (.slice e)) (size : Nat) (hz : ∀ w, (Go.sizeOf e).run P w = .ok size w) (A : Option Addr) (n cap l : Nat) (hl : l ≤ n) (W : World) :
    (Instr.slice t (.slice A n cap) (some (.int .i64 (l : Int))) none none).run P W = .ok (.slice (tailA A cap l size) (n - l) (cap - l)) W := by
  have ht' : P.underlying t = some (.slice (P.elem t)) := by simp [Program.elem, ht]
  have he : P.elem t = e := by simp [Program.elem, ht]
  rw [run_slice_l W t _ _ _ ht' .i64 _ (by omega) (by omega), he, hz]
  simp [Result.andThen, sliced, tailA]
theorem wpList_slice_run {P : Program} {ops : Array Oper} {rest : List Oper} {o : Oper} {a : Act} {Q : Exit → Act → World → Prop} {w : World} {t e : TypeId} {u v' : Value} {lo hi : Option Value} (hrun : ∀ W, (Instr.slice t u lo hi none).run P W = .ok v' W) (ht : P.underlying t = some (.slice e)) (hgd : o.guard = none) (x : Operand) (l h : Option Operand)
    (ho : o.op = Op.slice t x l h none) (hx : a.eval x = u) (hl : l.map a.eval = lo) (hh : h.map a.eval = hi) (hK : wpList P ops Q rest (a.put o.dst v') w) : wpList P ops Q (o :: rest) a w := by
  refine wpList_plain hgd fun K hk => ?_
  have ht' : P.underlying t = some (.slice (P.elem t)) := by simp [Program.elem, ht]
  unfold Oper.wp execOp
  simp only [ho, hx, hl, hh, Option.map_none, run_sliceAt_slice w t _ _ _ _ ht', Sem.run_bind, Sem.run_pure, Result.andThen_ok, hrun]
  exact hk _ _ hK

/-! ### integers -/
def intVals (l : List Int) : List Value := l.map fun z => .int .i64 z
theorem intVals_length (l : List Int) : (intVals l).length = l.length := by simp [intVals]
/-- a slice that reads as integers -/
def IntsV (W : World) (v : Value) (l : List Int) : Prop := ∃ A cap, v = .slice A l.length cap ∧ l.length ≤ cap ∧ l.length ≤ 100000 ∧ Src W 1 A cap l.length (intVals l)
theorem IntsV.below {W W' : World} {v : Value} {l : List Int} (h : IntsV W v l) (hb : Below W.heap.size W W') : IntsV W' v l := by
  obtain ⟨A, cap, e, h1, h2, h3⟩ := h
  exact ⟨A, cap, e, h1, h2, h3.below hb⟩
theorem IntsV.form {W : World} {v : Value} {l : List Int} (h : IntsV W v l) : ∃ A cap, v = .slice A l.length cap ∧ l.length ≤ cap ∧ l.length ≤ 100000 := by
  obtain ⟨A, cap, e, h1, h2, _⟩ := h
  exact ⟨A, cap, e, h1, h2⟩
theorem IntsV.cell {W : World} {A : Option Addr} {n cap : Nat} {l : List Int} (h : IntsV W (.slice A n cap) l) {i : Nat} {z : Int} (hi : l[i]? = some z) : ∃ k off, A = some ⟨k, off, none⟩ ∧ k < W.heap.size ∧ W.cell? ⟨k, off + i, none⟩ = some (.int .i64 z) := by
  obtain ⟨A', cap', e, _, _, h3⟩ := h
  injection e with e1 e2 e3
  subst e1
  have hlt := (List.getElem?_eq_some_iff.1 hi).1
  obtain ⟨k, off, e, hk, hc⟩ := h3.cells (by omega)
  exact ⟨k, off, e, hk, hc i _ (by simp [intVals, hi])⟩
def IntRow (W : World) (v : Value) (l : List Int) : Prop := W.ownsRow 0 3 1 v l.length (intVals l)
theorem IntRow.reads {w : World} {v : Value} {l : List Int} (h : IntRow w v l) (hl : l.length ≤ 100000) : IntsV w v l := by
  obtain ⟨A, cap, e, h1, h2⟩ := own_src h
  exact ⟨A, cap, e, h1, hl, h2⟩
theorem IntRow.form {w : World} {v : Value} {l : List Int} (h : IntRow w v l) : ∃ A cap, v = .slice A l.length cap := by
  obtain ⟨A, cap, e, _⟩ := own_form h
  exact ⟨A, cap, e⟩
theorem info_int : (Tryz.prog.info? 3).map (fun i => (i.zero, i.size, i.bytes)) = some (some (.int .i64 0), 1, 8) := by kernel_rfl
theorem info_str : (Tryz.prog.info? 9).map (fun i => (i.zero, i.size, i.bytes)) = some (some (.string ⟨#[]⟩), 1, 16) := by kernel_rfl
end

section
open Go.RowKit Go.Shelf Go.Lib
attribute [local go_sem] Oper.semAt_some

/-- what a reader panics with -/
theorem drewN_two' (w : World) (a b : Nat) : ∃ n, (w.drewN a).drewN b = w.drewN n := drewN_two w a b
theorem ret_int {k : IntKind} {a b : Int} (h : a = b) : Ending.returned (.int k a) = .returned (.int k b) := by rw [h]
abbrev flawE (p : Nat) (er : Int) : Ending := .panicked [{ v := .iface 56 (.agg #[.int .i64 p, .int .i64 er]), recovered := false }]
theorem fail_any (w : World) (p : Nat) (er : Int) : Calls Tryz.prog 72 #[.int .i64 p, .int .i64 er] w fun e w' => e = flawE p er ∧ w = w' := by
  go_enter Tryz.func72, Tryz.ntmps72
  go_wp2
  exact ⟨rfl, rfl, rfl⟩

theorem BytesV.size {W : World} {A : Option Addr} {n cap : Nat} {l : List UInt8} (h : BytesV W (.slice A n cap) l) : l.length ≤ cap ∧ l.length ≤ 140737488351232 := by
  obtain ⟨A', cap', e, h1, h2, _⟩ := h
  injection e with _ _ e
  omega
/-- a reader in its block: its bytes stay while it is written -/
structure RdAt (W : World) (rb : Nat) (v : Value) (b : List UInt8) (p size : Nat) : Prop where
  box : W.heap[rb]? = some (.cells #[v, .int .i64 p, .int .i64 size] 60 (0, 0))
  bytes : ∀ W', Touch (fun k => k = rb) W W' → BytesV W' v b
  pos : p ≤ b.length
theorem RdAt.lt {W : World} {rb : Nat} {v : Value} {b : List UInt8} {p size : Nat} (h : RdAt W rb v b p size) : rb < W.heap.size := (Array.getElem?_eq_some_iff.1 h.box).1
theorem RdAt.cells {W : World} {rb : Nat} {v : Value} {b : List UInt8} {p size : Nat} (h : RdAt W rb v b p size) : W.cell? ⟨rb, 0, none⟩ = some v ∧ W.cell? ⟨rb, 1, none⟩ = some (.int .i64 p) ∧ W.cell? ⟨rb, 2, none⟩ = some (.int .i64 size) ∧ W.frozen? ⟨rb, 0, none⟩ = false ∧ W.frozen? ⟨rb, 1, none⟩ = false ∧ W.frozen? ⟨rb, 2, none⟩ = false :=
  ⟨cell_of_row W rb 0 _ _ _ h.box, cell_of_row W rb 1 _ _ _ h.box, cell_of_row W rb 2 _ _ _ h.box, frozen_of_row W rb 0 _ _ h.box, frozen_of_row W rb 1 _ _ h.box, frozen_of_row W rb 2 _ _ h.box⟩
theorem RdAt.val {W : World} {rb : Nat} {v : Value} {b : List UInt8} {p size : Nat} (h : RdAt W rb v b p size) : BytesV W v b := h.bytes W (Touch.refl _ _)
theorem RdAt.below {W W' : World} {rb : Nat} {v : Value} {b : List UInt8} {p size : Nat} (h : RdAt W rb v b p size) (hb : Below W.heap.size W W') : RdAt W' rb v b p size :=
  ⟨(hb.block _ h.lt).trans h.box, fun W2 h2 => h.bytes W2 ((Touch.of_below hb).trans h2), h.pos⟩
theorem RdAt.set {W : World} {rb : Nat} {v : Value} {b : List UInt8} {p size : Nat} (h : RdAt W rb v b p size) (q : Nat) (hq : q ≤ b.length) : RdAt (W.setCell ⟨rb, 1, none⟩ (.int .i64 q)) rb v b q size :=
  ⟨heap_setCell_same W rb 1 _ _ (.int .i64 q) h.box, fun W2 h2 => h.bytes W2 ((Touch.setCell (T := fun k => k = rb) W ⟨rb, 1, none⟩ _ rfl).trans h2), hq⟩
theorem RdAt.setSize {W : World} {rb : Nat} {v : Value} {b : List UInt8} {p size : Nat} (h : RdAt W rb v b p size) (q : Nat) : RdAt (W.setCell ⟨rb, 2, none⟩ (.int .i64 q)) rb v b p q :=
  ⟨heap_setCell_same W rb 2 _ _ (.int .i64 q) h.box, fun W2 h2 => h.bytes W2 ((Touch.setCell (T := fun k => k = rb) W ⟨rb, 2, none⟩ _ rfl).trans h2), h.pos⟩
/-- behind a step of a reader -/
def Step (w : World) (rb : Nat) (v : Value) (b : List UInt8) (p size : Nat) (w' : World) : Prop := RdAt w' rb v b p size ∧ Touch (fun k => k = rb) w w'
theorem Step.next {w w' : World} {rb : Nat} {v : Value} {b : List UInt8} {p size : Nat} {W : World} (h : Step w rb v b p size W) (hb : Below W.heap.size W w') : Step w rb v b p size w' := ⟨h.1.below hb, h.2.trans (Touch.of_below hb)⟩
theorem drewN_below (w : World) (n : Nat) : Below w.heap.size w (w.drewN n) := below_drewN (Below.refl _ _) n
theorem touch_drewN (T : Nat → Prop) (w : World) (n : Nat) : Touch T w (w.drewN n) := Touch.drewN w n

set_option maxRecDepth 100000 in
set_option maxHeartbeats 2000000 in
theorem take_bad (w : World) (rb : Nat) (v : Value) (b : List UInt8) (p size n : Nat) (h : RdAt w rb v b p size) (hn : n ≤ 140737488351232) (hbad : b.length < p + n) :
    Calls Tryz.prog 64 #[.pointer (some ⟨rb, 0, none⟩), .int .i64 n] w fun e w' => e = flawE b.length 31 ∧ Touch (fun k => k = rb) w w' := by
  obtain ⟨A, cap, rfl, h1, h2⟩ := h.val.form
  obtain ⟨c0, c1, c2, _, _, _⟩ := h.cells
  have hp := h.pos
  have i1 : (b.length : Int) - (p : Int) < (n : Int) := by omega
  clear h hbad
  go_enter Tryz.func64, Tryz.ntmps64
  go_wp2
  go_quiet (fail)
  go_wp2_with (go_at_call 72; refine (fail_any _ _ _).mono ?_; rintro e w' ⟨rfl, rfl⟩)
  exact ⟨rfl, rfl, touch_drewN _ _ _⟩

set_option maxRecDepth 100000 in
set_option maxHeartbeats 2000000 in
theorem take_ok (w : World) (rb : Nat) (A : Option Addr) (cap : Nat) (b : List UInt8) (p size n : Nat) (h : RdAt w rb (.slice A b.length cap) b p size) (hok : p + n ≤ b.length) :
    Calls Tryz.prog 64 #[.pointer (some ⟨rb, 0, none⟩), .int .i64 n] w fun e w' => e = .returned (.slice (tailA A cap p 1) n (cap - p)) ∧ Step w rb (.slice A b.length cap) b (p + n) size w' := by
  obtain ⟨h1, h2⟩ := h.val.size
  obtain ⟨c0, c1, c2, f0, f1, f2⟩ := h.cells
  have HS : Hid (∀ N, Step w rb (.slice A b.length cap) b (p + n) size ((w.drewN N).setCell ⟨rb, 1, none⟩ (.int .i64 ((p : Int) + (n : Int))))) := Lib.hid fun N => ⟨by have := (h.below (drewN_below w N)).set _ hok; rwa [Int.natCast_add] at this, (touch_drewN _ w N).trans (Touch.setCell (T := fun k => k = rb) _ ⟨rb, 1, none⟩ _ rfl)⟩
  have i1 : ¬ (b.length : Int) - (p : Int) < (n : Int) := by omega
  have i2 : (p : Int) + (n : Int) ≤ 140737488351232 := by omega
  have hsl : ∀ W, (Instr.slice 22 (.slice A b.length cap) (some (.int .i64 p)) (some (.int .i64 ((p : Int) + (n : Int)))) none).run Tryz.prog W = .ok (.slice (tailA A cap p 1) n (cap - p)) W := fun W => by
    have := slice_both (P := Tryz.prog) 22 5 Tryz.underlying22 1 size_u8 A b.length cap p (p + n) (by omega) (by omega) W
    rw [show p + n - p = n by omega] at this
    exact_mod_cast this
  clear h hok
  go_enter Tryz.func64, Tryz.ntmps64
  go_wp2
  go_quiet (fail)
  go_wp2
  go_quiet (fail)
  go_wp2
  go_ret
  exact ⟨rfl, HS.out _⟩

set_option maxRecDepth 100000 in
theorem even_ok (w : World) (rb : Nat) (A : Option Addr) (cap : Nat) (b : List UInt8) (p size : Nat) (h : RdAt w rb (.slice A b.length cap) b p size) (hok : evenUp p ≤ b.length) :
    Calls Tryz.prog 66 #[.pointer (some ⟨rb, 0, none⟩)] w fun e w' => e = .returned (.tuple #[]) ∧ Step w rb (.slice A b.length cap) b (evenUp p) size w' := by
  obtain ⟨c0, c1, c2, f0, f1, f2⟩ := h.cells
  have ct := take_ok w rb A cap b p size (p % 2) h hok
  rw [Int.natCast_emod] at ct
  have CT := Lib.hid (show Calls Tryz.prog 64 #[.pointer (some ⟨rb, 0, none⟩), .int .i64 ((p : Int) % 2)] w fun e w' => e = .returned (.slice (tailA A cap p 1) (p % 2) (cap - p)) ∧ Step w rb (.slice A b.length cap) b (evenUp p) size w' from ct)
  have i0 : (0 : Int) ≤ (p : Int) := by omega
  clear h ct hok
  go_enter Tryz.func66, Tryz.ntmps66
  go_wp2_with (go_at_call 64; (with_reducible refine (CT.out).mono ?_); rintro e w' ⟨rfl, hs⟩; have HS := Lib.hid hs; clear hs)
  go_end0
  exact ⟨rfl, HS.out⟩
set_option maxRecDepth 100000 in
theorem even_bad (w : World) (rb : Nat) (v : Value) (b : List UInt8) (p size : Nat) (h : RdAt w rb v b p size) (hbad : b.length < evenUp p) :
    Calls Tryz.prog 66 #[.pointer (some ⟨rb, 0, none⟩)] w fun e w' => e = flawE b.length 31 ∧ Touch (fun k => k = rb) w w' := by
  obtain ⟨c0, c1, c2, f0, f1, f2⟩ := h.cells
  have ct := take_bad w rb v b p size (p % 2) h (by omega) hbad
  rw [Int.natCast_emod] at ct
  have CT := Lib.hid (show Calls Tryz.prog 64 #[.pointer (some ⟨rb, 0, none⟩), .int .i64 ((p : Int) % 2)] w fun e w' => e = flawE b.length 31 ∧ Touch (fun k => k = rb) w w' from ct)
  have i0 : (0 : Int) ≤ (p : Int) := by omega
  clear h ct hbad
  go_enter Tryz.func66, Tryz.ntmps66
  go_wp2_with (go_at_call 64; (with_reducible refine (CT.out).mono ?_); rintro e w' ⟨rfl, hs⟩; have HS := Lib.hid hs; clear hs)
  exact ⟨rfl, rfl, HS.out⟩
set_option maxRecDepth 100000 in
theorem flagState_any (w : World) (x : UInt8) : Calls Tryz.prog 113 #[.int .u8 x.toNat] w fun e w' => e = .returned (.int .i64 (capOfFlag x).st) ∧ w = w' := by
  have hst : (capOfFlag x).st = if x.toNat = 0 then 0 else if x.toNat = 254 then 2 else 1 := by
    unfold capOfFlag
    simp only
    have e0 : x = 0 ↔ x.toNat = 0 := by rw [← UInt8.toNat_inj]; rfl
    have e1 : x = 254 ↔ x.toNat = 254 := by rw [← UInt8.toNat_inj]; rfl
    simp only [e0, e1]
  rw [hst]
  generalize x.toNat = n at *
  clear hst
  by_cases h0 : n = 0
  · subst h0
    go_enter Tryz.func113, Tryz.ntmps113
    go_wp2
    go_ret
    exact ⟨rfl, rfl⟩
  · by_cases h1 : n = 254
    · subst h1
      go_enter Tryz.func113, Tryz.ntmps113
      go_wp2
      go_ret
      exact ⟨rfl, rfl⟩
    · have i0 : ¬ (n : Int) = 0 := by omega
      have i1 : ¬ (n : Int) = 254 := by omega
      go_enter Tryz.func113, Tryz.ntmps113
      go_wp2
      go_ret
      exact ⟨rfl, rfl⟩
set_option maxRecDepth 100000 in
theorem valueState_any (w : World) (n : Int) : Calls Tryz.prog 115 #[.int .i64 n] w fun e w' => e = .returned (.int .i64 (stateOf n)) ∧ w = w' := by
  unfold stateOf
  by_cases h0 : 0 ≤ n
  · rw [if_pos h0]
    go_enter Tryz.func115, Tryz.ntmps115
    go_wp2
    go_ret
    exact ⟨rfl, rfl⟩
  · rw [if_neg h0]
    by_cases h1 : n = -2
    · subst h1
      go_enter Tryz.func115, Tryz.ntmps115
      go_wp2
      go_ret
      exact ⟨rfl, rfl⟩
    · rw [if_neg h1]
      go_enter Tryz.func115, Tryz.ntmps115
      go_wp2
      go_ret
      exact ⟨rfl, rfl⟩
theorem wrap_i16 (n : Int) : IntKind.i16.wrap n = (n + 32768) % 65536 - 32768 := by
  simp [IntKind.wrap, IntKind.bits, IntKind.signed]
  split <;> omega
theorem signed2_val (x y : UInt8) : wrap64 (IntKind.i16.wrap (bits .or .u16 (IntKind.u16.wrap x.toNat) (IntKind.u16.wrap (IntKind.u16.wrap y.toNat * 256)))) = short2 x y := by
  have hx := x.toNat_lt
  have hy := y.toNat_lt
  rw [u16_wrap_id (x.toNat : Int) (by omega) (by omega), u16_wrap_id (y.toNat : Int) (by omega) (by omega), u16_wrap_id _ (by omega) (by omega), u16_or8 _ _ (by omega) (by omega) (by omega) (by omega) (by omega), wrap_i16]
  unfold short2
  split
  · rw [IntWalk.wrap64_in _ (by constructor <;> omega)]; omega
  · rw [IntWalk.wrap64_in _ (by constructor <;> omega)]; omega
set_option maxRecDepth 100000 in
theorem signed2_any (w : World) (A : Option Addr) (cap : Nat) (s : List UInt8) (hs : s.length = 2) (h : BytesV w (.slice A 2 cap) s) : Calls Tryz.prog 137 #[.slice A 2 cap] w fun e w' => e = .returned (.int .i64 (shortAt s 0)) ∧ ∃ n, w' = w.drewN n := by
  obtain ⟨k, off, rfl, _, c0⟩ := h.cell (i := 0) (by omega)
  obtain ⟨k', off', e, _, c1⟩ := h.cell (i := 1) (by omega)
  injection e with e
  injection e with e1 e2
  subst e1 e2
  rw [Nat.add_zero] at c0
  clear h hs
  unfold shortAt
  simp only [Nat.zero_add]
  generalize byteAt s 0 = x at *
  generalize byteAt s 1 = y at *
  go_enter Tryz.func137, Tryz.ntmps137
  go_wp2
  go_quiet (fail)
  go_wp2
  go_ret
  exact ⟨ret_int (signed2_val x y), _, rfl⟩
theorem signed4_val (x y z u : UInt8) : wrap64 (wrap32 (bits .or .u32 (bits .or .u32 (bits .or .u16 (IntKind.u16.wrap x.toNat) (IntKind.u16.wrap (IntKind.u16.wrap y.toNat * 256)) % 4294967296) ((z.toNat : Int) % 4294967296 * 65536 % 4294967296)) ((u.toNat : Int) % 4294967296 * 16777216 % 4294967296))) = int4 x y z u := by
  have hx := x.toNat_lt
  have hy := y.toNat_lt
  have hz := z.toNat_lt
  have hu := u.toNat_lt
  rw [u16_wrap_id (x.toNat : Int) (by omega) (by omega), u16_wrap_id (y.toNat : Int) (by omega) (by omega), u16_wrap_id _ (by omega) (by omega), u16_or8 _ _ (by omega) (by omega) (by omega) (by omega) (by omega)]
  rw [show (z.toNat : Int) % 4294967296 * 65536 % 4294967296 = (z.toNat : Int) * 65536 by omega, show (u.toNat : Int) % 4294967296 * 16777216 % 4294967296 = (u.toNat : Int) * 16777216 by omega, show ((x.toNat : Int) + (y.toNat : Int) * 256) % 4294967296 = (x.toNat : Int) + (y.toNat : Int) * 256 by omega]
  rw [u32_or16 ((x.toNat : Int) + (y.toNat : Int) * 256) ((z.toNat : Int) * 65536) (by omega) (by omega) (by omega) (by omega) (by omega), u32_or24 _ _ (by omega) (by omega) (by omega) (by omega) (by omega)]
  unfold int4 wrap32
  split
  · rw [IntWalk.wrap64_in _ (by constructor <;> omega)]; omega
  · rw [IntWalk.wrap64_in _ (by constructor <;> omega)]; omega
set_option maxRecDepth 100000 in
theorem signed4_any (w : World) (A : Option Addr) (cap : Nat) (s : List UInt8) (hs : s.length = 4) (h : BytesV w (.slice A 4 cap) s) : Calls Tryz.prog 137 #[.slice A 4 cap] w fun e w' => e = .returned (.int .i64 (wideAt s 0)) ∧ ∃ n, w' = w.drewN n := by
  obtain ⟨k, off, rfl, _, c0⟩ := h.cell (i := 0) (by omega)
  have at' : ∀ i, i < 4 → w.cell? ⟨k, off + i, none⟩ = some (.int .u8 (byteAt s i).toNat) := fun i hi => by
    obtain ⟨k', off', e, _, c1⟩ := h.cell (i := i) (by omega)
    injection e with e
    injection e with e1 e2
    subst e1 e2
    exact c1
  have c1 := at' 1 (by omega)
  have c2 := at' 2 (by omega)
  have c3 := at' 3 (by omega)
  rw [Nat.add_zero] at c0
  clear h hs at'
  unfold wideAt
  simp only [Nat.zero_add]
  generalize byteAt s 0 = x at *
  generalize byteAt s 1 = y at *
  generalize byteAt s 2 = z at *
  generalize byteAt s 3 = u at *
  go_enter Tryz.func137, Tryz.ntmps137
  go_wp2
  go_quiet (fail)
  go_wp2
  go_quiet (fail)
  go_wp2
  go_ret
  exact ⟨ret_int (signed4_val x y z u), drewN_two' w _ _⟩
end

section
open Go.RowKit Go.Shelf Go.Lib
attribute [local go_sem] Oper.semAt_some

theorem run_append_int (w : World) (ty : TypeId) (v : Value) (l : List Int) (hrow : IntRow w v l) (z : Int) {A : Addr} {cp : Nat} (h0 : w.cell? A = some (.int .i64 z)) (hl : l.length ≤ 100000) :
    ∃ v' w', (Builtin.append_ #[73, 73] ty #[v, .slice (some A) 1 cp]).run Tryz.prog w = .ok v' w' ∧ IntRow w' v' (l ++ [z]) ∧ w.grownBy w' v.ownBlock ∧ (v'.ownBlock = v.ownBlock ∨ v'.ownBlock = some w.heap.size) := by
  obtain ⟨i, hi, hz, hs2, hby⟩ := info_parts info_int
  obtain ⟨ab, ao, asp⟩ := A
  obtain rfl : asp = none := World.cell?_spot h0
  have hk : ab < w.heap.size := World.block_lt_of_cell? _ _ h0
  have hs : Src w 1 (some ⟨ab, ao, none⟩) cp 1 [.int .i64 z] := ⟨rfl, (fun e => by cases e), fun _ => ⟨ab, ao, rfl, hk, fun j u hu => by
    match j with
    | 0 => simp at hu; subst hu; exact h0
    | j + 1 => simp at hu⟩⟩
  obtain ⟨v', w', hr, h2, h3, h4⟩ := run_append_src (P := Tryz.prog) w 0 73 ty 3 i _ 1 8 Tryz.underlying73 hi hz hs2 hby rfl (by decide) v l.length (intVals l) hrow hs (fun u hu => by simp at hu; subst hu; rfl) (by unfold maxLen; omega) (by omega) (Nat.zero_le _)
  refine ⟨v', w', hr, ?_, h3, h4⟩
  unfold IntRow
  rw [List.length_append, show intVals (l ++ [z]) = intVals l ++ [.int .i64 z] by simp [intVals]]
  exact h2
theorem wpList_append_int {ops : Array Oper} {rest : List Oper} {o : Oper} {a : Act} {w : World} {Q : Exit → Act → World → Prop} (hgd : o.guard = none) (s x : Operand)
    (ho : o.op = .call { callee := .builtin .append, args := #[s, x], argTypes := #[73, 73] }) (v : Value) (l : List Int) (hs : a.eval s = v) (hrow : IntRow w v l) (z : Int) {A : Addr} {cp : Nat} (hx : a.eval x = .slice (some A) 1 cp)
    (h0 : w.cell? A = some (.int .i64 z)) (hl : l.length ≤ 100000)
    (h : ∀ v' w', IntRow w' v' (l ++ [z]) → w.grownBy w' v.ownBlock → (v'.ownBlock = v.ownBlock ∨ v'.ownBlock = some w.heap.size) → wpList Tryz.prog ops Q rest (a.put o.dst v') w') : wpList Tryz.prog ops Q (o :: rest) a w := by
  refine wpList_plain hgd fun K hK => ?_
  obtain ⟨v', w', hrun, r1, r2, r3⟩ := run_append_int w o.type v l hrow z (cp := cp) h0 hl
  unfold Oper.wp
  simp [execOp, ho, resolve, invoke, builtin, hs, hx, hrun, Result.andThen]
  exact hK _ _ (h v' w' r1 r2 r3)
theorem BytesV.head {W : World} {A : Option Addr} {n cap m : Nat} {l : List UInt8} (h : BytesV W (.slice A n cap) l) (hm : m ≤ l.length) : BytesV W (.slice A m cap) (l.take m) := by
  obtain ⟨A', cap', e, h1, h2, h3⟩ := h
  injection e with e1 e2 e3
  subst e1 e3
  have hl : (l.take m).length = m := by rw [List.length_take]; omega
  refine ⟨A, cap, by rw [hl], by omega, by omega, ?_⟩
  rw [hl]
  refine ⟨by rw [byteVals_length, hl, Nat.mul_one], fun e => ⟨by have := h3.nil e; omega, (h3.nil e).2⟩, fun hp => ?_⟩
  obtain ⟨k, off, e, hk, hc⟩ := h3.cells (by omega)
  refine ⟨k, off, e, hk, fun j u hu => hc j u ?_⟩
  unfold byteVals at hu ⊢
  rw [List.map_take, List.getElem?_take] at hu
  split at hu
  · exact hu
  · cases hu
theorem BytesV.drop {W : World} {A : Option Addr} {n cap m : Nat} {l : List UInt8} (h : BytesV W (.slice A n cap) l) (hm : m ≤ l.length) : BytesV W (.slice (tailA A cap m 1) (l.length - m) (cap - m)) (l.drop m) := by
  have := h.part (p := m) (m := l.length - m) (by omega)
  unfold Go.Proofs.YtcfgppjhgobboaaGreatDoor.part at this
  rw [List.take_of_length_le (by rw [List.length_drop]; omega)] at this
  exact this
theorem byteAt_take (l : List UInt8) {i m : Nat} (h : i < m) : byteAt (l.take m) i = byteAt l i := by
  unfold byteAt
  simp [List.getD_eq_getElem?_getD, h]
theorem byteAt_drop (l : List UInt8) (i m : Nat) : byteAt (l.drop m) i = byteAt l (m + i) := by
  unfold byteAt
  simp [List.getD_eq_getElem?_getD]
theorem numsAt_take (wide : Bool) (b : List UInt8) (p n k : Nat) (h : k < n) : (numsAt wide b p n).take (k + 1) = (numsAt wide b p n).take k ++ [numAt wide b (p + sizeOf wide * k)] := by
  rw [List.take_add_one]
  congr 1
  simp [numsAt, h]
theorem numsAt_length (wide : Bool) (b : List UInt8) (p n : Nat) : (numsAt wide b p n).length = n := by simp [numsAt]

/-- behind the reading of a row of integers -/
def IntsPost (w : World) (rb : Nat) (v : Value) (b : List UInt8) (p size : Nat) (l : List Int) (e : Ending) (w' : World) : Prop := ∃ u, e = .returned u ∧ IntRow w' u l ∧ (∀ k, u.ownBlock = some k → w.heap.size ≤ k) ∧ Step w rb v b p size w'
/-- while integers are read: those that are there, the bytes that are left -/
def IntsR (w2 : World) (c : List UInt8) (l : List Int) (sz n : Nat) (u s : Value) (W : World) : Prop :=
  ∃ k A cap, k ≤ n ∧ s = .slice A ((n - k) * sz) cap ∧ BytesV w2 (.slice A ((n - k) * sz) cap) (c.drop (k * sz)) ∧ IntRow W u (l.take k) ∧ (∀ j, u.ownBlock = some j → w2.heap.size ≤ j) ∧ Below w2.heap.size w2 W
theorem IntsR.next {w2 : World} {c : List UInt8} {l : List Int} {sz n : Nat} {W W2 W' : World} {u v' : Value} {k : Nat} {A : Option Addr} {cap : Nat} {z : Int} (hk : k < n) (hb : BytesV w2 (.slice A ((n - (k + 1)) * sz) cap) (c.drop ((k + 1) * sz))) (ho : ∀ j, u.ownBlock = some j → w2.heap.size ≤ j) (hB : Below w2.heap.size w2 W) (hz : l.take (k + 1) = l.take k ++ [z])
    (h1 : Below W.heap.size W W2) (hr : IntRow W' v' (l.take k ++ [z])) (hg : W2.grownBy W' u.ownBlock) (hv : v'.ownBlock = u.ownBlock ∨ v'.ownBlock = some W2.heap.size) : IntsR w2 c l sz n v' (.slice A ((n - (k + 1)) * sz) cap) W' := by
  have hB2 := hB.trans (h1.mono hB.size)
  refine ⟨k + 1, A, cap, hk, rfl, hb, by rw [hz]; exact hr, fun j hj => ?_, ?_⟩
  · rcases hv with hv | hv
    · exact ho j (hv ▸ hj)
    · rw [hv] at hj; injection hj with hj; have := hB2.size; omega
  · exact hB2.trans (grown_below hg (by have := hB2.size; omega) fun j hj => ho j hj)


set_option maxRecDepth 100000 in
set_option maxHeartbeats 2000000 in
theorem ints2_ok (w : World) (rb : Nat) (A : Option Addr) (cap : Nat) (b : List UInt8) (p size n : Nat) (h : RdAt w rb (.slice A b.length cap) b p size) (hn : n ≤ 100000) (hok : p + n * 2 ≤ b.length) :
    Calls Tryz.prog 114 #[.pointer (some ⟨rb, 0, none⟩), .int .i64 n, .int .i64 2] w (IntsPost w rb (.slice A b.length cap) b (p + n * 2) size (numsAt false b p n)) := by
  have ct := take_ok w rb A cap b p size (n * 2) h hok
  rw [Int.natCast_mul] at ct
  have CT := Lib.hid (show Calls Tryz.prog 64 #[.pointer (some ⟨rb, 0, none⟩), .int .i64 ((n : Int) * 2)] w fun e w' => e = .returned (.slice (tailA A cap p 1) (n * 2) (cap - p)) ∧ Step w rb (.slice A b.length cap) b (p + n * 2) size w' from ct)
  have HPT : Hid (∀ W, Step w rb (.slice A b.length cap) b (p + n * 2) size W → BytesV W (.slice (tailA A cap p 1) (n * 2) (cap - p)) (part b p (n * 2))) := Lib.hid (fun W hW => hW.1.val.part hok)
  obtain ⟨ii, hi, hz, hs, hby⟩ := info_parts info_int
  have HL := Lib.hid (part_length b hok)
  have HV : Hid (∀ k, k < n → numAt false ((part b p (n * 2)).drop (k * 2)) 0 = numAt false b (p + sizeOf false * k) ∧ shortAt (((part b p (n * 2)).drop (k * 2)).take 2) 0 = numAt false b (p + sizeOf false * k)) := Lib.hid (fun k hk => by
    have e : ∀ i, i < 2 → byteAt ((part b p (n * 2)).drop (k * 2)) i = byteAt b (p + sizeOf false * k + i) := fun i hi => by
      rw [byteAt_drop, byteAt_part b (by omega)]
      congr 1
      simp only [sizeOf]
      simp
      omega
    constructor
    · simp only [numAt, Bool.false_eq_true, if_false, shortAt, wideAt, Nat.zero_add, e 0 (by omega), e 1 (by omega), Nat.add_zero]
    · simp only [numAt, Bool.false_eq_true, if_false, shortAt, wideAt, Nat.zero_add, byteAt_take _ (show 0 < 2 by omega), byteAt_take _ (show 1 < 2 by omega)]
      simp only [e 0 (by omega), e 1 (by omega), Nat.add_zero])
  clear h ct hok
  go_enter Tryz.func114, Tryz.ntmps114
  go_wp2_with (go_at_call 64; (with_reducible refine (CT.out).mono ?_); rintro e w2 ⟨rfl, hs2⟩; have HS := Lib.hid hs2; clear hs2)
  have HB := Lib.hid (HPT.out _ HS.out)
  generalize hc : part b p (n * 2) = c at *
  generalize hl : numsAt false b p n = l at *
  have HNX : Hid (∀ k, k < n → l.take (k + 1) = l.take k ++ [numAt false b (p + sizeOf false * k)]) := Lib.hid (fun k hk => by rw [← hl]; exact numsAt_take false b p n k hk)
  have HLL : Hid (l.length = n) := Lib.hid (by rw [← hl]; exact numsAt_length _ _ _ _)
  have HI := Lib.hid (show IntsR w2 c l 2 n (.slice none 0 0) (.slice (tailA A cap p 1) (n * 2) (cap - p)) w2 from ⟨0, _, _, Nat.zero_le _, by rw [Nat.sub_zero], by rw [Nat.sub_zero, Nat.zero_mul]; exact HB.out, World.ownsRow_nil _ _ _ _, (fun j hj => by cases hj), Below.refl _ _⟩)
  clear hc hl HPT HB
  go_loopw [7, 8] (fun u s wr => IntsR w2 c l 2 n u s wr) (fun _ s _ => lenV s)
  case atStart => exact HI.out
  case round =>
    obtain ⟨k, A', cap', hk, rfl, hby', hrow, hown, hbel⟩ := hrel
    obtain ⟨B0, bc, rfl⟩ := hrow.form
    have HR := Lib.hid (And.intro hrow (And.intro hown hbel))
    have hlen : (l.take k).length = k := by rw [List.length_take, HLL.out]; omega
    rw [hlen] at HR ⊢
    by_cases hlt : k < n
    · have hsz := hby'.size
      rw [List.length_drop, HL.out] at hsz
      have hd : (c.drop (k * 2)).length = (n - k) * 2 := by rw [List.length_drop, HL.out]; omega
      have h1 : 2 ≤ cap' := by omega
      have hsl1 := slice_head (P := Tryz.prog) 22 5 Tryz.underlying22 1 size_u8 A' ((n - k) * 2) cap' 2 h1
      have hsl2 : ∀ W, (Instr.slice 22 (.slice A' ((n - k) * 2) cap') (some (.int .i64 2)) none none).run Tryz.prog W = .ok (.slice (tailA A' cap' 2 1) ((n - (k + 1)) * 2) (cap' - 2)) W := fun W => by
        have := slice_tail (P := Tryz.prog) 22 5 Tryz.underlying22 1 size_u8 A' ((n - k) * 2) cap' 2 (by omega) W
        rw [show (n - k) * 2 - 2 = (n - (k + 1)) * 2 by omega] at this
        exact this
      have hgt : (0 : Int) < (((n - k) * 2 : Nat) : Int) := by omega
      have HH := Lib.hid (fun W (hW : Below w2.heap.size w2 W) => signed2_any W A' cap' ((c.drop (k * 2)).take 2) (by rw [List.length_take, hd]; omega) ((hby'.head (by rw [hd]; omega)).below hW))
      have HD : Hid (BytesV w2 (.slice (tailA A' cap' 2 1) ((n - (k + 1)) * 2) (cap' - 2)) (c.drop ((k + 1) * 2))) := Lib.hid (by
        have := hby'.drop (m := 2) (by rw [hd]; omega)
        rw [hd, List.drop_drop] at this
        rw [show (n - k) * 2 - 2 = (n - (k + 1)) * 2 by omega, show k * 2 + 2 = (k + 1) * 2 by omega] at this
        exact this)
      have HVK := Lib.hid (HV.out k hlt)
      have HNK := Lib.hid (HNX.out k hlt)
      have HLK := Lib.hid (And.intro hlt hn)
      have HBY := Lib.hid hbel
      have hnn : ((n - k) * 2 : Nat) = (n - k) * 2 := rfl
      clear hby' hrow hown hbel hlen hsz hd h1 hk hnn
      have hT : Tryz.prog.underlying 22 = some (.slice 5) := Tryz.underlying22
      go_wp2_with (first
        | (refine wpList_slice_run hsl1 hT (by rfl) _ _ _ (by rfl) (by rfl) (by rfl) (by rfl) ?_)
        | (refine wpList_slice_run hsl2 hT (by rfl) _ _ _ (by rfl) (by rfl) (by rfl) (by rfl) ?_)
        | (go_at_call 137; refine (HH.out _ HBY.out).mono ?_; rintro e W2 ⟨rfl, nq, rfl⟩; rw [HVK.out.2]; have hx := World.alloc_heap_new (wr.drewN nq) (.cells #[.int .i64 (numAt false b (p + sizeOf false * k))] 3); have HX := Lib.hid (cell_of_row _ _ 0 _ _ _ hx); clear hx)
        | (at_builtin; refine wpList_append_int (by rfl) (.tmp 20) (.tmp 25) (by rfl) (.slice B0 k bc) (l.take k) (by rfl) (own_same HR.out.1 fun j hj => Below.heap_alloc _ _ _ (own_lt HR.out.1 j hj).2) (numAt false b (p + sizeOf false * k)) (by rfl) HX.out (by rw [List.length_take]; have := HLK.out.2; omega) ?_; intro v' w' hr' hg' hv'; have H1 := Lib.hid hr'; have H2 := Lib.hid hg'; have H3 := Lib.hid hv'; clear hr' hg' hv'))
      go_roundw
      case rel => exact IntsR.next HLK.out.1 HD.out HR.out.2.1 HR.out.2.2 HNK.out (((drewN_below wr nq)).trans (((Below.refl _ _).alloc (Nat.le_refl _) _).mono (Nat.le_refl _))) H1.out H2.out H3.out
      case measure => have := HLK.out.1; simp [lenV]; omega
    · obtain rfl : n = k := by omega
      have hz0 : (n - n) * 2 = 0 := by omega
      rw [hz0]
      have hall : l.take n = l := List.take_of_length_le (by rw [HLL.out]; exact Nat.le_refl _)
      rw [hall] at HR
      clear hall hby' hrow hown hbel hlen hk
      go_wp2
      go_ret
      exact ⟨_, rfl, HR.out.1, fun j hj => Nat.le_trans HS.out.2.size (HR.out.2.1 j hj), HS.out.next HR.out.2.2⟩


set_option maxRecDepth 100000 in
set_option maxHeartbeats 2000000 in
theorem ints4_ok (w : World) (rb : Nat) (A : Option Addr) (cap : Nat) (b : List UInt8) (p size n : Nat) (h : RdAt w rb (.slice A b.length cap) b p size) (hn : n ≤ 100000) (hok : p + n * 4 ≤ b.length) :
    Calls Tryz.prog 114 #[.pointer (some ⟨rb, 0, none⟩), .int .i64 n, .int .i64 4] w (IntsPost w rb (.slice A b.length cap) b (p + n * 4) size (numsAt true b p n)) := by
  have ct := take_ok w rb A cap b p size (n * 4) h hok
  rw [Int.natCast_mul] at ct
  have CT := Lib.hid (show Calls Tryz.prog 64 #[.pointer (some ⟨rb, 0, none⟩), .int .i64 ((n : Int) * 4)] w fun e w' => e = .returned (.slice (tailA A cap p 1) (n * 4) (cap - p)) ∧ Step w rb (.slice A b.length cap) b (p + n * 4) size w' from ct)
  have HPT : Hid (∀ W, Step w rb (.slice A b.length cap) b (p + n * 4) size W → BytesV W (.slice (tailA A cap p 1) (n * 4) (cap - p)) (part b p (n * 4))) := Lib.hid (fun W hW => hW.1.val.part hok)
  obtain ⟨ii, hi, hz, hs, hby⟩ := info_parts info_int
  have HL := Lib.hid (part_length b hok)
  have HV : Hid (∀ k, k < n → numAt true ((part b p (n * 4)).drop (k * 4)) 0 = numAt true b (p + sizeOf true * k) ∧ wideAt (((part b p (n * 4)).drop (k * 4)).take 4) 0 = numAt true b (p + sizeOf true * k)) := Lib.hid (fun k hk => by
    have e : ∀ i, i < 4 → byteAt ((part b p (n * 4)).drop (k * 4)) i = byteAt b (p + sizeOf true * k + i) := fun i hi => by
      rw [byteAt_drop, byteAt_part b (by omega)]
      congr 1
      simp only [sizeOf]
      simp
      omega
    constructor
    · simp only [numAt, if_true, shortAt, wideAt, Nat.zero_add, e 0 (by omega), e 1 (by omega), e 2 (by omega), e 3 (by omega), Nat.add_zero]
    · simp only [numAt, if_true, shortAt, wideAt, Nat.zero_add, byteAt_take _ (show 0 < 4 by omega), byteAt_take _ (show 1 < 4 by omega), byteAt_take _ (show 2 < 4 by omega), byteAt_take _ (show 3 < 4 by omega)]
      simp only [e 0 (by omega), e 1 (by omega), e 2 (by omega), e 3 (by omega), Nat.add_zero])
  clear h ct hok
  go_enter Tryz.func114, Tryz.ntmps114
  go_wp2_with (go_at_call 64; (with_reducible refine (CT.out).mono ?_); rintro e w2 ⟨rfl, hs2⟩; have HS := Lib.hid hs2; clear hs2)
  have HB := Lib.hid (HPT.out _ HS.out)
  generalize hc : part b p (n * 4) = c at *
  generalize hl : numsAt true b p n = l at *
  have HNX : Hid (∀ k, k < n → l.take (k + 1) = l.take k ++ [numAt true b (p + sizeOf true * k)]) := Lib.hid (fun k hk => by rw [← hl]; exact numsAt_take true b p n k hk)
  have HLL : Hid (l.length = n) := Lib.hid (by rw [← hl]; exact numsAt_length _ _ _ _)
  have HI := Lib.hid (show IntsR w2 c l 4 n (.slice none 0 0) (.slice (tailA A cap p 1) (n * 4) (cap - p)) w2 from ⟨0, _, _, Nat.zero_le _, by rw [Nat.sub_zero], by rw [Nat.sub_zero, Nat.zero_mul]; exact HB.out, World.ownsRow_nil _ _ _ _, (fun j hj => by cases hj), Below.refl _ _⟩)
  clear hc hl HPT HB
  go_loopw [7, 8] (fun u s wr => IntsR w2 c l 4 n u s wr) (fun _ s _ => lenV s)
  case atStart => exact HI.out
  case round =>
    obtain ⟨k, A', cap', hk, rfl, hby', hrow, hown, hbel⟩ := hrel
    obtain ⟨B0, bc, rfl⟩ := hrow.form
    have HR := Lib.hid (And.intro hrow (And.intro hown hbel))
    have hlen : (l.take k).length = k := by rw [List.length_take, HLL.out]; omega
    rw [hlen] at HR ⊢
    by_cases hlt : k < n
    · have hsz := hby'.size
      rw [List.length_drop, HL.out] at hsz
      have hd : (c.drop (k * 4)).length = (n - k) * 4 := by rw [List.length_drop, HL.out]; omega
      have h1 : 4 ≤ cap' := by omega
      have hsl1 := slice_head (P := Tryz.prog) 22 5 Tryz.underlying22 1 size_u8 A' ((n - k) * 4) cap' 4 h1
      have hsl2 : ∀ W, (Instr.slice 22 (.slice A' ((n - k) * 4) cap') (some (.int .i64 4)) none none).run Tryz.prog W = .ok (.slice (tailA A' cap' 4 1) ((n - (k + 1)) * 4) (cap' - 4)) W := fun W => by
        have := slice_tail (P := Tryz.prog) 22 5 Tryz.underlying22 1 size_u8 A' ((n - k) * 4) cap' 4 (by omega) W
        rw [show (n - k) * 4 - 4 = (n - (k + 1)) * 4 by omega] at this
        exact this
      have hgt : (0 : Int) < (((n - k) * 4 : Nat) : Int) := by omega
      have HH := Lib.hid (fun W (hW : Below w2.heap.size w2 W) => signed4_any W A' cap' ((c.drop (k * 4)).take 4) (by rw [List.length_take, hd]; omega) ((hby'.head (by rw [hd]; omega)).below hW))
      have HD : Hid (BytesV w2 (.slice (tailA A' cap' 4 1) ((n - (k + 1)) * 4) (cap' - 4)) (c.drop ((k + 1) * 4))) := Lib.hid (by
        have := hby'.drop (m := 4) (by rw [hd]; omega)
        rw [hd, List.drop_drop] at this
        rw [show (n - k) * 4 - 4 = (n - (k + 1)) * 4 by omega, show k * 4 + 4 = (k + 1) * 4 by omega] at this
        exact this)
      have HVK := Lib.hid (HV.out k hlt)
      have HNK := Lib.hid (HNX.out k hlt)
      have HLK := Lib.hid (And.intro hlt hn)
      have HBY := Lib.hid hbel
      have hnn : ((n - k) * 4 : Nat) = (n - k) * 4 := rfl
      clear hby' hrow hown hbel hlen hsz hd h1 hk hnn
      have hT : Tryz.prog.underlying 22 = some (.slice 5) := Tryz.underlying22
      go_wp2_with (first
        | (refine wpList_slice_run hsl1 hT (by rfl) _ _ _ (by rfl) (by rfl) (by rfl) (by rfl) ?_)
        | (refine wpList_slice_run hsl2 hT (by rfl) _ _ _ (by rfl) (by rfl) (by rfl) (by rfl) ?_)
        | (go_at_call 137; refine (HH.out _ HBY.out).mono ?_; rintro e W2 ⟨rfl, nq, rfl⟩; rw [HVK.out.2]; have hx := World.alloc_heap_new (wr.drewN nq) (.cells #[.int .i64 (numAt true b (p + sizeOf true * k))] 3); have HX := Lib.hid (cell_of_row _ _ 0 _ _ _ hx); clear hx)
        | (at_builtin; refine wpList_append_int (by rfl) (.tmp 20) (.tmp 25) (by rfl) (.slice B0 k bc) (l.take k) (by rfl) (own_same HR.out.1 fun j hj => Below.heap_alloc _ _ _ (own_lt HR.out.1 j hj).2) (numAt true b (p + sizeOf true * k)) (by rfl) HX.out (by rw [List.length_take]; have := HLK.out.2; omega) ?_; intro v' w' hr' hg' hv'; have H1 := Lib.hid hr'; have H2 := Lib.hid hg'; have H3 := Lib.hid hv'; clear hr' hg' hv'))
      go_roundw
      case rel => exact IntsR.next HLK.out.1 HD.out HR.out.2.1 HR.out.2.2 HNK.out (((drewN_below wr nq)).trans (((Below.refl _ _).alloc (Nat.le_refl _) _).mono (Nat.le_refl _))) H1.out H2.out H3.out
      case measure => have := HLK.out.1; simp [lenV]; omega
    · obtain rfl : n = k := by omega
      have hz0 : (n - n) * 4 = 0 := by omega
      rw [hz0]
      have hall : l.take n = l := List.take_of_length_le (by rw [HLL.out]; exact Nat.le_refl _)
      rw [hall] at HR
      clear hall hby' hrow hown hbel hlen hk
      go_wp2
      go_ret
      exact ⟨_, rfl, HR.out.1, fun j hj => Nat.le_trans HS.out.2.size (HR.out.2.1 j hj), HS.out.next HR.out.2.2⟩
end

section
open Go.RowKit Go.Shelf Go.Lib
attribute [local go_sem] Oper.semAt_some

set_option maxRecDepth 100000 in
theorem ints_bad (w : World) (rb : Nat) (v : Value) (b : List UInt8) (p size n sz : Nat) (h : RdAt w rb v b p size) (hn : n ≤ 100000) (hsz : sz = 2 ∨ sz = 4) (hbad : b.length < p + n * sz) :
    Calls Tryz.prog 114 #[.pointer (some ⟨rb, 0, none⟩), .int .i64 n, .int .i64 sz] w fun e w' => e = flawE b.length 31 ∧ Touch (fun k => k = rb) w w' := by
  have ct := take_bad w rb v b p size (n * sz) h (by rcases hsz with rfl | rfl <;> omega) hbad
  rw [Int.natCast_mul] at ct
  have CT := Lib.hid ct
  clear h ct hbad
  rcases hsz with rfl | rfl
  all_goals
    go_enter Tryz.func114, Tryz.ntmps114
    go_wp2_with (go_at_call 64; (refine (CT.out).mono ?_); rintro e w' ⟨rfl, hs⟩; have HS := Lib.hid hs; clear hs)
    exact ⟨rfl, rfl, HS.out⟩
set_option maxRecDepth 100000 in
theorem shorts_bad (w : World) (rb : Nat) (v : Value) (b : List UInt8) (p size n : Nat) (h : RdAt w rb v b p size) (hn : n ≤ 100000) (hbad : b.length < p + n * 2) :
    Calls Tryz.prog 68 #[.pointer (some ⟨rb, 0, none⟩), .int .i64 n] w fun e w' => e = flawE b.length 31 ∧ Touch (fun k => k = rb) w w' := by
  have CT := Lib.hid (ints_bad w rb v b p size n 2 h hn (.inl rfl) hbad)
  clear h hbad
  go_enter Tryz.func68, Tryz.ntmps68
  go_wp2_with (go_at_call 114; (refine (CT.out).mono ?_); rintro e w' ⟨rfl, hs⟩; have HS := Lib.hid hs; clear hs)
  exact ⟨rfl, rfl, HS.out⟩
set_option maxRecDepth 100000 in
theorem shorts_ok (w : World) (rb : Nat) (A : Option Addr) (cap : Nat) (b : List UInt8) (p size n : Nat) (h : RdAt w rb (.slice A b.length cap) b p size) (hn : n ≤ 100000) (hok : p + n * 2 ≤ b.length) :
    Calls Tryz.prog 68 #[.pointer (some ⟨rb, 0, none⟩), .int .i64 n] w (IntsPost w rb (.slice A b.length cap) b (p + n * 2) size (shortsAt b p n)) := by
  have CT := Lib.hid (ints2_ok w rb A cap b p size n h hn hok)
  clear h hok
  go_enter Tryz.func68, Tryz.ntmps68
  go_wp2_with (go_at_call 114; (refine (CT.out).mono ?_); rintro e w' ⟨u, rfl, hr, ho, hs⟩; have HS := Lib.hid (And.intro hr (And.intro ho hs)); clear hr ho hs)
  go_ret
  exact ⟨_, rfl, HS.out⟩

/-- behind the reading of a row of capabilities -/
def CapsPost (w : World) (rb : Nat) (v : Value) (b : List UInt8) (p size : Nat) (l : List CapD) (e : Ending) (w' : World) : Prop := ∃ u, e = .returned u ∧ CapRow w' u l ∧ (∀ k, u.ownBlock = some k → w.heap.size ≤ k) ∧ Step w rb v b p size w'
/-- while capabilities are made: those that are there -/
def CapsR (w2 : World) (l : List CapD) (n : Nat) (u i : Value) (W : World) : Prop :=
  ∃ k : Nat, i = .int .i64 k ∧ k ≤ n ∧ CapRow W u (l.take k) ∧ (∀ j, u.ownBlock = some j → w2.heap.size ≤ j) ∧ Below w2.heap.size w2 W
theorem CapsR.next {w2 : World} {l : List CapD} {n : Nat} {W W2 W' : World} {u v' : Value} {k : Nat} {z : CapD} (hk : k < n) (ho : ∀ j, u.ownBlock = some j → w2.heap.size ≤ j) (hB : Below w2.heap.size w2 W) (hz : l.take (k + 1) = l.take k ++ [z])
    (h1 : Below W.heap.size W W2) (hr : CapRow W' v' (l.take k ++ [z])) (hg : W2.grownBy W' u.ownBlock) (hv : v'.ownBlock = u.ownBlock ∨ v'.ownBlock = some W2.heap.size) : CapsR w2 l n v' (.int .i64 ((k : Int) + 1)) W' := by
  have hB2 := hB.trans (h1.mono hB.size)
  refine ⟨k + 1, by go_num, hk, by rw [hz]; exact hr, fun j hj => ?_, ?_⟩
  · rcases hv with hv | hv
    · exact ho j (hv ▸ hj)
    · rw [hv] at hj; injection hj with hj; have := hB2.size; omega
  · exact hB2.trans (grown_below hg (by have := hB2.size; omega) fun j hj => ho j hj)
theorem build_st (s : Int) (w : World) : (Instr.build 37 #[(0, .int .i64 s)]).run Tryz.prog w = .ok (.agg #[.int .i64 s, .int .i64 0, .string ⟨#[]⟩]) w := by kernel_rfl
theorem build_sn (s n : Int) (w : World) : (Instr.build 37 #[(0, .int .i64 s), (1, .int .i64 n)]).run Tryz.prog w = .ok (.agg #[.int .i64 s, .int .i64 n, .string ⟨#[]⟩]) w := by kernel_rfl
theorem map_take {α β : Type} (f : α → β) {l : List α} {k : Nat} {x : α} (h : l[k]? = some x) : (l.map f).take (k + 1) = (l.map f).take k ++ [f x] := by
  rw [List.take_add_one]
  congr 1
  simp [h]
theorem flagsAt_take (b : List UInt8) (p n k : Nat) (h : k < n) : (flagsAt b p n).take (k + 1) = (flagsAt b p n).take k ++ [capOfFlag (byteAt b (p + k))] := by
  unfold flagsAt
  exact map_take _ (by simp [h])
theorem flagsAt_length (b : List UInt8) (p n : Nat) : (flagsAt b p n).length = n := by simp [flagsAt]
set_option maxRecDepth 100000 in
theorem flags_bad (w : World) (rb : Nat) (v : Value) (b : List UInt8) (p size n : Nat) (h : RdAt w rb v b p size) (hn : n ≤ 100000) (hbad : b.length < p + n) :
    Calls Tryz.prog 65 #[.pointer (some ⟨rb, 0, none⟩), .int .i64 n] w fun e w' => e = flawE b.length 31 ∧ Touch (fun k => k = rb) w w' := by
  have CT := Lib.hid (take_bad w rb v b p size n h (by omega) hbad)
  clear h hbad
  go_enter Tryz.func65, Tryz.ntmps65
  go_wp2_with (go_at_call 64; (refine (CT.out).mono ?_); rintro e w' ⟨rfl, hs⟩; have HS := Lib.hid hs; clear hs)
  exact ⟨rfl, rfl, HS.out⟩

set_option maxRecDepth 100000 in
set_option maxHeartbeats 2000000 in
theorem flags_ok (w : World) (rb : Nat) (A : Option Addr) (cap : Nat) (b : List UInt8) (p size n : Nat) (h : RdAt w rb (.slice A b.length cap) b p size) (hn : n ≤ 1000) (hok : p + n ≤ b.length) :
    Calls Tryz.prog 65 #[.pointer (some ⟨rb, 0, none⟩), .int .i64 n] w (CapsPost w rb (.slice A b.length cap) b (p + n) size (flagsAt b p n)) := by
  have CT := Lib.hid (take_ok w rb A cap b p size n h hok)
  have HPT : Hid (∀ W, Step w rb (.slice A b.length cap) b (p + n) size W → BytesV W (.slice (tailA A cap p 1) n (cap - p)) (part b p n)) := Lib.hid (fun W hW => hW.1.val.part hok)
  have hbs := build_st
  have HL := Lib.hid (part_length b hok)
  have HAT : Hid (∀ k, k < n → byteAt (part b p n) k = byteAt b (p + k)) := Lib.hid fun k hk => byteAt_part b hk
  clear h hok
  go_enter Tryz.func65, Tryz.ntmps65
  go_wp2_with (go_at_call 64; (with_reducible refine (CT.out).mono ?_); rintro e w2 ⟨rfl, hs2⟩; have HS := Lib.hid hs2; clear hs2)
  have HB := Lib.hid (HPT.out _ HS.out)
  generalize hc : part b p n = c at *
  generalize hl : flagsAt b p n = l at *
  have HNX : Hid (∀ k, k < n → l.take (k + 1) = l.take k ++ [capOfFlag (byteAt b (p + k))]) := Lib.hid (fun k hk => by rw [← hl]; exact flagsAt_take b p n k hk)
  have HLL : Hid (l.length = n) := Lib.hid (by rw [← hl]; exact flagsAt_length _ _ _)
  have HI := Lib.hid (show CapsR w2 l n (.slice none 0 0) (.int .i64 0) w2 from ⟨0, rfl, Nat.zero_le _, World.ownsRow_nil _ _ _ _, (fun j hj => by cases hj), Below.refl _ _⟩)
  clear hc hl HPT
  go_loopw [5, 12] (fun u i wr => CapsR w2 l n u i wr) (fun _ i _ => n - (RowKit.intOf i).toNat)
  case atStart => exact HI.out
  case round =>
    obtain ⟨k, rfl, hk, hrow, hown, hbel⟩ := hrel
    obtain ⟨B0, bc, rfl⟩ := hrow.form
    have HR := Lib.hid (And.intro hrow (And.intro hown hbel))
    have hlen : (l.take k).length = k := by rw [List.length_take, HLL.out]; omega
    rw [hlen] at HR ⊢
    by_cases hlt : k < n
    · obtain ⟨ka, oa, hA, _, hcell⟩ := (HB.out.below hbel).cell (i := k) (by rw [HL.out]; exact hlt)
      rw [HAT.out k hlt] at hcell
      rw [hA]
      have i1 : (0 : Int) ≤ (k : Int) := by omega
      have i2 : (k : Int) < (n : Int) := by omega
      have HNK := Lib.hid (HNX.out k hlt)
      have HLK := Lib.hid (And.intro hlt hn)
      have CF := Lib.hid (fun W => flagState_any W (byteAt b (p + k)))
      have hc0 : capOfFlag (byteAt b (p + k)) = ⟨(capOfFlag (byteAt b (p + k))).st, 0, []⟩ := rfl
      have HC0 := Lib.hid hc0
      generalize capOfFlag (byteAt b (p + k)) = x at *
      generalize byteAt b (p + k) = y at *
      clear hrow hown hbel hlen hk hc0
      go_wp2_with (first
        | (go_at_call 113; (with_reducible refine (CF.out _).mono ?_); rintro e w' ⟨rfl, rfl⟩; have hx := World.alloc_heap_new wr (.cells #[.int .i64 x.st, .int .i64 0, .string ⟨#[]⟩] 37); have HX := Lib.hid (fun j => cell_of_row _ wr.heap.size j _ _ _ hx); clear hx hcell)
        | (at_builtin; refine wpList_append_cap (by rfl) (.tmp 16) (.tmp 20) (by rfl) (.slice B0 k bc) (l.take k) (by rfl) (own_same HR.out.1 fun j hj => Below.heap_alloc _ _ _ (own_lt HR.out.1 j hj).2) x (by rfl) (HX.out 0) ((HX.out 1).trans (by rw [HC0.out]; rfl)) ((HX.out 2).trans (by rw [HC0.out]; rfl)) (by rw [List.length_take]; have := HLK.out.2; omega) ?_; intro v' w' hr' hg' hv'; have H1 := Lib.hid hr'; have H2 := Lib.hid hg'; have H3 := Lib.hid hv'; clear hr' hg' hv'))
      go_roundw
      case rel => exact CapsR.next HLK.out.1 HR.out.2.1 HR.out.2.2 HNK.out ((Below.refl _ _).alloc (Nat.le_refl _) _) H1.out H2.out H3.out
      case measure => have := HLK.out.1; simp [RowKit.intOf]; omega
    · obtain rfl : n = k := by omega
      have hall : l.take n = l := List.take_of_length_le (by rw [HLL.out]; exact Nat.le_refl _)
      rw [hall] at HR
      clear hall hrow hown hbel hlen hk
      go_wp2_with fail
      go_ret
      exact ⟨_, rfl, HR.out.1, fun j hj => Nat.le_trans HS.out.2.size (HR.out.2.1 j hj), HS.out.next HR.out.2.2⟩
end
end Go.Proofs.YtcfgppjhgobboaaGreatDoor
