/-
  The walk of FsDoes: a whole script, done by the program and by the document. Nothing is assumed.
-/
import Derived.Test.YthpkfgjjaieikaaGreatDoorFsEqual
namespace Go.Proofs.YthpkfgjjaieikaaGreatDoor
open Go.RowKit Go.Shelf Go.Lib Go.Maps

def rst0 : RSt := ⟨0, 0, 0, 0, false⟩
theorem rel0 : StRel st0 rst0 := ⟨rfl, rfl, rfl, rfl, .inl rfl⟩
theorem build_ref (w : World) : (Instr.build 28 #[]).run Tryz.prog w = .ok (.agg #[.slice none 0 0, .int .i64 0, .int .i64 0, .int .i64 0, .int .i64 0, .bool false]) w := run_build w _ _ _ (by kernel_rfl)
/-- between two operations: both go on alike -/
def DoesI (w : World) (rb n : Nat) (k f : Value) (W : World) : Prop :=
  ∃ (i b bm : Nat) (FP FR : Nat → Prop) (es : List Ent) (s : St) (v : Value) (fs : List Ent) (r : RSt), k = .int .i64 i ∧ f = .pointer (some ⟨b, 0, none⟩) ∧ i ≤ n ∧ Both W FP FR b bm rb es s v fs r ∧ s.calls ≤ (i : Int) ∧ (∀ k, FP k ∨ FR k → w.heap.size ≤ k) ∧ Below w.heap.size w W
theorem op_at7 {W : World} {b off : Nat} {o : OpD} (h : ∀ j u, o.cells[j]? = some u → W.cell? ⟨b, off + j, none⟩ = some u) :
    W.cell? ⟨b, off, none⟩ = some (.int .i64 o.d) ∧ W.cell? ⟨b, off + 1, none⟩ = some (str o.p) ∧ W.cell? ⟨b, off + 2, none⟩ = some (str o.q) ∧ W.cell? ⟨b, off + 3, none⟩ = some o.B ∧ W.cell? ⟨b, off + 4, none⟩ = some (.int .i64 o.k) ∧ W.cell? ⟨b, off + 5, none⟩ = some (.int .i64 o.i) ∧ W.cell? ⟨b, off + 6, none⟩ = some (.int .i64 o.j) :=
  ⟨h 0 _ rfl, h 1 _ rfl, h 2 _ rfl, h 3 _ rfl, h 4 _ rfl, h 5 _ rfl, h 6 _ rfl⟩
theorem does_start {w w1 w3 : World} {b bm n : Nat} (hF : FsAt w1 (fun k => w.heap.size ≤ k ∧ k < w1.heap.size) b bm [] st0) (hB : Below w.heap.size w w1)
    (hb : Below (w1.alloc (.cells #[.slice none 0 0, .int .i64 0, .int .i64 0, .int .i64 0, .int .i64 0, .bool false] 28)).heap.size (w1.alloc (.cells #[.slice none 0 0, .int .i64 0, .int .i64 0, .int .i64 0, .int .i64 0, .bool false] 28)) w3) :
    DoesI w w1.heap.size n (.int .i64 0) (.pointer (some ⟨b, 0, none⟩)) w3 := by
  have hsz : (w1.alloc (.cells #[.slice none 0 0, .int .i64 0, .int .i64 0, .int .i64 0, .int .i64 0, .bool false] 28)).heap.size = w1.heap.size + 1 := by simp
  have hb1 : Both (w1.alloc (.cells #[.slice none 0 0, .int .i64 0, .int .i64 0, .int .i64 0, .int .i64 0, .bool false] 28)) (fun k => w.heap.size ≤ k ∧ k < w1.heap.size) (fun k => k = w1.heap.size) b bm w1.heap.size [] st0 (.slice none 0 0) [] rst0 :=
    ⟨hF.alloc _, ⟨World.alloc_heap_new w1 _, World.ownsRow_nil _ _ _ _, rfl, (fun k hk => by cases hk), (fun x hx => by cases hx), (fun x hx => by cases hx), by decide⟩, fun k h1 h2 => by have := h1.2; omega, fun k hk => by have := hk.2; omega, fun k hk => by omega, inv_nil, rfl, rel0, st0_ok, by decide⟩
  refine ⟨0, b, bm, _, _, [], st0, _, [], rst0, rfl, rfl, Nat.zero_le _, hb1.below hb, by simp [st0], fun k hk => ?_, (hB.alloc hB.size _).trans (hb.mono (by have := hB.size; omega))⟩
  have := hB.size
  rcases hk with hk | hk
  · exact hk.1
  · omega
theorem DoesI.step {w W W2 : World} {X : Obj} {rb n i b' bm' : Nat} {FP FR FP' FR' : Nat → Prop} {es' : List Ent} {s s' : St} {v' : Value} {fs' : List Ent} {r' : RSt} (hi : i < n) (hc : s.calls ≤ (i : Int)) (hP : ∀ k, FP k ∨ FR k → w.heap.size ≤ k) (hB : Below w.heap.size w W)
    (h2 : Both W2 FP' FR' b' bm' rb es' s' v' fs' r') (hn : StNext s s') (hT : Touch (fun k => FP k ∨ FR k) (W.alloc X) W2) (hp : ∀ k, FP' k → FP k ∨ (W.alloc X).heap.size ≤ k) (hr : ∀ k, FR' k → FR k ∨ (W.alloc X).heap.size ≤ k) :
    DoesI w rb n (.int .i64 ((i : Int) + 1)) (.pointer (some ⟨b', 0, none⟩)) W2 := by
  have hx : (W.alloc X).heap.size = W.heap.size + 1 := by simp
  have hs := hB.size
  have hn2 := hn.2
  refine ⟨i + 1, b', bm', FP', FR', es', s', v', fs', r', by go_num, rfl, hi, h2, by omega, fun k hk => ?_, (hB.alloc hB.size _).trans (hT.below (by omega) fun k hk => hP k hk)⟩
  rcases hk with hk | hk
  · rcases hp k hk with h | h
    · exact hP k (.inl h)
    · omega
  · rcases hr k hk with h | h
    · exact hP k (.inr h)
    · omega

set_option maxRecDepth 100000 in
set_option maxHeartbeats 4000000 in
theorem does_walk (w : World) (vs : Value) (os : List OpD) (hs : ScriptAt w vs os) :
    Calls Tryz.prog 3 #[vs] w (BegunPost w) := by
  obtain ⟨A2, cap2, rfl, _⟩ := id hs.cells
  have HSC := Lib.hid hs
  have hbd := build_ref
  clear hs
  go_enter Tryz.func3, Tryz.ntmps3
  go_wp2_with (first
    | (go_at_call 7; refine (new_any _).mono ?_; rintro e w1 ⟨b, bm, rfl, hF1, hb1⟩; have HF1 := Lib.hid hF1.tight; have HB1 := Lib.hid hb1; clear hF1 hb1)
    | (go_at_call 8; refine (begun_any _).mono ?_; rintro e w3 ⟨rfl, hb3⟩; have HI : Hid (DoesI w w1.heap.size os.length (.int .i64 0) (.pointer (some ⟨b, 0, none⟩)) w3) := Lib.hid (does_start HF1.out HB1.out hb3); clear hb3))
  go_loopw [19, 3] (fun k f wr => DoesI w w1.heap.size os.length k f wr) (fun k _ _ => os.length - (intOf k).toNat)
  case atStart => exact HI.out
  case round =>
    obtain ⟨i, b9, bm9, FP, FR, es, s, v, fs, r, rfl, rfl, hi, hW, hcl, hP, hB⟩ := hrel
    by_cases hlt : i < os.length
    · obtain ⟨o, hio⟩ : ∃ o, os[i]? = some o := ⟨_, List.getElem?_eq_getElem hlt⟩
      have hs := HSC.out.touch (Touch.of_below (T := fun _ => False) hB) (fun _ _ h => h)
      obtain ⟨A', cap', e, hc⟩ := hs.cells
      obtain ⟨b2, off, rfl, _, hcell⟩ := hc (by omega)
      injection e with e1 _ e3
      subst e1
      obtain ⟨d0, d1, d2, d3, d4, d5, d6⟩ := op_at7 (hcell i o hio)
      have hat := hs.ops o (List.mem_of_getElem? hio)
      obtain ⟨A9, cap9, hB9, _⟩ := hat.reads
      obtain ⟨od, op, oq, oB, oc, ok, oi, oj⟩ := o
      simp only at hB9 d0 d1 d2 d3 d4 d5 d6
      subst hB9
      have HAT := Lib.hid ((HSC.out.ops _ (List.mem_of_getElem? hio)))
      have HW := Lib.hid hW
      have HCL := Lib.hid hcl
      have HP := Lib.hid hP
      have HB := Lib.hid hB
      clear hs hcell hc e3 hat hW hcl hP hB hio
      have hlen := HSC.out.len
      have CO := Lib.hid (step_any (w := wr.alloc (.cells #[.int .i64 od, str op, str oq, .slice A9 oc.length cap9, .int .i64 ok, .int .i64 oi, .int .i64 oj] 32)) (HW.out.below ((Below.refl _ _).alloc (Nat.le_refl _) _)) (by have := HCL.out; omega) ⟨od, op, oq, .slice A9 oc.length cap9, oc, ok, oi, oj⟩
        (fun W hT => (HAT.out.touch (Touch.of_below (T := fun _ => False) ((HB.out.alloc HB.out.size _).trans (hT.below (by have := HB.out.size; simp; omega) fun k hk => HP.out k hk))) (fun _ _ h => h)).reads) (by have := HAT.out.small; simp only at this ⊢; omega) HAT.out.ok)
      go_wp2_with (first
        | (go_at_call 9; refine (CO.out).mono ?_; rintro e W9 ⟨b', rfl, FP', FR', bm', es', s', v', fs', r', h2, hn, hT, hp, hr⟩;
           have CD1 := Lib.hid ((down_any W9 FP' b' bm' es' s' h2.prog).mono (R' := fun e w' => e = .returned (.bool s'.down) ∧ w' = W9) fun _ _ ⟨h1, h2⟩ => ⟨h1, h2.symm⟩);
           have CD2 := Lib.hid ((refDown_any h2.ref).mono (R' := fun e w' => e = .returned (.bool s'.down) ∧ w' = W9) fun _ _ ⟨h1, h3⟩ => ⟨by rw [h1, h2.rel.2.2.2.1], h3.symm⟩);
           have CC1 := Lib.hid ((calls_any W9 FP' b' bm' es' s' h2.prog).mono (R' := fun e w' => e = .returned (.int .i64 s'.calls) ∧ w' = W9) fun _ _ ⟨h1, h2⟩ => ⟨h1, h2.symm⟩);
           have CC2 := Lib.hid ((refCalls_any h2.ref).mono (R' := fun e w' => e = .returned (.int .i64 s'.calls) ∧ w' = W9) fun _ _ ⟨h1, h3⟩ => ⟨by rw [h1, h2.rel.2.2.1], h3.symm⟩);
           have hd1 : (s'.down != s'.down) = false := by simp;
           have hd2 : (s'.calls != s'.calls) = false := by simp;
           have HN := Lib.hid (DoesI.step hlt HCL.out HP.out HB.out h2 hn hT hp hr); clear h2 hn hT hp hr)
        | (go_at_call 10; refine (CD1.out).mono ?_; rintro e w' ⟨rfl, rfl⟩)
        | (go_at_call 11; refine (CD2.out).mono ?_; rintro e w' ⟨rfl, rfl⟩)
        | (go_at_call 12; refine (CC1.out).mono ?_; rintro e w' ⟨rfl, rfl⟩)
        | (go_at_call 13; refine (CC2.out).mono ?_; rintro e w' ⟨rfl, rfl⟩))
      exact ⟨HN.out, by simp [intOf] <;> omega⟩
    · obtain rfl : i = os.length := by omega
      have hlen := HSC.out.len
      have CE := Lib.hid (equal_any wr hW (by omega))
      have HB := Lib.hid hB
      clear hW hcl hP hB hi hlt HI
      go_wp2_with (go_at_call 14; refine (CE.out).mono ?_; rintro e w9 ⟨rfl, hb9⟩; have HB9 := Lib.hid (HB.out.trans (hb9.mono HB.out.size)); clear hb9)
      go_ret
      exact ⟨rfl, HB9.out⟩

end Go.Proofs.YthpkfgjjaieikaaGreatDoor
