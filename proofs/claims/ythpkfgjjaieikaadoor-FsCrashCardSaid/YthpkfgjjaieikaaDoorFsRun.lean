/-
  What a script does to a new file system: for every script, and for whatever its operations keep.
-/
import Derived.Test.YthpkfgjjaieikaaDoorFsOwnW
namespace Go.Proofs.YthpkfgjjaieikaaDoor
open Go.RowKit Go.Shelf Go.Lib Go.Maps

/-- between two rounds of a script -/
def RunI (w : World) (I : List Ent → Prop) (b bm : Nat) (n : Nat) (k : Value) (W : World) : Prop :=
  ∃ (i : Nat) (es : List Ent) (s : St), k = .int .i64 i ∧ i ≤ n ∧ FsAt W (fun k => w.heap.size ≤ k) b bm es s ∧ StOk s ∧ s.calls ≤ (i : Int) ∧ es.length ≤ 4096 ∧ I es ∧ Below w.heap.size w W
theorem RunI.step {w W W' : World} {I : List Ent → Prop} (hI : ∀ es s o r es' s', I es → OneRes es s o r es' s' → I es') {b bm : Nat} {es es' : List Ent} {n i : Nat} {o : OpD} {s s' : St} {r : Int} {X : Obj} (hi : i < n) (ho : StOk s) (hcl : s.calls ≤ (i : Int)) (hes : es.length ≤ 4096) (hin : I es) (hB : Below w.heap.size w W)
    (hok : OpOk o) (hn : n ≤ 140737488351232) (hF : FsAt W' (fun k => w.heap.size ≤ k ∨ (W.alloc X).heap.size ≤ k) b bm es' s') (hT : Touch (fun k => w.heap.size ≤ k) (W.alloc X) W') (hres : OneRes es s o r es' s') :
    RunI w I b bm n (.int .i64 ((i : Int) + 1)) W' := by
  have hx : (W.alloc X).heap.size = W.heap.size + 1 := by simp
  have hs := hB.size
  obtain ⟨hst, hca⟩ := one_next hres ho (by omega) hok
  exact ⟨i + 1, es', s', by go_num, hi, hF.more (fun k hk => by rcases hk with hk | hk <;> omega), hst, by omega, one_len hres hes, hI _ _ _ _ _ _ hin hres, (hB.alloc hB.size _).trans (hT.below (by omega) fun k hk => hk)⟩

def RunPost (w : World) (I : List Ent → Prop) (n : Nat) (e : Ending) (w' : World) : Prop :=
  ∃ b bm es s, e = .returned (.pointer (some ⟨b, 0, none⟩)) ∧ FsAt w' (fun k => w.heap.size ≤ k) b bm es s ∧ StOk s ∧ s.calls ≤ (n : Int) ∧ es.length ≤ 4096 ∧ I es ∧ Below w.heap.size w w'

set_option maxRecDepth 100000 in
set_option maxHeartbeats 2000000 in
theorem run_any (w : World) (I : List Ent → Prop) (h0 : I []) (hI : ∀ es s o r es' s', I es → OneRes es s o r es' s' → I es') (vs : Value) (os : List OpD) (hs : ScriptAt w vs os) :
    Calls Tryd.prog 11 #[vs] w (RunPost w I os.length) := by
  obtain ⟨A2, cap2, rfl, _⟩ := id hs.cells
  have HSC := Lib.hid hs
  have HI0 := Lib.hid h0
  have HI := Lib.hid hI
  clear hs h0 hI
  go_enter Tryd.func11, Tryd.ntmps11
  go_wp2_with (go_at_call 21; refine (new_any _).mono ?_; rintro e w1 ⟨b, bm, rfl, hF1, hb1⟩; have HF1 := Lib.hid hF1; have HB1 := Lib.hid hb1; clear hF1 hb1)
  have HI1 := Lib.hid (show RunI w I b bm os.length (.int .i64 0) w1 from ⟨0, [], st0, rfl, Nat.zero_le _, HF1.out, st0_ok, by decide, by simp, HI0.out, HB1.out⟩)
  go_loopw [11] (fun k wr => RunI w I b bm os.length k wr) (fun k _ => os.length - (intOf k).toNat)
  case atStart => exact HI1.out
  case round =>
    obtain ⟨i, es, s, rfl, hi, hF, ho, hcl, hes, hin, hB⟩ := hrel
    by_cases hlt : i < os.length
    · obtain ⟨o, hio⟩ : ∃ o, os[i]? = some o := ⟨_, List.getElem?_eq_getElem hlt⟩
      have hs := HSC.out.touch (Touch.of_below (T := fun _ => False) hB) (fun _ _ h => h)
      obtain ⟨A', cap', e, hc⟩ := hs.cells
      obtain ⟨b2, off, rfl, _, hcell⟩ := hc (by omega)
      injection e with e1 _ e3
      subst e1
      obtain ⟨d0, d1, d2, d3, d4, d5, d6⟩ := op_cells_at (hcell i o hio)
      have hat := hs.ops o (List.mem_of_getElem? hio)
      obtain ⟨A9, cap9, hB9, _⟩ := hat.reads
      obtain ⟨od, op, oq, oB, oc, ok, oi, oj⟩ := o
      simp only at hB9 d0 d1 d2 d3 d4 d5 d6
      subst hB9
      have HAT := Lib.hid ((HSC.out.ops _ (List.mem_of_getElem? hio)))
      have HF9 := Lib.hid hF
      have HO9 := Lib.hid ho
      have HCL9 := Lib.hid hcl
      have HES9 := Lib.hid hes
      have HIN9 := Lib.hid hin
      have HB9 := Lib.hid hB
      clear hs hcell hc e3 hat hF ho hcl hes hin hB hio
      have hlen := HSC.out.len
      have CO := Lib.hid (one_any (wr.alloc (.cells #[.int .i64 od, str op, str oq, .slice A9 oc.length cap9, .int .i64 ok, .int .i64 oi, .int .i64 oj] 43)) _ b bm es s ⟨od, op, oq, .slice A9 oc.length cap9, oc, ok, oi, oj⟩ (HF9.out.alloc _) HO9.out (by have := HCL9.out; omega)
        (fun W hT => (HAT.out.touch (Touch.of_below (T := fun _ => False) ((HB9.out.alloc HB9.out.size _).trans (hT.below (by have := HB9.out.size; simp; omega) fun k hk => hk))) (fun _ _ h => h)).reads) (by have := HAT.out.small; simp only at this ⊢; omega) HES9.out)
      go_wp2_with (go_at_call 19; refine (CO.out).mono ?_; rintro e W9 ⟨r9, es9, s9, rfl, hF, hT, hres⟩; have GF := Lib.hid hF; have GT := Lib.hid hT; have GR := Lib.hid hres; clear hF hT hres)
      exact ⟨RunI.step HI.out hlt HO9.out HCL9.out HES9.out HIN9.out HB9.out HAT.out.ok HSC.out.len GF.out GT.out GR.out, by simp [intOf] <;> omega⟩
    · obtain rfl : i = os.length := by omega
      have HX := Lib.hid (show RunPost w I os.length (.returned (.pointer (some ⟨b, 0, none⟩))) wr from ⟨b, bm, es, s, rfl, hF, ho, hcl, hes, hin, hB⟩)
      clear hF ho hcl hes hin hB hi hlt HI1
      go_wp2_with fail
      go_ret
      exact HX.out

end Go.Proofs.YthpkfgjjaieikaaDoor
