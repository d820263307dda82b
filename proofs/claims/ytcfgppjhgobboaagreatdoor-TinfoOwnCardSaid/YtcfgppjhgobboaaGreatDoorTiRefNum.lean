/-
  num of the document: a number is set.
-/
import Derived.Test.YtcfgppjhgobboaaGreatDoorTiRob
import Derived.Test.YtcfgppjhgobboaaGreatDoorTiShip
namespace Go.Proofs.YtcfgppjhgobboaaGreatDoor
open Go.RowKit Go.Shelf Go.Lib
attribute [local go_sem] Oper.semAt_some

set_option maxRecDepth 100000 in
set_option maxHeartbeats 2000000 in
theorem refNum_any (w : World) (T : Nat → Prop) (hTT : ∀ k, T k → k < w.heap.size) (t : TermD) (v : Nat → Value) (ve : Value) (h : RobT T w v ve t) (hT : Tabs w) (name : List UInt8) (k : Int) (n : Nat) (hn : n ≤ 164) (hp : placeP name = some ((1 : Int), (n : Int))) :
    Calls Tryz.prog 61 #[termVal t v ve, str name, .int .i64 k] w (RobPost T w { t with nums := placedP t.nums n ⟨1, k, []⟩ }) := by
  obtain ⟨A0, n0, A1, n1, A2, n2, A3, n3, hv, ⟨s0, s1, s2⟩, r0, r1, r2, r3⟩ := h.slices
  rw [hv]
  have HB0 := Lib.hid (TwoB.made hT t.names t.wide (.slice A0 t.bools.length n0) (.slice A1 t.nums.length n1) (.slice A2 t.strs.length n2) (.slice A3 t.exts.length n3))
  have hbc := build_num k
  have HT := Lib.hid hT
  have HTT := Lib.hid hTT
  have R0 := Lib.hid r0
  have R1 := Lib.hid r1
  have R2 := Lib.hid r2
  have R3 := Lib.hid r3
  have hres : placeRes name = .tuple #[.int .i64 1, .int .i64 n, .bool true] := by unfold placeRes; rw [hp]
  have CP := Lib.hid (fun W (hW : Tabs W) => refPlace_any name W hW)
  unfold PlacePost at CP
  rw [hres] at CP
  have hlen : (placedP t.nums n ⟨1, k, []⟩).length * 32 ≤ 140737488355328 := by rw [placedP_length]; omega
  have HLEN := Lib.hid hlen
  have CW : Hid (∀ W, Below w.heap.size w W → Calls Tryz.prog 55 #[.slice A1 t.nums.length n1, .int .i64 n, .agg #[.int .i64 1, .int .i64 k, .string ⟨#[]⟩]] W (WithPost W t.nums n ⟨1, k, []⟩)) := Lib.hid (fun W hW => with_any W _ _ n ⟨1, k, []⟩ (R1.out _ (Touch.of_below hW)) hn)
  clear h hv hT hTT r0 r1 r2 r3 hp hres s0 s1 s2 hlen
  obtain ⟨nm, wd, l0, l1, l2, l3⟩ := t
  simp only at *
  generalize hL : placedP l1 n ⟨1, k, []⟩ = L at *
  have HL := Lib.hid hL
  clear hL
  go_enter Tryz.func61, Tryz.ntmps61
  go_wp2_with (first
    | (go_at_call 54; (with_reducible refine (CP.out _ HB0.out.tabs).mono ?_); rintro e W1 ⟨rfl, hb1⟩; have HB1 := Lib.hid (HB0.out.next hb1); obtain ⟨c0, c1, c2, c3, c4, c5, _⟩ := HB1.out.cells; clear hb1)
    | (go_at_call 55; (with_reducible refine (CW.out _ HB1.out.below).mono ?_); rintro e W2 ⟨u, rfl, hr, hb2, ho⟩; rw [HL.out] at hr; obtain ⟨A, cp, rfl⟩ := hr.form; have hB2 := HB1.out.next hb2; have HB3 := Lib.hid (hB2.put (p' := .slice A0 l0.length n0) (q' := .slice A L.length cp) (r' := .slice A2 l2.length n2) (s' := .slice A3 l3.length n3) HT.out 3 (.slice A L.length cp) rfl); have HR := Lib.hid (Rob.new HTT.out HB1.out.size hr ho HLEN.out); have HS2 := Lib.hid hB2.below; clear c0 c1 c2 c3 c4 c5 hr hb2 ho; obtain ⟨c0, c1, c2, c3, c4, c5, fz⟩ := hB2.cells; have f3 := fz 3; obtain ⟨d0, d1, d2, d3, d4, d5, f0, f1, f2, f3', f4, f5⟩ := termZero_facts HB3.out.res; clear fz hB2))
  obtain ⟨e1, e2⟩ := HB3.out.done ⟨nm, wd, l0, L, l2, l3⟩ (tri (.slice A0 l0.length n0) (.slice A L.length cp) (.slice A2 l2.length n2)) (.slice A3 l3.length n3) T
  have hres := fun j => cell_of_row (storeTerm (W2.setCell ⟨w.heap.size, 3, none⟩ (.slice A L.length cp)) (w.heap.size + 1) ⟨nm, wd, l0, L, l2, l3⟩ (tri (.slice A0 l0.length n0) (.slice A L.length cp) (.slice A2 l2.length n2)) (.slice A3 l3.length n3)) (w.heap.size + 1) j _ _ _ (storeTerm_box HB3.out.res)
  have e0 : Touch (Two T w) W2 (W2.setCell ⟨w.heap.size, 3, none⟩ (.slice A L.length cp)) := Touch.setCell (T := Two T w) W2 ⟨w.heap.size, 3, none⟩ _ (.inr (.inl rfl))
  change bodyPost _ _ _ _ _ (storeTerm (W2.setCell ⟨w.heap.size, 3, none⟩ (.slice A L.length cp)) (w.heap.size + 1) ⟨nm, wd, l0, L, l2, l3⟩ (tri (.slice A0 l0.length n0) (.slice A L.length cp) (.slice A2 l2.length n2)) (.slice A3 l3.length n3))
  generalize storeTerm (W2.setCell ⟨w.heap.size, 3, none⟩ (.slice A L.length cp)) (w.heap.size + 1) ⟨nm, wd, l0, L, l2, l3⟩ (tri (.slice A0 l0.length n0) (.slice A L.length cp) (.slice A2 l2.length n2)) (.slice A3 l3.length n3) = W' at *
  simp only [List.getElem?_toArray] at hres
  refine bodyPost_ret (v := termVal ⟨nm, wd, l0, L, l2, l3⟩ (tri (.slice A0 l0.length n0) (.slice A L.length cp) (.slice A2 l2.length n2)) (.slice A3 l3.length n3)) (by simp [results, Tryz.results61, go_sem, hres]) rfl ?_
  have hTw : Touch T w W2 := Touch.of_below HS2.out
  exact ⟨_, _, rfl, RobT.mk4 (((R0.out.two hTw).next (e0.trans e1)).less) ((HR.out.next (e0.trans e1)).less) (((R2.out.two hTw).next (e0.trans e1)).less) (fun W'' h2 => exts_two R3.out hTw W'' ((e0.trans e1).trans (h2.mono fun _ _ hk => .inl hk))), e2⟩

end Go.Proofs.YtcfgppjhgobboaaGreatDoor
