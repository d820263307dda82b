/-
  on of the document: flags are set.
-/
import Derived.Test.YtcfgppjhgobboaaGreatDoorTiRefNum
namespace Go.Proofs.YtcfgppjhgobboaaGreatDoor
open Go.RowKit Go.Shelf Go.Lib
attribute [local go_sem] Oper.semAt_some

/-- the index that Place tells -/
def placeN (nm : List UInt8) : Nat := match placeP nm with
  | some (_, n) => n.toNat
  | none => 0
theorem placeN_of {nm : List UInt8} (h : (placeP nm).isSome = true) : ∃ k : Int, placeRes nm = .tuple #[.int .i64 k, .int .i64 (placeN nm : Nat), .bool true] ∧ placeN nm ≤ 164 := by
  unfold placeN placeRes
  cases hp : placeP nm with
  | none => rw [hp] at h; cases h
  | some q =>
    obtain ⟨k, n⟩ := q
    obtain ⟨_, hn0, hn⟩ := placeP_small hp
    exact ⟨k, by rw [show (n.toNat : Int) = n by omega], by simp only; omega⟩
def onP (l : List CapD) (names : List (List UInt8)) : List CapD := names.foldl (fun l nm => placedP l (placeN nm) ⟨1, 0, []⟩) l
theorem onP_take (l : List CapD) {names : List (List UInt8)} {i : Nat} {nm : List UInt8} (h : names[i]? = some nm) : onP l (names.take (i + 1)) = placedP (onP l (names.take i)) (placeN nm) ⟨1, 0, []⟩ := by
  unfold onP
  rw [List.take_add_one, h]
  simp [List.foldl_append]
/-- a list of an entry in the box of a call, while it grows -/
structure Grow (T : Nat → Prop) (w W : World) (nm : List UInt8) (wd : Bool) (p q r s : Value) (u : Value) (L : List CapD) : Prop where
  two : TwoB w W nm wd p q r s
  rob : Rob (Two T w) W u L
  small : L.length * 32 ≤ 140737488355328
  form : ∃ A cp, u = .slice A L.length cp
theorem Grow.next {T : Nat → Prop} {w W W' : World} {nm : List UInt8} {wd : Bool} {p q r s u : Value} {L : List CapD} (h : Grow T w W nm wd p q r s u L) (hb : Below W.heap.size W W') : Grow T w W' nm wd p q r s u L :=
  ⟨h.two.next hb, h.rob.next (Touch.of_below hb), h.small, h.form⟩

def OnR (T : Nat → Prop) (w : World) (nm : List UInt8) (wd : Bool) (q r s : Value) (l0 : List CapD) (names : List (List UInt8)) (fb : Nat) (i : Value) (W : World) : Prop :=
  ∃ k : Nat, i = .int .i64 k ∧ k ≤ names.length ∧ W.heap[fb]? = some (.cells (names.map str).toArray 9 (0, 0)) ∧ ∃ u, Grow T w W nm wd u q r s u (onP l0 (names.take k))

set_option maxRecDepth 100000 in
set_option maxHeartbeats 4000000 in
theorem refOn_any (w : World) (T : Nat → Prop) (hTT : ∀ k, T k → k < w.heap.size) (t : TermD) (v : Nat → Value) (ve : Value) (h : RobT T w v ve t) (hT : Tabs w) (s : List UInt8) (hs : s.length ≤ 4096) (ha : ∀ (j : Nat) (b : UInt8), s[j]? = some b → b.toNat < 128)
    (hp : ((fields s).all fun n => (placeP n).isSome) = true) (hf : (fields s).length ≤ 4096) :
    Calls Tryz.prog 62 #[termVal t v ve, str s] w (RobPost T w { t with bools := onP t.bools (fields s) }) := by
  obtain ⟨A0, n0, A1, n1, A2, n2, A3, n3, hv, ⟨s0, s1, s2⟩, r0, r1, r2, r3⟩ := h.slices
  rw [hv]
  have HB0 := Lib.hid (TwoB.made hT t.names t.wide (.slice A0 t.bools.length n0) (.slice A1 t.nums.length n1) (.slice A2 t.strs.length n2) (.slice A3 t.exts.length n3))
  have hbc := build_is
  have HT := Lib.hid hT
  have HTT := Lib.hid hTT
  have R0 := Lib.hid r0
  have R1 := Lib.hid r1
  have R2 := Lib.hid r2
  have R3 := Lib.hid r3
  have CF := Lib.hid (fields_any s _ HB0.out.tabs.space hs ha)
  have S0 := Lib.hid s0
  have HP : Hid (∀ i nm, (fields s)[i]? = some nm → (placeP nm).isSome = true) := Lib.hid (fun i nm hi => List.all_eq_true.1 hp nm (List.mem_of_getElem? hi))
  clear h hv hT hTT r0 r1 r2 r3 hp s0 s1 s2 hs ha
  obtain ⟨nm, wd, l0, l1, l2, l3⟩ := t
  simp only at *
  generalize fields s = names at *
  obtain ⟨len, hlen⟩ : ∃ len, names.length = len := ⟨_, rfl⟩
  have HLEN := Lib.hid hlen
  rw [hlen] at CF hf
  clear hlen
  go_enter Tryz.func62, Tryz.ntmps62
  go_wp2_with (go_at_call 104; (with_reducible refine (CF.out).mono ?_); rintro e W1 ⟨rfl, rfl⟩)
  have HI := Lib.hid (show OnR T w nm wd (.slice A1 l1.length n1) (.slice A2 l2.length n2) (.slice A3 l3.length n3) l0 names (w.heap.size + 1 + 1) (.int .i64 0) (((w.alloc (termObj nm wd (.slice A0 l0.length n0) (.slice A1 l1.length n1) (.slice A2 l2.length n2) (.slice A3 l3.length n3))).alloc termZero).alloc (.cells (names.map str).toArray 9)) from
    ⟨0, rfl, Nat.zero_le _, by have := World.alloc_heap_new ((w.alloc (termObj nm wd (.slice A0 l0.length n0) (.slice A1 l1.length n1) (.slice A2 l2.length n2) (.slice A3 l3.length n3))).alloc termZero) (.cells (names.map str).toArray 9); rwa [World.size_alloc, World.size_alloc] at this, .slice A0 l0.length n0, HB0.out.next (below_alloc _ _), (R0.out.two (Touch.of_below (HB0.out.next (below_alloc _ _)).below)), S0.out, A0, n0, rfl⟩)
  go_loopw [6] (fun i wr => OnR T w nm wd (.slice A1 l1.length n1) (.slice A2 l2.length n2) (.slice A3 l3.length n3) l0 names (w.heap.size + 1 + 1) i wr) (fun i _ => len - (RowKit.intOf i).toNat)
  case atStart => exact HI.out
  case round =>
    obtain ⟨k, rfl, hk, hfb, u, hg⟩ := hrel
    rw [HLEN.out] at hk
    obtain ⟨A, cp, rfl⟩ := hg.form
    have HG := Lib.hid hg
    have HFB := Lib.hid hfb
    by_cases hlt : k < len
    · obtain ⟨one, hone⟩ : ∃ one, names[k]? = some one := ⟨_, List.getElem?_eq_getElem (by rw [HLEN.out]; exact hlt)⟩
      have hcell : wr.cell? ⟨w.heap.size + 1 + 1, k, none⟩ = some (str one) := by
        rw [cell_of_row wr _ k _ _ _ hfb]
        simp [hone]
      obtain ⟨kd, hres, hn⟩ := placeN_of (HP.out k one hone)
      have hpl := onP_take l0 hone
      have hsm : (onP l0 (names.take (k + 1))).length * 32 ≤ 140737488355328 := by
        rw [hpl, placedP_length]
        have := hg.small
        omega
      have CP := Lib.hid (refPlace_any one wr hg.two.tabs)
      unfold PlacePost at CP
      rw [hres] at CP
      have HPL := Lib.hid (And.intro hpl (And.intro hsm hn))
      have i1 : (0 : Int) ≤ (k : Int) := by omega
      have i2 : (k : Int) < (len : Int) := by omega
      generalize hLk : onP l0 (names.take k) = Lk at *
      generalize hLn : onP l0 (names.take (k + 1)) = Ln at *
      have HLN := Lib.hid hLn
      generalize placeN one = n at *
      clear hg hfb hone hres hn hpl hsm hLk hLn hk
      go_wp2_with (first
        | (go_at_call 54; (with_reducible refine (CP.out).mono ?_); rintro e W1 ⟨rfl, hb1⟩; have HG1 := Lib.hid (HG.out.next hb1); have HFB1 := Lib.hid ((hb1.block _ (Array.getElem?_eq_some_iff.1 HFB.out).1).trans HFB.out); have CW := with_any W1 _ Lk n ⟨1, 0, []⟩ HG1.out.rob.val HPL.out.2.2; have CWH := Lib.hid (show Calls Tryz.prog 55 #[.slice A Lk.length cp, .int .i64 n, .agg #[.int .i64 1, .int .i64 0, .string ⟨#[]⟩]] W1 (WithPost W1 Lk n ⟨1, 0, []⟩) from CW); obtain ⟨c0, c1, c2, c3, c4, c5, _⟩ := HG1.out.two.cells; clear hb1 CW hcell)
        | (go_at_call 55; (with_reducible refine (CWH.out).mono ?_); rintro e W2 ⟨u2, rfl, hr, hb2, ho⟩; rw [← HPL.out.1] at hr; obtain ⟨A', cp', rfl⟩ := hr.form; have hG2 := HG1.out.next hb2; have hfr := hG2.two.cells.2.2.2.2.2.2 2; have HG3 := Lib.hid (Grow.mk (T := T) (hG2.two.put (p' := .slice A' Ln.length cp') (q' := .slice A1 l1.length n1) (r' := .slice A2 l2.length n2) (s' := .slice A3 l3.length n3) HT.out 2 (.slice A' Ln.length cp') rfl) ((Rob.new HTT.out HG1.out.two.size hr ho HPL.out.2.1).next (Touch.setCell (T := Two T w) W2 ⟨w.heap.size, 2, none⟩ _ (.inr (.inl rfl)))) HPL.out.2.1 ⟨A', cp', rfl⟩); have HFB3 := Lib.hid (((Touch.setCell (T := fun k => k = w.heap.size) W2 ⟨w.heap.size, 2, none⟩ (.slice A' Ln.length cp') rfl).block _ (Nat.lt_of_lt_of_le (Array.getElem?_eq_some_iff.1 HFB1.out).1 hb2.size) (by omega)).trans ((hb2.block _ (Array.getElem?_eq_some_iff.1 HFB1.out).1).trans HFB1.out)); clear c0 c1 c2 c3 c4 c5 hr hb2 ho; obtain ⟨c0, c1, c2, c3, c4, c5, _⟩ := hG2.two.cells; clear hG2))
      go_roundw
      case rel => exact ⟨k + 1, by go_num, by rw [HLEN.out]; omega, HFB3.out, _, by rw [HLN.out]; exact HG3.out⟩
      case measure => simp [RowKit.intOf]; omega
    · obtain rfl : k = len := by omega
      have hall : names.take k = names := List.take_of_length_le (by rw [HLEN.out]; omega)
      rw [hall] at HG
      generalize hL : onP l0 names = L at *
      obtain ⟨c0, c1, c2, c3, c4, c5, _⟩ := HG.out.two.cells
      obtain ⟨d0, d1, d2, d3, d4, d5, f0, f1, f2, f3', f4, f5⟩ := termZero_facts HG.out.two.res
      clear hg hfb hall hk hL
      go_wp2_with fail
      obtain ⟨e1, e2⟩ := HG.out.two.done ⟨nm, wd, L, l1, l2, l3⟩ (tri (.slice A L.length cp) (.slice A1 l1.length n1) (.slice A2 l2.length n2)) (.slice A3 l3.length n3) T
      have hres := fun j => cell_of_row (storeTerm wr (w.heap.size + 1) ⟨nm, wd, L, l1, l2, l3⟩ (tri (.slice A L.length cp) (.slice A1 l1.length n1) (.slice A2 l2.length n2)) (.slice A3 l3.length n3)) (w.heap.size + 1) j _ _ _ (storeTerm_box HG.out.two.res)
      change bodyPost _ _ _ _ _ (storeTerm wr (w.heap.size + 1) ⟨nm, wd, L, l1, l2, l3⟩ (tri (.slice A L.length cp) (.slice A1 l1.length n1) (.slice A2 l2.length n2)) (.slice A3 l3.length n3))
      generalize storeTerm wr (w.heap.size + 1) ⟨nm, wd, L, l1, l2, l3⟩ (tri (.slice A L.length cp) (.slice A1 l1.length n1) (.slice A2 l2.length n2)) (.slice A3 l3.length n3) = W' at *
      simp only [List.getElem?_toArray] at hres
      refine bodyPost_ret (v := termVal ⟨nm, wd, L, l1, l2, l3⟩ (tri (.slice A L.length cp) (.slice A1 l1.length n1) (.slice A2 l2.length n2)) (.slice A3 l3.length n3)) (by simp [results, Tryz.results62, go_sem, hres]) rfl ?_
      have hTw : Touch T w W' := Touch.of_below e2
      exact ⟨_, _, rfl, RobT.mk4 ((HG.out.rob.next e1).less) ((R1.out.two hTw).less) ((R2.out.two hTw).less) (fun W'' h2 => exts_two R3.out hTw W'' (h2.mono fun _ _ hk => .inl hk)), e2⟩

end Go.Proofs.YtcfgppjhgobboaaGreatDoor
