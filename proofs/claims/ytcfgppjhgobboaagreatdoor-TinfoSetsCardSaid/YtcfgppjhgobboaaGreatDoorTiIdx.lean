/-
  What indexOf of package tinfo returns.
-/
import Derived.Test.YtcfgppjhgobboaaGreatDoorTiClone
namespace Go.Proofs.YtcfgppjhgobboaaGreatDoor
open Go.RowKit Go.Shelf Go.Lib Go.Maps
attribute [local go_sem] Oper.semAt_some

theorem isName_at (x : ExtD) (nb : Nat) (name : List UInt8) (w : World) (hn : Box w nb (str name) 9) : Calls Tryz.prog 132 #[extVal x, .pointer (some ⟨nb, 0, none⟩)] w fun e w' => e = .returned (.bool (x.name == name)) ∧ Below w.heap.size w w' := by
  have hb : Below w.heap.size w (w.alloc (.cells #[.int .i64 x.kind, str x.name, .int .i64 x.cap.st, .int .i64 x.cap.num, str x.cap.text] 48)) := (Below.refl _ w).alloc (Nat.le_refl _) _
  have c := (hn.same (hb.block _ hn.lt)).cell
  have HB := Lib.hid hb
  clear hn hb
  go_enter Tryz.func132, Tryz.ntmps132
  go_wp2
  go_ret
  exact ⟨ret_bool (by simp [BEq.beq]), HB.out⟩
def idxInt (l : List ExtD) (name : List UInt8) : Int := match extIdx l name with | some i => (i : Int) | none => -1
theorem idx_at {l : List ExtD} {name : List UInt8} {k : Nat} {x : ExtD} (hx : l[k]? = some x) (hno : ((l.take k).any fun x => x.name == name) = false) (h : (x.name == name) = true) : idxInt l name = (k : Int) := by
  have : extIdx l name = some k := by
    unfold extIdx
    rw [List.findIdx?_eq_some_iff_getElem]
    have hlt := (List.getElem?_eq_some_iff.1 hx).1
    refine ⟨hlt, by rw [(List.getElem?_eq_some_iff.1 hx).2]; exact h, fun j hj => ?_⟩
    have := List.any_eq_false.1 hno (l[j]'(by omega)) (List.mem_of_getElem? (i := j) (by rw [List.getElem?_take_of_lt hj]; exact List.getElem?_eq_getElem (by omega)))
    simpa using this
  rw [idxInt, this]
theorem idx_none {l : List ExtD} {name : List UInt8} (hno : (l.any fun x => x.name == name) = false) : idxInt l name = -1 := by
  have : extIdx l name = none := by
    unfold extIdx
    rw [List.findIdx?_eq_none_iff]
    intro x hx
    have := List.any_eq_false.1 hno x hx
    simpa using this
  rw [idxInt, this]
set_option maxRecDepth 100000 in
theorem indexFunc_any (w : World) (v : Value) (l : List ExtD) (h : ExtsV w v l) (nb : Nat) (name : List UInt8) (hn : Box w nb (str name) 9) :
    Calls Tryz.prog 131 #[v, .func (.func 132) #[] #[.pointer (some ⟨nb, 0, none⟩)]] w fun e w' => e = .returned (.int .i64 (idxInt l name)) ∧ Below w.heap.size w w' := by
  obtain ⟨A, cap, rfl, hsm⟩ := h.form
  have H := Lib.hid h
  have HN := Lib.hid hn
  clear h hn
  obtain ⟨n, hln⟩ : ∃ n, l.length = n := ⟨_, rfl⟩
  have HL := Lib.hid hln
  rw [hln] at H hsm ⊢
  clear hln
  go_enter Tryz.func131, Tryz.ntmps131
  go_wp2_with fail
  go_loopw [8] (fun i wr => LoopB w (fun k => k ≤ n ∧ ((l.take k).any fun x => x.name == name) = false) i wr) (fun i _ => n - (RowKit.intOf i).toNat)
  case atStart => exact ⟨0, rfl, ⟨Nat.zero_le _, rfl⟩, Below.refl _ _⟩
  case round =>
    obtain ⟨k, rfl, ⟨hk, hno⟩, hb⟩ := hrel
    have HNO := Lib.hid hno
    have HB := Lib.hid hb
    clear hno hb
    by_cases hlt : k < n
    · obtain ⟨x, hx⟩ : ∃ x, l[k]? = some x := ⟨_, List.getElem?_eq_getElem (by rw [HL.out]; exact hlt)⟩
      obtain ⟨kb, off, rfl, hkb, g0, g1, g2, g3, g4⟩ := H.out.cells hx
      rw [← HB.out.cell (p := ⟨kb, off + k * 5, none⟩) hkb] at g0
      rw [← HB.out.cell (p := ⟨kb, off + k * 5 + 1, none⟩) hkb] at g1
      rw [← HB.out.cell (p := ⟨kb, off + k * 5 + 2, none⟩) hkb] at g2
      rw [← HB.out.cell (p := ⟨kb, off + k * 5 + 3, none⟩) hkb] at g3
      rw [← HB.out.cell (p := ⟨kb, off + k * 5 + 4, none⟩) hkb] at g4
      have i1 : (0 : Int) ≤ (k : Int) := by omega
      have i2 : (k : Int) < (n : Int) := by omega
      have HX := Lib.hid hx
      have CI := Lib.hid (isName_at x nb name wr (HN.out.same (HB.out.block _ HN.out.lt)))
      clear hx hkb
      cases hq : (x.name == name) with
      | true =>
        have HQ := Lib.hid hq
        rw [hq] at CI
        clear hq
        go_wp2_with (go_at_call 132; refine (CI.out).mono ?_; rintro e w2 ⟨rfl, hb2⟩; have HB2 := Lib.hid (HB.out.trans (hb2.mono HB.out.size)); clear hb2)
        go_ret
        exact ⟨by rw [idx_at HX.out HNO.out HQ.out]; rfl, HB2.out⟩
      | false =>
        have HQ := Lib.hid hq
        rw [hq] at CI
        clear hq
        go_wp2_with (go_at_call 132; refine (CI.out).mono ?_; rintro e w2 ⟨rfl, hb2⟩; have HB2 := Lib.hid (HB.out.trans (hb2.mono HB.out.size)); clear hb2)
        exact ⟨⟨k + 1, by go_num, ⟨hlt, any_next HX.out HNO.out HQ.out⟩, HB2.out⟩, by simp [RowKit.intOf]; omega⟩
    · obtain rfl : k = n := by omega
      go_wp2_with fail
      go_ret
      exact ⟨by rw [idx_none (any_end (Nat.le_of_eq HL.out) HNO.out)]; rfl, HB.out⟩
set_option maxRecDepth 100000 in
theorem indexOf_any (w : World) (v : Value) (l : List ExtD) (h : ExtsV w v l) (name : List UInt8) :
    Calls Tryz.prog 102 #[v, str name] w fun e w' => e = .returned (.int .i64 (idxInt l name)) ∧ Below w.heap.size w w' := by
  have hb : Below w.heap.size w (w.alloc (.cells #[str name] 9)) := (Below.refl _ w).alloc (Nat.le_refl _) _
  have CF := Lib.hid (indexFunc_any _ v l (h.below hb) w.heap.size name (World.alloc_heap_new w _))
  have HB := Lib.hid hb
  clear h hb
  go_enter Tryz.func102, Tryz.ntmps102
  go_wp2_with (go_at_call 131; refine (CF.out).mono ?_; rintro e w2 ⟨rfl, hb2⟩; have HB2 := Lib.hid (HB.out.trans (hb2.mono HB.out.size)); clear hb2)
  go_ret
  exact ⟨rfl, HB2.out⟩
end Go.Proofs.YtcfgppjhgobboaaGreatDoor
