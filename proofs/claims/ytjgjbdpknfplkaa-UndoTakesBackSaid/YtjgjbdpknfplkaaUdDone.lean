/-
  Edits applied one behind the other: the law package's done.
-/
import Derived.Test.YtjgjbdpknfplkaaUdRun
import Derived.Test.YtjgjbdpknfplkaaUdInvW
namespace Go.Proofs.Ytjgjbdpknfplkaa
open Go.RowKit Go.Shelf Go.Lib
attribute [local go_sem] Oper.semAt_some

theorem apply_row (w : World) (l : List Int) (e : Ed) (lv dv iv : Value) (hl : Holds1 w lv (runeVals l)) (hd : Holds1 w dv (runeVals e.d)) (hi : Holds1 w iv (runeVals e.i)) (hll : l.length ≤ 35184372088832) (hdl : e.d.length ≤ 35184372088832) (hil : e.i.length ≤ 35184372088832) {k : Int} {r : List Int} (hk : apErr l e = k) (hr : apRes l e = r) :
    Calls Try.prog 9 #[lv, editV e.p dv iv] w fun x w' => ∃ A n c, x = .returned (.tuple #[.slice A n c, .int .i64 k]) ∧ RRow w' w.heap.size (.slice A n c) r ∧ Below w.heap.size w w' := by
  refine (apply_any w l e lv dv iv hl hd hi hll hdl hil).mono ?_
  rintro x w' ⟨A, n, c, rfl, h1, h2⟩
  rw [hr] at h1
  rw [hk]
  exact ⟨A, n, c, rfl, h1, h2⟩
def DoneI (w : World) (l : List Int) (es : List Ed) (v i : Value) (wr : World) : Prop :=
  ∃ k : Nat, k ≤ es.length ∧ i = .int .i64 k ∧ (∃ A c, v = .slice A (afterK l es k).length c) ∧ Holds1 wr v (runeVals (afterK l es k)) ∧ (0 < k → RRow wr w.heap.size v (afterK l es k)) ∧ Below w.heap.size w wr
set_option maxRecDepth 1000000 in
set_option maxHeartbeats 4000000 in
theorem done_any (w : World) (l r : List Int) (es : List Ed) (lv ev : Value) (hl : Holds1 w lv (runeVals l)) (he : HoldsE w ev es) (hd : Done l es r) (hll : l.length ≤ 1024) (hes : es.length ≤ 16384) (hok : ∀ e ∈ es, e.d.length ≤ 35184372088832 ∧ e.i.length ≤ 35184372088832) :
    Calls Try.prog 42 #[lv, ev] w fun x w' => ∃ A n c, x = .returned (.tuple #[.slice A n c, .bool true]) ∧ Holds1 w' (.slice A n c) (runeVals r) ∧ (es ≠ [] → RRow w' w.heap.size (.slice A n c) r) ∧ Below w.heap.size w w' := by
  obtain ⟨A0, c0, rfl, _⟩ := id hl
  obtain ⟨E, ce, rfl, hcell⟩ := he
  have HC := Lib.hid hcell
  have HD := Lib.hid hd
  have HEND := Lib.hid hd.end'
  have HSH := Lib.hid (afterK_short hd hll)
  have HES := Lib.hid hes
  have HOK := Lib.hid hok
  have HI : Hid (DoneI w l es (.slice A0 (runeVals l).length c0) (.int .i64 0) w) := Lib.hid ⟨0, Nat.zero_le _, rfl, ⟨A0, c0, by rw [runeVals_length]; cases es <;> rfl⟩, by cases es <;> exact hl, fun h => absurd h (Nat.lt_irrefl _), Below.refl _ _⟩
  clear hl hcell hd hll hes hok
  generalize (runeVals l).length = n0 at *
  generalize hn : es.length = n at *
  have HN := Lib.hid hn
  clear hn
  go_enter Try.func42, Try.ntmps42
  go_wp2
  go_loopw [0, 12] (fun v i wr => DoneI w l es v i wr) (fun _ i _ => n - (RowKit.intOf i).toNat)
  case atStart => exact HI.out
  case round =>
    obtain ⟨k, hk, rfl, ⟨A, c, rfl⟩, hh, hr, hb⟩ := hrel
    by_cases hlt : k < n
    · have hke : k < es.length := by rw [HN.out]; exact hlt
      obtain ⟨b, off, rfl, hbl, hat⟩ := HC.out (by omega)
      obtain ⟨dv, iv, ⟨c0', c1', c2'⟩, hdv, hiv⟩ := hat k es[k] (List.getElem?_eq_getElem hke)
      have ⟨he1, he2⟩ := HD.out.at hke
      have hok := HOK.out es[k] (List.getElem_mem hke)
      have q0 := (hb.cell (p := ⟨b, off + k * 3, none⟩) hbl).trans c0'
      have q1 := (hb.cell (p := ⟨b, off + k * 3 + 1, none⟩) hbl).trans c1'
      have q2 := (hb.cell (p := ⟨b, off + k * 3 + 2, none⟩) hbl).trans c2'
      have hsh := HSH.out k (by omega)
      obtain ⟨A1, n1, e1, _⟩ := id hdv
      obtain ⟨A2, n2, e2, _⟩ := id hiv
      have ba := bel_alloc (Below.refl wr.heap.size wr) (.cells #[.int .i64 es[k].p, dv, iv] 24)
      have hB2 := hb.trans (ba.mono hb.size)
      have CA := Lib.hid (apply_row (wr.alloc (.cells #[.int .i64 es[k].p, dv, iv] 24)) (afterK l es k) es[k] _ dv iv (hh.below ba) (hdv.below hB2) (hiv.below hB2) (by omega) hok.1 hok.2 he1 (show apRes (afterK l es k) es[k] = afterK l es (k + 1) by rw [he2]; exact (apErr_zero he1).2.2.2))
      have B2 := Lib.hid hB2
      have HK := Lib.hid hke
      have i1 : (0 : Int) ≤ (k : Int) := by omega
      have i2 : ((k : Int) < (n : Int)) = True := by simp; exact hlt
      have hwk : wrap64 ((k : Int) + 1) = (k : Int) + 1 := by have := HES.out; unfold wrap64; omega
      have HKN := Lib.hid hlt
      subst e1 e2
      clear hk hh hr hb hbl hat hdv hiv c0' c1' c2' he1 he2 hok hsh ba hB2 hlt
      generalize es[k] = x at *
      clear hke
      generalize (runeVals x.d).length = m1 at *
      generalize (runeVals x.i).length = m2 at *
      generalize (afterK l es k).length = m0 at *
      go_wp2_with (go_at_call 9; refine (CA.out).mono ?_; rintro e w2 ⟨A3, n3, c3, rfl, hr, hb⟩; have R := Lib.hid hr; have B3 := Lib.hid (B2.out.trans (hb.mono B2.out.size)); clear hr hb)
      go_roundw
      case rel =>
        obtain ⟨A', c', e'⟩ := R.out.form
        exact ⟨k + 1, HK.out, next_val hwk, ⟨A', c', e'⟩, R.out.holds, fun _ => R.out.less B2.out.size, B3.out⟩
      case measure => exact measure_lt HKN.out hwk
    · obtain rfl : k = n := by have := HN.out; omega
      have i2 : ((k : Int) < (k : Int)) = False := by simp
      have e0 : afterK l es k = r := HEND.out
      rw [e0] at hh hr
      rw [e0]
      have HH := Lib.hid hh
      have HR : Hid (es ≠ [] → RRow wr w.heap.size (.slice A r.length c) r) := Lib.hid fun h => hr (by rw [← HN.out]; exact List.length_pos_iff.2 h)
      have HB := Lib.hid hb
      clear hlt hk hh hr hb e0
      generalize r.length = rn at *
      go_wp2
      go_ret2
      exact ⟨_, _, _, rfl, HH.out, HR.out, HB.out⟩
end Go.Proofs.Ytjgjbdpknfplkaa
