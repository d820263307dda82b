/-
  In whatever pieces: the law holds.
-/
import Derived.Test.YtmmlaaigcnkomaaDoorVpStreamA
namespace Go.Proofs.YtmmlaaigcnkomaaDoor
open Go.RowKit Go.Shelf Go.Lib
attribute [local go_sem] Oper.semAt_some

/-- between two pieces -/
structure StrI (w w1 : World) (g gq : Nat) (ps : List (List UInt8)) (all got i : Value) (wr : World) (k : Nat) : Prop where
  le : k ≤ ps.length
  i : i = .int .i64 k
  all : wr.ownsRow w1.heap.size 5 1 all (ps.take k).flatten.length (byteVals (ps.take k).flatten)
  got : ActRow wr w1.heap.size got (putPS ps0 (ps.take k).flatten).2
  p : ParAt wr g (putPS ps0 (ps.take k).flatten).1
  q : ParAt wr gq ps0
  below : Below w.heap.size w wr
  size : w1.heap.size ≤ wr.heap.size
theorem flat_le (ps : List (List UInt8)) (k : Nat) : (ps.take k).flatten.length ≤ ps.flatten.length := by
  induction ps generalizing k with
  | nil => simp
  | cons x xs ih =>
    cases k with
    | zero => simp
    | succ k => simp only [List.take_succ_cons, List.flatten_cons, List.length_append]; have := ih k; omega
theorem flat_snoc (ps : List (List UInt8)) {k : Nat} {x : List UInt8} (h : ps[k]? = some x) : (ps.take (k + 1)).flatten = (ps.take k).flatten ++ x := by
  rw [List.take_add_one, h]
  simp
theorem piece_le (ps : List (List UInt8)) {k : Nat} {x : List UInt8} (h : ps[k]? = some x) : (ps.take k).flatten.length + x.length ≤ ps.flatten.length := by
  have := flat_le ps (k + 1)
  rw [flat_snoc ps h, List.length_append] at this
  exact this

theorem HoldsOff.own {w : World} {B g : Nat} {v : Value} {l : List UInt8} (h : w.ownsRow B 5 1 v l.length (byteVals l)) (hg : g < B) : HoldsOff w g v l := by
  refine ⟨Holds1.of_own h, fun hl b off n c e hne => ?_⟩
  rcases h.2 with ⟨_, h0⟩ | ⟨k, cap, cur, hv, hb, _⟩
  · omega
  · rw [hv] at e
    injection e with e1
    injection e1 with e1
    injection e1 with e1
    omega

set_option maxRecDepth 1000000 in
set_option maxHeartbeats 4000000 in
theorem stream_walk (w : World) (ps : List (List UInt8)) (A0 : Option Addr) (n c0 : Nat) (hT : Tabs w) (hv : HoldsRows w (.slice A0 n c0) ps) (hlen : ps.flatten.length + ps.length ≤ 1048576) :
    Calls Tryd.prog 5 #[.slice A0 n c0] w fun e w' => e = .returned (.bool true) ∧ Below w.heap.size w w' := by
  obtain ⟨A', c', e0, hrows⟩ := hv
  injection e0 with e1 e2 e3
  subst e1 e3
  have HR := Lib.hid hrows
  have HN := Lib.hid e2
  have HLEN := Lib.hid hlen
  have CN := Lib.hid fun W => new_any W
  have CL := Lib.hid fun W (hW : Below w.heap.size w W) => live_any W (hT.below hW)
  have CP : Hid (∀ W g S bs bv, ParAt W g S → w.heap.size ≤ g → Below w.heap.size w W → HoldsOff W g bv bs → bs.length ≤ 200000000 → Calls Tryd.prog 18 #[.pointer (some ⟨g, 0, none⟩), bv] W (PutAPost W g S bs)) := Lib.hid fun W g S bs bv hp hg hb hh hl => putP_any W g S bs bv (hT.below hb) hp (Nat.le_trans hT.size hg) hh hl
  clear hrows e2 hlen hT
  unfold LivePost at CL
  unfold PutAPost at CP
  have tok1 : True := trivial
  go_enter Tryd.func5, Tryd.ntmps5
  go_wp2_with (first
    | (go_at_call 16; have tk := tok1; clear tk; refine (CN.out _).mono ?_; rintro e w1 ⟨g, rfl, hp1, hg1, hb1⟩; have HP1 := Lib.hid hp1; have HG := Lib.hid hg1; have HB1 := Lib.hid hb1; clear hp1 hg1 hb1 tok1)
    | (go_at_call 16; refine (CN.out _).mono ?_; rintro e w2 ⟨gq, rfl, hp2, hg2, hb2⟩; have HP2 := Lib.hid (HP1.out.below hb2); have HQ2 := Lib.hid hp2; have HGQ := Lib.hid (And.intro hg2 HP1.out.lt); have HB2 := Lib.hid (HB1.out.trans (hb2.mono HB1.out.size)); clear hp2 hg2 hb2)
    | (go_at_call 12; refine (CL.out _ HB2.out).mono ?_; rintro e w3 ⟨rfl, hb3⟩; have HP3 := Lib.hid (HP2.out.below hb3); have HQ3 := Lib.hid (HQ2.out.below hb3); have HB3 := Lib.hid (HB2.out.trans (hb3.mono HB2.out.size)); clear hb3))
  have HGL := Lib.hid (And.intro HP3.out.lt HQ3.out.lt)
  go_loopw [5, 6, 23] (fun all got i wr => ∃ k, StrI w w3 g gq ps all got i wr k) (fun _ _ i _ => n - (RowKit.intOf i).toNat)
  case atStart => exact ⟨0, Nat.zero_le _, rfl, World.ownsRow_nil _ _ _ _, ActRow.nil _ _, HP3.out, HQ3.out, HB3.out, Nat.le_refl _⟩
  case round =>
    obtain ⟨k, hI⟩ := hrel
    obtain rfl := hI.i
    by_cases hlt : k < n
    · obtain ⟨x, hx⟩ : ∃ x, ps[k]? = some x := ⟨_, List.getElem?_eq_getElem (by rw [← HN.out]; exact hlt)⟩
      have hkl : k < ps.length := by rw [← HN.out]; exact hlt
      have hxe : ps[k] = x := by
        have := List.getElem?_eq_getElem hkl
        rw [hx] at this
        exact (Option.some.inj this).symm
      obtain ⟨b, off, rfl, hbl, hrow⟩ := HR.out (by omega)
      obtain ⟨Ak, ck, hck, hhk⟩ := hrow k hkl
      rw [hxe] at hck hhk
      have hcell := (hI.below.cell (p := ⟨b, off + k, none⟩) hbl).trans hck
      have hpl := piece_le ps hx
      have hfs := flat_snoc ps hx
      have hmany := put_many (ps.take k).flatten ps0_ok rfl
      have hmany2 := (put_ok x (put_ok (ps.take k).flatten ps0_ok).1).2.2
      have hheld := hI.p.shortHeld
      have HPS := Lib.hid (show putPS ps0 (ps.take (k + 1)).flatten = _ from hfs ▸ putPS_append (ps.take k).flatten x ps0)
      have HX := Lib.hid hhk
      have HXW := Lib.hid (hhk.below hI.below)
      have HKL := Lib.hid hkl
      have HFS := Lib.hid hfs
      have HLL : Hid ((putPS (putPS ps0 (ps.take k).flatten).1 x).2.length ≤ 2000000 ∧ (putPS ps0 (ps.take k).flatten).2.length ≤ 2000000 ∧ (ps.take k).flatten.length ≤ 2000000 ∧ x.length ≤ 2000000) := Lib.hid (by have := HLEN.out; omega)
      have HI := Lib.hid hI
      have i1 : (0 : Int) ≤ (k : Int) := by omega
      have i2 : ((k : Int) < (n : Int)) = True := by simp; exact hlt
      have hwk : wrap64 ((k : Int) + 1) = (k : Int) + 1 := by have := HLEN.out; unfold wrap64; omega
      have HLT := Lib.hid hlt
      have HKL := Lib.hid hkl
      clear hI hrow hck hhk hpl hfs hmany hmany2 hheld hlt hxe hbl hx hkl
      go_wp2_with (first
        | (at_builtin; refine wpList_append_bytes (by rfl) _ _ (by rfl) w3.heap.size _ _ (by rfl) HI.out.all Ak x.length ck x (by rfl) HXW.out (by have := HLL.out; omega) HI.out.size ?_; intro a4 w4 ho4 hb4 hg4; have HALL4 := Lib.hid ho4; have HGOT4 := Lib.hid (HI.out.got.apart HI.out.all byte_ne hg4); have HP4 := Lib.hid (HI.out.p.same (hb4.block g HGL.out.1)); have HQ4 := Lib.hid (HI.out.q.same (hb4.block gq HGL.out.2)); have HB4 := Lib.hid (HI.out.below.trans (hb4.mono HB3.out.size)); have HXO4 := Lib.hid (HoldsOff.of HX.out HB4.out HG.out); have HS4 := Lib.hid (Nat.le_trans HI.out.size hb4.size); obtain ⟨A4, c4, e4, _⟩ := own_form ho4; generalize hqq : ((ps.take k).flatten ++ x).length = qq at e4; subst e4; clear hqq ho4 hb4 hg4)
        | (go_at_call 18; with_reducible refine (CP.out _ _ _ x _ HP4.out HG.out HB4.out HXO4.out (by have := HLL.out; omega)).mono ?_; rintro e w5 ⟨v5, rfl, hr5, hp5, ht5⟩; have HV5 := Lib.hid hr5; have HP5 := Lib.hid hp5; have HGOT5 := Lib.hid (HGOT4.out.only ht5 HGL.out.1); have HALL5 := Lib.hid (own_touch HALL4.out ht5 (fun k hk => by simp only [Only] at hk; have := HGL.out.1; omega)); have HQ5 := Lib.hid (HQ4.out.same (ht5.block gq HQ4.out.lt (fun y => by simp only [Only] at y; have := HGQ.out; omega))); have HB5 := Lib.hid (only_below HB4.out ht5 HG.out); have HS5 := Lib.hid (Nat.le_trans HS4.out ht5.size); clear hr5 hp5 ht5)
        | (at_builtin; refine wpList_append_acts (by rfl) _ _ (by rfl) w3.heap.size _ _ _ _ _ (by rfl) HGOT5.out (by rfl) HV5.out HS4.out (by have := HLL.out; omega) HS5.out ?_; intro g6 w6 hr6 hb6 hg6; have HGOT6 := Lib.hid hr6; have HALL6 := Lib.hid (own_apart HALL5.out HGOT5.out.choose_spec.2.1 byte_ne.1 hg6); have HP6 := Lib.hid (HP5.out.same (hb6.block g HGL.out.1)); have HQ6 := Lib.hid (HQ5.out.same (hb6.block gq HGL.out.2)); have HB6 := Lib.hid (HB5.out.trans (hb6.mono HB3.out.size)); have HS6 := Lib.hid (Nat.le_trans HS5.out hb6.size); clear hr6 hb6 hg6))
      go_roundw
      case rel => exact ⟨k + 1, HKL.out, next_val hwk, by rw [HFS.out]; exact HALL6.out, by rw [HPS.out]; exact HGOT6.out, by rw [HPS.out]; exact HP6.out, HQ6.out, HB6.out, HS6.out⟩
      case measure => exact measure_lt HLT.out hwk
    · have hkn : k = ps.length := by have := hI.le; have := HN.out; omega
      have hkn2 : k = n := by rw [HN.out]; exact hkn
      subst hkn2
      have hfl : (ps.take k).flatten = ps.flatten := by rw [List.take_of_length_le (by omega)]
      have hall := hI.all
      have hgot := hI.got
      have hp := hI.p
      rw [hfl] at hall hgot hp
      have HALL := Lib.hid (HoldsOff.own hall HGL.out.2)
      have HGOT := Lib.hid hgot
      have HP := Lib.hid hp
      have HQ := Lib.hid hI.q
      have HB := Lib.hid hI.below
      have HS := Lib.hid hI.size
      have HMY : Hid ((putPS ps0 ps.flatten).2.length ≤ 1000000000 ∧ ps.flatten.length ≤ 200000000) := Lib.hid (by have := many_le ps.flatten; have := HLEN.out; omega)
      have HGW := Lib.hid (Nat.le_trans HB1.out.size HGQ.out.1)
      have i2 : ((k : Int) < (k : Int)) = False := by simp
      obtain ⟨A4, c4, e4, _⟩ := own_form hall
      generalize hqq : ps.flatten.length = qq at e4
      subst e4
      clear hI hkn hfl hall hgot hp hlt hqq
      generalize ps.flatten = F at *
      have tok2 : True := trivial
      go_wp2_with (first
        | (go_at_call 18; with_reducible refine (CP.out _ _ _ F _ HQ.out HGW.out HB.out HALL.out HMY.out.2).mono ?_; rintro e w7 ⟨v7, rfl, hr7, hp7, ht7⟩; have HR7 := Lib.hid hr7; have HQ7 := Lib.hid hp7; have HGOT7 := Lib.hid (HGOT.out.only ht7 HGL.out.2); have HP7 := Lib.hid (HP.out.same (ht7.block g HP.out.lt (fun y => by simp only [Only] at y; have := HGQ.out; omega))); have HB7 := Lib.hid (only_below HB.out ht7 HGW.out); clear hr7 hp7 ht7)
        | (go_at_call 13; with_reducible refine (refSame_eq _ _ _ _ _ _ HGOT7.out HR7.out HMY.out.1).mono ?_; rintro e w8 ⟨rfl, hb8⟩; have CG1 := Lib.hid (ground_of _ _ _ (HP7.out.below hb8)); have CG2 := Lib.hid (ground_of _ _ _ (HQ7.out.below hb8)); have HB8 := Lib.hid (HB7.out.trans (hb8.mono HB7.out.size)); clear hb8; generalize groundP (putPS ps0 F).1 = gb at *)
        | (go_at_call 20; with_reducible refine (CG1.out).mono ?_; rintro e w' ⟨rfl, rfl⟩)
        | (go_at_call 20; with_reducible refine (CG2.out).mono ?_; rintro e w' ⟨rfl, rfl⟩))
      clear tok2
      go_ret
      exact ⟨by simp, HB8.out⟩
end Go.Proofs.YtmmlaaigcnkomaaDoor
