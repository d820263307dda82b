/-
  The law on all actions of all bytes holds.
-/
import Derived.Test.YtjoiagaadofndaaDoorVrMany
import Derived.Test.YtjoiagaadofndaaDoorVpSame
namespace Go.Proofs.YtjoiagaadofndaaDoor
open Go.RowKit Go.Shelf Go.Lib
attribute [local go_sem] Oper.semAt_some

theorem ref_all_eq (l : List UInt8) : rAllP l = allP l := ref_all l (hok_put l hok0).2
set_option maxRecDepth 1000000 in
set_option maxHeartbeats 2000000 in
theorem all_walk (w : World) (bs : List UInt8) (a : Option Addr) (n c : Nat) (hT : Tabs w) (hv : Holds1 w (.slice a n c) (byteVals bs)) (hlen : bs.length ≤ 100000000) :
    Calls Tryd.prog 3 #[.slice a n c] w fun e w' => e = .returned (.bool true) ∧ Below w.heap.size w w' := by
  have CL := Lib.hid (live_any w hT)
  have CA := Lib.hid fun W (hW : Below w.heap.size w W) => all_any W bs (.slice a n c) (hT.below hW) (hv.below hW) (by omega) (by have := many_le bs; omega)
  have CR := Lib.hid fun W (hW : Below w.heap.size w W) => rall_any W bs (.slice a n c) (hv.below hW) (by omega)
  have HL : Hid ((allP bs).length ≤ 1000000000) := Lib.hid (by have := (all_ok bs).2; omega)
  clear hT hv hlen
  unfold LivePost at CL
  unfold AllPost at CA
  unfold RAllPost at CR
  rw [ref_all_eq] at CR
  generalize allP bs = L at *
  go_enter Tryd.func3, Tryd.ntmps3
  go_wp2_with (first
    | (go_at_call 12; refine (CL.out).mono ?_; rintro e w1 ⟨rfl, hb1⟩; have HB1 := Lib.hid hb1; clear hb1)
    | (go_at_call 14; refine (CA.out _ HB1.out).mono ?_; rintro e w2 ⟨v2, rfl, hr2, hb2⟩; have HR2 := Lib.hid hr2; have HB2 := Lib.hid (HB1.out.trans (hb2.mono HB1.out.size)); clear hr2 hb2)
    | (go_at_call 15; refine (CR.out _ HB2.out).mono ?_; rintro e w3 ⟨v3, rfl, hr3, hb3⟩; have HR3 := Lib.hid hr3; have HQ3 := Lib.hid (HR2.out.touch (Touch.of_below (T := fun _ => False) hb3) fun k hk => hk.elim); have HB3 := Lib.hid (HB2.out.trans (hb3.mono HB2.out.size)); clear hr3 hb3)
    | (go_at_call 13; refine (refSame_eq _ _ _ _ _ _ HQ3.out HR3.out HL.out).mono ?_; rintro e w4 ⟨rfl, hb4⟩; have HB4 := Lib.hid (HB3.out.trans (hb4.mono HB3.out.size)); clear hb4))
  go_ret
  exact ⟨rfl, HB4.out⟩
end Go.Proofs.YtjoiagaadofndaaDoor
