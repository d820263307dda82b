/-
  A script of steps is done to a line that is too long: the law answers at once.
-/
import Derived.Test.YtjgjbdpknfplkaaUdTBX
namespace Go.Proofs.Ytjgjbdpknfplkaa
open Go.RowKit Go.Shelf Go.Lib
attribute [local go_sem] Oper.semAt_some

set_option maxRecDepth 1000000 in
theorem tb_long (w : World) (As : Option Addr) (n cs : Nat) (Al : Option Addr) (m cl : Nat) (hm : 1024 < m) :
    Calls Try.prog 5 #[.slice Al m cl, .slice As n cs] w fun e w' => e = .returned (.bool true) ∧ Below w.heap.size w w' := by
  have CN := Lib.hid (new_any w)
  have i1 : ((m : Int) > 1024) = True := eq_true (by omega)
  have i2 : ((1024 : Int) < (m : Int)) = True := eq_true (by omega)
  have i3 : (1024 < m) = True := eq_true hm
  clear hm
  go_enter Try.func5, Try.ntmps5
  go_wp2_with (first
    | (go_at_call 18; refine (CN.out).mono ?_; rintro e w1 ⟨rfl, hl1, hb⟩; have B := Lib.hid hb; clear hl1 hb)
    | (go_at_call 13; refine (begun_any _).mono ?_; rintro e w2 ⟨rfl, hb⟩; have B := Lib.hid (B.out.trans (hb.mono B.out.size)); clear hb))
  go_ret
  exact ⟨rfl, B.out⟩
end Go.Proofs.Ytjgjbdpknfplkaa
