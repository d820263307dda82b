/-
  What a ring's small methods answer: slot, entry, replace, push, usable, tooLong, New, Len.
-/
import Derived.Test.YtknekldnipdpeaaKrRep
namespace Go.Proofs.Ytknekldnipdpeaa
open Go.RowKit Go.Shelf Go.Lib
attribute [local go_sem] Oper.semAt_some

theorem slot_sum {nw i : Nat} (h : nw < 60) (hi : i ≤ 60) : wrap64 ((nw : Int) + (i : Int)) = ((nw + i : Nat) : Int) := by unfold wrap64; omega
theorem slot_sum' {nw i : Nat} (h : nw < 60) (hi : i ≤ 60) : IntKind.i64.wrap ((nw : Int) + (i : Int)) = ((nw + i : Nat) : Int) := by rw [IntWalk.i64_in _ (by omega)]; omega
theorem slot_rem (n : Nat) : ((n : Int)).tmod 60 = ((n % 60 : Nat) : Int) := rfl
set_option maxRecDepth 1000000 in
theorem slot_any (w : World) (g off : Nat) (vs : List Value) (nw cn : Nat) (h : CCells w g off vs nw cn) (i : Nat) (hi : i ≤ 60) : Calls Try.prog 35 #[.pointer (some ⟨g, off, none⟩), .int .i64 (i : Int)] w fun e w' => e = .returned (.int .i64 (((nw + i) % 60 : Nat) : Int)) ∧ w = w' := by
  have c1 := h.cnw
  have e1 := slot_sum h.lt hi
  have e2 := slot_rem (nw + i)
  have e3 := slot_sum' h.lt hi
  generalize (nw + i) % 60 = m at *
  generalize nw + i = s at *
  clear h hi
  go_enter Try.func35, Try.ntmps35
  go_wp2
  go_ret
  exact ⟨rfl, rfl⟩
theorem quiet_same {f : FuncId} {args : Array Value} {w : World} {n : Nat} {v : Value} (h : Calls Try.prog f args (w.drewN n) fun e w' => e = .returned v ∧ w.drewN n = w') : Calls Try.prog f args (w.drewN n) fun e w'' => e = .returned v ∧ ∃ m, w'' = w.drewN m :=
  h.mono fun _ _ ⟨he, hm⟩ => ⟨he, n, hm.symm⟩
/-- worlds that differ in what was drawn -/
theorem Below.drewN {w w' : World} {B : Nat} (h : Below B w w') (n : Nat) : Below B w (w'.drewN n) := ⟨h.os, h.tape, h.output, h.size, h.block⟩
set_option maxRecDepth 1000000 in
theorem entry_any (w : World) (g off : Nat) (vs : List Value) (nw cn : Nat) (h : CCells w g off vs nw cn) (i : Nat) (hi : i ≤ 60) (v : Value) (hv : vs[(nw + i) % 60]? = some v) : Calls Try.prog 29 #[.pointer (some ⟨g, off, none⟩), .int .i64 (i : Int)] w fun e w' => e = .returned v ∧ ∃ m, w' = w.drewN m := by
  have CS := Lib.hid fun W (hW : CCells W g off vs nw cn) => slot_any W g off vs nw cn hW i hi
  have H := Lib.hid h
  have c1 := h.slot _ _ hv
  have e1 : (nw + i) % 60 < 60 := Nat.mod_lt _ (by omega)
  generalize (nw + i) % 60 = m at *
  have i1 : (0 : Int) ≤ (m : Int) := by omega
  have i2 : (m : Int) < (60 : Int) := by omega
  have i3 : (m < 60) = True := eq_true e1
  clear h hi hv e1
  go_enter Try.func29, Try.ntmps29
  go_wp2_with fail
  go_quiet (first | (go_at_call 35; exact quiet_same (CS.out _ (H.out.drewN _))))
  go_wp2
  go_ret
  exact ⟨rfl, _, rfl⟩
set_option maxRecDepth 1000000 in
theorem replace_any (w : World) (g : Nat) (vs : List Value) (nw cn pl : Nat) (h : Row w g vs nw cn pl) (A : Option Addr) (n c : Nat) :
    Calls Try.prog 30 #[.pointer (some ⟨g, 1, none⟩), .slice A n c] w fun e w' => e = .returned (.tuple #[]) ∧ Row w' g (vs.set nw (.slice A n c)) nw cn pl ∧ Touch (Only g) w w' := by
  have c1 := h.cyc.cnw
  have f1 := h.cells.f (1 + nw)
  obtain ⟨u, hu⟩ : ∃ u, vs[nw]? = some u := ⟨_, List.getElem?_eq_getElem (by rw [h.len]; exact h.lt)⟩
  have c2 := h.cyc.slot _ _ hu
  have H := Lib.hid h
  have e1 := h.lt
  have i1 : (0 : Int) ≤ (nw : Int) := by omega
  have i2 : (nw : Int) < (60 : Int) := by omega
  have i3 : (nw < 60) = True := eq_true e1
  clear h hu e1
  go_enter Try.func30, Try.ntmps30
  go_wp2_with fail
  go_region
  go_wp2
  go_end0
  exact ⟨rfl, (H.out.slot H.out.lt _ rfl).drewN 1, (only_set _ _ _ _).drew⟩
/-- where the next entry goes -/
def nextS (nw : Nat) : Nat := (nw + 59) % 60
theorem nextS_lt (nw : Nat) : nextS nw < 60 := Nat.mod_lt _ (by omega)
set_option maxRecDepth 1000000 in
theorem push_any (w : World) (g : Nat) (vs : List Value) (nw cn pl : Nat) (h : Row w g vs nw cn pl) (A : Option Addr) (n c : Nat) :
    Calls Try.prog 26 #[.pointer (some ⟨g, 1, none⟩), .slice A n c] w fun e w' => e = .returned (.tuple #[]) ∧ Row w' g (vs.set (nextS nw) (.slice A n c)) (nextS nw) (min (cn + 1) 60) pl ∧ Touch (Only g) w w' := by
  have CS := slot_any w g 1 vs nw cn h.cyc 59 (by omega)
  rw [show (nw + 59) % 60 = nextS nw from rfl] at CS
  have hl := nextS_lt nw
  have r1 := h.newest hl
  have hm : min (cn + 1) 60 ≤ 60 := Nat.min_le_right _ _
  have r2 := r1.count hm
  have CR := Lib.hid (replace_any _ g vs (nextS nw) (min (cn + 1) 60) pl r2 A n c)
  have c1 := h.cyc.cnw
  have f1 := h.cells.f 61
  have c2 := r1.cells.cn
  have f2 := r1.cells.f 62
  have hw : wrap64 ((cn : Int) + 1) = ((cn + 1 : Nat) : Int) := by have := h.lec; unfold wrap64; omega
  have hw' : IntKind.i64.wrap ((cn : Int) + 1) = ((cn + 1 : Nat) : Int) := by have := h.lec; rw [IntWalk.i64_in _ (by omega)]; omega
  have CS := Lib.hid CS
  have HT : Hid (Touch (Only g) w ((w.setCell ⟨g, 61, none⟩ (.int .i64 (nextS nw : Int))).setCell ⟨g, 62, none⟩ (.int .i64 ((min (cn + 1) 60 : Nat) : Int)))) := Lib.hid ((only_set w g 61 _).trans (only_set _ g 62 _))
  have hmn : min ((cn + 1 : Nat) : Int) 60 = ((min (cn + 1) 60 : Nat) : Int) := by omega
  generalize nextS nw = s at *
  generalize hmm : min (cn + 1) 60 = m at *
  generalize haa : cn + 1 = a at *
  clear h hl r1 hm r2 hmm haa
  go_enter Try.func26, Try.ntmps26
  go_wp2_with (first
    | (go_at_call 35; refine (CS.out).mono ?_; rintro e w1 ⟨rfl, rfl⟩)
    | (go_at_call 30; refine (CR.out).mono ?_; rintro e w2 ⟨rfl, hR, hT⟩; have R2 := Lib.hid hR; have T2 := Lib.hid (HT.out.trans hT); clear hR hT))
  go_end0
  exact ⟨rfl, R2.out, T2.out⟩
end Go.Proofs.Ytknekldnipdpeaa
