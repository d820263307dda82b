/-
  The law package's check that the program lives.
-/
import Derived.Test.YtojhppcnpjajaaaHlNew
namespace Go.Proofs.Ytojhppcnpjajaaa
open Go.RowKit Go.Shelf Go.Lib
attribute [local go_sem] Oper.semAt_some

def abc : List HL := [(⟨#[97]⟩, 0), (⟨#[98]⟩, 0), (⟨#[99]⟩, 0)]
theorem abc_push : pushP (hs0 2) abc = ⟨[(⟨#[98]⟩, 0), (⟨#[99]⟩, 0)], 2, 2⟩ := by simp [pushP, abc, push1, trimP, put1, HS.over, hs0, wrap64]
theorem abc_check : checkP abc = 0 := by decide
/-- a slice that was just built of lines -/
theorem HH.built {w : World} {l : List HL} {r : Array Value} (hr : r = (hlVals l).toArray) : HH (w.alloc (.cells r 69)) (.slice (some ⟨w.heap.size, 0, none⟩) l.length l.length) l := by
  refine ⟨_, _, rfl, Nat.le_refl _, hlVals_length l, (fun e => by cases e), fun _ => ⟨w.heap.size, 0, rfl, by simp, fun j u hu => ?_⟩⟩
  rw [cell_of_row _ _ _ _ _ _ (alloc_new w _), Nat.zero_add, hr]
  simpa using hu
set_option maxRecDepth 1000000 in
set_option maxHeartbeats 1000000 in
theorem begun_any (w : World) : Calls Try.prog 13 #[] w fun e w' => e = .returned (.bool true) ∧ Below w.heap.size w w' := by
  have hb0 := (Below.refl w.heap.size w).alloc (Nat.le_refl _) (.cells #[.string ⟨#[97]⟩, .int .i64 0, .string ⟨#[98]⟩, .int .i64 0, .string ⟨#[99]⟩, .int .i64 0] 69)
  have CF := Lib.hid (from_ok _ 2 (by decide) _ abc (HH.built (w := w) (l := abc) (r := #[.string ⟨#[97]⟩, .int .i64 0, .string ⟨#[98]⟩, .int .i64 0, .string ⟨#[99]⟩, .int .i64 0]) rfl) (by decide) abc_check)
  rw [abc_push] at CF
  have CL := Lib.hid fun W g v (h : LAt W g v ⟨[(⟨#[98]⟩, 0), (⟨#[99]⟩, 0)], 2, 2⟩) => len_any W g v _ h
  have CB := Lib.hid fun W g v (h : LAt W g v ⟨[(⟨#[98]⟩, 0), (⟨#[99]⟩, 0)], 2, 2⟩) => base_any W g v _ h
  have CA : Hid (∀ W g v, LAt W g v ⟨[(⟨#[98]⟩, 0), (⟨#[99]⟩, 0)], 2, 2⟩ → Calls Try.prog 31 #[.pointer (some ⟨g, 0, none⟩), .int .i64 0] W fun e w' => e = .returned (.tuple #[.agg #[.string ⟨#[98]⟩, .int .i64 0], .bool true]) ∧ Below W.heap.size W w') := Lib.hid fun W g v h => At_any W g v _ h 0
  have HB0 := Lib.hid hb0
  clear hb0
  go_enter Try.func13, Try.ntmps13
  go_wp2_with (first
    | (go_at_call 9; refine (CF.out).mono ?_; rintro e w1 ⟨g, v, rfl, hf⟩; have HF := Lib.hid (hf.less HB0.out); clear hf)
    | (go_at_call 15; refine (CL.out _ _ _ HF.out.at').mono ?_; rintro e w2 ⟨rfl, hb⟩; replace HF := Lib.hid (HF.out.more hb); clear hb)
    | (go_at_call 16; refine (CB.out _ _ _ HF.out.at').mono ?_; rintro e w3 ⟨rfl, hb⟩; replace HF := Lib.hid (HF.out.more hb); clear hb)
    | (go_at_call 31; refine (CA.out _ _ _ HF.out.at').mono ?_; rintro e w4 ⟨rfl, hb⟩; replace HF := Lib.hid (HF.out.more hb); clear hb))
  go_ret
  exact ⟨rfl, HF.out.below.alloc (Nat.le_trans HF.out.below.size (Nat.le_refl _)) _⟩
end Go.Proofs.Ytojhppcnpjajaaa
