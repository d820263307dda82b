/-
  The law package's own check of answers that the document fixes (live): it returns true in every world that holds the tables.
-/
import Derived.Test.YtalfodcjpnjmaaaDoorPutD
import Derived.Test.YtalfodcjpnjmaaaDoorCells
namespace Go.Proofs.YtalfodcjpnjmaaaDoor
open Go.RowKit

theorem live_runes : decAll [97, 195, 169, 255] = [97, 233, 65533] := by decide
theorem live_put : putAll [195] = ([], [195]) := by decide
theorem live_wid : wid 19968 = 2 := by decide
theorem live_cells : (cellsP (startOf 0) [1]).length = 2 := by decide

theorem own_len {w : World} {base : Nat} {e : TypeId} {size : Nat} {v : Value} {n : Nat} {xs : List Value} (h : w.ownsRow base e size v n xs) : ∃ A c, v = .slice A n c := by
  rcases h.2 with ⟨rfl, h0⟩ | ⟨g, cap, cur, rfl, _⟩
  · exact ⟨none, 0, by rw [h0]⟩
  · exact ⟨_, _, rfl⟩

set_option maxHeartbeats 1000000 in
theorem live_any (w : World) (hT : Tabs w) :
    Calls Tryd.prog 9 #[] w fun e w' => e = .returned (.bool true) ∧ Below w.heap.size w w' := by
  have HT := Lib.hid hT
  clear hT
  go_enter Tryd.func9, Tryd.ntmps9
  go_wp2_with fail
  have hb0 : Below w.heap.size w (w.alloc (.cells (byteVals [97, 195, 169, 255]).toArray 5)) := (Below.refl _ _).alloc (Nat.le_refl _) _
  have HB0 := Lib.hid hb0
  clear hb0
  refine (runes_any [97, 195, 169, 255] _ _ (HT.out.below HB0.out) (Holds1.built (xs := byteVals [97, 195, 169, 255])) (by decide)).mono ?_
  rintro e w1 ⟨r1, rfl, ho1, hb1⟩
  rw [live_runes] at ho1
  have hr1 : Holds1 w1 r1 (runeVals [97, 233, 65533]) := Holds1.of_own ho1
  have HR1 := Lib.hid hr1
  have HB1 := Lib.hid (HB0.out.trans (hb1.mono HB0.out.size))
  clear ho1 hb1 hr1 HB0
  go_wp2_with (first
    | (go_at_call 30; refine (new_any _).mono ?_; rintro e w2 ⟨rfl, hw2⟩; subst hw2))
  have hb2 : Below w1.heap.size w1 ((w1.alloc (.cells #[.bool true, .int .u8 0, .int .u8 0, .int .u8 0, .int .i64 0] 70)).alloc (.cells (runeVals [97, 233, 65533]).toArray 21)) := ((Below.refl _ _).alloc (Nat.le_refl _) _).alloc (by simp) _
  have hdec : DecAt ((w1.alloc (.cells #[.bool true, .int .u8 0, .int .u8 0, .int .u8 0, .int .i64 0] 70)).alloc (.cells (runeVals [97, 233, 65533]).toArray 21)) w1.heap.size 0 0 0 0 :=
    (Below.heap_alloc _ _ _ (by simp)).trans (heap_alloc_new w1 _)
  have HB2 := Lib.hid (HB1.out.trans (hb2.mono HB1.out.size))
  have HDEC := Lib.hid hdec
  refine (equal_runes [97, 233, 65533] _ _ _ (HR1.out.below hb2) (by have := Holds1.built (w := w1.alloc (.cells #[.bool true, .int .u8 0, .int .u8 0, .int .u8 0, .int .i64 0] 70)) (t := 21) (xs := runeVals [97, 233, 65533]); simpa [runeVals] using this) (by decide)).mono ?_
  rintro e w3 ⟨rfl, n3, hw3⟩
  have HB3 : Hid (Below w.heap.size w w3) := Lib.hid (by rw [hw3]; exact ⟨HB2.out.os, HB2.out.tape, HB2.out.output, HB2.out.size, HB2.out.block⟩)
  have HD3 : Hid (DecAt w3 w1.heap.size 0 0 0 0) := Lib.hid (by rw [hw3]; exact HDEC.out)
  have hs13 := HB1.out.size
  clear hw3 HB2 HDEC HR1 HB1 hb2 hdec
  have cW := width_any 19968 w3 (HT.out.below HB3.out).d
  rw [live_wid] at cW
  have CW := Lib.hid cW
  clear cW
  go_wp2_with (go_at_call 16; refine (CW.out).mono ?_; rintro e w4 ⟨rfl, hb4⟩)
  have hT4 := (HT.out.below HB3.out).below hb4
  have hb5 : Below w4.heap.size w4 (w4.alloc (.cells (runeVals [1]).toArray 21)) := (Below.refl _ _).alloc (Nat.le_refl _) _
  refine (cells_any [1] _ 0 _ (hT4.below hb5) (Holds1.built (xs := runeVals [1])) (by decide)).mono ?_
  rintro e w6 ⟨r6, rfl, ho6, hb6⟩
  have HB6 := Lib.hid (HB3.out.trans ((hb4.mono HB3.out.size).trans ((hb5.mono (Nat.le_trans HB3.out.size hb4.size)).trans (hb6.mono (Nat.le_trans HB3.out.size (Nat.le_trans hb4.size hb5.size))))))
  have HD6 := Lib.hid (((HD3.out.kept hb4).kept hb5).kept hb6)
  obtain ⟨A6, c6, hr6⟩ := ho6.len
  rw [live_cells] at hr6
  subst hr6
  clear ho6 hb6 hb5 hb4 hT4 CW HB3 HD3
  go_wp2_with fail
  have hb7 : Below w6.heap.size w6 (w6.alloc (.cells (byteVals [195]).toArray 5)) := (Below.refl _ _).alloc (Nat.le_refl _) _
  refine (put_any [195] _ w1.heap.size 0 0 0 0 _ ((HT.out.below HB6.out).below hb7) (HD6.out.kept hb7) (by decide) (Holds1.built (xs := byteVals [195])) (by decide)).mono ?_
  rintro e w8 ⟨r8, x0, x1, x2, rfl, ho8, hx8, hd8, hg8⟩
  have e8 : putAll (heldOf 0 0 0 0 ++ [195]) = ([], [195]) := live_put
  rw [e8] at ho8 hd8
  obtain ⟨A8, c8, hr8⟩ := own_len ho8
  have HB8 := Lib.hid ((HB6.out.trans (hb7.mono HB6.out.size)).grown hg8 (Nat.le_trans HB6.out.size hb7.size) (fun k hk => by injection hk with hk; omega))
  have CP := Lib.hid (pending_any w1.heap.size x0 x1 x2 1 w8 hd8)
  subst hr8
  clear ho8 hx8 hd8 hg8 hb7 HB6 HD6 e8
  go_wp2_with (go_at_call 33; refine (CP.out).mono ?_; rintro e w9 ⟨rfl, rfl⟩)
  go_ret
  exact ⟨rfl, HB8.out⟩

end Go.Proofs.YtalfodcjpnjmaaaDoor
