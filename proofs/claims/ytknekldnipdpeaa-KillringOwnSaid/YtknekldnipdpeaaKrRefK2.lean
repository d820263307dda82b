/-
  The document's Kill, where it makes an entry or nothing.
-/
import Derived.Test.YtknekldnipdpeaaKrRefK
namespace Go.Proofs.Ytknekldnipdpeaa
open Go.RowKit Go.Shelf Go.Lib
attribute [local go_sem] Oper.semAt_some

section
variable {K : Nat → Prop}
set_option maxRecDepth 1000000 in
theorem wkill_way (w : World) (r : Nat) (S : KS) (h : WAt K w r S) (way : Int) (A : Option Addr) (n c : Nat) (hw : way < 0 ∨ 2 < way) : Calls Try.prog 12 #[.pointer (some ⟨r, 0, none⟩), .int .i64 way, .slice A n c] w (WPost K w r 1 S) := by
  have H := Lib.hid h
  clear h
  by_cases h0 : way < 0
  · have i0 : (way < 0) = True := eq_true h0
    clear hw h0
    go_enter Try.func12, Try.ntmps12
    go_wp2
    go_ret
    exact ⟨rfl, H.out.more (Below.refl _ _), Touch.refl _ _⟩
  · have i0 : (way < 0) = False := eq_false h0
    have i1 : (way > 2) = True := eq_true (by omega)
    have i2 : (2 < way) = True := eq_true (by omega)
    clear hw h0
    go_enter Try.func12, Try.ntmps12
    go_wp2
    go_ret
    exact ⟨rfl, H.out.more (Below.refl _ _), Touch.refl _ _⟩
set_option maxRecDepth 1000000 in
theorem wkill_long (w : World) (r : Nat) (S : KS) (h : WAt K w r S) (way : Int) (A : Option Addr) (n c : Nat) (hw : way = 0 ∨ way = 1 ∨ way = 2) (hn : 1024 < n) : Calls Try.prog 12 #[.pointer (some ⟨r, 0, none⟩), .int .i64 way, .slice A n c] w (WPost K w r 3 S) := by
  have H := Lib.hid h
  have i1 : ((n : Int) > 1024) = True := eq_true (by omega)
  have i2 : ((1024 : Int) < (n : Int)) = True := eq_true (by omega)
  have i3 : (1024 < n) = True := eq_true hn
  clear h hn
  rcases hw with rfl | rfl | rfl
  all_goals
    go_enter Try.func12, Try.ntmps12
    go_wp2
    go_ret
    exact ⟨rfl, H.out.more (Below.refl _ _), Touch.refl _ _⟩
set_option maxRecDepth 1000000 in
theorem wkill_nil (w : World) (r : Nat) (S : KS) (h : WAt K w r S) (A : Option Addr) (c : Nat) : Calls Try.prog 12 #[.pointer (some ⟨r, 0, none⟩), .int .i64 0, .slice A 0 c] w (WPost K w r 0 S) := by
  have H := Lib.hid h
  clear h
  go_enter Try.func12, Try.ntmps12
  go_wp2
  go_ret
  exact ⟨rfl, H.out.more (Below.refl _ _), Touch.refl _ _⟩
theorem sliceAt_rows_to (A : Option Addr) (n c b : Nat) (hb : b ≤ c) (W : World) : (Instr.sliceAt 26 (.slice A n c) none (some (.int .i64 (b : Int))) none).run Try.prog W = .ok (.slice A b c) W := by
  have ht : Try.prog.underlying 26 = some (.slice (Try.prog.elem 26)) := by simp [Program.elem, Try.underlying26]
  rw [run_sliceAt_slice W 26 _ _ _ _ ht]
  exact slice_head 26 30 Try.underlying26 1 row_size A n c b hb W
theorem sliceAt_rows_from (A : Option Addr) (n c a : Nat) (ha : a ≤ n) (W : World) : (Instr.sliceAt 26 (.slice A n c) (some (.int .i64 (a : Int))) none none).run Try.prog W = .ok (.slice (tailA A c a 1) (n - a) (c - a)) W := by
  have ht : Try.prog.underlying 26 = some (.slice (Try.prog.elem 26)) := by simp [Program.elem, Try.underlying26]
  rw [run_sliceAt_slice W 26 _ _ _ _ ht]
  exact slice_tail 26 30 Try.underlying26 1 row_size A n c a ha W
/-- what lies when the new row is made: the old ring's parts, the new row, the text -/
theorem wkill_fin {w w1 w2 W : World} {r : Nat} {S : KS} (h : WAt K w r S) {A : Option Addr} {c : Nat} (hr : w.heap[r]? = some (.cells #[.slice A S.es.length c, .int .i64 (S.pl : Int)] 28 (0, 0))) {es : List (List Int)} {xs : List Value}
    (h3 : ∀ (i : Nat) (l : List Int), es[i]? = some l → ∃ x, xs[i]? = some x ∧ RIn K w x l ∧ l.length ≤ 1024) {tv : Value} {t : List Int} (htl : t.length ≤ 1024) (hb1 : Below w.heap.size w w1) (hrow1 : RRow w1 w.heap.size tv t)
    {A' : Option Addr} {n' c' : Nat} (hn : n' = es.length + 1) (hrow2 : w2.ownsRow w1.heap.size 30 1 (.slice A' n' c') n' (tv :: xs)) (hb2 : Below w1.heap.size w1 w2) (m : Nat) (hm : m ≤ n') (hm60 : m ≤ 60) (hm0 : 0 < m)
    (htW : Touch (Only r) w2 W) (hW : W.heap[r]? = some (.cells #[.slice A' m c', .int .i64 0] 28 (0, 0))) : WAt (More K w W) W r ⟨(t :: es).take m, 0⟩ ∧ Touch (Only r) w W := by
  have hlt := h.lt
  have hb12 := hb1.trans (hb2.mono hb1.size)
  have htt : Touch (Only r) w W := (Touch.of_below hb12).trans htW
  have hagr : Agree K w W := Agree.of_touch htt fun k hk e => by simp only [Only] at e; subst e; exact h.off hk
  have hs2 := hb2.size
  have hs1 := hb1.size
  have hsW := htW.size
  have hrowW : W.ownsRow w1.heap.size 30 1 (.slice A' m c') m ((tv :: xs).take m) := own_same (own_cut hrow2 hm) fun k hk => by
    have h1 := own_lt (own_cut hrow2 hm) k hk
    exact htW.block k h1.2 (by simp only [Only]; omega)
  have htv : RRow W w.heap.size tv t := own_same hrow1 fun k hk => by
    have h1 := own_lt hrow1 k hk
    exact (htW.block k (by omega) (by simp only [Only]; omega)).trans (hb2.block k h1.2)
  have hlen : ((t :: es).take m).length = m := by rw [List.length_take, List.length_cons]; omega
  refine ⟨h.made hW (LRow.cons h3 hagr m (by omega) (own_less hrowW (Nat.zero_le _)) (fun k hk => ?_) (RIn.own htv fun k h1 h2 => .inr ⟨h1, h2⟩) htl) htt (by rw [hlen]; exact hm60) (by rw [hlen]; exact hm0), htt⟩
  have h1 := own_lt hrowW k hk
  exact .inr ⟨by omega, h1.2⟩
end
end Go.Proofs.Ytknekldnipdpeaa
