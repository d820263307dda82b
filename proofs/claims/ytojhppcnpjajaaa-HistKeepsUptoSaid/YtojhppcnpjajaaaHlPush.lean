/-
  Lines added to a history: push, Add.
-/
import Derived.Test.YtojhppcnpjajaaaHlTrim
namespace Go.Proofs.Ytojhppcnpjajaaa
open Go.RowKit Go.Shelf Go.Lib
attribute [local go_sem] Oper.semAt_some

/-- a slice of lines that lies outside of the blocks of T -/
def HOff (T : Nat → Prop) (w : World) (u : Value) (xs : List HL) : Prop := ∀ W, Touch T w W → HH W u xs
theorem HOff.now {T : Nat → Prop} {w : World} {u : Value} {xs : List HL} (h : HOff T w u xs) : HH w u xs := h w (Touch.refl _ _)
def put1 (S : HS) (x : HL) : HS := ⟨S.ls ++ [x], S.base, S.most⟩
def push1 (S : HS) (x : HL) : HS := trimP (put1 S x)
def pushP (S : HS) (xs : List HL) : HS := xs.foldl push1 S
theorem pushP_snoc {S : HS} {xs : List HL} {k : Nat} {x : HL} (h : xs[k]? = some x) : pushP S (xs.take (k + 1)) = push1 (pushP S (xs.take k)) x := by
  unfold pushP
  rw [List.take_add_one, h, List.foldl_append]
  rfl
/-- how far a push has come -/
def PushR (w : World) (g : Nat) (v : Value) (S : HS) (wr : World) : Prop := ∃ v', LAt wr g v' S ∧ Touch (Own g v) w wr ∧ ∀ k, v'.ownBlock = some k → v.ownBlock = some k ∨ w.heap.size ≤ k
theorem own_trans {w a b : World} {g : Nat} {v v1 : Value} (h : Touch (Own g v) w a) (h2 : Touch (Own g v1) a b) (ho : ∀ k, v1.ownBlock = some k → v.ownBlock = some k ∨ w.heap.size ≤ k) : Touch (Own g v) w b :=
  ⟨h2.os.trans h.os, h2.tape.trans h.tape, h2.output.trans h.output, Nat.le_trans h.size h2.size, fun k hk hn => (h2.block k (Nat.lt_of_lt_of_le hk h.size) fun e => e.elim (fun e => hn (.inl e)) fun e => (ho k e).elim (fun e => hn (.inr e)) fun e => Nat.not_lt_of_le e hk).trans (h.block k hk hn)⟩
theorem own_next {w a : World} {v v1 v2 : Value} (hs : w.heap.size ≤ a.heap.size) (ho : ∀ k, v1.ownBlock = some k → v.ownBlock = some k ∨ w.heap.size ≤ k) (h2 : ∀ k, v2.ownBlock = some k → v1.ownBlock = some k ∨ a.heap.size ≤ k) : ∀ k, v2.ownBlock = some k → v.ownBlock = some k ∨ w.heap.size ≤ k := fun k hk =>
  (h2 k hk).elim (ho k) fun e => .inr (Nat.le_trans hs e)
theorem PushR.next {w a b : World} {g : Nat} {v v1 : Value} {S : HS} (h : Touch (Own g v) w a) (ho : ∀ k, v1.ownBlock = some k → v.ownBlock = some k ∨ w.heap.size ≤ k) (h2 : LPost a g v1 S b) : PushR w g v S b := by
  obtain ⟨v2, hl, ht, ho2⟩ := h2
  exact ⟨v2, hl, own_trans h ht ho, own_next h.size ho ho2⟩
theorem info_hl : (Try.prog.info? 69).map (fun i => (i.zero, i.size, i.bytes)) = some (some (hlV zl), 2, 24) := by kernel_rfl
theorem hlVals_one1 (x : HL) : hlVals [x] = [.string x.1, .int .i64 x.2] := rfl
/-- a line appended to the row -/
theorem run_hpush {W : World} {A : Option Addr} {c : Nat} {l : List HL} (h : HSeg W (.slice A l.length c) l) (x : HL) (hl : l.length ≤ 1000000) :
    ∃ A' c' w', (Builtin.append_ #[22, 22] 22 #[.slice A l.length c, .slice (some ⟨W.heap.size, 0, none⟩) 1 1]).run Try.prog ((W.alloc (.cells #[.string x.1, .int .i64 x.2] 69)).drew) = .ok (.slice A' (l.length + 1) c') w' ∧
      HSeg w' (.slice A' (l ++ [x]).length c') (l ++ [x]) ∧ Touch (fun k => Value.ownBlock (.slice A l.length c) = some k) W w' ∧ (∀ k, Value.ownBlock (.slice A' (l.length + 1) c') = some k → Value.ownBlock (.slice A l.length c) = some k ∨ W.heap.size ≤ k) := by
  obtain ⟨i, hi, hz, hs2, hby⟩ := info_parts info_hl
  have hb : Below W.heap.size W ((W.alloc (.cells #[.string x.1, .int .i64 x.2] 69)).drew) := ((Below.refl _ _).alloc (Nat.le_refl _) _).drew
  have hn : ((W.alloc (.cells #[.string x.1, .int .i64 x.2] 69)).drew).heap[W.heap.size]? = some (.cells #[.string x.1, .int .i64 x.2] 69 (0, 0)) := alloc_new W _
  have hsrc : Src ((W.alloc (.cells #[.string x.1, .int .i64 x.2] 69)).drew) 2 (some ⟨W.heap.size, 0, none⟩) 1 1 (hlVals [x]) := ⟨rfl, (fun e => by cases e), fun _ => ⟨W.heap.size, 0, rfl, heap_lt hn, fun j u hu => by
    rw [cell_of_row _ _ _ _ _ _ hn, Nat.zero_add]
    simpa [hlVals_one1] using hu⟩⟩
  obtain ⟨A', c', w', hr, h1, h2, h3⟩ := run_append_seg (P := Try.prog) _ 22 22 i (hlV zl) 24 Try.underlying22 hi hz hs2 hby rfl (by decide) (Seg.below h hb) hsrc (hlVals_one _) (by unfold maxLen; omega) (by omega)
  refine ⟨A', c', w', hr, ?_, (Touch.of_below hb).trans (Touch.of_grown h2 fun k hk => hk), fun k hk => (h3 k hk).imp id fun hk => Nat.le_trans hb.size hk⟩
  unfold HSeg
  rw [List.length_append, hlVals_append]
  exact h1
set_option maxRecDepth 1000000 in
set_option maxHeartbeats 2000000 in
theorem push_any (w : World) (g : Nat) (v : Value) (S : HS) (h : LAt w g v S) (u : Value) (xs : List HL) (hx : HOff (Own g v) w u xs) (hl : xs.length ≤ 140737488355328) : Calls Try.prog 55 #[.pointer (some ⟨g, 0, none⟩), u] w fun e w' => e = .returned (.tuple #[]) ∧ LPost w g v (pushP S xs) w' := by
  obtain ⟨A, c, rfl⟩ := hx.now.form
  have H := Lib.hid h
  have HX := Lib.hid hx
  have HL := Lib.hid hl
  obtain ⟨n, hn⟩ : ∃ n, n = xs.length := ⟨_, rfl⟩
  rw [← hn]
  have HN := Lib.hid hn
  clear hn h hx hl
  go_enter Try.func55, Try.ntmps55
  go_wp2
  go_loopw [8] (fun i wr => ∃ k : Nat, k ≤ n ∧ i = .int .i64 (k : Int) ∧ PushR w g v (pushP S (xs.take k)) wr) (fun i _ => n - (RowKit.intOf i).toNat)
  case atStart => exact ⟨0, Nat.zero_le _, rfl, v, H.out, Touch.refl _ _, fun k hk => .inl hk⟩
  case round =>
    obtain ⟨k, hk, rfl, v1, h1, ht1, ho1⟩ := hrel
    have HT1 := Lib.hid ht1
    have HO1 := Lib.hid ho1
    by_cases hlt : k < n
    · have hx : xs[k]? = some (xs[k]'(by rw [← HN.out]; exact hlt)) := List.getElem?_eq_getElem _
      generalize xs[k]'(by rw [← HN.out]; exact hlt) = x at hx
      have h2 := HX.out wr ht1
      rw [← HN.out] at h2
      obtain ⟨bb, off, rfl, hlt2, c0, c1⟩ := h2.cell hx
      obtain ⟨A1, c1', rfl⟩ := h1.form
      have hbw := (Below.refl wr.heap.size wr).alloc (Nat.le_refl _) (.cells #[.string x.1, .int .i64 x.2] 69)
      have h3 := h1.below hbw
      have g0 := h3.cells.1
      have HS := Lib.hid (pushP_snoc (S := S) hx)
      have H1 := Lib.hid h1
      have HLT := Lib.hid hlt
      have i2 : ((k : Int) < (n : Int)) = True := by simp; exact hlt
      have hwk : wrap64 ((k : Int) + 1) = (k : Int) + 1 := by have := HL.out; have := HN.out; unfold wrap64; omega
      obtain ⟨A2, c2, w2, hrun, hs2, ht2, ho2⟩ := run_hpush (W := wr.alloc (.cells #[.string x.1, .int .i64 x.2] 69)) h3.seg x (Nat.le_trans h1.len (by omega))
      have hbox : (wr.alloc (.cells #[.string x.1, .int .i64 x.2] 69)).heap[wr.heap.size]? = some (.cells #[.string x.1, .int .i64 x.2] 69 (0, 0)) := alloc_new _ _
      have H3 := Lib.hid h3
      have HBW := Lib.hid hbw
      have HGL := Lib.hid (h1.lt g (.inl rfl))
      have HS2 := Lib.hid hs2
      have HT2 := Lib.hid ht2
      have HO2 := Lib.hid ho2
      clear ht1 ho1 h1 h2 hx h3 hk hlt hs2 ht2 ho2 hbw g0
      generalize pushP S (xs.take k) = Sk at *
      generalize hnk : Sk.ls.length = nk at *
      have HNK := Lib.hid hnk
      clear hnk
      go_wp2
      generalize hW0 : wr.alloc (.cells #[.string x.1, .int .i64 x.2] 69) = W0 at *
      have b0 := cell_of_row W0 _ 0 _ _ _ hbox
      have b1 := cell_of_row W0 _ 1 _ _ _ hbox
      have g0 := H3.out.cells.1
      have gA := fun o => (H3.out.below ((Below.refl W0.heap.size W0).alloc (Nat.le_refl _) o)).cells.1
      have hne := H3.out.raw.ne
      have hrow2 : w2.heap[g]? = W0.heap[g]? := HT2.out.block g (H3.out.lt g (.inl rfl)) hne
      have HR2 := Lib.hid (hrow2.trans H3.out.row)
      have g2 := cell_of_row w2 g 0 _ _ _ HR2.out
      have f2 := frozen_of_row w2 g 0 _ _ HR2.out
      have HNE := Lib.hid hne
      have HW0 := Lib.hid hW0
      have hlen : (Sk.ls ++ [x]).length = nk + 1 := by rw [List.length_append, HNK.out]; rfl
      have hraw : RawL (w2.setCell ⟨g, 0, none⟩ (.slice A2 (nk + 1) c2)) g (.slice A2 (nk + 1) c2) (put1 Sk x) := by
        refine ⟨by rw [heap_setCell_same w2 g 0 _ _ _ HR2.out]; rfl, ?_⟩
        have := HS2.out.kept (w' := w2.setCell ⟨g, 0, none⟩ (.slice A2 (nk + 1) c2)) fun j hj => Below.heap_setCell _ _ _ j (fun e => by
          subst e
          rw [hlen] at hj
          rcases HO2.out _ hj with e | e
          · exact hne e
          · have := H3.out.lt j (.inl rfl); omega)
        rw [hlen] at this
        show Seg _ _ _ _ (Sk.ls ++ [x]).length _
        rw [hlen]
        exact this
      have hkl : nk ≤ 4096 := by rw [← HNK.out]; exact H3.out.len
      have CT := Lib.hid (trim_any _ g _ (put1 Sk x) hraw H3.out.most (by show (Sk.ls ++ [x]).length ≤ _; rw [hlen]; omega))
      have HT3 : Hid (Touch (Own g v) w (w2.setCell ⟨g, 0, none⟩ (.slice A2 (nk + 1) c2))) := Lib.hid (own_trans HT1.out (((Touch.of_below HBW.out).trans (HT2.out.mono fun _ _ hk => .inr hk)).trans (Touch.setCell _ _ _ (.inl rfl))) HO1.out)
      have HO3 := Lib.hid (own_next (HT1.out.trans (Touch.of_below HBW.out)).size HO1.out HO2.out)
      clear hbox hrow2 hne hW0 hlen hraw hkl
      go_region_law ((with_reducible refine step_of_run2 hrun ?_ ?_); exact ⟨rfl, rfl, _, _, rfl, rfl, rfl⟩)
      all_goals
        go_wp2_with (go_at_call 67; refine (CT.out).mono ?_; rintro e w3 ⟨rfl, hp⟩; have HP := Lib.hid (PushR.next HT3.out HO3.out hp); clear hp)
        go_roundw
        case rel => exact ⟨k + 1, HLT.out, next_val hwk, by rw [HS.out]; exact HP.out⟩
        case measure => exact measure_lt HLT.out hwk
    · obtain rfl : k = n := by omega
      have i2 : ((k : Int) < (k : Int)) = False := by simp
      have HP : Hid (PushR w g v (pushP S xs) wr) := Lib.hid (by rw [List.take_of_length_le (by rw [HN.out]; exact Nat.le_refl _)] at h1; exact ⟨v1, h1, ht1, ho1⟩)
      clear hlt hk h1 ht1 ho1
      go_wp2
      go_end0
      exact ⟨rfl, HP.out⟩
end Go.Proofs.Ytojhppcnpjajaaa
