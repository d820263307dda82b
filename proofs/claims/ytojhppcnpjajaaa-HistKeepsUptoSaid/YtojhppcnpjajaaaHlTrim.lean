/-
  The oldest lines go where there are too many.
-/
import Derived.Test.YtojhppcnpjajaaaHlCheck
namespace Go.Proofs.Ytojhppcnpjajaaa
open Go.RowKit Go.Shelf Go.Lib
attribute [local go_sem] Oper.semAt_some

/-- a history's block, of which there may be too many lines -/
structure RawL (w : World) (g : Nat) (v : Value) (S : HS) : Prop where
  row : w.heap[g]? = some (.cells #[v, .int .i64 S.base, .int .i64 (S.most : Int), .bool true] 87 (0, 0))
  seg : HSeg w v S.ls
theorem LAt.raw {w : World} {g : Nat} {v : Value} {S : HS} (h : LAt w g v S) : RawL w g v S := ⟨h.row, h.seg⟩
/-- how many are too many -/
def HS.over (S : HS) : Nat := S.ls.length - S.most
def trimP (S : HS) : HS := ⟨S.ls.drop S.over, wrap64 (S.base + (S.over : Int)), S.most⟩
theorem trimP_le (S : HS) : (trimP S).ls.length ≤ S.most := by
  unfold trimP HS.over
  rw [List.length_drop]
  omega
/-- what an operation leaves of a history -/
def LPost (w : World) (g : Nat) (v : Value) (S' : HS) (w' : World) : Prop := ∃ v', LAt w' g v' S' ∧ Touch (Own g v) w w' ∧ ∀ k, v'.ownBlock = some k → v.ownBlock = some k ∨ w.heap.size ≤ k
theorem hl_size : ∀ W, (Go.sizeOf 69).run Try.prog W = .ok 2 W := fun W => by kernel_rfl
theorem hl_zero : ∀ W, (zeroValue 69).run Try.prog W = .ok (hlV zl) W := fun W => by kernel_rfl
theorem run_hclear (ty : TypeId) {w : World} {A : Option Addr} {c : Nat} {l : List HL} (h : HSeg w (.slice A l.length c) l) {m : Nat} (hm : m ≤ l.length) :
    ∃ w', (Builtin.clear_ #[22] ty #[.slice A m c]).run Try.prog w = .ok (.tuple #[]) w' ∧ HSeg w' (.slice (tailA A c m 2) (l.length - m) (c - m)) (l.drop m) ∧ Touch (fun k => Value.ownBlock (.slice A l.length c) = some k) w w' := by
  obtain ⟨w', h1, h2, h3⟩ := run_clear_seg (P := Try.prog) 22 ty (hlV zl) Try.underlying22 hl_zero rfl (by simp [Value.cells, Value.oneCell']) h hm
  refine ⟨w', h1, ?_, Touch.of_grown h3 fun k hk => hk⟩
  unfold HSeg
  rw [List.length_drop, hlVals_drop]
  exact h2
theorem tail_own {A : Option Addr} {n c n' c' m sz k : Nat} (h : Value.ownBlock (.slice (tailA A c m sz) n' c') = some k) : Value.ownBlock (.slice A n c) = some k := by
  cases A with
  | none => simp [tailA, Value.ownBlock] at h
  | some a =>
    unfold tailA at h
    split at h
    · exact h
    · simp only [Option.map_some, Value.ownBlock] at h ⊢
      obtain ⟨b, o, sp⟩ := a
      rw [← h]
      simp [Addr.add]
      split <;> rfl
theorem row_set2 {w : World} {g : Nat} {v b m t : Value} {T : TypeId} (h : w.heap[g]? = some (.cells #[v, b, m, t] T (0, 0))) (u b' : Value) : ((w.setCell ⟨g, 0, none⟩ u).setCell ⟨g, 1, none⟩ b').heap[g]? = some (.cells #[u, b', m, t] T (0, 0)) := by
  rw [heap_setCell_same _ g 1 _ _ _ (heap_setCell_same w g 0 _ _ _ h)]
  rfl
theorem RawL.ne {w : World} {g : Nat} {v : Value} {S : HS} (h : RawL w g v S) : v.ownBlock ≠ some g := fun e => by
  obtain ⟨_, cur, hc⟩ := h.seg.block g e
  rw [h.row] at hc
  injection hc with hc
  injection hc with _ ht
  exact absurd ht (by decide)
set_option maxRecDepth 1000000 in
set_option maxHeartbeats 1000000 in
theorem trim_any (w : World) (g : Nat) (v : Value) (S : HS) (h : RawL w g v S) (hm : S.most ≤ 4096) (hn : S.ls.length ≤ 140737488355328) : Calls Try.prog 67 #[.pointer (some ⟨g, 0, none⟩)] w fun e w' => e = .returned (.tuple #[]) ∧ LPost w g v (trimP S) w' := by
  have hne := h.ne
  obtain ⟨A, c, rfl⟩ := h.seg.holds.form
  obtain ⟨A', c', e0, hnc, _⟩ := h.seg.form
  injection e0 with e1 _ e3
  subst e1 e3
  have c0 := cell_of_row w g 0 _ _ _ h.row
  have c1 := cell_of_row w g 1 _ _ _ h.row
  have c2 := cell_of_row w g 2 _ _ _ h.row
  have f0 := fun k => frozen_of_row w g k _ _ h.row
  have hover : S.over ≤ S.ls.length := by unfold HS.over; omega
  have hmax : max ((S.ls.length : Int) - (S.most : Int)) 0 = (S.over : Int) := by unfold HS.over; omega
  have HCL := Lib.hid fun W ty (hb : HSeg W (.slice A S.ls.length c) S.ls) => run_hclear ty hb hover
  have HSG := Lib.hid h.seg
  have HR := Lib.hid h.row
  have hgl := heap_lt h.row
  have HNE := Lib.hid hne
  have HO := Lib.hid (And.intro hover (Nat.le_trans hover hnc))
  have HTR : Hid ((trimP S).ls = S.ls.drop S.over ∧ (trimP S).base = wrap64 (S.base + (S.over : Int)) ∧ (trimP S).most = S.most) := Lib.hid ⟨rfl, rfl, rfl⟩
  have HM := Lib.hid hm
  clear h hover hnc hne
  generalize hN : S.ls.length = n at *
  have HN := Lib.hid hN
  generalize S.over = m at *
  clear hN
  go_enter Try.func67, Try.ntmps67
  go_wp2
  go_quiet (fail)
  have HSQ : Hid (HSeg (w.drewN nq) (.slice A n c) S.ls) := Lib.hid (HSG.out.kept fun _ _ => rfl)
  obtain ⟨w1, hrun, hs1, ht1⟩ := HCL.out (w.drewN nq) 0 HSQ.out
  have ht1g := HR.out.symm ▸ (ht1.block g hgl (fun e => HNE.out e))
  have a0 := cell_of_row w1 g 0 _ _ _ ht1g
  have a1 := cell_of_row w1 g 1 _ _ _ ht1g
  have b0 := fun k => frozen_of_row w1 g k _ _ ht1g
  have HG1 := Lib.hid ht1g
  have HS1 := Lib.hid hs1
  have HT1 := Lib.hid ht1
  have hsl := fun W => slice_head (P := Try.prog) 22 69 Try.underlying22 2 hl_size A n c m HO.out.2 W
  have hsl2 := fun W => slice_tail (P := Try.prog) 22 69 Try.underlying22 2 hl_size A n c m HO.out.1 W
  clear hs1 ht1 ht1g
  go_wp2_with fail
  go_end0
  refine ⟨rfl, .slice (tailA A c m 2) (n - m) (c - m), ⟨?_, ?_, ?_, ?_⟩, ?_, fun k hk => .inl (tail_own hk)⟩
  · rw [HTR.out.2.1, HTR.out.2.2]
    exact row_set2 HG1.out _ _
  · rw [HTR.out.1]
    refine HS1.out.kept fun k hk => ?_
    have hkg : k ≠ g := fun e => HNE.out (by rw [← e]; exact tail_own hk)
    rw [Below.heap_setCell _ _ _ k hkg, Below.heap_setCell _ _ _ k hkg]
  · rw [HTR.out.2.2]
    exact trimP_le S
  · rw [HTR.out.2.2]
    exact hm
  · have ht : Touch (Own g (.slice A n c)) w w1 := ((Touch.drewN w nq).trans (HT1.out.mono fun k _ hk => .inr hk))
    exact (ht.trans (Touch.setCell _ _ _ (.inl rfl))).trans (Touch.setCell _ _ _ (.inl rfl))
end Go.Proofs.Ytojhppcnpjajaaa
