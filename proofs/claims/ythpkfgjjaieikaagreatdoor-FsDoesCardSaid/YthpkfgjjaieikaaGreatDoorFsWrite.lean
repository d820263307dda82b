/-
  What Write of package simfs returns and changes, for every file system; what a first Write, Read and List tell.
-/
import Derived.Test.YthpkfgjjaieikaaGreatDoorFsList
namespace Go.Proofs.YthpkfgjjaieikaaGreatDoor
open Go.RowKit Go.Shelf Go.Lib Go.Maps

theorem count_good {s : St} {g : Bool} {f : Int × Int × Int} {s1 : St} (h : countP s g = (f, 0, s1)) : g = true ∧ s.down = false ∧ f = (hitP { s with calls := s.calls + 1 }).1 ∧ s1 = (hitP { s with calls := s.calls + 1 }).2 := by
  unfold countP at h
  by_cases hd : s.down = true
  · rw [if_pos hd] at h; simp at h
  · rw [if_neg hd] at h
    cases g with
    | false => simp at h
    | true =>
      rw [if_neg (by simp)] at h
      injection h with h1 h2
      injection h2 with _ h2
      exact ⟨rfl, by simpa using hd, h1.symm, h2.symm⟩
theorem hit_keep {s : St} (ho : StOk s) : 0 ≤ (hitP s).1.2.2 := by
  unfold hitP
  split
  · exact Int.le_refl 0
  · split
    · exact Int.le_refl 0
    · exact ho.2.2.2.2.1

theorem put_w (w : World) (FP : Nat → Prop) (b bm : Nat) (es : List Ent) (s : St) (p c : List UInt8) (v : Value) (h : FsAt w FP b bm es s) (ho : StOk s) (hc : s.calls ≤ 4000000000000000000) (hv : ∀ W, Touch FP w W → Reads W v c) (hl : c.length ≤ 140737488355328) (hes : es.length ≤ 4096) :
    Calls Tryz.prog 89 #[.pointer (some ⟨b, 0, none⟩), str p, v, .bool false] w (PutPost w FP b bm es p (putP es s p c false)) := by
  rcases count_cases s (goodP p) with ⟨k, hk, h1, _⟩ | ⟨⟨x, k, y⟩, s1, h1, _⟩
  · exact put_down w FP b bm es s p c v false h ho hc k hk h1
  · obtain ⟨hg, _, hf, _⟩ := count_good h1
    by_cases he : checkP es p (((putP.oldP es p false).length : Int) + c.length) ≠ 0 ∨ k = 1
    · exact write_err w FP b bm es s s1 p c v h ho hc x k y h1 hg (hv w (Touch.refl _ _)) hl he
    · have hy : 0 ≤ y := by
        have := hit_keep (s := { s with calls := s.calls + 1 }) ⟨ho.1, ho.2.1, ho.2.2.1, ho.2.2.2.1, ho.2.2.2.2.1, ho.2.2.2.2.2.1, by have := ho.2.2.2.2.2.2.1; show 0 ≤ s.calls + 1; omega, by show s.calls + 1 ≤ _; omega⟩
        rw [← hf] at this
        exact this
      exact write_ok w FP b bm es s s1 p c v h ho hc x k y h1 hg hv hl hy hes (Decidable.byContradiction fun h0 => he (.inl h0)) (fun h0 => he (.inr h0))

theorem write_any (w : World) (FP : Nat → Prop) (b bm : Nat) (es : List Ent) (s : St) (p c : List UInt8) (v : Value) (h : FsAt w FP b bm es s) (ho : StOk s) (hc : s.calls ≤ 4000000000000000000) (hv : ∀ W, Touch FP w W → Reads W v c) (hl : c.length ≤ 140737488355328) (hes : es.length ≤ 4096) :
    Calls Tryz.prog 30 #[.pointer (some ⟨b, 0, none⟩), str p, v] w (PutPost w FP b bm es p (putP es s p c false)) := by
  have CP := Lib.hid (put_w w FP b bm es s p c v h ho hc hv hl hes)
  obtain ⟨A, cap, rfl, _⟩ := hv w (Touch.refl _ _)
  clear h ho hc hv hl hes
  go_enter Tryz.func30, Tryz.ntmps30
  go_wp2_with (go_at_call 89; refine (CP.out).mono ?_; rintro e w1 ⟨es', rfl, hF, hT, hP⟩; have HF := Lib.hid hF; have HT := Lib.hid hT; have HP := Lib.hid hP; clear hF hT hP)
  go_ret
  exact ⟨es', rfl, HF.out, HT.out, HP.out⟩

/-- the path and the bytes of a first file -/
def pAB : List UInt8 := [47, 97, 47, 98]
def bXY : List UInt8 := [120, 121]
def st1 : St := { st0 with calls := 1 }
def st2 : St := { st0 with calls := 2 }
def st3 : St := { st0 with calls := 3 }
theorem good_AB : goodP pAB = true := by decide
theorem count_0 : countP st0 true = ((0, 0, 0), 0, st1) := rfl
theorem put_0 : putP [] st0 pAB bXY false = (0, some bXY, st1) := by
  have h : countP st0 (goodP pAB) = ((0, 0, 0), 0, st1) := by rw [good_AB]; rfl
  unfold putP
  rw [h]
  rfl
theorem putEs_0 {p d : List UInt8} {es' : List Ent} (h : PutEs [] p (some d) es') : ∃ v, es' = [⟨p, v, d⟩] := by
  obtain ⟨v, rfl⟩ := h
  exact ⟨v, rfl⟩
theorem read_1 (v : Value) : readP [⟨pAB, v, bXY⟩] st1 pAB = (bXY, 0, st2) := by
  have h : startP st1 (goodP pAB) = (0, st2) := by rw [good_AB]; rfl
  have hl : lookP [⟨pAB, v, bXY⟩] pAB = 0 := by
    unfold lookP isP findE
    rw [good_AB]
    rfl
  unfold readP
  rw [h, hl]
  rfl
theorem list_2 (v : Value) : listP [⟨pAB, v, bXY⟩] st2 [47] = ([[97, 47]], 0, st3) := by
  have h : startP st2 (([47] : List UInt8) == [47] || goodP [47]) = (0, st3) := rfl
  have hp : pathsOf [⟨pAB, v, bXY⟩] = [pAB] := by simp [pathsOf]
  have hn : namesOf [47] [pAB] = [[97, 47]] := by decide
  unfold listP
  rw [h, isP_root, hp, hn]
  rfl

end Go.Proofs.YthpkfgjjaieikaaGreatDoor
