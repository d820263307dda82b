/-
  What one byte does: the state's part, and all of it.
-/
import Derived.Test.YtjoiagaadofndaaDoorVpStateA
import Derived.Test.YtjoiagaadofndaaDoorVpStateB
import Derived.Test.YtjoiagaadofndaaDoorVpNew
namespace Go.Proofs.YtjoiagaadofndaaDoor
open Go.RowKit Go.Shelf Go.Lib
attribute [local go_sem] Oper.semAt_some

theorem StepPost.of {w : World} {g : Nat} {S : PS} {b : UInt8} {r : PS × ActD} (e : inStateP S b = r) (h : Calls Tryd.prog 68 #[.pointer (some ⟨g, 0, none⟩), .int .u8 b.toNat] w (StepPost w g r.1 r.2)) :
    Calls Tryd.prog 68 #[.pointer (some ⟨g, 0, none⟩), .int .u8 b.toNat] w (StepPost w g (inStateP S b).1 (inStateP S b).2) := by rw [e]; exact h
theorem inState_any (w : World) (g : Nat) (S : PS) (b : UInt8) (h : ParAt w g S) : Calls Tryd.prog 68 #[.pointer (some ⟨g, 0, none⟩), .int .u8 b.toNat] w (StepPost w g (inStateP S b).1 (inStateP S b).2) := by
  have h13 := h.st13
  have h6 := classP_le b
  have hs : S.st = 0 ∨ S.st = 1 ∨ S.st = 2 ∨ S.st = 3 ∨ S.st = 4 ∨ S.st = 5 ∨ S.st = 6 ∨ S.st = 7 ∨ S.st = 8 ∨ S.st = 9 ∨ S.st = 10 ∨ S.st = 11 ∨ S.st = 12 ∨ S.st = 13 := by omega
  have hc : classP b = 0 ∨ classP b = 1 ∨ classP b = 2 ∨ classP b = 3 ∨ classP b = 4 ∨ classP b = 5 ∨ classP b = 6 := by omega
  clear h13 h6
  rcases hs with hst | hst | hst | hst | hst | hst | hst | hst | hst | hst | hst | hst | hst | hst
  · exact StepPost.of (r := (S, groundA b)) (by simp only [inStateP, hst]) (state_ground w g S b h hst)
  · by_cases hi : introP b = 1
    · exact StepPost.of (r := inEscapeP S b) (by simp [inStateP, hst, hi]) (state_escape1 w g S b h hst hi)
    · exact StepPost.of (r := ({ S with st := introP b }, noneA)) (by simp [inStateP, hst, hi]) (state_intro w g S b h hst hi)
  · exact StepPost.of (r := inEscapeP S b) (by simp only [inStateP, hst]) (state_escape2 w g S b h hst)
  · rcases hc with hk | hk | hk | hk | hk | hk | hk
    · exact StepPost.of (r := inSeqP S b) (by simp [inStateP, paramTail, interTail, hst, hk]) (state_seq0 w g S b h (.inl hst) hk)
    · exact StepPost.of (r := (enterP (addInterP S b) 5, noneA)) (by simp [inStateP, paramTail, interTail, hst, hk]) (state_inter w g S b h (.inl hst) hk)
    · exact StepPost.of (r := (enterP (putParP S b) 4, noneA)) (by simp [inStateP, paramTail, hst, hk]) (state_put w g S b h (.inl hst) hk)
    · exact StepPost.of (r := (enterP S 6, noneA)) (by simp [inStateP, paramTail, interTail, hst, hk]) (state_colon w g S b h (.inl hst) hk)
    · exact StepPost.of (r := (enterP { S with priv := b } 4, noneA)) (by simp [inStateP, hst, hk]) (state_priv w g S b h (.inl hst) hk)
    · exact StepPost.of (r := inSeqP S b) (by simp [inStateP, paramTail, interTail, hst, hk]) (state_seq5 w g S b h (.inl hst) hk)
    · exact StepPost.of (r := inSeqP S b) (by simp [inStateP, paramTail, interTail, hst, hk]) (state_seq6 w g S b h (.inl hst) hk)
  · rcases hc with hk | hk | hk | hk | hk | hk | hk
    · exact StepPost.of (r := inSeqP S b) (by simp [inStateP, paramTail, interTail, hst, hk]) (state_seq0 w g S b h (.inr (.inr (.inl hst))) hk)
    · exact StepPost.of (r := (enterP (addInterP S b) 5, noneA)) (by simp [inStateP, paramTail, interTail, hst, hk]) (state_inter w g S b h (.inr (.inr (.inl hst))) hk)
    · exact StepPost.of (r := (enterP (putParP S b) 4, noneA)) (by simp [inStateP, paramTail, hst, hk]) (state_put w g S b h (.inr (.inr (.inl hst))) hk)
    · exact StepPost.of (r := (enterP S 6, noneA)) (by simp [inStateP, paramTail, interTail, hst, hk]) (state_colon w g S b h (.inr (.inr (.inl hst))) hk)
    · exact StepPost.of (r := (enterP S 6, noneA)) (by simp [inStateP, paramTail, interTail, hst, hk]) (state_late w g S b h (.inl hst) hk)
    · exact StepPost.of (r := inSeqP S b) (by simp [inStateP, paramTail, interTail, hst, hk]) (state_seq5 w g S b h (.inr (.inr (.inl hst))) hk)
    · exact StepPost.of (r := inSeqP S b) (by simp [inStateP, paramTail, interTail, hst, hk]) (state_seq6 w g S b h (.inr (.inr (.inl hst))) hk)
  · rcases hc with hk | hk | hk | hk | hk | hk | hk
    · exact StepPost.of (r := inSeqP S b) (by simp [inStateP, interTail, hst, hk]) (state_seq0 w g S b h (.inr (.inr (.inr (.inr (.inl hst))))) hk)
    · exact StepPost.of (r := (enterP (addInterP S b) 5, noneA)) (by simp [inStateP, interTail, hst, hk]) (state_inter w g S b h (.inr (.inr (.inr (.inr (.inl hst))))) hk)
    · exact StepPost.of (r := (enterP S 6, noneA)) (by simp [inStateP, interTail, hst, hk]) (state_num w g S b h (.inl hst) hk)
    · exact StepPost.of (r := (enterP S 6, noneA)) (by simp [inStateP, interTail, hst, hk]) (state_colon w g S b h (.inr (.inr (.inr (.inr (.inl hst))))) hk)
    · exact StepPost.of (r := (enterP S 6, noneA)) (by simp [inStateP, interTail, hst, hk]) (state_late w g S b h (.inr (.inr (.inl hst))) hk)
    · exact StepPost.of (r := inSeqP S b) (by simp [inStateP, interTail, hst, hk]) (state_seq5 w g S b h (.inr (.inr (.inr (.inr (.inl hst))))) hk)
    · exact StepPost.of (r := inSeqP S b) (by simp [inStateP, interTail, hst, hk]) (state_seq6 w g S b h (.inr (.inr (.inr (.inr (.inl hst))))) hk)
  · exact StepPost.of (r := inSeqP S b) (by simp only [inStateP, hst]) (state_ignore w g S b h (.inl hst))
  · rcases hc with hk | hk | hk | hk | hk | hk | hk
    · exact StepPost.of (r := inSeqP S b) (by simp [inStateP, paramTail, interTail, hst, hk]) (state_seq0 w g S b h (.inr (.inl hst)) hk)
    · exact StepPost.of (r := (enterP (addInterP S b) 5, noneA)) (by simp [inStateP, paramTail, interTail, hst, hk]) (state_inter w g S b h (.inr (.inl hst)) hk)
    · exact StepPost.of (r := (enterP (putParP S b) 4, noneA)) (by simp [inStateP, paramTail, hst, hk]) (state_put w g S b h (.inr (.inl hst)) hk)
    · exact StepPost.of (r := (enterP S 6, noneA)) (by simp [inStateP, paramTail, interTail, hst, hk]) (state_colon w g S b h (.inr (.inl hst)) hk)
    · exact StepPost.of (r := (enterP { S with priv := b } 4, noneA)) (by simp [inStateP, hst, hk]) (state_priv w g S b h (.inr hst) hk)
    · exact StepPost.of (r := inSeqP S b) (by simp [inStateP, paramTail, interTail, hst, hk]) (state_seq5 w g S b h (.inr (.inl hst)) hk)
    · exact StepPost.of (r := inSeqP S b) (by simp [inStateP, paramTail, interTail, hst, hk]) (state_seq6 w g S b h (.inr (.inl hst)) hk)
  · rcases hc with hk | hk | hk | hk | hk | hk | hk
    · exact StepPost.of (r := inSeqP S b) (by simp [inStateP, paramTail, interTail, hst, hk]) (state_seq0 w g S b h (.inr (.inr (.inr (.inl hst)))) hk)
    · exact StepPost.of (r := (enterP (addInterP S b) 5, noneA)) (by simp [inStateP, paramTail, interTail, hst, hk]) (state_inter w g S b h (.inr (.inr (.inr (.inl hst)))) hk)
    · exact StepPost.of (r := (enterP (putParP S b) 4, noneA)) (by simp [inStateP, paramTail, hst, hk]) (state_put w g S b h (.inr (.inr (.inr hst))) hk)
    · exact StepPost.of (r := (enterP S 6, noneA)) (by simp [inStateP, paramTail, interTail, hst, hk]) (state_colon w g S b h (.inr (.inr (.inr (.inl hst)))) hk)
    · exact StepPost.of (r := (enterP S 6, noneA)) (by simp [inStateP, paramTail, interTail, hst, hk]) (state_late w g S b h (.inr (.inl hst)) hk)
    · exact StepPost.of (r := inSeqP S b) (by simp [inStateP, paramTail, interTail, hst, hk]) (state_seq5 w g S b h (.inr (.inr (.inr (.inl hst)))) hk)
    · exact StepPost.of (r := inSeqP S b) (by simp [inStateP, paramTail, interTail, hst, hk]) (state_seq6 w g S b h (.inr (.inr (.inr (.inl hst)))) hk)
  · rcases hc with hk | hk | hk | hk | hk | hk | hk
    · exact StepPost.of (r := inSeqP S b) (by simp [inStateP, interTail, hst, hk]) (state_seq0 w g S b h (.inr (.inr (.inr (.inr (.inr hst))))) hk)
    · exact StepPost.of (r := (enterP (addInterP S b) 5, noneA)) (by simp [inStateP, interTail, hst, hk]) (state_inter w g S b h (.inr (.inr (.inr (.inr (.inr hst))))) hk)
    · exact StepPost.of (r := (enterP S 6, noneA)) (by simp [inStateP, interTail, hst, hk]) (state_num w g S b h (.inr hst) hk)
    · exact StepPost.of (r := (enterP S 6, noneA)) (by simp [inStateP, interTail, hst, hk]) (state_colon w g S b h (.inr (.inr (.inr (.inr (.inr hst))))) hk)
    · exact StepPost.of (r := (enterP S 6, noneA)) (by simp [inStateP, interTail, hst, hk]) (state_late w g S b h (.inr (.inr (.inr hst))) hk)
    · exact StepPost.of (r := inSeqP S b) (by simp [inStateP, interTail, hst, hk]) (state_seq5 w g S b h (.inr (.inr (.inr (.inr (.inr hst))))) hk)
    · exact StepPost.of (r := inSeqP S b) (by simp [inStateP, interTail, hst, hk]) (state_seq6 w g S b h (.inr (.inr (.inr (.inr (.inr hst))))) hk)
  · exact StepPost.of (r := inSeqP S b) (by simp only [inStateP, hst]) (state_ignore w g S b h (.inr hst))
  · by_cases hb : b = 127
    · exact StepPost.of (r := (S, noneA)) (by simp [inStateP, hst, hb]) (state_del w g S b h hst hb)
    · exact StepPost.of (r := (addTextP S b, noneA)) (by simp [inStateP, hst, hb]) (state_text w g S b h hst hb)
  · exact StepPost.of (r := inOscP S b) (by simp only [inStateP, hst]) (state_osc w g S b h hst)
  · exact StepPost.of (r := (S, noneA)) (by simp only [inStateP, hst]) (state_pass w g S b h hst)
end Go.Proofs.YtjoiagaadofndaaDoor
