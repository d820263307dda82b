/-
  What one byte does to a parser.
-/
import Derived.Test.YtjoiagaadofndaaDoorVpInState
namespace Go.Proofs.YtjoiagaadofndaaDoor
open Go.RowKit Go.Shelf Go.Lib
attribute [local go_sem] Oper.semAt_some

/-- a list of integers that nobody turns -/
theorem IntRow.touch {W W' : World} {B g : Nat} {v : Value} {l : List Int} (h : IntRow W B v l) (ht : Touch (Only g) W W') (hg : g < B) : IntRow W' B v l := own_touch h ht fun k hk => by simp only [Only] at hk; omega

set_option maxRecDepth 1000000 in
set_option maxHeartbeats 2000000 in
theorem step_any (w : World) (g : Nat) (S : PS) (b : UInt8) (h : ParAt w g S) : Calls Tryd.prog 49 #[.pointer (some ⟨g, 0, none⟩), .int .u8 b.toNat] w (StepPost w g (stepP S b).1 (stepP S b).2) := by
  have HB := Lib.hid (BoxW.start h #[.int .i64 0, .int .i32 0, .int .u8 0, .int .u8 0, .slice none 0 0, .string ⟨#[]⟩, .string ⟨#[]⟩] rfl)
  have CE := Lib.hid fun W => execute_any b W
  have CT := Lib.hid fun W (hW : ParAt W g S) => endText_any W g S hW
  have CS := Lib.hid fun W (hW : ParAt W g S) => inState_any W g S b hW
  clear h
  have e24 : (b = 24) ↔ b.toNat = 24 := u8_eq b 24 (by omega)
  have e26 : (b = 26) ↔ b.toNat = 26 := u8_eq b 26 (by omega)
  have e27 : (b = 27) ↔ b.toNat = 27 := u8_eq b 27 (by omega)
  by_cases k1 : b = 24 ∨ b = 26
  · have e : stepP S b = ({ S with st := 0 }, exeA b) := by unfold stepP; rw [if_pos k1]
    rw [e]
    clear e CT CS e27
    rcases k1 with k1 | k1
    · have i24 : ((b.toNat : Int) == 24) = true := by rw [e24.1 k1]; rfl
      clear e24 e26 k1
      go_enter Tryd.func49, Tryd.ntmps49
      go_upto_region 1 with (fail)
      generalize w.alloc (.cells #[.int .i64 0, .int .i32 0, .int .u8 0, .int .u8 0, .slice none 0 0, .string ⟨#[]⟩, .string ⟨#[]⟩] 39) = W at *
      have c1 := HB.out.par.st
      have f1 := HB.out.par.frozen 1
      have HB1 := Lib.hid (HB.out.setSt 0 (by omega))
      go_wp2_with (first
        | (go_at_call 66; refine (CE.out _).mono ?_; rintro e w1 ⟨rfl, hb1⟩; have HB2 := Lib.hid (HB1.out.below hb1); clear hb1)
        | (refine wpList_store_act (by rfl) _ _ (by rfl) w.heap.size _ (by rfl) (by rfl) HB2.out.seven HB2.out.at (by rfl) (by rfl) ?_))
      have hf := HB2.out.fin0 (exeA b) rfl _ rfl
      exact ret_box rfl rfl rfl hf.1 rfl hf.2
    · have i26 : ((b.toNat : Int) == 26) = true := by rw [e26.1 k1]; rfl
      have i24 : ((b.toNat : Int) == 24) = false := by rw [e26.1 k1]; rfl
      clear e24 e26 k1
      go_enter Tryd.func49, Tryd.ntmps49
      go_upto_region 1 with (fail)
      generalize w.alloc (.cells #[.int .i64 0, .int .i32 0, .int .u8 0, .int .u8 0, .slice none 0 0, .string ⟨#[]⟩, .string ⟨#[]⟩] 39) = W at *
      have c1 := HB.out.par.st
      have f1 := HB.out.par.frozen 1
      have HB1 := Lib.hid (HB.out.setSt 0 (by omega))
      go_wp2_with (first
        | (go_at_call 66; refine (CE.out _).mono ?_; rintro e w1 ⟨rfl, hb1⟩; have HB2 := Lib.hid (HB1.out.below hb1); clear hb1)
        | (refine wpList_store_act (by rfl) _ _ (by rfl) w.heap.size _ (by rfl) (by rfl) HB2.out.seven HB2.out.at (by rfl) (by rfl) ?_))
      have hf := HB2.out.fin0 (exeA b) rfl _ rfl
      exact ret_box rfl rfl rfl hf.1 rfl hf.2
  have i24 : ((b.toNat : Int) == 24) = false := beq_eq_false_iff_ne.2 (fun x => k1 (.inl (e24.2 (by omega))))
  have i26 : ((b.toNat : Int) == 26) = false := beq_eq_false_iff_ne.2 (fun x => k1 (.inr (e26.2 (by omega))))
  by_cases k27 : b = 27
  · have e : stepP S b = ({ freshP S with st := 1 }, endTextA S) := by unfold stepP; rw [if_neg k1, if_pos k27]
    rw [e]
    have i27 : ((b.toNat : Int) == 27) = true := by rw [e27.1 k27]; rfl
    clear e CS CE e24 e26 e27 k1 k27
    generalize endTextA S = ac at *
    go_enter Tryd.func49, Tryd.ntmps49
    go_upto_region 1 with (fail)
    generalize w.alloc (.cells #[.int .i64 0, .int .i32 0, .int .u8 0, .int .u8 0, .slice none 0 0, .string ⟨#[]⟩, .string ⟨#[]⟩] 39) = W at *
    go_upto_region 8 with (go_at_call 67; refine (CT.out _ HB.out.par).mono ?_; rintro e w1 ⟨pv, rfl, hi1, hp1, ht1⟩; obtain ⟨A, cp, rfl, _⟩ := own_form hi1; have HI := Lib.hid (own_less hi1 (B' := w.heap.size) (Nat.le_of_lt HB.out.size)); have HB3 := Lib.hid (HB.out.call ht1 hp1); clear hi1 hp1 ht1)
    have hb5 := heap_alloc_new w1 (.cells #[.int .i64 ac.kind, .int .i32 ac.rune, .int .u8 ac.fin.toNat, .int .u8 ac.priv.toNat, .slice A ac.ps.length cp, str ac.inter, str ac.text] 39)
    have hbl := (Below.refl w1.heap.size w1).alloc (Nat.le_refl _) (.cells #[.int .i64 ac.kind, .int .i32 ac.rune, .int .u8 ac.fin.toNat, .int .u8 ac.priv.toNat, .slice A ac.ps.length cp, str ac.inter, str ac.text] 39)
    have HB4 := Lib.hid (HB3.out.below hbl)
    have HI4 := Lib.hid (own_below HI.out hbl)
    have hg1 : g ≠ w1.heap.size := by have := HB3.out.size; have := HB3.out.lt; omega
    clear hbl
    generalize w1.alloc (.cells #[.int .i64 ac.kind, .int .i32 ac.rune, .int .u8 ac.fin.toNat, .int .u8 ac.priv.toNat, .slice A ac.ps.length cp, str ac.inter, str ac.text] 39) = W2 at *
    have HT := Lib.hid hb5
    clear hb5
    go_wp2_with (first
      | (refine wpList_store_seq (by rfl) _ _ (by rfl) g S HB4.out.par (by rfl) (by rfl) ?_; intro w3 hp3 ht3; have HB5 := Lib.hid (HB4.out.call ht3 hp3); have HI5 := Lib.hid (IntRow.touch HI4.out ht3 HB4.out.lt); have c1 := HB5.out.par.st; have f1 := HB5.out.par.frozen 1; have HB6 := Lib.hid (HB5.out.setSt 1 (by omega)); have HI6 := Lib.hid (IntRow.touch HI5.out (only_set w3 g 1 (.int .i64 1)) HB4.out.lt); have HT6 := Lib.hid ((heap_setCell_other w3 ⟨g, 1, none⟩ w1.heap.size (.int .i64 1) (fun x => hg1 x.symm)).trans ((ht3.block _ (Array.getElem?_eq_some_iff.1 HT.out).1 (fun x => hg1 x.symm)).trans HT.out)); clear hp3 ht3)
      | (refine wpList_load_row (by rfl) 39 _ (by rfl) w1.heap.size (by rfl) _ _ _ _ HT6.out Tryd.underlying39 rfl (by exact act_size) ?_)
      | (refine wpList_store_act (by rfl) _ _ (by rfl) w.heap.size _ (by rfl) (by rfl) HB6.out.seven HB6.out.at (by rfl) (by rfl) ?_))
    have hf := HB6.out.fin HI6.out _ rfl
    exact ret_box rfl rfl rfl hf.1 rfl hf.2
  · have e : stepP S b = inStateP S b := by unfold stepP; rw [if_neg k1, if_neg k27]
    rw [e]
    have i27 : ((b.toNat : Int) == 27) = false := beq_eq_false_iff_ne.2 (fun x => k27 (e27.2 (by omega)))
    clear e CT CE e24 e26 e27 k1 k27
    go_enter Tryd.func49, Tryd.ntmps49
    go_upto_region 1 with (fail)
    generalize w.alloc (.cells #[.int .i64 0, .int .i32 0, .int .u8 0, .int .u8 0, .slice none 0 0, .string ⟨#[]⟩, .string ⟨#[]⟩] 39) = W at *
    go_wp2_with (first
      | (go_at_call 68; refine (CS.out _ HB.out.par).mono ?_; rintro e w1 ⟨pv, rfl, hi1, hp1, ht1⟩; obtain ⟨A, cp, rfl, _⟩ := own_form hi1; have HI := Lib.hid (own_less hi1 (B' := w.heap.size) (Nat.le_of_lt HB.out.size)); have HB3 := Lib.hid (HB.out.call ht1 hp1); clear hi1 hp1 ht1)
      | (refine wpList_store_act (by rfl) _ _ (by rfl) w.heap.size _ (by rfl) (by rfl) HB3.out.seven HB3.out.at (by rfl) (by rfl) ?_))
    have hf := HB3.out.fin HI.out _ rfl
    exact ret_box rfl rfl rfl hf.1 rfl hf.2
end Go.Proofs.YtjoiagaadofndaaDoor
