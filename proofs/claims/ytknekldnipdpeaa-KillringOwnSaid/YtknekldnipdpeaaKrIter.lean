/-
  The iterator of All gives each entry with its number, in rows of its own.
-/
import Derived.Test.YtknekldnipdpeaaKrAll
import Derived.Test.YtknekldnipdpeaaKrRange
import Derived.LoopIn
import Derived.LoopNIn
namespace Go.Proofs.Ytknekldnipdpeaa
open Go.RowKit Go.Shelf Go.Lib
attribute [local go_sem] Oper.semAt_some

section
variable {K : Nat → Prop}
/-- what is given in a round -/
def AllR (es : List (List Int)) (k : Nat) (x y : Value) (bb : Nat) (W : World) : Prop := x = .int .i64 (k : Int) ∧ bb ≤ W.heap.size ∧ ∃ l A c, es[k]? = some l ∧ y = .slice A l.length c ∧ l.length ≤ 1024 ∧ RRow W bb (.slice A l.length c) l
set_option maxRecDepth 1000000 in
set_option maxHeartbeats 4000000 in
theorem all_iter (w : World) (b : Nat) (es : List (List Int)) (hb : CBox K w b es) (hK : ∀ k, K k → k < w.heap.size) :
    IterG2 Try.prog 34 #[.pointer (some ⟨b, 0, none⟩)] (fun k => K k ∨ k = b) es.length (AllR es) w := by
  intro n l J Jx W hs hJ hJx hY h0
  have hW : CBox K W b es := hb.to ⟨hs.size, fun k hk _ => hs.block k hk⟩
  have HKW : Hid (∀ k, K k → k < W.heap.size) := Lib.hid fun k hk => Nat.lt_of_lt_of_le (hK k hk) hs.size
  have HM := Lib.hid hW.many
  have HBW := Lib.hid hW.lt
  have HW := Lib.hid hW
  have HJ := Lib.hid hJ
  have HY := Lib.hid hY
  have H0 := Lib.hid h0
  have hdep : Fence.wide.depth.isSome = false := rfl
  obtain ⟨vs, nw, h1, h2, h3, h4⟩ := hW.ex
  have hcc := ccells0 h1 h2 h3 hW.many
  have c61 : W.cell? ⟨b, 61, none⟩ = some (.int .i64 (es.length : Int)) := by have := hcc.ccn; rwa [Nat.zero_add] at this
  clear hb hK hs hJ hJx hY h0 hW h1 h2 h3 h4 hcc
  obtain ⟨N, hN⟩ : ∃ N, N = es.length := ⟨_, rfl⟩
  rw [← hN] at c61
  have HN := Lib.hid hN
  rw [← hN]
  clear hN
  refine callsIn_of_wp Try.func34 rfl trivial ?_ rfl
  simp only [Try.ntmps34, List.size_toArray, List.length_cons, List.length_nil, Nat.reduceAdd, Nat.reduceSub, Array.replicate_succ, Array.replicate_zero, List.push_toArray, List.append_toArray, List.nil_append, List.cons_append]
  have hf0 : Fence.wide.fn 29 := trivial
  have hf1 : Fence.wide.fn 27 := trivial
  gi_wp2_with fail
  gi_loopw [3, 6] (fun _ i wr => ∃ k : Nat, k ≤ N ∧ i = .int .i64 (k : Int) ∧ Same (fun k => K k ∨ k = b) W wr ∧ J k wr) (fun _ i _ => N - (RowKit.intOf i).toNat)
  case atStart => exact ⟨0, Nat.zero_le _, rfl, Same.refl _ _, H0.out⟩
  case round =>
    obtain ⟨k, hk, rfl, hs, hj⟩ := hrel
    have HS := Lib.hid hs
    have HJK := Lib.hid hj
    by_cases hlt : k < N
    · have hwr : CBox K wr b es := HW.out.to ⟨hs.size, fun k hk _ => hs.block k hk⟩
      obtain ⟨vs, nw, h1, h2, h3, h4⟩ := hwr.ex
      have hkes : k < es.length := by rw [← HN.out]; exact hlt
      obtain ⟨A, c, hv, hin, hl⟩ := h4.at hkes
      have CE := Lib.hid (entry_any wr b 0 vs nw _ (ccells0 h1 h2 h3 hwr.many) k (by have := hwr.many; omega) _ hv)
      have CC := Lib.hid fun m => cloneRow (wr.drewN m) _ es[k] (hin.to ⟨Nat.le_refl _, fun _ _ _ => rfl⟩).now (by omega)
      have HX : Hid (es[k]? = some es[k] ∧ es[k].length ≤ 1024) := Lib.hid ⟨List.getElem?_eq_getElem hkes, hl⟩
      have HLT := Lib.hid hlt
      have i2 : ((k : Int) < (N : Int)) = True := eq_true (by omega)
      have i3 : (k < N) = True := eq_true hlt
      have hwk : wrap64 ((k : Int) + 1) = (k : Int) + 1 := by have := HM.out; have := HN.out; unfold wrap64; omega
      have HWS : Hid (W.heap.size ≤ wr.heap.size) := Lib.hid hs.size
      clear hk hs hj hwr h1 h2 h3 h4 hv hin hl hlt
      generalize es[k] = x at *
      generalize hxl : x.length = xl at *
      clear hkes
      gi_wp2_with (first
        | (gi_at_call 29; refine (callsIn_wide.2 CE.out).mono ?_; rintro e w1 ⟨rfl, m, rfl⟩)
        | (gi_at_call 27; refine (callsIn_wide.2 (CC.out _)).mono ?_; rintro e w3 ⟨A3, c3, rfl, hr3, hb3⟩; have hb4 := below_of_drewN hb3; have hJ3 := HJ.out k wr w3 HJK.out ((Touch.of_below (T := fun j => W.heap.size ≤ j) hb4)); have hs3 : Same (fun k => K k ∨ k = b) wr w3 := ⟨hb4.size, fun j hj => hb4.block j (hj.elim (fun h => Nat.lt_of_lt_of_le (HKW.out j h) HWS.out) fun h => by rw [h]; exact Nat.lt_of_lt_of_le HBW.out HWS.out)⟩; have S3 := Lib.hid (HS.out.trans hs3); obtain ⟨fn, tmps, assign, body, hy, hR⟩ := HY.out k (.int .i64 (k : Int)) (.slice A3 xl c3) wr.heap.size w3 (by rw [← HN.out]; exact HLT.out) ⟨rfl, hb4.size, x, A3, c3, HX.out.1, by rw [hxl], by rw [hxl]; exact HX.out.2, by rw [hxl]; exact hr3⟩ HWS.out hJ3; clear hr3 hb3 hb4 hJ3 hs3))
      refine hR.mono ?_
      rintro e W4 (⟨rfl, hJ4, hs4⟩ | ⟨rfl, hJx4⟩)
      · have J4 := Lib.hid hJ4
        have S4 := Lib.hid (S3.out.trans (hs4.mono fun j hj => .inl hj))
        clear hJ4 hs4 hy hR
        gi_wp2
        go_roundw
        case rel => exact ⟨k + 1, HLT.out, next_val hwk, S4.out, J4.out⟩
        case measure => exact measure_lt HLT.out hwk
      · have J4 := Lib.hid hJx4
        clear hJx4 hy hR
        gi_wp2
        refine bodyPost_ret (results_none rfl _ _ _) rfl ?_
        exact ⟨⟨_, rfl⟩, .inr J4.out⟩
    · obtain rfl : k = N := by omega
      have i2 : ((k : Int) < (k : Int)) = False := by simp
      clear hlt hk hs hj
      gi_wp2
      go_end0
      exact ⟨⟨_, rfl⟩, .inl HJK.out⟩
end
end Go.Proofs.Ytknekldnipdpeaa
