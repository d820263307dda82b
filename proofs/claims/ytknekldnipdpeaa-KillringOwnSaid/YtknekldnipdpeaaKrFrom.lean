/-
  What From answers: too long an entry, too many; the entries in a new ring.
-/
import Derived.Test.YtknekldnipdpeaaKrAll
import Derived.Test.YtknekldnipdpeaaKrRangeB
import Derived.Test.YtknekldnipdpeaaKrArg
import Derived.LoopIn
import Derived.LoopNIn
namespace Go.Proofs.Ytknekldnipdpeaa
open Go.RowKit Go.Shelf Go.Lib
attribute [local go_sem] Oper.semAt_some

def longB (l : List Int) : Bool := decide (1024 < l.length)
set_option maxRecDepth 1000000 in
set_option maxHeartbeats 1000000 in
theorem indexFunc_any (w : World) (ls : List (List Int)) (A : Option Addr) (n c : Nat) (h : Mat w (.slice A n c) ls) : Calls Try.prog 37 #[.slice A n c, .func (.func 25) #[] #[]] w fun e w' => (∃ k : Nat, e = .returned (.int .i64 (k : Int)) ∧ ls.any longB = true ∨ e = .returned (.int .i64 (-1)) ∧ ls.any longB = false) ∧ w = w' := by
  have hn : n = ls.length := by
    obtain ⟨A', c', e⟩ := h.form
    injection e
  have H := Lib.hid h
  have HLEN := Lib.hid h.len
  have HN := Lib.hid hn
  clear h hn
  go_enter Try.func37, Try.ntmps37
  go_wp2
  go_loop [5, 8] (fun _ i => ∃ k : Nat, k ≤ n ∧ i = .int .i64 (k : Int) ∧ (ls.take k).any longB = false) (fun _ i => n - (RowKit.intOf i).toNat)
  case atStart => exact ⟨0, Nat.zero_le _, rfl, rfl⟩
  case round =>
    obtain ⟨k, hk, rfl, ha⟩ := hrel
    by_cases hlt : k < n
    · have hkl : k < ls.length := by rw [← HN.out]; exact hlt
      obtain ⟨b, off, A2, c2, rfl, hb, hc, hh, _⟩ := H.out.at (List.getElem?_eq_getElem hkl)
      have CT := tooLong_any w A2 ls[k].length c2
      have i1 : (0 : Int) ≤ (k : Int) := by omega
      have i2 : ((k : Int) < (n : Int)) = True := eq_true (by omega)
      have hwk : wrap64 ((k : Int) + 1) = (k : Int) + 1 := by have := HLEN.out; have := HN.out; unfold wrap64; omega
      have HLT := Lib.hid hlt
      have HT : Hid (longB ls[k] = false → (ls.take (k + 1)).any longB = false) := Lib.hid fun hl => by
        rw [List.take_succ_eq_append_getElem hkl, List.any_append, ha]
        simp [hl]
      have HA : Hid (longB ls[k] = true → ls.any longB = true) := Lib.hid fun hl => List.any_eq_true.2 ⟨ls[k], List.getElem_mem hkl, hl⟩
      clear hk ha hb hh hlt
      have hlb : longB ls[k] = decide (1024 < ls[k].length) := rfl
      generalize ls[k] = x at *
      rw [← hlb] at CT
      clear hkl hlb
      generalize x.length = xl at *
      generalize longB x = lb at *
      cases lb with
      | true =>
        have CT := Lib.hid CT
        go_wp2_with (go_at_call 25; refine (CT.out).mono ?_; rintro e w1 ⟨rfl, rfl⟩)
        go_ret
        exact ⟨⟨k, .inl ⟨rfl, by simpa using HA.out⟩⟩, rfl⟩
      | false =>
        have CT := Lib.hid CT
        go_wp2_with (go_at_call 25; refine (CT.out).mono ?_; rintro e w1 ⟨rfl, rfl⟩)
        go_round
        case rel => exact ⟨k + 1, HLT.out, next_val hwk, by simpa using HT.out⟩
        case measure => exact measure_lt HLT.out hwk
    · obtain rfl : k = n := by omega
      have i2 : ((k : Int) < (k : Int)) = False := by simp
      have HA : Hid (ls.any longB = false) := Lib.hid (by rw [List.take_of_length_le (by rw [HN.out]; exact Nat.le_refl _)] at ha; exact ha)
      clear hlt hk ha
      go_wp2
      go_ret
      exact ⟨⟨0, .inr ⟨rfl, by simpa using HA.out⟩⟩, rfl⟩
set_option maxRecDepth 1000000 in
theorem containsFunc_any (w : World) (ls : List (List Int)) (A : Option Addr) (n c : Nat) (h : Mat w (.slice A n c) ls) : Calls Try.prog 32 #[.slice A n c, .func (.func 25) #[] #[]] w fun e w' => e = .returned (.bool (ls.any longB)) ∧ w = w' := by
  have CI := Lib.hid (indexFunc_any w ls A n c h)
  clear h
  generalize ls.any longB = lb at *
  go_enter Try.func32, Try.ntmps32
  go_wp2_with (go_at_call 37; refine (CI.out).mono ?_; rintro e w1 ⟨⟨k, ⟨rfl, rfl⟩ | ⟨rfl, rfl⟩⟩, rfl⟩)
  · go_ret
    exact ⟨rfl, rfl⟩
  · go_ret
    exact ⟨rfl, rfl⟩
end Go.Proofs.Ytknekldnipdpeaa
