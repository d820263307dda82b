/-
  What check answers of lines: a text that is too long, then a time below nought.
-/
import Derived.Test.YtojhppcnpjajaaaHlAt
namespace Go.Proofs.Ytojhppcnpjajaaa
open Go.RowKit Go.Shelf Go.Lib
attribute [local go_sem] Oper.semAt_some

def tooL (x : HL) : Bool := decide (16384 < x.1.size)
def negT (x : HL) : Bool := decide (x.2 < 0)
def checkP (l : List HL) : Int := if l.any tooL then 3 else if l.any negT then 1 else 0
set_option maxRecDepth 1000000 in
theorem tooLong_any (w : World) (s : ByteArray) : Calls Try.prog 58 #[.string s] w fun e w' => e = .returned (.bool (decide (16384 < s.size))) ∧ w = w' := by
  go_enter Try.func58, Try.ntmps58
  go_wp2
  go_ret
  exact ⟨by simp; omega, rfl⟩
set_option maxRecDepth 1000000 in
theorem check1_any (w : World) (x : HL) : Calls Try.prog 76 #[hlV x] w fun e w' => e = .returned (.bool (tooL x)) ∧ Below w.heap.size w w' := by
  obtain ⟨s, t⟩ := x
  have CT := Lib.hid fun W => tooLong_any W s
  show Calls Try.prog 76 #[.agg #[.string s, .int .i64 t]] w fun e w' => e = .returned (.bool (decide (16384 < s.size))) ∧ _
  go_enter Try.func76, Try.ntmps76
  go_wp2_with (go_at_call 58; refine (CT.out _).mono ?_; rintro e w1 ⟨rfl, rfl⟩)
  go_ret
  exact ⟨rfl, (Below.refl w.heap.size w).alloc (Nat.le_refl _) _⟩
set_option maxRecDepth 1000000 in
theorem check2_any (w : World) (x : HL) : Calls Try.prog 77 #[hlV x] w fun e w' => e = .returned (.bool (negT x)) ∧ Below w.heap.size w w' := by
  obtain ⟨s, t⟩ := x
  show Calls Try.prog 77 #[.agg #[.string s, .int .i64 t]] w fun e w' => e = .returned (.bool (decide (t < 0))) ∧ _
  go_enter Try.func77, Try.ntmps77
  go_wp2
  go_ret
  exact ⟨rfl, (Below.refl w.heap.size w).alloc (Nat.le_refl _) _⟩
/-- a function that tells p of a line -/
def OneTo (p : HL → Bool) (f : Nat) : Prop := (∀ args W, (callFunc f args).run Try.prog W = .ok (.enter f args) W) ∧ ∀ W x, Calls Try.prog f #[hlV x] W fun e W' => e = .returned (.bool (p x)) ∧ Below W.heap.size W W'
def AnyPost (l : List HL) (p : HL → Bool) (w : World) (e : Ending) (w' : World) : Prop := ∃ r : Int, e = .returned (.int .i64 r) ∧ decide (0 ≤ r) = l.any p ∧ Below w.heap.size w w'
theorem any_snoc {l : List HL} {p : HL → Bool} {k : Nat} {x : HL} (hx : l[k]? = some x) (h : (l.take k).any p = false) (hp : p x = false) : (l.take (k + 1)).any p = false := by
  rw [List.take_add_one, hx, List.any_append, h]
  simp [hp]
set_option maxRecDepth 1000000 in
set_option maxHeartbeats 1000000 in
theorem indexFunc_any (w : World) (v : Value) (l : List HL) (p : HL → Bool) (f : Nat) (hv : HH w v l) (hf : OneTo p f) (hl : l.length ≤ 140737488355328) : Calls Try.prog 81 #[v, .func (.func f) #[] #[]] w (AnyPost l p w) := by
  obtain ⟨A, c, rfl⟩ := hv.form
  obtain ⟨hf1, hf2⟩ := hf
  have HV := Lib.hid hv
  have HL := Lib.hid hl
  have CF := Lib.hid hf2
  clear hv hl hf2
  obtain ⟨n, hn⟩ : ∃ n, n = l.length := ⟨_, rfl⟩
  rw [← hn]
  have HN := Lib.hid hn
  clear hn
  go_enter Try.func81, Try.ntmps81
  go_wp2
  go_loopw [8] (fun i wr => ∃ k : Nat, k ≤ n ∧ i = .int .i64 (k : Int) ∧ (l.take k).any p = false ∧ Below w.heap.size w wr) (fun i _ => n - (RowKit.intOf i).toNat)
  case atStart => exact ⟨0, Nat.zero_le _, rfl, by simp, Below.refl _ _⟩
  case round =>
    obtain ⟨k, hk, rfl, ha, hb⟩ := hrel
    have HA := Lib.hid ha
    have HB := Lib.hid hb
    by_cases hlt : k < n
    · have hx : l[k]? = some (l[k]'(by rw [← HN.out]; exact hlt)) := List.getElem?_eq_getElem _
      generalize l[k]'(by rw [← HN.out]; exact hlt) = x at hx
      have h2 := HV.out.below hb
      rw [← HN.out] at h2
      obtain ⟨bb, off, rfl, hlt2, c0, c1⟩ := h2.cell hx
      have HX := Lib.hid hx
      have HLT := Lib.hid hlt
      have i2 : ((k : Int) < (n : Int)) = True := by simp; exact hlt
      have hwk : wrap64 ((k : Int) + 1) = (k : Int) + 1 := by have := HL.out; have := HN.out; unfold wrap64; omega
      clear h2 hx ha hb hk hlt2 hlt
      cases hpx : p x with
      | false =>
        have CX := Lib.hid fun W => CF.out W x
        rw [hpx] at CX
        have HP := Lib.hid hpx
        clear hpx
        go_wp2_with (with_reducible refine (CX.out _).mono ?_; rintro e w1 ⟨rfl, hb1⟩; have HB1 := Lib.hid (HB.out.trans (hb1.mono HB.out.size)); clear hb1)
        go_roundw
        case rel => exact ⟨k + 1, HLT.out, next_val hwk, any_snoc HX.out HA.out HP.out, HB1.out⟩
        case measure => exact measure_lt HLT.out hwk
      | true =>
        have CX := Lib.hid fun W => CF.out W x
        rw [hpx] at CX
        have HP := Lib.hid hpx
        clear hpx
        go_wp2_with (with_reducible refine (CX.out _).mono ?_; rintro e w1 ⟨rfl, hb1⟩; have HB1 := Lib.hid (HB.out.trans (hb1.mono HB.out.size)); clear hb1)
        go_ret
        refine ⟨(k : Int), rfl, ?_, HB1.out⟩
        rw [decide_eq_true (by omega), eq_comm, List.any_eq_true]
        exact ⟨x, List.mem_of_getElem? HX.out, HP.out⟩
    · obtain rfl : k = n := by omega
      have i2 : ((k : Int) < (k : Int)) = False := by simp
      have HA2 : Hid (l.any p = false) := Lib.hid (by rw [List.take_of_length_le (by rw [HN.out]; exact Nat.le_refl _)] at ha; exact ha)
      clear hlt hk ha hb
      go_wp2
      go_ret
      exact ⟨-1, rfl, by rw [HA2.out]; rfl, HB.out⟩
set_option maxRecDepth 1000000 in
theorem containsFunc_any (w : World) (v : Value) (l : List HL) (p : HL → Bool) (f : Nat) (hv : HH w v l) (hf : OneTo p f) (hl : l.length ≤ 140737488355328) : Calls Try.prog 75 #[v, .func (.func f) #[] #[]] w fun e w' => e = .returned (.bool (l.any p)) ∧ Below w.heap.size w w' := by
  obtain ⟨A, c, rfl⟩ := hv.form
  have CI := Lib.hid (indexFunc_any w _ l p f hv hf hl)
  clear hv hf hl
  go_enter Try.func75, Try.ntmps75
  go_wp2_with (go_at_call 81; refine (CI.out).mono ?_; rintro e w1 ⟨r, rfl, hd, hb⟩; have HB := Lib.hid hb; have HD := Lib.hid hd; clear hb hd)
  go_ret
  exact ⟨ret_bool HD.out, HB.out⟩
theorem one1 : OneTo tooL 76 := ⟨enters_of Try.func76 (by kernel_rfl) rfl, fun W x => check1_any W x⟩
theorem one2 : OneTo negT 77 := ⟨enters_of Try.func77 (by kernel_rfl) rfl, fun W x => check2_any W x⟩
set_option maxRecDepth 1000000 in
theorem check_any (w : World) (v : Value) (l : List HL) (hv : HH w v l) (hl : l.length ≤ 140737488355328) : Calls Try.prog 54 #[v] w fun e w' => e = .returned (.int .i64 (checkP l)) ∧ Below w.heap.size w w' := by
  have C1 := Lib.hid (containsFunc_any w v l tooL _ hv one1 hl)
  have C2 := Lib.hid fun W (hb : Below w.heap.size w W) => containsFunc_any W v l negT _ (hv.below hb) one2 hl
  obtain ⟨A, c, rfl⟩ := hv.form
  clear hv hl
  unfold checkP
  generalize l.any tooL = a at *
  generalize l.any negT = b at *
  have tok1 : True := trivial
  cases a <;> cases b <;>
  · go_enter Try.func54, Try.ntmps54
    go_wp2_with (first
      | (go_at_call 75; have tk := tok1; refine (C1.out).mono ?_; rintro e w1 ⟨rfl, hb⟩; have HB := Lib.hid hb; clear hb tk tok1; have tok2 : True := trivial)
      | (go_at_call 75; have tk := tok2; refine (C2.out _ HB.out).mono ?_; rintro e w2 ⟨rfl, hb⟩; replace HB := Lib.hid (HB.out.trans (hb.mono HB.out.size)); clear hb tk))
    go_ret
    exact ⟨rfl, HB.out⟩
end Go.Proofs.Ytojhppcnpjajaaa
