/-
  What putFlags, putNumber, putTexts of package tinfo do to an entry, for names that the table knows; the entry vt220.
-/
import Derived.Test.YtcfgppjhgobboaaGreatDoorTiPut2
namespace Go.Proofs.YtcfgppjhgobboaaGreatDoor
open Go.RowKit Go.Shelf Go.Lib
attribute [local go_sem] Oper.semAt_some

def put1 (t : TermD) (name : List UInt8) (c : CapD) : TermD := (putTP t name c).getD t
def putsP (t : TermD) (l : List (List UInt8 × CapD)) : TermD := l.foldl (fun t p => put1 t p.1 p.2) t
theorem putsP_take {t : TermD} {l : List (List UInt8 × CapD)} {i : Nat} {p : List UInt8 × CapD} (h : l[i]? = some p) : putsP t (l.take (i + 1)) = put1 (putsP t (l.take i)) p.1 p.2 := by
  rw [List.take_add_one, h]
  simp [putsP]
def TermHas (W : World) (FP : Nat → Prop) (tb : Nat) (t : TermD) : Prop := ∃ v ve, TermAt W FP tb v ve t
theorem TermHas.lt {W : World} {FP : Nat → Prop} {tb : Nat} {t : TermD} (h : TermHas W FP tb t) : tb < W.heap.size := by obtain ⟨v, ve, h⟩ := h; exact h.lt
theorem TermHas.self {W : World} {FP : Nat → Prop} {tb : Nat} {t : TermD} (h : TermHas W FP tb t) : FP tb := by obtain ⟨v, ve, h⟩ := h; exact h.self
theorem TermHas.more {W : World} {FP FP' : Nat → Prop} {tb : Nat} {t : TermD} (h : TermHas W FP tb t) (hP : ∀ k, k < W.heap.size → FP k → FP' k) : TermHas W FP' tb t := by obtain ⟨v, ve, h⟩ := h; exact ⟨v, ve, h.more hP⟩
theorem TermHas.below {W W' : World} {FP : Nat → Prop} {tb : Nat} {t : TermD} (h : TermHas W FP tb t) (hb : Below W.heap.size W W') : TermHas W' FP tb t := by obtain ⟨v, ve, h⟩ := h; exact ⟨v, ve, h.below hb⟩
theorem touch_grow {FP : Nat → Prop} {w wr wr' : World} (h : Touch FP w wr) (h' : Touch (fun k => FP k ∨ w.heap.size ≤ k) wr wr') : Touch FP w wr' :=
  ⟨h'.os.trans h.os, h'.tape.trans h.tape, h'.output.trans h.output, Nat.le_trans h.size h'.size, fun k hk hn => (h'.block k (Nat.lt_of_lt_of_le hk h.size) fun e => by rcases e with e | e; exact hn e; omega).trans (h.block k hk hn)⟩
/-- blocks that are no table -/
def Clear (FP : Nat → Prop) : Prop := ∀ k, FP k → k ≠ 0 ∧ k ≠ 1
theorem Clear.or {FP : Nat → Prop} {w : World} (h : Clear FP) (hT : Tabs w) : Clear (fun k => FP k ∨ w.heap.size ≤ k) := fun k hk => by
  rcases hk with hk | hk
  · exact h k hk
  · have := hT.lt; omega
def HasPost (w : World) (FP : Nat → Prop) (tb : Nat) (t : TermD) (v : Value) (e : Ending) (w' : World) : Prop := e = .returned v ∧ TermHas w' (fun k => FP k ∨ w.heap.size ≤ k) tb t ∧ Touch FP w w'
theorem put_has (w : World) (FP : Nat → Prop) (tb : Nat) (t : TermD) (name : List UInt8) (c : CapD) (h : TermHas w FP tb t) (hT : Tabs w) (hp : (placeP name).isSome = true) :
    Calls Tryz.prog 52 #[.pointer (some ⟨tb, 0, none⟩), str name, capVal c] w (HasPost w FP tb (put1 t name c) (.bool true)) := by
  obtain ⟨v, ve, h⟩ := h
  obtain ⟨⟨k, n⟩, hq⟩ := Option.isSome_iff_exists.1 hp
  obtain ⟨hk, hn0, hn⟩ := placeP_small hq
  obtain ⟨n', rfl⟩ : ∃ n' : Nat, n = n' := ⟨n.toNat, by omega⟩
  obtain ⟨k', hk', rfl⟩ : ∃ k' : Nat, k' < 3 ∧ k = k' := ⟨k.toNat, by omega, by omega⟩
  refine (put_known w FP tb v ve t name c h hT k' n' hk' hq (by omega)).mono ?_
  rintro e w' ⟨v', ve', rfl, h1, h2⟩
  exact ⟨by rw [putTP_known hq]; rfl, ⟨v', ve', h1⟩, h2⟩

theorem build_num (n : Int) (w : World) : (Instr.build 37 #[(0, .int .i64 1), (1, .int .i64 n)]).run Tryz.prog w = .ok (.agg #[.int .i64 1, .int .i64 n, .string ⟨#[]⟩]) w := by kernel_rfl
theorem build_is (w : World) : (Instr.build 37 #[(0, .int .i64 1)]).run Tryz.prog w = .ok (.agg #[.int .i64 1, .int .i64 0, .string ⟨#[]⟩]) w := by kernel_rfl
theorem build_text (s : List UInt8) (w : World) : (Instr.build 37 #[(0, .int .i64 1), (2, str s)]).run Tryz.prog w = .ok (.agg #[.int .i64 1, .int .i64 0, str s]) w := by kernel_rfl

theorem putNumber_any (w : World) (FP : Nat → Prop) (tb : Nat) (t : TermD) (name : List UInt8) (n : Int) (h : TermHas w FP tb t) (hT : Tabs w) (hp : (placeP name).isSome = true) :
    Calls Tryz.prog 108 #[.pointer (some ⟨tb, 0, none⟩), str name, .int .i64 n] w (HasPost w FP tb (put1 t name ⟨1, n, []⟩) (.tuple #[])) := by
  have CP := Lib.hid (put_has w FP tb t name ⟨1, n, []⟩ h hT hp)
  have hb := build_num n
  clear h hT hp
  go_enter Tryz.func108, Tryz.ntmps108
  go_wp2_with (go_at_call 52; refine (CP.out).mono ?_; rintro e w2 ⟨rfl, hb2⟩; have HB2 := Lib.hid hb2; clear hb2)
  go_end0
  exact ⟨rfl, HB2.out⟩

/-- between two puts -/
def PutsI (w : World) (FP : Nat → Prop) (tb : Nat) (t : TermD) (l : List (List UInt8 × CapD)) (i : Value) (W : World) : Prop :=
  ∃ k : Nat, i = .int .i64 k ∧ k ≤ l.length ∧ TermHas W (fun b => FP b ∨ w.heap.size ≤ b) tb (putsP t (l.take k)) ∧ Touch FP w W
theorem PutsI.next {w W W2 W' : World} {FP : Nat → Prop} {tb : Nat} {t : TermD} {l : List (List UInt8 × CapD)} {k : Nat} {p : List UInt8 × CapD} (hp : l[k]? = some p) (ht : Touch FP w W) (hb : Below W.heap.size W W2)
    (h : TermHas W' (fun b => (FP b ∨ w.heap.size ≤ b) ∨ W2.heap.size ≤ b) tb (put1 (putsP t (l.take k)) p.1 p.2) ∧ Touch (fun b => FP b ∨ w.heap.size ≤ b) W2 W') : PutsI w FP tb t l (.int .i64 ((k : Int) + 1)) W' := by
  refine ⟨k + 1, by go_num, (List.getElem?_eq_some_iff.1 hp).1, ?_, ?_⟩
  · rw [putsP_take hp]
    refine h.1.more fun b _ hb' => ?_
    rcases hb' with hb' | hb'
    · exact hb'
    · exact .inr (by have := ht.size; have := hb.size; omega)
  · exact touch_grow ht ((Touch.of_below (T := fun b => FP b ∨ w.heap.size ≤ b) hb).trans h.2)

set_option maxRecDepth 100000 in
theorem putFlags_any (w : World) (FP : Nat → Prop) (tb sb : Nat) (t : TermD) (names : List (List UInt8)) (h : TermHas w FP tb t) (hT : Tabs w) (hC : Clear FP) (hp : (names.all fun n => (placeP n).isSome) = true) (hl : names.length ≤ 1000)
    (hs : w.heap[sb]? = some (.cells (names.map str).toArray 9 (0, 0))) (hsb : ¬ FP sb) :
    Calls Tryz.prog 107 #[.pointer (some ⟨tb, 0, none⟩), .slice (some ⟨sb, 0, none⟩) names.length names.length] w (HasPost w FP tb (putsP t (names.map fun n => (n, ⟨1, 0, []⟩))) (.tuple #[])) := by
  have HT := Lib.hid hT
  have HC := Lib.hid hC
  have HS := Lib.hid (And.intro hs hsb)
  have HP := Lib.hid hp
  have HI := Lib.hid (show PutsI w FP tb t (names.map fun n => (n, ⟨1, 0, []⟩)) (.int .i64 0) w from ⟨0, rfl, Nat.zero_le _, h.more fun k _ hk => .inl hk, Touch.refl _ _⟩)
  have hb := build_is
  clear h hT hC hs hsb hp
  go_enter Tryz.func107, Tryz.ntmps107
  go_wp2_with fail
  go_loopw [8] (fun i wr => PutsI w FP tb t (names.map fun n => (n, ⟨1, 0, []⟩)) i wr) (fun i _ => names.length - (RowKit.intOf i).toNat)
  case atStart => exact HI.out
  case round =>
    obtain ⟨k, rfl, hk, hh, ht⟩ := hrel
    have HH := Lib.hid hh
    have HTo := Lib.hid ht
    have hs2 : wr.heap[sb]? = some (.cells (names.map str).toArray 9 (0, 0)) := (ht.block _ (Array.getElem?_eq_some_iff.1 HS.out.1).1 HS.out.2).trans HS.out.1
    rw [List.length_map] at hk
    clear hh ht
    by_cases hlt : k < names.length
    · obtain ⟨nm, hnm⟩ : ∃ x, names[k]? = some x := ⟨_, List.getElem?_eq_getElem hlt⟩
      have hcell : wr.cell? ⟨sb, k, none⟩ = some (str nm) := by
        rw [cell_of_row wr sb k _ _ _ hs2]
        simp [hnm]
      have hpl : (placeP nm).isSome = true := List.all_eq_true.1 HP.out _ (List.mem_of_getElem? hnm)
      have HN := Lib.hid hnm
      have CP := Lib.hid (put_has wr _ tb _ nm ⟨1, 0, []⟩ HH.out (HT.out.touch HTo.out HC.out) hpl)
      clear hnm hpl hs2
      go_wp2_with (go_at_call 52; refine (CP.out).mono ?_; rintro e w2 ⟨rfl, hb2⟩; have HB2 := Lib.hid hb2; clear hb2)
      exact ⟨PutsI.next (p := (nm, ⟨1, 0, []⟩)) (by rw [List.getElem?_map, HN.out]; rfl) HTo.out (Below.refl _ _) HB2.out, by simp [RowKit.intOf]; omega⟩
    · obtain rfl : k = names.length := by omega
      have HH' : Hid (TermHas wr (fun b => FP b ∨ w.heap.size ≤ b) tb (putsP t (names.map fun n => (n, ⟨1, 0, []⟩)))) := Lib.hid (by have := HH.out; rwa [List.take_of_length_le (by rw [List.length_map]; exact Nat.le_refl _)] at this)
      clear HH hs2
      go_wp2_with fail
      go_end0
      exact ⟨rfl, HH'.out, HTo.out⟩

/-- settings in a block -/
def setVals (l : List (List UInt8 × List UInt8)) : List Value := l.flatMap fun p => [str p.1, str p.2]
theorem setVals_at {l : List (List UInt8 × List UInt8)} {i : Nat} {p : List UInt8 × List UInt8} (h : l[i]? = some p) : (setVals l)[i * 2]? = some (str p.1) ∧ (setVals l)[i * 2 + 1]? = some (str p.2) := by
  induction l generalizing i with
  | nil => simp at h
  | cons x l ih =>
    cases i with
    | zero => simp at h; subst h; simp [setVals]
    | succ i =>
      have := ih (by simpa using h)
      rw [show (i + 1) * 2 = i * 2 + 1 + 1 by omega]
      simpa [setVals] using this
def textCaps (l : List (List UInt8 × List UInt8)) : List (List UInt8 × CapD) := l.map fun p => (p.1, ⟨1, 0, p.2⟩)
set_option maxRecDepth 100000 in
theorem putTexts_any (w : World) (FP : Nat → Prop) (tb sb : Nat) (t : TermD) (l : List (List UInt8 × List UInt8)) (h : TermHas w FP tb t) (hT : Tabs w) (hC : Clear FP) (hp : (l.all fun p => (placeP p.1).isSome) = true) (hl : l.length ≤ 1000)
    (hs : w.heap[sb]? = some (.cells (setVals l).toArray 152 (0, 0))) (hsb : ¬ FP sb) :
    Calls Tryz.prog 109 #[.pointer (some ⟨tb, 0, none⟩), .slice (some ⟨sb, 0, none⟩) l.length l.length] w (HasPost w FP tb (putsP t (textCaps l)) (.tuple #[])) := by
  have HT := Lib.hid hT
  have HC := Lib.hid hC
  have HS := Lib.hid (And.intro hs hsb)
  have HP := Lib.hid hp
  have HI := Lib.hid (show PutsI w FP tb t (textCaps l) (.int .i64 0) w from ⟨0, rfl, Nat.zero_le _, h.more fun k _ hk => .inl hk, Touch.refl _ _⟩)
  have hb := build_text
  have HTL : Hid ((textCaps l).length = l.length) := Lib.hid (List.length_map _)
  clear h hT hC hs hsb hp
  go_enter Tryz.func109, Tryz.ntmps109
  go_wp2_with fail
  go_loopw [8] (fun i wr => PutsI w FP tb t (textCaps l) i wr) (fun i _ => l.length - (RowKit.intOf i).toNat)
  case atStart => exact HI.out
  case round =>
    obtain ⟨k, rfl, hk, hh, ht⟩ := hrel
    have HH := Lib.hid hh
    have HTo := Lib.hid ht
    have hs2 : wr.heap[sb]? = some (.cells (setVals l).toArray 152 (0, 0)) := (ht.block _ (Array.getElem?_eq_some_iff.1 HS.out.1).1 HS.out.2).trans HS.out.1
    rw [HTL.out] at hk
    clear hh ht
    by_cases hlt : k < l.length
    · obtain ⟨p, hpk⟩ : ∃ x, l[k]? = some x := ⟨_, List.getElem?_eq_getElem hlt⟩
      have hv := setVals_at hpk
      have c0 : wr.cell? ⟨sb, k * 2, none⟩ = some (str p.1) := by
        rw [cell_of_row wr sb (k * 2) _ _ _ hs2, List.getElem?_toArray]; exact hv.1
      have c1 : wr.cell? ⟨sb, k * 2 + 1, none⟩ = some (str p.2) := by
        rw [cell_of_row wr sb (k * 2 + 1) _ _ _ hs2, List.getElem?_toArray]; exact hv.2
      have hpl : (placeP p.1).isSome = true := List.all_eq_true.1 HP.out _ (List.mem_of_getElem? hpk)
      have HN := Lib.hid hpk
      have hbe : Below wr.heap.size wr (wr.alloc (.cells #[str p.1, str p.2] 152)) := (Below.refl _ _).alloc (Nat.le_refl _) _
      have CP := Lib.hid (put_has (wr.alloc (.cells #[str p.1, str p.2] 152)) _ tb _ p.1 ⟨1, 0, p.2⟩ (HH.out.below hbe) ((HT.out.touch HTo.out HC.out).below hbe) hpl)
      have HBE := Lib.hid hbe
      clear hpk hpl hs2 hv hbe
      go_wp2_with (go_at_call 52; refine (CP.out).mono ?_; rintro e w2 ⟨rfl, hb2⟩; have HB2 := Lib.hid hb2; clear hb2)
      exact ⟨PutsI.next (p := (p.1, ⟨1, 0, p.2⟩)) (by rw [textCaps, List.getElem?_map, HN.out]; rfl) HTo.out HBE.out HB2.out, by simp [RowKit.intOf]; omega⟩
    · obtain rfl : k = l.length := by omega
      have HH' : Hid (TermHas wr (fun b => FP b ∨ w.heap.size ≤ b) tb (putsP t (textCaps l))) := Lib.hid (by have := HH.out; rwa [List.take_of_length_le (by rw [HTL.out]; exact Nat.le_refl _)] at this)
      clear HH hs2
      go_wp2_with fail
      go_end0
      exact ⟨rfl, HH'.out, HTo.out⟩


end Go.Proofs.YtcfgppjhgobboaaGreatDoor
