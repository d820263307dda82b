/-
  How package tparm writes a number: blanks, zeros, digits, signs.
-/
import Derived.Test.YtapihomdfdhnnaaDoorTpOps
import Derived.Test.YtapihomdfdhnnaaDoorTpLayB
import Derived.Lib.TrailingZeros
import Derived.Laws.Concat
import Derived.Lib.ItoaLen
namespace Go.Proofs.YtapihomdfdhnnaaDoor
open Go.RowKit Go.Shelf Go.Lib
attribute [local go_sem] Oper.semAt_some

/-- the table of powers lies in its variable -/
def PowT (W : World) : Prop := Lib.TabIs Tryd.prog W "internal/strconv.uint64pow10" .u64 Lib.pow10Tab
theorem PowT.same {W W' : World} (h : PowT W) (hb : W'.heap[0]? = W.heap[0]?) : PowT W' := by
  have hg : Tryd.prog.globalNamed "internal/strconv.uint64pow10" = some 0 := by kernel_rfl
  unfold PowT Lib.TabIs World.var? at h ⊢
  simp only [hg, Option.bind_some] at h ⊢
  rw [hb]
  exact h
theorem PowT.cells {W : World} (h : PowT W) : ∃ t fr, W.heap[0]? = some (.cells (Lib.pow10Tab.map fun z => Value.int .u64 z).toArray t fr) := by
  have hg : Tryd.prog.globalNamed "internal/strconv.uint64pow10" = some 0 := by kernel_rfl
  unfold PowT Lib.TabIs World.var? at h
  simp only [hg, Option.bind_some] at h
  split at h
  · next cs t fr hh =>
    injection h with h
    subst h
    exact ⟨_, _, hh⟩
  · cases h
theorem PowT.lt {W : World} (h : PowT W) : 0 < W.heap.size := by
  obtain ⟨t, fr, hh⟩ := h.cells
  exact (Array.getElem?_eq_some_iff.1 hh).1
/-- the table of the lowest bits lies in its variable -/
def Bru (W : World) : Prop := Lib.TabIs Tryd.prog W "math/bits.deBruijn64tab" .u8 (Lib.deBruijn64tab.map fun (n : Nat) => (n : Int))
theorem Bru.same {W W' : World} (h : Bru W) (hb : W'.heap[3]? = W.heap[3]?) : Bru W' := by
  have hg : Tryd.prog.globalNamed "math/bits.deBruijn64tab" = some 3 := by kernel_rfl
  unfold Bru Lib.TabIs World.var? at h ⊢
  simp only [hg, Option.bind_some] at h ⊢
  rw [hb]
  exact h
theorem Bru.cells {W : World} (h : Bru W) : ∃ t fr, W.heap[3]? = some (.cells ((Lib.deBruijn64tab.map fun (n : Nat) => (n : Int)).map fun z => Value.int .u8 z).toArray t fr) := by
  have hg : Tryd.prog.globalNamed "math/bits.deBruijn64tab" = some 3 := by kernel_rfl
  unfold Bru Lib.TabIs World.var? at h
  simp only [hg, Option.bind_some] at h
  split at h
  · next cs t fr hh =>
    injection h with h
    subst h
    exact ⟨_, _, hh⟩
  · cases h
theorem Bru.lt {W : World} (h : Bru W) : 3 < W.heap.size := by
  obtain ⟨t, fr, hh⟩ := h.cells
  exact (Array.getElem?_eq_some_iff.1 hh).1
/-- both tables lie in their variables -/
def Pow (W : World) : Prop := PowT W ∧ Bru W
theorem Pow.below {W W' : World} (h : Pow W) (hb : Below W.heap.size W W') : Pow W' := ⟨h.1.same (hb.block _ h.1.lt), h.2.same (hb.block _ h.2.lt)⟩
abbrev fmtVal (f : FmtD) : Value := .agg #[.bool f.left, .bool f.plus, .bool f.sharp, .bool f.blank, .bool f.zero, .int .i64 f.width, .int .i64 f.prec]
def StrPost (w : World) (s : List UInt8) (e : Ending) (w' : World) : Prop := e = .returned (str s) ∧ Below w.heap.size w w'
theorem repeatL_one_fill (c : UInt8) (n : Nat) : repeatL [c] n = List.replicate n c := by
  have := repeatL_replicate c 1 n
  simpa using this
theorem Extra_repeat : Builder.Extra Tryd.prog Tryd.layRepeat_ren where
  sizeBuilder := by kernel_rfl
  liesBuilder := by kernel_rfl
  t5 := Tryd.underlying5
  a5 := Tryd.isAgg5
  z5 := Tryd.sizeOf5
  v5 := Tryd.zeroValue5
  infoByte := by kernel_rfl
  cellsByte := by kernel_rfl
  sizeByte := by kernel_rfl
  neB5 := by decide
theorem repeats_any (c : UInt8) (n : Int) (hn : n ≤ 1000000) (w : World) : Calls Tryd.prog 10 #[str [c], .int .i64 (max n 0)] w (StrPost w (fillP c n)) := by
  have e : max n 0 = ((n.toNat : Nat) : Int) := by omega
  rw [e]
  refine (Any.strings_Repeat Tryd.layRepeat Extra_repeat ⟨#[c]⟩ n.toNat w (by omega) (by show 1 * n.toNat ≤ _; omega)).mono ?_
  rintro e w' ⟨rfl, h⟩
  refine ⟨?_, h⟩
  show Ending.returned (.string ⟨(repeatL [c] n.toNat).toArray⟩) = _
  rw [repeatL_one_fill]
  rfl
theorem repeat_any (c : UInt8) (n : Int) (hn : n ≤ 1000000) (w : World) : Calls Tryd.prog 67 #[str [c], .int .i64 n] w (StrPost w (fillP c n)) := by
  have CR := Lib.hid (fun W => repeats_any c n hn W)
  unfold StrPost at CR
  clear hn
  generalize fillP c n = r at *
  go_enter Tryd.func67, Tryd.ntmps67
  go_wp2_with (go_at_call 10; (with_reducible refine (CR.out _).mono ?_); rintro e w1 ⟨rfl, hb1⟩)
  go_ret
  exact ⟨rfl, hb1⟩
set_option maxRecDepth 100000 in
theorem pad_any (f : FmtD) (hw : f.width ≤ 1000) (s : List UInt8) (hs : s.length ≤ 1000000) (w : World) : Calls Tryd.prog 63 #[fmtVal f, str s] w (StrPost w (padP f s)) := by
  have CR := Lib.hid (fun W => repeat_any 32 ((f.width : Int) - s.length) (by omega) W)
  unfold StrPost at CR
  have hfl : (fillP 32 ((f.width : Int) - s.length)).length ≤ 1000 := by unfold fillP; rw [List.length_replicate]; omega
  have HP : padP f s = if f.left then s ++ fillP 32 ((f.width : Int) - s.length) else fillP 32 ((f.width : Int) - s.length) ++ s := rfl
  generalize fillP 32 ((f.width : Int) - s.length) = r at *
  have ha1 := fun W => run_string_add_lists (P := Tryd.prog) W s r (by omega) (by omega)
  have ha2 := fun W => run_string_add_lists (P := Tryd.prog) W r s (by omega) (by omega)
  have i1 : (f.width : Int) ≤ 1000 := by omega
  have i2 : (s.length : Int) ≤ 1000000 := by omega
  rw [HP]
  clear HP hw hs hfl
  cases hl : f.left with
  | true =>
    go_enter Tryd.func63, Tryd.ntmps63
    go_wp2_with (go_at_call 67; (with_reducible refine (CR.out _).mono ?_); rintro e w1 ⟨rfl, hb1⟩; have hbx := box_of hb1; have x0 := cell_of_row _ _ 0 _ _ _ hbx; have HB1 := Lib.hid hb1; clear hbx hb1)
    go_ret
    exact ⟨rfl, below_of HB1.out⟩
  | false =>
    go_enter Tryd.func63, Tryd.ntmps63
    go_wp2_with (go_at_call 67; (with_reducible refine (CR.out _).mono ?_); rintro e w1 ⟨rfl, hb1⟩; have hbx := box_of hb1; have x0 := cell_of_row _ _ 0 _ _ _ hbx; have HB1 := Lib.hid hb1; clear hbx hb1)
    go_ret
    exact ⟨rfl, below_of HB1.out⟩

/-! ### digits -/
/-- what the digits of a verb are, and that they are found -/
def DigSpec (v : UInt8) (n : Int) : Prop := (∀ W, Pow W → Calls Tryd.prog 75 #[.int .u8 v.toNat, .int .i32 n] W (StrPost W (plainDigitsP v n))) ∧ (plainDigitsP v n).length ≤ 100
/-- the bounds of a format -/
def FOk (f : FmtD) : Prop := f.width ≤ 1000 ∧ -1 ≤ f.prec ∧ f.prec ≤ 1000
theorem digits_len {f : FmtD} {v : UInt8} {n : Int} (hf : FOk f) (hd : (plainDigitsP v n).length ≤ 100) : (digitsP f v n).length ≤ 2000 := by
  unfold digitsP
  split
  · simp
  · have := hf.2.2
    simp [fillP]
    omega
set_option maxRecDepth 100000 in
set_option maxHeartbeats 2000000 in
theorem digits_any (f : FmtD) (v : UInt8) (n : Int) (hf : FOk f) (hD : DigSpec v n) (w : World) (hp : Pow w) : Calls Tryd.prog 65 #[fmtVal f, .int .u8 v.toNat, .int .i32 n] w (StrPost w (digitsP f v n)) := by
  obtain ⟨hC, hlen⟩ := hD
  obtain ⟨fl, fp, fs, fb, fz, fw, pr⟩ := f
  have i1 : pr ≤ 1000 := hf.2.2
  have i3 : -1 ≤ pr := hf.2.1
  have CP := Lib.hid (fun W (hW : Pow W) => hC W hW)
  have HP := Lib.hid (hp.below ((Below.refl _ w).alloc (Nat.le_refl _) (.cells #[.bool fl, .bool fp, .bool fs, .bool fb, .bool fz, .int .i64 fw, .int .i64 pr] 73)))
  have HD : digitsP ⟨fl, fp, fs, fb, fz, fw, pr⟩ v n = if n = 0 ∧ pr = 0 then [] else fillP 48 (pr - (plainDigitsP v n).length) ++ plainDigitsP v n := rfl
  have CR := Lib.hid (fun W => repeat_any 48 (pr - (plainDigitsP v n).length) (by omega) W)
  have hfl : (fillP 48 (pr - (plainDigitsP v n).length)).length ≤ 1000 := by unfold fillP; rw [List.length_replicate]; omega
  unfold StrPost at CR CP
  rw [HD]
  generalize plainDigitsP v n = ds at *
  generalize fillP 48 (pr - ds.length) = r at *
  have ha := fun W => run_string_add_lists (P := Tryd.prog) W r ds (by omega) (by omega)
  have i2 : (ds.length : Int) ≤ 100 := by omega
  clear HD hf hC hlen hp hfl
  show Calls Tryd.prog 65 #[.agg #[.bool fl, .bool fp, .bool fs, .bool fb, .bool fz, .int .i64 fw, .int .i64 pr], .int .u8 v.toNat, .int .i32 n] w _
  by_cases h0 : n = 0
  · subst h0
    by_cases hp0 : pr = 0
    · subst hp0
      rw [if_pos ⟨rfl, rfl⟩]
      go_enter Tryd.func65, Tryd.ntmps65
      go_wp2_with (go_at_call 75; (with_reducible refine (CP.out _ HP.out).mono ?_); rintro e w1 ⟨rfl, hb1⟩; have hbx := box_of hb1; have x0 := cell_of_row _ _ 6 _ _ _ hbx; have HB1 := Lib.hid hb1; clear hbx hb1)
      go_ret
      exact ⟨rfl, below_of HB1.out⟩
    · rw [if_neg (fun e => hp0 e.2)]
      have hq : (pr == 0) = false := by simpa using hp0
      clear hp0
      go_enter Tryd.func65, Tryd.ntmps65
      go_wp2_with (first
        | (go_at_call 75; (with_reducible refine (CP.out _ HP.out).mono ?_); rintro e w1 ⟨rfl, hb1⟩; have hbx := box_of hb1; have x0 := cell_of_row _ _ 6 _ _ _ hbx; have HB1 := Lib.hid hb1; clear hbx hb1)
        | (go_at_call 67; (with_reducible refine (CR.out _).mono ?_); rintro e w2 ⟨rfl, hb2⟩; have HB2 := Lib.hid hb2; clear hb2))
      go_ret
      exact ⟨rfl, (below_of HB1.out).trans (HB2.out.mono (below_of HB1.out).size)⟩
  · rw [if_neg (fun e => h0 e.1)]
    have hq : (n == 0) = false := by simpa using h0
    clear h0
    go_enter Tryd.func65, Tryd.ntmps65
    go_wp2_with (first
      | (go_at_call 75; (with_reducible refine (CP.out _ HP.out).mono ?_); rintro e w1 ⟨rfl, hb1⟩; have hbx := box_of hb1; have x0 := cell_of_row _ _ 6 _ _ _ hbx; have HB1 := Lib.hid hb1; clear hbx hb1)
      | (go_at_call 67; (with_reducible refine (CR.out _).mono ?_); rintro e w2 ⟨rfl, hb2⟩; have HB2 := Lib.hid hb2; clear hb2))
    go_ret
    exact ⟨rfl, (below_of HB1.out).trans (HB2.out.mono (below_of HB1.out).size)⟩
theorem below_grow (w : World) (k : Nat) (os : Array Obj) : Below w.heap.size w (Go.Sort.grow (w.drewN k) os) :=
  ⟨rfl, rfl, rfl, by simp [Go.Sort.grow], fun j hj => by
    show (w.heap ++ os)[j]? = _
    rw [Array.getElem?_append_left hj]⟩
theorem itoa_any (n : Int) (h0 : -9223372036854775808 ≤ n) (h1 : n ≤ 9223372036854775807) (w : World) (hp : Pow w) : Calls Tryd.prog 6 #[.int .i64 n] w (StrPost w (itoa n)) :=
  (Any.strconv_Itoa Tryd.layItoa n h0 h1 w hp.1).mono fun _ _ ⟨h1, k, os, h2⟩ => ⟨h1, h2 ▸ below_grow w k os⟩
theorem trim_any (s p : List UInt8) (w : World) : Calls Tryd.prog 80 #[str s, str p] w fun e w' => e = .returned (str (trimPrefix s p)) ∧ w = w' :=
  (Any.strings_TrimPrefix Tryd.layTrimPrefix ⟨s.toArray⟩ ⟨p.toArray⟩ w).mono fun _ _ ⟨h1, h2⟩ => ⟨by simpa using h1, h2.symm⟩

theorem itoa_len {n : Int} (h0 : -2147483648 ≤ n) (h1 : n ≤ 2147483647) : (trimPrefix (itoa n) [45]).length ≤ 100 := by
  have := itoa_length_le n (by omega) (by omega)
  unfold trimPrefix
  split
  · rw [List.length_drop]; omega
  · omega
theorem plain_d (v : UInt8) (n : Int) (h1 : v ≠ 111) (h2 : v ≠ 120) (h3 : v ≠ 88) (hn0 : -2147483648 ≤ n) (hn1 : n ≤ 2147483647) : DigSpec v n := by
  have hP : plainDigitsP v n = trimPrefix (itoa n) [45] := by unfold plainDigitsP; rw [if_neg h1, if_neg h2, if_neg h3]
  refine ⟨fun W hp => ?_, by rw [hP]; exact itoa_len hn0 hn1⟩
  have CI := Lib.hid (itoa_any n (by omega) (by omega) W hp)
  have CT := Lib.hid (fun W => trim_any (itoa n) [45] W)
  rw [hP]
  unfold StrPost at CI
  generalize trimPrefix (itoa n) [45] = r at *
  generalize itoa n = s at *
  have q1 := ne_byte (d := 111) h1 (by decide)
  have q2 := ne_byte (d := 120) h2 (by decide)
  have q3 := ne_byte (d := 88) h3 (by decide)
  have w64e : wrap64 n = n := by unfold wrap64; omega
  clear h1 h2 h3 hP hp
  go_enter Tryd.func75, Tryd.ntmps75
  go_wp2_with (first
    | (go_at_call 6; (with_reducible refine (CI.out).mono ?_); rintro e w1 ⟨rfl, hb1⟩)
    | (go_at_call 80; (with_reducible refine (CT.out _).mono ?_); rintro e w2 ⟨rfl, rfl⟩))
  go_ret
  exact ⟨rfl, hb1⟩

/-! ### what stands ahead of the digits -/
theorem sign_any (f : FmtD) (n : Int) (w : World) : Calls Tryd.prog 76 #[fmtVal f, .int .i32 n] w (StrPost w (signP f n)) := by
  obtain ⟨fl, fp, fs, fb, fz, fw, pr⟩ := f
  have HS : signP ⟨fl, fp, fs, fb, fz, fw, pr⟩ n = if n < 0 then [45] else if fp then [43] else if fb then [32] else [] := rfl
  rw [HS]
  show Calls Tryd.prog 76 #[.agg #[.bool fl, .bool fp, .bool fs, .bool fb, .bool fz, .int .i64 fw, .int .i64 pr], .int .i32 n] w _
  clear HS
  by_cases h0 : n < 0
  · rw [if_pos h0]
    go_enter Tryd.func76, Tryd.ntmps76
    go_wp2_with fail
    go_ret
    exact ⟨rfl, (Below.refl _ _).alloc (Nat.le_refl _) _⟩
  · rw [if_neg h0]
    cases fp
    all_goals cases fb
    all_goals
      go_enter Tryd.func76, Tryd.ntmps76
      go_wp2_with fail
      go_ret
      exact ⟨rfl, (Below.refl _ _).alloc (Nat.le_refl _) _⟩
theorem signP_len (f : FmtD) (n : Int) : (signP f n).length ≤ 1 := by
  unfold signP
  repeat' split
  all_goals simp
def PreSpec (f : FmtD) (v : UInt8) (n : Int) : Prop := ∀ ds : List UInt8, (∀ W, Calls Tryd.prog 66 #[fmtVal f, .int .u8 v.toNat, .int .i32 n, str ds] W (StrPost W (prefixP f v n ds))) ∧ (prefixP f v n ds).length ≤ 10
theorem prefix_d (f : FmtD) (n : Int) : PreSpec f 100 n := by
  intro ds
  have hP : prefixP f 100 n ds = signP f n := by unfold prefixP; rw [if_pos rfl]
  rw [hP]
  refine ⟨fun w => ?_, by have := signP_len f n; omega⟩
  have CS := Lib.hid (fun W => sign_any f n W)
  unfold StrPost at CS
  generalize signP f n = r at *
  clear hP
  obtain ⟨fl, fp, fs, fb, fz, fw, pr⟩ := f
  show Calls Tryd.prog 66 #[.agg #[.bool fl, .bool fp, .bool fs, .bool fb, .bool fz, .int .i64 fw, .int .i64 pr], .int .u8 100, .int .i32 n, str ds] w _
  go_enter Tryd.func66, Tryd.ntmps66
  go_wp2_with (go_at_call 76; (with_reducible refine (CS.out _).mono ?_); rintro e w1 ⟨rfl, hb1⟩; have HB1 := Lib.hid hb1; clear hb1)
  go_ret
  exact ⟨rfl, below_of HB1.out⟩
theorem prefix_none (f : FmtD) (v : UInt8) (n : Int) (hv : v ≠ 100) (hs : f.sharp = false) : PreSpec f v n := by
  intro ds
  have hP : prefixP f v n ds = [] := by unfold prefixP; rw [if_neg hv, if_pos hs]
  rw [hP]
  refine ⟨fun w => ?_, by simp⟩
  clear hP
  obtain ⟨fl, fp, fs, fb, fz, fw, pr⟩ := f
  obtain rfl : fs = false := hs
  have q1 := ne_byte (d := 100) hv (by decide)
  show Calls Tryd.prog 66 #[.agg #[.bool fl, .bool fp, .bool false, .bool fb, .bool fz, .int .i64 fw, .int .i64 pr], .int .u8 v.toNat, .int .i32 n, str ds] w _
  clear hv
  go_enter Tryd.func66, Tryd.ntmps66
  go_wp2_with fail
  go_ret
  exact ⟨rfl, (Below.refl _ _).alloc (Nat.le_refl _) _⟩

theorem two_boxes {w w1 : World} {o1 o2 : Obj} (hb : Below ((w.alloc o1).alloc o2).heap.size ((w.alloc o1).alloc o2) w1) : w1.heap[w.heap.size]? = some o1 ∧ w1.heap[w.heap.size + 1]? = some o2 :=
  ⟨(hb.block _ (by simp; omega)).trans ((Below.heap_alloc _ _ _ (by simp)).trans (alloc_new w o1)), (hb.block _ (by simp)).trans (alloc_two w o1 o2)⟩
theorem headP_len {f : FmtD} {v : UInt8} {n : Int} {ds : List UInt8} (hf : FOk f) (hp : (prefixP f v n ds).length ≤ 10) : (headP f v n ds).length ≤ 2000 := by
  unfold headP
  have := hf.1
  split
  · simp [fillP]
    omega
  · omega
set_option maxRecDepth 100000 in
set_option maxHeartbeats 4000000 in
theorem apply_num (f : FmtD) (v : UInt8) (p : PrmD) (hv : v ≠ 115) (hf : FOk f) (hD : DigSpec v p.num) (hP : PreSpec f v p.num) (w : World) (hp : Pow w) : Calls Tryd.prog 46 #[fmtVal f, .int .u8 v.toNat, prmVal p] w (StrPost w (applyP f v p)) := by
  have hA : applyP f v p = padP f (headP f v p.num (digitsP f v p.num) ++ digitsP f v p.num) := by unfold applyP; rw [if_neg hv]
  rw [hA]
  have CD := Lib.hid (fun W (hW : Pow W) => digits_any f v p.num hf hD W hW)
  have hdl := digits_len (f := f) hf hD.2
  obtain ⟨hPc, hPl⟩ := hP (digitsP f v p.num)
  have hhl := headP_len (ds := digitsP f v p.num) hf hPl
  have CP := Lib.hid hPc
  have CA := Lib.hid (fun W => pad_any f hf.1 (headP f v p.num (digitsP f v p.num) ++ digitsP f v p.num) (by rw [List.length_append]; omega) W)
  have hH : headP f v p.num (digitsP f v p.num) = if f.zero = true ∧ f.left = false ∧ f.prec = -1 then prefixP f v p.num (digitsP f v p.num) ++ fillP 48 (f.width - (prefixP f v p.num (digitsP f v p.num)).length - (digitsP f v p.num).length) else prefixP f v p.num (digitsP f v p.num) := rfl
  have hw := hf.1
  have CR := Lib.hid (fun W => repeat_any 48 ((f.width : Int) - (prefixP f v p.num (digitsP f v p.num)).length - (digitsP f v p.num).length) (by omega) W)
  have hrl : (fillP 48 ((f.width : Int) - (prefixP f v p.num (digitsP f v p.num)).length - (digitsP f v p.num).length)).length ≤ 1000 := by unfold fillP; rw [List.length_replicate]; omega
  unfold StrPost at CD CP CA CR
  generalize padP f (headP f v p.num (digitsP f v p.num) ++ digitsP f v p.num) = out at *
  generalize headP f v p.num (digitsP f v p.num) = hd at *
  generalize prefixP f v p.num (digitsP f v p.num) = pre at *
  generalize digitsP f v p.num = ds at *
  generalize fillP 48 ((f.width : Int) - pre.length - ds.length) = r at *
  have ha1 := fun W => run_string_add_lists (P := Tryd.prog) W pre r (by omega) (by omega)
  have ha2 := fun W => run_string_add_lists (P := Tryd.prog) W hd ds (by omega) (by omega)
  have hb2 : ∀ (o1 o2 : Obj), Below w.heap.size w ((w.alloc o1).alloc o2) := fun o1 o2 => ((Below.refl _ _).alloc (Nat.le_refl _) _).alloc (by simp) _
  have HB2 := Lib.hid hb2
  have HPW := Lib.hid (fun o1 o2 => hp.below (hb2 o1 o2))
  have q := ne_byte (d := 115) hv (by decide)
  obtain ⟨fl, fp, fs, fb, fz, fw, pr⟩ := f
  obtain ⟨n, tx, is⟩ := p
  simp only at hH hw CR
  have i1 : (fw : Int) ≤ 1000 := by omega
  have i2 : (pre.length : Int) ≤ 10 := by omega
  have i3 : (ds.length : Int) ≤ 2000 := by omega
  clear hA hv hf hD hP hdl hPc hPl hhl hrl hw hp hb2
  show Calls Tryd.prog 46 #[.agg #[.bool fl, .bool fp, .bool fs, .bool fb, .bool fz, .int .i64 fw, .int .i64 pr], .int .u8 v.toNat, .agg #[.int .i32 n, str tx, .bool is]] w _
  cases fz with
  | true =>
    cases fl with
    | false =>
      by_cases h1 : pr = -1
      · subst h1
        rw [if_pos ⟨rfl, rfl, rfl⟩] at hH
        have ha3 : ∀ W, (Op.stringOp .add ⟨pre.toArray⟩ ⟨r.toArray⟩).run Tryd.prog W = .ok (str hd) W := fun W => by rw [hH]; exact ha1 W
        clear ha1 hH
        go_enter Tryd.func46, Tryd.ntmps46
        go_wp2_with (first
          | (go_at_call 65; (with_reducible refine (CD.out _ (HPW.out _ _)).mono ?_); rintro e w1 ⟨rfl, hb1⟩; have X := two_boxes hb1; have a0w1 := cell_of_row _ _ 0 _ _ _ X.1; have a1w1 := cell_of_row _ _ 1 _ _ _ X.1; have a2w1 := cell_of_row _ _ 2 _ _ _ X.1; have a3w1 := cell_of_row _ _ 3 _ _ _ X.1; have a4w1 := cell_of_row _ _ 4 _ _ _ X.1; have a5w1 := cell_of_row _ _ 5 _ _ _ X.1; have a6w1 := cell_of_row _ _ 6 _ _ _ X.1; have b0w1 := cell_of_row _ _ 0 _ _ _ X.2; have b1w1 := cell_of_row _ _ 1 _ _ _ X.2; have b2w1 := cell_of_row _ _ 2 _ _ _ X.2; clear X; have HB1 := Lib.hid hb1; clear hb1)
          | (go_at_call 66; (with_reducible refine (CP.out _).mono ?_); rintro e w2 ⟨rfl, hb2⟩; have hb12 := HB1.out.trans (hb2.mono HB1.out.size); have X := two_boxes hb12; have a0w2 := cell_of_row _ _ 0 _ _ _ X.1; have a1w2 := cell_of_row _ _ 1 _ _ _ X.1; have a2w2 := cell_of_row _ _ 2 _ _ _ X.1; have a3w2 := cell_of_row _ _ 3 _ _ _ X.1; have a4w2 := cell_of_row _ _ 4 _ _ _ X.1; have a5w2 := cell_of_row _ _ 5 _ _ _ X.1; have a6w2 := cell_of_row _ _ 6 _ _ _ X.1; have b0w2 := cell_of_row _ _ 0 _ _ _ X.2; have b1w2 := cell_of_row _ _ 1 _ _ _ X.2; have b2w2 := cell_of_row _ _ 2 _ _ _ X.2; clear X; have HB12 := Lib.hid hb12; clear hb2 hb12)
          | (go_at_call 67; (with_reducible refine (CR.out _).mono ?_); rintro e w3 ⟨rfl, hb3⟩; have hb13 := HB12.out.trans (hb3.mono HB12.out.size); have X := two_boxes hb13; have a0w3 := cell_of_row _ _ 0 _ _ _ X.1; have a1w3 := cell_of_row _ _ 1 _ _ _ X.1; have a2w3 := cell_of_row _ _ 2 _ _ _ X.1; have a3w3 := cell_of_row _ _ 3 _ _ _ X.1; have a4w3 := cell_of_row _ _ 4 _ _ _ X.1; have a5w3 := cell_of_row _ _ 5 _ _ _ X.1; have a6w3 := cell_of_row _ _ 6 _ _ _ X.1; have b0w3 := cell_of_row _ _ 0 _ _ _ X.2; have b1w3 := cell_of_row _ _ 1 _ _ _ X.2; have b2w3 := cell_of_row _ _ 2 _ _ _ X.2; clear X; have HB13 := Lib.hid hb13; clear hb3 hb13)
          | (go_at_call 63; (with_reducible refine (CA.out _).mono ?_); rintro e w4 ⟨rfl, hb4⟩; have HB4 := Lib.hid (HB13.out.trans (hb4.mono HB13.out.size)); clear hb4))
        go_ret
        exact ⟨rfl, (HB2.out _ _).trans (HB4.out.mono (by simp <;> omega))⟩
      · rw [if_neg (fun e => h1 e.2.2)] at hH
        subst hH
        have q1 : (pr == -1) = false := by simpa using h1
        clear h1
        go_enter Tryd.func46, Tryd.ntmps46
        go_wp2_with (first
          | (go_at_call 65; (with_reducible refine (CD.out _ (HPW.out _ _)).mono ?_); rintro e w1 ⟨rfl, hb1⟩; have X := two_boxes hb1; have a0w1 := cell_of_row _ _ 0 _ _ _ X.1; have a1w1 := cell_of_row _ _ 1 _ _ _ X.1; have a2w1 := cell_of_row _ _ 2 _ _ _ X.1; have a3w1 := cell_of_row _ _ 3 _ _ _ X.1; have a4w1 := cell_of_row _ _ 4 _ _ _ X.1; have a5w1 := cell_of_row _ _ 5 _ _ _ X.1; have a6w1 := cell_of_row _ _ 6 _ _ _ X.1; have b0w1 := cell_of_row _ _ 0 _ _ _ X.2; have b1w1 := cell_of_row _ _ 1 _ _ _ X.2; have b2w1 := cell_of_row _ _ 2 _ _ _ X.2; clear X; have HB1 := Lib.hid hb1; clear hb1)
          | (go_at_call 66; (with_reducible refine (CP.out _).mono ?_); rintro e w2 ⟨rfl, hb2⟩; have hb12 := HB1.out.trans (hb2.mono HB1.out.size); have X := two_boxes hb12; have a0w2 := cell_of_row _ _ 0 _ _ _ X.1; have a1w2 := cell_of_row _ _ 1 _ _ _ X.1; have a2w2 := cell_of_row _ _ 2 _ _ _ X.1; have a3w2 := cell_of_row _ _ 3 _ _ _ X.1; have a4w2 := cell_of_row _ _ 4 _ _ _ X.1; have a5w2 := cell_of_row _ _ 5 _ _ _ X.1; have a6w2 := cell_of_row _ _ 6 _ _ _ X.1; have b0w2 := cell_of_row _ _ 0 _ _ _ X.2; have b1w2 := cell_of_row _ _ 1 _ _ _ X.2; have b2w2 := cell_of_row _ _ 2 _ _ _ X.2; clear X; have HB12 := Lib.hid hb12; clear hb2 hb12)
          | (go_at_call 63; (with_reducible refine (CA.out _).mono ?_); rintro e w4 ⟨rfl, hb4⟩; have HB4 := Lib.hid (HB12.out.trans (hb4.mono HB12.out.size)); clear hb4))
        go_ret
        exact ⟨rfl, (HB2.out _ _).trans (HB4.out.mono (by simp <;> omega))⟩
    | true =>
      rw [if_neg (fun e => absurd e.2.1 (by decide))] at hH
      subst hH
      go_enter Tryd.func46, Tryd.ntmps46
      go_wp2_with (first
        | (go_at_call 65; (with_reducible refine (CD.out _ (HPW.out _ _)).mono ?_); rintro e w1 ⟨rfl, hb1⟩; have X := two_boxes hb1; have a0w1 := cell_of_row _ _ 0 _ _ _ X.1; have a1w1 := cell_of_row _ _ 1 _ _ _ X.1; have a2w1 := cell_of_row _ _ 2 _ _ _ X.1; have a3w1 := cell_of_row _ _ 3 _ _ _ X.1; have a4w1 := cell_of_row _ _ 4 _ _ _ X.1; have a5w1 := cell_of_row _ _ 5 _ _ _ X.1; have a6w1 := cell_of_row _ _ 6 _ _ _ X.1; have b0w1 := cell_of_row _ _ 0 _ _ _ X.2; have b1w1 := cell_of_row _ _ 1 _ _ _ X.2; have b2w1 := cell_of_row _ _ 2 _ _ _ X.2; clear X; have HB1 := Lib.hid hb1; clear hb1)
        | (go_at_call 66; (with_reducible refine (CP.out _).mono ?_); rintro e w2 ⟨rfl, hb2⟩; have hb12 := HB1.out.trans (hb2.mono HB1.out.size); have X := two_boxes hb12; have a0w2 := cell_of_row _ _ 0 _ _ _ X.1; have a1w2 := cell_of_row _ _ 1 _ _ _ X.1; have a2w2 := cell_of_row _ _ 2 _ _ _ X.1; have a3w2 := cell_of_row _ _ 3 _ _ _ X.1; have a4w2 := cell_of_row _ _ 4 _ _ _ X.1; have a5w2 := cell_of_row _ _ 5 _ _ _ X.1; have a6w2 := cell_of_row _ _ 6 _ _ _ X.1; have b0w2 := cell_of_row _ _ 0 _ _ _ X.2; have b1w2 := cell_of_row _ _ 1 _ _ _ X.2; have b2w2 := cell_of_row _ _ 2 _ _ _ X.2; clear X; have HB12 := Lib.hid hb12; clear hb2 hb12)
        | (go_at_call 63; (with_reducible refine (CA.out _).mono ?_); rintro e w4 ⟨rfl, hb4⟩; have HB4 := Lib.hid (HB12.out.trans (hb4.mono HB12.out.size)); clear hb4))
      go_ret
      exact ⟨rfl, (HB2.out _ _).trans (HB4.out.mono (by simp <;> omega))⟩
  | false =>
    rw [if_neg (fun e => absurd e.1 (by decide))] at hH
    subst hH
    go_enter Tryd.func46, Tryd.ntmps46
    go_wp2_with (first
      | (go_at_call 65; (with_reducible refine (CD.out _ (HPW.out _ _)).mono ?_); rintro e w1 ⟨rfl, hb1⟩; have X := two_boxes hb1; have a0w1 := cell_of_row _ _ 0 _ _ _ X.1; have a1w1 := cell_of_row _ _ 1 _ _ _ X.1; have a2w1 := cell_of_row _ _ 2 _ _ _ X.1; have a3w1 := cell_of_row _ _ 3 _ _ _ X.1; have a4w1 := cell_of_row _ _ 4 _ _ _ X.1; have a5w1 := cell_of_row _ _ 5 _ _ _ X.1; have a6w1 := cell_of_row _ _ 6 _ _ _ X.1; have b0w1 := cell_of_row _ _ 0 _ _ _ X.2; have b1w1 := cell_of_row _ _ 1 _ _ _ X.2; have b2w1 := cell_of_row _ _ 2 _ _ _ X.2; clear X; have HB1 := Lib.hid hb1; clear hb1)
      | (go_at_call 66; (with_reducible refine (CP.out _).mono ?_); rintro e w2 ⟨rfl, hb2⟩; have hb12 := HB1.out.trans (hb2.mono HB1.out.size); have X := two_boxes hb12; have a0w2 := cell_of_row _ _ 0 _ _ _ X.1; have a1w2 := cell_of_row _ _ 1 _ _ _ X.1; have a2w2 := cell_of_row _ _ 2 _ _ _ X.1; have a3w2 := cell_of_row _ _ 3 _ _ _ X.1; have a4w2 := cell_of_row _ _ 4 _ _ _ X.1; have a5w2 := cell_of_row _ _ 5 _ _ _ X.1; have a6w2 := cell_of_row _ _ 6 _ _ _ X.1; have b0w2 := cell_of_row _ _ 0 _ _ _ X.2; have b1w2 := cell_of_row _ _ 1 _ _ _ X.2; have b2w2 := cell_of_row _ _ 2 _ _ _ X.2; clear X; have HB12 := Lib.hid hb12; clear hb2 hb12)
      | (go_at_call 63; (with_reducible refine (CA.out _).mono ?_); rintro e w4 ⟨rfl, hb4⟩; have HB4 := Lib.hid (HB12.out.trans (hb4.mono HB12.out.size)); clear hb4))
    go_ret
    exact ⟨rfl, (HB2.out _ _).trans (HB4.out.mono (by simp <;> omega))⟩
end Go.Proofs.YtapihomdfdhnnaaDoor
