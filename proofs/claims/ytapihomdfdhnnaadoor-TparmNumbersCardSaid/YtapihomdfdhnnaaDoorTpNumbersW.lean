/-
  The law on numbers is true for every number and every width.
-/
import Derived.Test.YtapihomdfdhnnaaDoorTpNumW
namespace Go.Proofs.YtapihomdfdhnnaaDoor
open Go.RowKit Go.Shelf Go.Lib
attribute [local go_sem] Oper.semAt_some

theorem fillP_len (c : UInt8) (n : Int) (h : n ≤ 256) : (fillP c n).length ≤ 256 := by simp [fillP]; omega
theorem numX_eq (wd : Nat) (n : Int) (d h f : List UInt8) (e1 : itoa n = d) (e2 : uintP 16 (bits32 n) = h) (e3 : fillP 32 ((wd : Int) - d.length) = f) : d ++ [44] ++ h ++ [44] ++ f ++ d = numX wd n := by
  subst e1 e2
  unfold numX
  rw [e3]
  simp [List.append_assoc]

set_option maxHeartbeats 1000000 in
theorem numbers_walk (w : World) (n : Int) (wd : Nat) (hn : -2147483648 ≤ n ∧ n ≤ 2147483647) (hw : wd < 256) (hp : Pow w) :
    Calls Tryd.prog 3 #[.int .i32 n, .int .u8 (wd : Int)] w fun e w' => e = .returned (.bool true) ∧ Below w.heap.size w w' := by
  have CB := Lib.hid (begun_any w hp)
  have CV := Lib.hid newVars_any
  have HPW := Lib.hid hp
  have ld := itoa_length_le n (by omega) (by omega)
  have lh := uint16_len (bits32_lt n)
  have lw : (wDigits wd).length ≤ 3 := by unfold wDigits; split; · simp
                                          split <;> simp
  have lf := fillP_len 32 ((wd : Int) - (itoa n).length) (by omega)
  have CI : Hid (∀ W, Below w.heap.size w W → Calls Tryd.prog 6 #[.int .i64 (wd : Int)] W (StrPost W (wDigits wd))) := Lib.hid fun W hW => by
    have := itoa_any (wd : Int) (by omega) (by omega) W (HPW.out.below hW)
    rw [wDigits_itoa wd hw] at this
    exact this
  have CJ : Hid (∀ W, Below w.heap.size w W → Calls Tryd.prog 6 #[.int .i64 n] W (StrPost W (itoa n))) := Lib.hid fun W hW => itoa_any n (by omega) (by omega) W (HPW.out.below hW)
  have CF : Hid (∀ W, Below w.heap.size w W → Calls Tryd.prog 9 #[.int .u64 (bits32 n : Int), .int .i64 16] W (StrPost W (uintP 16 (bits32 n)))) := Lib.hid fun W hW => formatU_any W (HPW.out.below hW).2 _ (bits32_lt n)
  have CP : Hid (∀ W, Calls Tryd.prog 10 #[str [32], .int .i64 (max 0 ((wd : Int) - (itoa n).length))] W (StrPost W (fillP 32 ((wd : Int) - (itoa n).length)))) := Lib.hid fun W => by
    rw [Int.max_comm]
    exact repeats_any 32 _ (by omega) W
  have CN : Hid (∀ W, Calls Tryd.prog 5 #[str (numS wd)] W (NewPost W (numS wd))) := Lib.hid fun W => new_any (numS wd) W
  have CR : Hid (∀ w0 w1 w2 cb v, Below w.heap.size w w0 → CapAt w1 w0.heap.size cb v (numS wd) ∧ Below w0.heap.size w0 w1 → VarsAt w2 (w1.heap.size + 1) w1.heap.size (fun _ => prm0) ∧ Below w1.heap.size w1 w2 → Calls Tryd.prog 7 #[.pointer (some ⟨cb, 0, none⟩), .pointer (some ⟨w1.heap.size + 1, 0, none⟩), .slice (some ⟨w2.heap.size, 0, none⟩) 1 1] (w2.alloc (.cells #[.int .i32 n, .string ⟨#[]⟩, .bool false] 32)) fun e w' => e = .returned (.tuple #[str (numX wd n), .int .i64 0, .int .i64 0]) ∧ Below w0.heap.size w0 w') := Lib.hid fun w0 w1 w2 cb v h0 h1 h2 => run_num wd hw n hn h1 h2 (HPW.out.below h0)
  have a1 : ∀ W, (Op.stringOp .add ⟨#[37, 112, 49, 37, 100, 44, 37, 112, 49, 37, 120, 44, 37, 112, 49, 37]⟩ ⟨(wDigits wd).toArray⟩).run Tryd.prog W = .ok (str (numHead ++ wDigits wd)) W := fun W => run_string_add_lists (P := Tryd.prog) W numHead (wDigits wd) (by simp [numHead]) (by omega)
  have a2 : ∀ W, (Op.stringOp .add ⟨(numHead ++ wDigits wd).toArray⟩ ⟨#[100]⟩).run Tryd.prog W = .ok (str (numS wd)) W := fun W => run_string_add_lists (P := Tryd.prog) W (numHead ++ wDigits wd) [100] (by simp [numHead]; omega) (by simp)
  have hX : Hid (itoa n ++ [44] ++ uintP 16 (bits32 n) ++ [44] ++ fillP 32 ((wd : Int) - (itoa n).length) ++ itoa n = numX wd n) := Lib.hid (numX_eq wd n _ _ _ rfl rfl rfl)
  have wn : wrap64 n = n := by unfold wrap64; omega
  have ww : wrap64 (wd : Int) = wd := by unfold wrap64; omega
  have wx : wrap64 ((wd : Int) - (itoa n).length) = (wd : Int) - (itoa n).length := by unfold wrap64; omega
  have w32 : IntKind.u32.wrap n = (bits32 n : Int) := by rw [wrap_u32']; unfold bits32; omega
  have w64 : IntKind.u64.wrap (bits32 n : Int) = (bits32 n : Int) := by
    have := bits32_lt n
    rw [IntKind.wrap_u64]
    omega
  clear hn hp hw
  generalize numHead ++ wDigits wd = q1 at a1 a2
  generalize numS wd = S at a2 CN CR
  generalize wDigits wd = q at *
  generalize fillP 32 ((wd : Int) - (itoa n).length) = f at *
  generalize uintP 16 (bits32 n) = h at *
  generalize numX wd n = X at *
  generalize itoa n = d at *
  generalize bits32 n = bz at *
  have a3 : ∀ W, (Op.stringOp .add ⟨d.toArray⟩ ⟨#[44]⟩).run Tryd.prog W = .ok (str (d ++ [44])) W := fun W => run_string_add_lists (P := Tryd.prog) W d [44] (by omega) (by simp)
  have a4 : ∀ W, (Op.stringOp .add ⟨(d ++ [44]).toArray⟩ ⟨h.toArray⟩).run Tryd.prog W = .ok (str (d ++ [44] ++ h)) W := fun W => run_string_add_lists (P := Tryd.prog) W _ _ (by simp; omega) (by omega)
  have a5 : ∀ W, (Op.stringOp .add ⟨(d ++ [44] ++ h).toArray⟩ ⟨#[44]⟩).run Tryd.prog W = .ok (str (d ++ [44] ++ h ++ [44])) W := fun W => run_string_add_lists (P := Tryd.prog) W _ [44] (by simp; omega) (by simp)
  have a6 : ∀ W, (Op.stringOp .add ⟨(d ++ [44] ++ h ++ [44]).toArray⟩ ⟨f.toArray⟩).run Tryd.prog W = .ok (str (d ++ [44] ++ h ++ [44] ++ f)) W := fun W => run_string_add_lists (P := Tryd.prog) W _ _ (by simp; omega) (by omega)
  have a7 : ∀ W, (Op.stringOp .add ⟨(d ++ [44] ++ h ++ [44] ++ f).toArray⟩ ⟨d.toArray⟩).run Tryd.prog W = .ok (str X) W := fun W => by
    rw [← hX.out]
    exact run_string_add_lists (P := Tryd.prog) W _ _ (by simp; omega) (by omega)
  clear hX ld lh lw lf
  generalize d ++ [44] = q3 at a3 a4 a5 a6 a7
  generalize q3 ++ h = q4 at a4 a5 a6 a7
  generalize q4 ++ [44] = q5 at a5 a6 a7
  generalize q5 ++ f = q6 at a6 a7
  unfold NewPost at CN
  unfold StrPost at CI CJ CF CP
  go_enter Tryd.func3, Tryd.ntmps3
  go_wp2_with (first
    | (go_at_call 4; refine (CB.out).mono ?_; rintro e w1 ⟨rfl, hb1⟩; have HB1 := Lib.hid hb1; clear hb1)
    | (go_at_call 6; refine (CI.out _ HB1.out).mono ?_; rintro e w2 ⟨rfl, hb2⟩; have HB2 := Lib.hid (HB1.out.trans (hb2.mono HB1.out.size)); clear hb2 HB1)
    | (go_at_call 5; refine (CN.out _).mono ?_; rintro e w3 ⟨cb, v, rfl, hc3, hb3⟩; have H3 := Lib.hid (And.intro hc3 hb3); clear hc3 hb3)
    | (go_at_call 8; refine (CV.out _).mono ?_; rintro e w4 ⟨rfl, hv4, hb4⟩; have H4 := Lib.hid (And.intro hv4 hb4); clear hv4 hb4)
    | (go_at_call 7; refine (CR.out _ _ _ _ _ HB2.out H3.out H4.out).mono ?_; rintro e w5 ⟨rfl, hb5⟩; have H5 := Lib.hid (HB2.out.trans (hb5.mono HB2.out.size)); clear hb5 HB2)
    | (go_at_call 6; refine (CJ.out _ H5.out).mono ?_; rintro e w6 ⟨rfl, hb6⟩; have H6 := Lib.hid (H5.out.trans (hb6.mono H5.out.size)); clear hb6 H5)
    | (go_at_call 9; refine (CF.out _ H6.out).mono ?_; rintro e w7 ⟨rfl, hb7⟩; have H7 := Lib.hid (H6.out.trans (hb7.mono H6.out.size)); clear hb7 H6)
    | (go_at_call 10; refine (CP.out _).mono ?_; rintro e w8 ⟨rfl, hb8⟩; have H8 := Lib.hid (H7.out.trans (hb8.mono H7.out.size)); clear hb8 H7))
  go_ret
  exact ⟨rfl, H8.out⟩
theorem numbers_walk_int (w : World) (n x : Int) (hn : -2147483648 ≤ n ∧ n ≤ 2147483647) (hx : 0 ≤ x ∧ x ≤ 255) (hp : Pow w) :
    Calls Tryd.prog 3 #[.int .i32 n, .int .u8 x] w fun e w' => e = .returned (.bool true) ∧ Below w.heap.size w w' := by
  obtain ⟨k, rfl⟩ : ∃ k : Nat, x = k := ⟨x.toNat, by omega⟩
  exact numbers_walk w n k hn (by omega) hp
end Go.Proofs.YtapihomdfdhnnaaDoor
