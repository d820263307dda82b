/-
  A number's digits to the base 16, as the library writes them.
-/
import Derived.Test.YtapihomdfdhnnaaDoorTpForm
import Derived.Laws.Bits64b
import Derived.Shelf.Spec.TrailingZeros
namespace Go.Proofs.YtapihomdfdhnnaaDoor
open Go.RowKit Go.Shelf Go.Lib
attribute [local go_sem] Oper.semAt_some

theorem Bru.at4 {W : World} (h : Bru W) : W.cell? ⟨3, 15, none⟩ = some (.int .u8 4) := by
  obtain ⟨t, fr, hh⟩ := h.cells
  unfold World.cell?
  rw [hh]
  rfl
theorem Bru.below {W W' : World} (h : Bru W) (hb : Below W.heap.size W W') : Bru W' := h.same (hb.block _ h.lt)
set_option maxRecDepth 100000 in
theorem pow2_any (w : World) : Calls Tryd.prog 55 #[.int .i64 16] w fun e w' => e = .returned (.bool true) ∧ w = w' := by
  have hb : bits BinOp.and IntKind.i64 16 15 = 0 := by decide +kernel
  go_enter Tryd.func55, Tryd.ntmps55
  go_wp2_with fail
  go_ret
  exact ⟨rfl, rfl⟩
set_option maxRecDepth 100000 in
theorem tz64_any (w : World) (h : Bru w) : Calls Tryd.prog 71 #[.int .u64 16] w fun e w' => e = .returned (.int .i64 4) ∧ w = w' := by
  have c4 := h.at4
  clear h
  have hb : bits BinOp.and IntKind.u64 16 (IntKind.u64.wrap (-16)) = 16 := by decide +kernel
  go_enter Tryd.func71, Tryd.ntmps71
  go_wp2_with fail
  exact bodyPost_ret (v := .int .i64 4) (by simp [results, Tryd.results71, go_sem]) rfl ⟨rfl, rfl⟩
set_option maxRecDepth 100000 in
theorem tz_any (w : World) (h : Bru w) : Calls Tryd.prog 56 #[.int .u64 16] w fun e w' => e = .returned (.int .i64 4) ∧ w = w' := by
  have CT := Lib.hid (tz64_any w h)
  clear h
  go_enter Tryd.func56, Tryd.ntmps56
  go_wp2_with (go_at_call 71; refine (CT.out).mono ?_; rintro e w1 ⟨rfl, rfl⟩)
  exact bodyPost_ret (v := .int .i64 4) (by simp [results, Tryd.results56, go_sem]) rfl ⟨rfl, rfl⟩

/-- the array of 65 bytes: the digits that were written stand from i on -/
structure ArrAt (W : World) (ab i : Nat) (suf : List UInt8) : Prop where
  box : ∃ cells : Array Value, W.heap[ab]? = some (.cells cells 103 (0, 0)) ∧ cells.size = 65 ∧ ∀ j, j < suf.length → cells[i + j]? = some (.int .u8 ((suf.getD j 0).toNat : Int))
  len : i + suf.length = 65
theorem ArrAt.frozen {W : World} {ab i : Nat} {suf : List UInt8} (h : ArrAt W ab i suf) (j : Nat) : W.frozen? ⟨ab, j, none⟩ = false := by
  obtain ⟨cells, h1, _⟩ := h.box
  exact frozen_of_row W ab j _ _ h1
theorem ArrAt.cell {W : World} {ab i : Nat} {suf : List UInt8} (h : ArrAt W ab i suf) (j : Nat) (hj : j < 65) : ∃ v, W.cell? ⟨ab, j, none⟩ = some v := by
  obtain ⟨cells, h1, h2, _⟩ := h.box
  exact ⟨cells[j], by rw [cell_of_row W ab j cells _ (0, 0) h1]; simp [h2, hj]⟩
theorem ArrAt.put {W : World} {ab i : Nat} {suf : List UInt8} (h : ArrAt W ab i suf) (h0 : 0 < i) (c : UInt8) : ArrAt (W.setCell ⟨ab, i - 1, none⟩ (.int .u8 (c.toNat : Int))) ab (i - 1) (c :: suf) := by
  obtain ⟨cells, h1, h2, h3⟩ := h.box
  have hl := h.len
  refine ⟨⟨_, heap_setCell_same W ab (i - 1) _ _ _ h1, by simp [h2], fun j hj => ?_⟩, by simp; omega⟩
  rw [Array.getElem?_setIfInBounds]
  cases j with
  | zero => rw [if_pos (by omega), if_pos (by omega)]; rfl
  | succ j =>
    rw [if_neg (by omega)]
    have := h3 j (by simpa using hj)
    rw [show i - 1 + (j + 1) = i + j by omega]
    exact this
abbrev hexDigits : ByteArray := ⟨#[48, 49, 50, 51, 52, 53, 54, 55, 56, 57, 97, 98, 99, 100, 101, 102, 103, 104, 105, 106, 107, 108, 109, 110, 111, 112, 113, 114, 115, 116, 117, 118, 119, 120, 121, 122]⟩
theorem hex_at (m : Nat) (h : m < 16) (hi : m < hexDigits.size) : hexDigits[m]'hi = digitP m := by
  have : ∀ m : Fin 16, hexDigits[m.val]'(Nat.lt_of_lt_of_le m.isLt (by decide)) = digitP m.val := by decide +kernel
  exact this ⟨m, h⟩
theorem hex_and (v : Nat) (h : v < 4294967296) : bits BinOp.and IntKind.u64 (v : Int) 15 = ((v % 16 : Nat) : Int) := by
  have := bits_and_u64_nat v 15 (by omega) (by omega)
  rw [show v &&& 15 = v % 16 from Nat.and_two_pow_sub_one_eq_mod v 4] at this
  exact this
theorem slice_arr (g k : Nat) (hk : k < 65) (W : World) : (Instr.sliceAt 103 (.pointer (some ⟨g, 0, none⟩)) (some (.int .i64 (k : Int))) none none).run Tryd.prog W = .ok (.slice (some ⟨g, k, none⟩) (65 - k) (65 - k)) W := by
  have hl : Tryd.prog.arrayLen 103 = 65 := by kernel_rfl
  have he : Tryd.prog.elem 103 = 5 := by kernel_rfl
  have hs : (sizeOf 5).run Tryd.prog W = .ok 1 W := by kernel_rfl
  have h := run_sliceAt_array_l (P := Tryd.prog) W 103 ⟨g, 0, none⟩ (by kernel_rfl) .i64 (k : Int) (by omega) (by rw [hl]; omega)
  rw [h, hl, he, hs]
  show Result.ok (slicedAt _ _ _ _ _) W = _
  unfold slicedAt
  rw [if_neg (by simp; omega)]
  simp [add_off]
theorem conv_arr {W : World} {g k : Nat} {s : List UInt8} (h : ArrAt W g k s) : (convert 51 9 (.slice (some ⟨g, k, none⟩) (65 - k) (65 - k))).run Tryd.prog W = .ok (str s) W := by
  obtain ⟨cells, h1, h2, h3⟩ := h.box
  have hl : 65 - k = s.length := by have := h.len; omega
  rw [hl]
  refine run_convert_bytes_back (P := Tryd.prog) W 51 9 5 ⟨g, k, none⟩ s.length s Tryd.underlying51 Tryd.underlying5 Tryd.underlying9 fun j hj => ?_
  rw [add_off, cell_of_row W g (k + j) cells _ (0, 0) h1, h3 j hj]
  simp [List.getD_eq_getElem?_getD, hj]
/-- between two digits -/
def HexI (w : World) (u : Nat) (a b : Value) (W : World) : Prop := ∃ (v i : Nat) (suf : List UInt8), a = .int .u64 v ∧ b = .int .i64 i ∧ ArrAt W w.heap.size i suf ∧ Below w.heap.size w W ∧ basedP 16 65 u = basedP 16 i v ++ suf ∧ 58 ≤ i ∧ i ≤ 65 ∧ v < 16 ^ (i - 57)
theorem hex_step {u v i : Nat} {suf : List UInt8} (h : basedP 16 65 u = basedP 16 i v ++ suf) (hv : ¬ v < 16) (hi : 58 ≤ i) (hlt : v < 16 ^ (i - 57)) : basedP 16 65 u = basedP 16 (i - 1) (v / 16) ++ digitP (v % 16) :: suf ∧ 59 ≤ i ∧ v / 16 < 16 ^ (i - 1 - 57) := by
  obtain ⟨k, rfl⟩ : ∃ k, i = k + 58 := ⟨i - 58, by omega⟩
  have hk : 0 < k := by
    rcases Nat.eq_zero_or_pos k with rfl | h0
    · simp at hlt; omega
    · exact h0
  have e : basedP 16 (k + 58) v = basedP 16 (k + 57) (v / 16) ++ [digitP (v % 16)] := by
    show (if v < 16 then _ else _) = _
    rw [if_neg hv]
  refine ⟨?_, by omega, ?_⟩
  · rw [h, e, List.append_assoc]; rfl
  · rw [show k + 58 - 57 = k + 1 by omega, Nat.pow_succ] at hlt
    rw [show k + 58 - 1 - 57 = k by omega]
    exact Nat.div_lt_of_lt_mul (by rw [Nat.mul_comm]; exact hlt)
set_option maxRecDepth 100000 in
set_option maxHeartbeats 2000000 in
theorem bits_any (w : World) (h : Bru w) (u : Nat) (hu : u < 4294967296) :
    Calls Tryd.prog 35 #[.slice none 0 0, .int .u64 (u : Int), .int .i64 16, .bool false, .bool false] w fun e w' => e = .returned (.tuple #[.slice none 0 0, str (uintP 16 u)]) ∧ Below w.heap.size w w' := by
  have HH := Lib.hid h
  have HU := Lib.hid hu
  have CP := Lib.hid pow2_any
  have CT := Lib.hid tz_any
  clear h hu
  go_enter Tryd.func35, Tryd.ntmps35
  go_wp2_with (first
    | (go_at_call 55; refine (CP.out _).mono ?_; rintro e w1 ⟨rfl, rfl⟩)
    | (go_at_call 56; refine (CT.out _ (HH.out.below ((Below.refl _ _).alloc (Nat.le_refl _) _))).mono ?_; rintro e w1 ⟨rfl, rfl⟩))
  go_loopw [1, 13] (fun a b W => HexI w u a b W) (fun _ b _ => (RowKit.intOf b).toNat)
  case atStart =>
    refine ⟨u, 65, [], rfl, rfl, ⟨⟨Tryd.zeroCells103, alloc_new w _, ?_, fun j hj => by simp at hj⟩, rfl⟩, (Below.refl _ _).alloc (Nat.le_refl _) _, by simp, by omega, by omega, by have := HU.out; omega⟩
    kernel_rfl
  case round =>
    obtain ⟨v, i, suf, rfl, rfl, harr, hb, he, hi1, hi2, hlt⟩ := hrel
    have HA := Lib.hid harr
    have HB := Lib.hid hb
    have HE := Lib.hid he
    have HI := Lib.hid (And.intro hi1 hi2)
    have HV := Lib.hid hlt
    have hv32 : (v : Int) < 4294967296 := by
      have h2 : 16 ^ (i - 57) ≤ 16 ^ 8 := Nat.pow_le_pow_right (by decide) (by omega)
      omega
    have hv0 : (0 : Int) ≤ (v : Int) := by omega
    have fz := harr.frozen
    obtain ⟨o, ho⟩ := harr.cell (i - 1) (by omega)
    obtain ⟨k, rfl⟩ : ∃ k, i = k + 1 := ⟨i - 1, by omega⟩
    rw [Nat.add_sub_cancel] at ho
    have i0 : (0 : Int) ≤ (k : Int) := by omega
    have i1 : (k : Int) < 65 := by omega
    have wi : wrap64 (k : Int) = (k : Int) := by unfold wrap64; omega
    clear harr hb he hlt
    by_cases hq : v < 16
    · have hq' : (v : Int) < 16 := by omega
      have hx := hex_at v hq
      have hm2 : (v : Int) < 36 := by omega
      have HP := Lib.hid (HA.out.put (by omega) (digitP v))
      have HF := Lib.hid (show basedP 16 65 u = digitP v :: suf by
        rw [HE.out]
        show (if v < 16 then [digitP v] else _) ++ suf = _
        rw [if_pos hq]; rfl)
      have hsl := slice_arr w.heap.size k (by omega)
      have hcv := conv_arr HP.out
      rw [Nat.add_sub_cancel] at hcv
      clear hi1 hi2 hq hv32
      go_wp2_with fail
      have hb : Below w.heap.size wr (wr.setCell ⟨w.heap.size, k, none⟩ (.int .u8 ((digitP v).toNat : Int))) := (Touch.setCell (T := fun j => j = w.heap.size) wr ⟨w.heap.size, k, none⟩ _ rfl).below HB.out.size fun j hj => by omega
      refine bodyPost_ret (v := .tuple #[.slice none 0 0, str (digitP v :: suf)]) (by simp [results, Tryd.results35, go_sem]) rfl ⟨?_, HB.out.trans hb⟩
      rw [show uintP 16 u = digitP v :: suf from HF.out]
    · have hq' : ¬ (v : Int) < 16 := by omega
      obtain ⟨s1, s2, s3⟩ := hex_step HE.out hq HI.out.1 HV.out
      have HS := Lib.hid (And.intro s1 (And.intro s2 s3))
      have ha := hex_and v (by omega)
      have hm1 : v % 16 < 16 := Nat.mod_lt _ (by decide)
      have hx := hex_at (v % 16) hm1
      generalize v % 16 = m at *
      have hm2 : (m : Int) < 36 := by omega
      have hm3 : (0 : Int) ≤ (m : Int) := by omega
      clear s1 s2 s3 hi1 hi2 hq hm1 hv32
      go_wp2_with fail
      have hb : Below w.heap.size wr (wr.setCell ⟨w.heap.size, k, none⟩ (.int .u8 ((digitP m).toNat : Int))) := (Touch.setCell (T := fun j => j = w.heap.size) wr ⟨w.heap.size, k, none⟩ _ rfl).below HB.out.size fun j hj => by omega
      refine ⟨⟨v / 16, k, digitP m :: suf, rfl, rfl, HA.out.put (by omega) (digitP m), HB.out.trans hb, HS.out.1, by have := HS.out.2.1; omega, by have := HI.out.2; omega, HS.out.2.2⟩, ?_⟩
      simp [RowKit.intOf]
set_option maxRecDepth 100000 in
theorem formatU_in (w : World) (h : Bru w) (u : Nat) (hu : u < 4294967296) : Calls Tryd.prog 20 #[.int .u64 (u : Int), .int .i64 16] w (StrPost w (uintP 16 u)) := by
  have CB := Lib.hid (bits_any w h u hu)
  clear h hu
  generalize uintP 16 u = r at *
  go_enter Tryd.func20, Tryd.ntmps20
  go_wp2_with (go_at_call 35; refine (CB.out).mono ?_; rintro e w1 ⟨rfl, hb1⟩)
  go_ret
  exact ⟨rfl, hb1⟩
set_option maxRecDepth 100000 in
theorem formatU_any (w : World) (h : Bru w) (u : Nat) (hu : u < 4294967296) : Calls Tryd.prog 9 #[.int .u64 (u : Int), .int .i64 16] w (StrPost w (uintP 16 u)) := by
  have CB := Lib.hid (formatU_in w h u hu)
  clear h hu
  unfold StrPost at *
  generalize uintP 16 u = r at *
  go_enter Tryd.func9, Tryd.ntmps9
  go_wp2_with (go_at_call 20; refine (CB.out).mono ?_; rintro e w1 ⟨rfl, hb1⟩)
  go_ret
  exact ⟨rfl, hb1⟩
theorem based_len (k u m : Nat) (hu : u < 16 ^ (m + 1)) (hm : m < k) : (basedP 16 k u).length ≤ m + 1 := by
  induction m generalizing k u with
  | zero =>
    obtain ⟨k, rfl⟩ : ∃ j, k = j + 1 := ⟨k - 1, by omega⟩
    show (if u < 16 then _ else _ : List UInt8).length ≤ _
    rw [if_pos (by simpa using hu)]
    simp
  | succ m ih =>
    obtain ⟨k, rfl⟩ : ∃ j, k = j + 1 := ⟨k - 1, by omega⟩
    show (if u < 16 then _ else _ : List UInt8).length ≤ _
    split
    · simp
    · rw [List.length_append]
      have := ih k (u / 16) (Nat.div_lt_of_lt_mul (by rw [Nat.mul_comm]; exact hu)) (by omega)
      simp
      omega
theorem uint16_len {u : Nat} (hu : u < 4294967296) : (uintP 16 u).length ≤ 8 := based_len 65 u 7 (by simpa using hu) (by omega)
theorem bits32_lt (n : Int) : bits32 n < 4294967296 := by unfold bits32; omega
set_option maxRecDepth 100000 in
theorem plain_x (n : Int) (W : World) (h : Bru W) : Calls Tryd.prog 75 #[.int .u8 120, .int .i32 n] W (StrPost W (plainDigitsP 120 n)) := by
  have hP : plainDigitsP 120 n = uintP 16 (bits32 n) := rfl
  have CF := Lib.hid (formatU_any W h (bits32 n) (bits32_lt n))
  rw [hP]
  have w1 : IntKind.u32.wrap n = (bits32 n : Int) := by rw [wrap_u32']; unfold bits32; omega
  have w2 : IntKind.u64.wrap (bits32 n : Int) = (bits32 n : Int) := by have := bits32_lt n; rw [IntKind.wrap_u64]; omega
  unfold StrPost at *
  generalize bits32 n = u at *
  clear hP h
  generalize uintP 16 u = r at *
  go_enter Tryd.func75, Tryd.ntmps75
  go_wp2_with (go_at_call 9; refine (CF.out).mono ?_; rintro e w3 ⟨rfl, hb1⟩)
  go_ret
  exact ⟨rfl, hb1⟩
end Go.Proofs.YtapihomdfdhnnaaDoor
