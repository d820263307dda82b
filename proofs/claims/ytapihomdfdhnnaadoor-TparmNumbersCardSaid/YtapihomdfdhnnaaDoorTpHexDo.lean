/-
  What 'x' does.
-/
import Derived.Test.YtapihomdfdhnnaaDoorTpHex
import Derived.Test.YtapihomdfdhnnaaDoorTpBegun
namespace Go.Proofs.YtapihomdfdhnnaaDoor
open Go.RowKit Go.Shelf Go.Lib
attribute [local go_sem] Oper.semAt_some

theorem dig_x (n : Int) : DigSpec 120 n := ⟨fun W hp => plain_x n W hp.2, Nat.le_trans (uint16_len (bits32_lt n)) (by decide)⟩
set_option maxRecDepth 100000 in
set_option maxHeartbeats 4000000 in
theorem do_x (it : ItemD) (hv : it.verb = 120) (hf : FOk it.form) (hsh : it.form.sharp = false) : DoSpec it (fun m => writeE (popM m) (applyP it.form it.verb (topP m))) := by
  intro w B K mb vb bm m h hp hok
  obtain ⟨p, v, n, t, f⟩ := it
  obtain rfl : v = 120 := hv
  have hk := h.keep (itemObj 120 n t f p) (fun cur e => by injection e with _ e; exact absurd e (by decide))
  have hT0 : Touch (Turns B bm K) w (w.alloc (itemObj 120 n t f p)) := touch_new (alloc_one _ _)
  have hmb := h.lt.1
  obtain ⟨W0, hW0⟩ : ∃ W0, w.alloc (itemObj 120 n t f p) = W0 := ⟨_, rfl⟩
  have hbx : W0.heap[w.heap.size]? = some (itemObj 120 n t f p) := by rw [← hW0]; exact alloc_new _ _
  rw [hW0] at hk hT0
  have hpw : PowB B bm W0.drew := hp.touch hT0.drew
  have HX := Lib.hid (And.intro hT0.drew (And.intro hpw hbx))
  have HW0 := Lib.hid hW0
  have CO : Hid (∀ W, Below W0.heap.size W0 W → Calls Tryd.prog 44 #[.pointer (some ⟨mb, 0, none⟩)] W (OpPost W B (fun k => K k ∨ k = w.heap.size) mb vb bm (popM m) (prmVal (topP m)))) := Lib.hid (fun W hW => pop_any W B _ mb vb bm m (hk.below hW))
  have a1 := cell_of_row W0 _ 1 _ _ _ hbx
  have a4 := cell_of_row W0 _ 4 _ _ _ hbx
  have a5 := cell_of_row W0 _ 5 _ _ _ hbx
  have a6 := cell_of_row W0 _ 6 _ _ _ hbx
  have a7 := cell_of_row W0 _ 7 _ _ _ hbx
  have a8 := cell_of_row W0 _ 8 _ _ _ hbx
  have a9 := cell_of_row W0 _ 9 _ _ _ hbx
  have a10 := cell_of_row W0 _ 10 _ _ _ hbx
  have hno := top_ok hok
  have CA : Hid (∀ W, PowB B bm W → Calls Tryd.prog 46 #[fmtVal f, .int .u8 120, prmVal (topP m)] W (StrPost W (applyP f 120 (topP m)))) := Lib.hid (fun W hW => apply_num f 120 (topP m) (by decide) hf (dig_x _) (prefix_none f 120 _ (by decide) hsh) W hW.1)
  have hlen := apply_len f 120 (topP m) (by decide) hf (dig_x _) (prefix_none f 120 _ (by decide) hsh)
  have CW : Hid (∀ W, MachX W B (fun k => K k ∨ k = w.heap.size) mb vb bm (popM m) → Calls Tryd.prog 45 #[.pointer (some ⟨mb, 0, none⟩), str (applyP f 120 (topP m))] W (DoPost W B (fun k => K k ∨ k = w.heap.size) mb vb bm (writeE (popM m) (applyP f 120 (topP m))))) := Lib.hid (fun W hW => write_e W B _ mb vb bm _ hW _ (by omega))
  unfold OpPost at CO
  unfold DoPost OpPost at CW
  unfold StrPost at CA
  unfold DoPost OpPost
  dsimp only
  generalize writeE (popM m) (applyP f 120 (topP m)) = r at *
  generalize applyP f 120 (topP m) = x at *
  generalize topP m = q at *
  generalize popM m = m1 at *
  clear h hp hk hT0 hpw hbx hno hok hf hlen hW0 hsh
  show Calls Tryd.prog 31 #[.pointer (some ⟨mb, 0, none⟩), .agg #[.int .i64 p, .int .u8 120, .int .i32 n, str t, .bool f.left, .bool f.plus, .bool f.sharp, .bool f.blank, .bool f.zero, .int .i64 f.width, .int .i64 f.prec]] w _
  go_enter Tryd.func31, Tryd.ntmps31
  go_upto_region 12 with fail
  rw [HW0.out]
  go_region_held3 (fun w' => w'.cell? ⟨w.heap.size, 1, none⟩ = some (.int .u8 120) ∧ w'.cell? ⟨w.heap.size, 4, none⟩ = some (.bool f.left) ∧ w'.cell? ⟨w.heap.size, 5, none⟩ = some (.bool f.plus) ∧ w'.cell? ⟨w.heap.size, 6, none⟩ = some (.bool f.sharp) ∧ w'.cell? ⟨w.heap.size, 7, none⟩ = some (.bool f.blank) ∧ w'.cell? ⟨w.heap.size, 8, none⟩ = some (.bool f.zero) ∧ w'.cell? ⟨w.heap.size, 9, none⟩ = some (.int .i64 f.width) ∧ w'.cell? ⟨w.heap.size, 10, none⟩ = some (.int .i64 f.prec)) (first | go_keep | (refine ⟨?_, ?_, ?_, ?_, ?_, ?_, ?_, ?_⟩ <;> assumption)) (first
    | (go_at_call 44; refine (CO.out _ (Below.refl _ _).drew).mono ?_; rintro e w1 ⟨rfl, hm1, ht1⟩; have hbx1 := (ht1.block _ (Array.getElem?_eq_some_iff.1 HX.out.2.2).1 (fun e => e.2 (.inr rfl))).trans HX.out.2.2; have x1w1 : w1.cell? ⟨w.heap.size, 1, none⟩ = some (.int .u8 120) := cell_of_row _ _ 1 _ _ _ hbx1; have x4w1 : w1.cell? ⟨w.heap.size, 4, none⟩ = some (.bool f.left) := cell_of_row _ _ 4 _ _ _ hbx1; have x5w1 : w1.cell? ⟨w.heap.size, 5, none⟩ = some (.bool f.plus) := cell_of_row _ _ 5 _ _ _ hbx1; have x6w1 : w1.cell? ⟨w.heap.size, 6, none⟩ = some (.bool f.sharp) := cell_of_row _ _ 6 _ _ _ hbx1; have x7w1 : w1.cell? ⟨w.heap.size, 7, none⟩ = some (.bool f.blank) := cell_of_row _ _ 7 _ _ _ hbx1; have x8w1 : w1.cell? ⟨w.heap.size, 8, none⟩ = some (.bool f.zero) := cell_of_row _ _ 8 _ _ _ hbx1; have x9w1 : w1.cell? ⟨w.heap.size, 9, none⟩ = some (.int .i64 f.width) := cell_of_row _ _ 9 _ _ _ hbx1; have x10w1 : w1.cell? ⟨w.heap.size, 10, none⟩ = some (.int .i64 f.prec) := cell_of_row _ _ 10 _ _ _ hbx1; have H1 := Lib.hid (And.intro hbx1 (And.intro hm1 ht1)); clear hbx1 hm1 ht1)
    | (go_at_call 46; refine (CA.out _ (HX.out.2.1.touch H1.out.2.2)).mono ?_; rintro e w2 ⟨rfl, hb2⟩; have hbx2 := (hb2.block _ (Array.getElem?_eq_some_iff.1 H1.out.1).1).trans H1.out.1; have x1w2 : w2.cell? ⟨w.heap.size, 1, none⟩ = some (.int .u8 120) := cell_of_row _ _ 1 _ _ _ hbx2; have x4w2 : w2.cell? ⟨w.heap.size, 4, none⟩ = some (.bool f.left) := cell_of_row _ _ 4 _ _ _ hbx2; have x5w2 : w2.cell? ⟨w.heap.size, 5, none⟩ = some (.bool f.plus) := cell_of_row _ _ 5 _ _ _ hbx2; have x6w2 : w2.cell? ⟨w.heap.size, 6, none⟩ = some (.bool f.sharp) := cell_of_row _ _ 6 _ _ _ hbx2; have x7w2 : w2.cell? ⟨w.heap.size, 7, none⟩ = some (.bool f.blank) := cell_of_row _ _ 7 _ _ _ hbx2; have x8w2 : w2.cell? ⟨w.heap.size, 8, none⟩ = some (.bool f.zero) := cell_of_row _ _ 8 _ _ _ hbx2; have x9w2 : w2.cell? ⟨w.heap.size, 9, none⟩ = some (.int .i64 f.width) := cell_of_row _ _ 9 _ _ _ hbx2; have x10w2 : w2.cell? ⟨w.heap.size, 10, none⟩ = some (.int .i64 f.prec) := cell_of_row _ _ 10 _ _ _ hbx2; have H2 := Lib.hid (And.intro hbx2 hb2); clear hbx2 hb2)
    | (go_at_call 45; refine (CW.out _ (H1.out.2.1.below H2.out.2)).mono ?_; rintro e w3 ⟨rfl, hm3, ht3⟩; have hbx3 := (ht3.block _ (Array.getElem?_eq_some_iff.1 H2.out.1).1 (fun e => e.2 (.inr rfl))).trans H2.out.1; have x1w3 : w3.cell? ⟨w.heap.size, 1, none⟩ = some (.int .u8 120) := cell_of_row _ _ 1 _ _ _ hbx3; have x4w3 : w3.cell? ⟨w.heap.size, 4, none⟩ = some (.bool f.left) := cell_of_row _ _ 4 _ _ _ hbx3; have x5w3 : w3.cell? ⟨w.heap.size, 5, none⟩ = some (.bool f.plus) := cell_of_row _ _ 5 _ _ _ hbx3; have x6w3 : w3.cell? ⟨w.heap.size, 6, none⟩ = some (.bool f.sharp) := cell_of_row _ _ 6 _ _ _ hbx3; have x7w3 : w3.cell? ⟨w.heap.size, 7, none⟩ = some (.bool f.blank) := cell_of_row _ _ 7 _ _ _ hbx3; have x8w3 : w3.cell? ⟨w.heap.size, 8, none⟩ = some (.bool f.zero) := cell_of_row _ _ 8 _ _ _ hbx3; have x9w3 : w3.cell? ⟨w.heap.size, 9, none⟩ = some (.int .i64 f.width) := cell_of_row _ _ 9 _ _ _ hbx3; have x10w3 : w3.cell? ⟨w.heap.size, 10, none⟩ = some (.int .i64 f.prec) := cell_of_row _ _ 10 _ _ _ hbx3; have H3 := Lib.hid (And.intro hm3 ht3); clear hbx3 hm3 ht3))
  all_goals
    go_wp2
    go_ret
    exact ⟨rfl, H3.out.1.less fun _ h => .inl h, HX.out.1.trans (turns_less ((H1.out.2.2.trans (touch_new H2.out.2)).trans H3.out.2) fun _ h => .inl h)⟩
theorem does_x {it : ItemD} (hv : it.verb = 120) (hf : FOk it.form) (hsh : it.form.sharp = false) : DoSpec it (ddE it) ∧ ∀ m, MOk m → MOk (ddE it m).2 := by
  have e : ddE it = fun m => writeE (popM m) (applyP it.form it.verb (topP m)) := by funext m; unfold ddE; rw [if_neg (by rw [hv]; decide), if_neg (by rw [hv]; decide), if_neg (by rw [hv]; decide), if_pos (.inr hv)]
  rw [e]
  exact ⟨do_x it hv hf hsh, fun m hm => write_ok (pop_ok hm)⟩
abbrev fmtWd (w : Nat) : FmtD := ⟨false, false, false, false, false, w, -1⟩
/-- '%x' gives the 32 bits in the base 16 -/
theorem apply_hex (n : Int) (t : List UInt8) (b : Bool) : applyP fmtD 120 ⟨n, t, b⟩ = uintP 16 (bits32 n) := by
  have hp : plainDigitsP 120 n = uintP 16 (bits32 n) := rfl
  have hd : digitsP fmtD 120 n = uintP 16 (bits32 n) := by
    unfold digitsP
    rw [if_neg (by simp), hp]
    generalize uintP 16 (bits32 n) = r
    have : ((-1 : Int) - (r.length : Int)).toNat = 0 := by omega
    simp [fillP, this]
  unfold applyP
  rw [if_neg (by decide)]
  simp only [hd]
  generalize uintP 16 (bits32 n) = r
  have hq : prefixP fmtD 120 n r = [] := rfl
  have hh : headP fmtD 120 n r = [] := by unfold headP; rw [if_neg (by simp)]; exact hq
  rw [hh]
  unfold padP
  rw [if_neg (by simp)]
  simp [fillP]
/-- a width puts blanks ahead -/
theorem apply_pad (w : Nat) (n : Int) (t : List UInt8) (b : Bool) : applyP (fmtWd w) 100 ⟨n, t, b⟩ = fillP 32 ((w : Int) - (itoa n).length) ++ itoa n := by
  have h0 := apply_plain n t b
  have hd : digitsP (fmtWd w) 100 n = digitsP fmtD 100 n := rfl
  have hh : headP (fmtWd w) 100 n (digitsP fmtD 100 n) = headP fmtD 100 n (digitsP fmtD 100 n) := by
    unfold headP
    rw [if_neg (by simp), if_neg (by simp)]
    rfl
  unfold applyP at h0 ⊢
  rw [if_neg (by decide)] at h0 ⊢
  simp only [hd, hh] at h0 ⊢
  generalize headP fmtD 100 n (digitsP fmtD 100 n) ++ digitsP fmtD 100 n = r at *
  have h1 : padP fmtD r = r := by
    unfold padP
    rw [if_neg (by simp)]
    simp [fillP]
  rw [h1] at h0
  subst h0
  unfold padP
  rw [if_neg (by simp)]

/-! ### the law's string -/
def wDigits (w : Nat) : List UInt8 := if w < 10 then [UInt8.ofNat (48 + w)] else if w < 100 then [UInt8.ofNat (48 + w / 10), UInt8.ofNat (48 + w % 10)] else [UInt8.ofNat (48 + w / 100), UInt8.ofNat (48 + w / 10 % 10), UInt8.ofNat (48 + w % 10)]
/-- "%p1%d,%p1%x,%p1%" -/
def numHead : List UInt8 := [37, 112, 49, 37, 100, 44, 37, 112, 49, 37, 120, 44, 37, 112, 49, 37]
def numS (w : Nat) : List UInt8 := numHead ++ wDigits w ++ [100]
def numL (w : Nat) : List ItemD := [⟨0, 112, 1, [], fmtZ⟩, ⟨3, 100, 0, [], fmtD⟩, ⟨5, 0, 0, [44], fmtZ⟩, ⟨6, 112, 1, [], fmtZ⟩, ⟨9, 120, 0, [], fmtD⟩, ⟨11, 0, 0, [44], fmtZ⟩, ⟨12, 112, 1, [], fmtZ⟩, ⟨15, 100, 0, [], if w = 0 then { fmtD with zero := true } else fmtWd w⟩]
def numB (w : Nat) : Bool := match parseP (numS w) with | .ok l => decide (l = numL w) | .error _ => false
theorem numB_all : ∀ w : Fin 256, numB w.val = true := by decide +kernel
theorem num_parse (w : Nat) (h : w < 256) : parseP (numS w) = .ok (numL w) := by
  have := numB_all ⟨w, h⟩
  unfold numB at this
  split at this
  · next l hl =>
    rw [hl, of_decide_eq_true this]
  · cases this
theorem wDigits_itoa (w : Nat) (h : w < 256) : itoa (w : Int) = wDigits w := by
  have h0 := itoa_nonneg w
  rw [h0]
  unfold wDigits
  split
  · rw [decDigits_one (by omega)]
  · split
    · rw [decDigits_two (by omega) (by omega)]
    · rw [decDigits, dif_neg (by omega), decDigits_two (by omega) (by omega)]
      simp only [List.cons_append, List.nil_append, Nat.div_div_eq_div_mul]
end Go.Proofs.YtapihomdfdhnnaaDoor
