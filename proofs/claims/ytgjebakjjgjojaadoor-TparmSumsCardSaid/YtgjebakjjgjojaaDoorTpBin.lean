/-
  What the operations of two numbers make in package tparm.
-/
import Derived.Test.YtgjebakjjgjojaaDoorTpBegun
namespace Go.Proofs.YtgjebakjjgjojaaDoor
open Go.RowKit Go.Shelf Go.Lib
attribute [local go_sem] Oper.semAt_some

theorem truth_any (b : Bool) (w : World) : Calls Tryd.prog 69 #[.bool b] w fun e w' => e = .returned (.int .i32 (truthP b)) ∧ w = w' := by
  cases b
  all_goals
    go_enter Tryd.func69, Tryd.ntmps69
    go_wp2_with fail
    go_ret
    exact ⟨rfl, rfl⟩
theorem quotient_any (v : UInt8) (hv : v = 47 ∨ v = 109) (x y : Int) (w : World) : Calls Tryd.prog 78 #[.int .u8 v.toNat, .int .i32 x, .int .i32 y] w fun e w' => e = .returned (.int .i32 (quoP v x y)) ∧ w = w' := by
  by_cases h0 : y = 0
  · subst h0
    have hq : quoP v x 0 = 0 := by unfold quoP; rw [if_pos rfl]
    rw [hq]
    clear hv hq
    go_enter Tryd.func78, Tryd.ntmps78
    go_wp2_with fail
    go_ret
    exact ⟨rfl, rfl⟩
  · have hqe : (y == 0) = false := by simpa using h0
    rcases hv with rfl | rfl
    · have hq : quoP 47 x y = w32 (x.tdiv y) := by unfold quoP; rw [if_neg h0, if_pos rfl]
      rw [hq]
      clear hq
      show Calls Tryd.prog 78 #[.int .u8 47, .int .i32 x, .int .i32 y] w _
      go_enter Tryd.func78, Tryd.ntmps78
      go_wp2_with fail
      go_ret
      exact ⟨rfl, rfl⟩
    · have hq : quoP 109 x y = x.tmod y := by unfold quoP; rw [if_neg h0, if_neg (by decide)]
      rw [hq]
      clear hq
      show Calls Tryd.prog 78 #[.int .u8 109, .int .i32 x, .int .i32 y] w _
      go_enter Tryd.func78, Tryd.ntmps78
      go_wp2_with fail
      go_ret
      exact ⟨rfl, rfl⟩
/-- an operation of those that are shown here -/
def isBin (v : UInt8) : Prop := v = 43 ∨ v = 45 ∨ v = 42 ∨ v = 47 ∨ v = 109 ∨ v = 61
theorem binary_any (v : UInt8) (hv : isBin v) (x y : Int) (w : World) : Calls Tryd.prog 70 #[.int .u8 v.toNat, .int .i32 x, .int .i32 y] w fun e w' => e = .returned (.int .i32 (binP v x y)) ∧ w = w' := by
  rcases hv with rfl | rfl | rfl | rfl | rfl | rfl
  · show Calls Tryd.prog 70 #[.int .u8 43, .int .i32 x, .int .i32 y] w _
    go_enter Tryd.func70, Tryd.ntmps70
    go_wp2_with fail
    go_ret
    exact ⟨rfl, rfl⟩
  · show Calls Tryd.prog 70 #[.int .u8 45, .int .i32 x, .int .i32 y] w _
    go_enter Tryd.func70, Tryd.ntmps70
    go_wp2_with fail
    go_ret
    exact ⟨rfl, rfl⟩
  · show Calls Tryd.prog 70 #[.int .u8 42, .int .i32 x, .int .i32 y] w _
    go_enter Tryd.func70, Tryd.ntmps70
    go_wp2_with fail
    go_ret
    exact ⟨rfl, rfl⟩
  · have CQ : Hid (∀ W, Calls Tryd.prog 78 #[.int .u8 47, .int .i32 x, .int .i32 y] W fun e w' => e = .returned (.int .i32 (quoP 47 x y)) ∧ W = w') := Lib.hid fun W => quotient_any 47 (.inl rfl) x y W
    have hb : binP 47 x y = quoP 47 x y := rfl
    rw [hb]
    clear hb
    generalize quoP 47 x y = r at *
    show Calls Tryd.prog 70 #[.int .u8 47, .int .i32 x, .int .i32 y] w _
    go_enter Tryd.func70, Tryd.ntmps70
    go_wp2_with (go_at_call 78; refine (CQ.out _).mono ?_; rintro e w1 ⟨rfl, rfl⟩)
    go_ret
    exact ⟨rfl, rfl⟩
  · have CQ : Hid (∀ W, Calls Tryd.prog 78 #[.int .u8 109, .int .i32 x, .int .i32 y] W fun e w' => e = .returned (.int .i32 (quoP 109 x y)) ∧ W = w') := Lib.hid fun W => quotient_any 109 (.inr rfl) x y W
    have hb : binP 109 x y = quoP 109 x y := rfl
    rw [hb]
    clear hb
    generalize quoP 109 x y = r at *
    show Calls Tryd.prog 70 #[.int .u8 109, .int .i32 x, .int .i32 y] w _
    go_enter Tryd.func70, Tryd.ntmps70
    go_wp2_with (go_at_call 78; refine (CQ.out _).mono ?_; rintro e w1 ⟨rfl, rfl⟩)
    go_ret
    exact ⟨rfl, rfl⟩
  · have CT := Lib.hid (fun W => truth_any (x == y) W)
    have hb : binP 61 x y = truthP (x == y) := rfl
    rw [hb]
    clear hb
    generalize truthP (x == y) = r at *
    show Calls Tryd.prog 70 #[.int .u8 61, .int .i32 x, .int .i32 y] w _
    go_enter Tryd.func70, Tryd.ntmps70
    go_wp2_with (go_at_call 69; refine (CT.out _).mono ?_; rintro e w1 ⟨rfl, rfl⟩)
    go_ret
    exact ⟨rfl, rfl⟩
theorem field_num (W : World) (n : Int) (t : List UInt8) (b : Bool) : (Instr.field 32 (.agg #[.int .i32 n, str t, .bool b]) 0).run Tryd.prog W = .ok (.int .i32 n) W := by kernel_rfl
abbrev prmObj (q : PrmD) : Obj := .cells #[.int .i32 q.num, str q.text, .bool q.is] 32
set_option maxRecDepth 100000 in
set_option maxHeartbeats 4000000 in
theorem result_any (v : UInt8) (hv : isBin v) (w : World) (B : Nat) (K : Nat → Prop) (mb vb bm : Nat) (m : MD) (h : MachX w B K mb vb bm m) :
    Calls Tryd.prog 52 #[.pointer (some ⟨mb, 0, none⟩), .int .u8 v.toNat] w (OpPost w B K mb vb bm (popM (popM m)) (.int .i32 (binP v (topP (popM m)).num (topP m).num))) := by
  have CP := Lib.hid (pop_any w B K mb vb bm m h)
  have CQ : Hid (∀ w1, MachX w1 B K mb vb bm (popM m) → Calls Tryd.prog 45 #[.pointer (some ⟨mb, 0, none⟩)] (w1.alloc (prmObj (topP m))).drew (OpPost (w1.alloc (prmObj (topP m))).drew B (fun k => K k ∨ k = w1.heap.size) mb vb bm (popM (popM m)) (.agg #[.int .i32 (topP (popM m)).num, str (topP (popM m)).text, .bool (topP (popM m)).is]))) := Lib.hid fun w1 h1 => pop_any _ B _ mb vb bm (popM m) ((h1.keep (prmObj (topP m)) (fun cur e => by injection e with _ e; exact absurd e (by decide))).below (Below.refl _ _).drew)
  have CB := Lib.hid (fun W => binary_any v hv (topP (popM m)).num (topP m).num W)
  unfold OpPost at CP CQ
  unfold OpPost
  have q1 : ((v.toNat : Int) == 108) = false := by rcases hv with rfl | rfl | rfl | rfl | rfl | rfl <;> decide
  have q2 : ((v.toNat : Int) == 33) = false := by rcases hv with rfl | rfl | rfl | rfl | rfl | rfl <;> decide
  have q3 : ((v.toNat : Int) == 126) = false := by rcases hv with rfl | rfl | rfl | rfl | rfl | rfl <;> decide
  generalize binP v (topP (popM m)).num (topP m).num = r at *
  generalize topP (popM m) = p2 at *
  generalize topP m = p1 at *
  generalize popM (popM m) = m2 at *
  generalize popM m = m1 at *
  clear h hv
  have hfield := fun W => field_num W p2.num p2.text p2.is
  go_enter Tryd.func52, Tryd.ntmps52
  go_upto_region 9 with (go_at_call 45; refine (CP.out).mono ?_; rintro e w1 ⟨rfl, hm1, ht1⟩; have H1 := Lib.hid (And.intro hm1 ht1); clear hm1 ht1)
  obtain ⟨W0, hW0⟩ : ∃ W0, w1.alloc (prmObj p1) = W0 := ⟨_, rfl⟩
  have HW0 := Lib.hid hW0
  have hbx : W0.heap[w1.heap.size]? = some (prmObj p1) := by rw [← hW0]; exact alloc_new _ _
  have a0 := cell_of_row W0 _ 0 _ _ _ hbx
  have HBX := Lib.hid hbx
  have CQ2 := Lib.hid (CQ.out w1 H1.out.1)
  rw [hW0] at CQ2 ⊢
  clear hbx hW0
  go_region_held3 (fun w' => w'.cell? ⟨w1.heap.size, 0, none⟩ = some (.int .i32 p1.num)) (first | go_keep | assumption) (first
    | (go_at_call 45; refine (CQ2.out).mono ?_; rintro e w2 ⟨rfl, hm2, ht2⟩; have hbx2 := (ht2.block _ (Array.getElem?_eq_some_iff.1 HBX.out).1 (fun e => e.2 (.inr rfl))).trans HBX.out; have x0 : w2.cell? ⟨w1.heap.size, 0, none⟩ = some (.int .i32 p1.num) := cell_of_row _ _ 0 _ _ _ hbx2; have H2 := Lib.hid (And.intro hm2 ht2); clear hm2 ht2 hbx2)
    | (go_at_call 70; refine (CB.out _).mono ?_; rintro e w3 ⟨rfl, rfl⟩))
  all_goals
    go_wp2
    go_ret
    refine ⟨rfl, H2.out.1.less fun _ h => .inl h, ?_⟩
    have hn : Touch (Turns B bm K) w1 (w1.alloc (prmObj p1)) := touch_new (alloc_one _ _)
    rw [HW0.out] at hn
    exact H1.out.2.trans (hn.drew.trans (turns_less H2.out.2 fun _ h => .inl h))

theorem bin_ok {v : UInt8} (hv : isBin v) {x y : Int} (hx : -2147483648 ≤ x ∧ x ≤ 2147483647) (hy : -2147483648 ≤ y ∧ y ≤ 2147483647) : -2147483648 ≤ binP v x y ∧ binP v x y ≤ 2147483647 := by
  have hq : ∀ v, -2147483648 ≤ quoP v x y ∧ quoP v x y ≤ 2147483647 := fun v => by
    unfold quoP
    split
    · decide
    · split
      · exact wrap_ok _
      · next h0 _ =>
        have h1 := Int.natAbs_tmod x y
        have h2 : x.natAbs % y.natAbs ≤ x.natAbs := Nat.mod_le _ _
        have h3 : x.natAbs % y.natAbs < y.natAbs := Nat.mod_lt _ (Int.natAbs_pos.2 h0)
        omega
  have ht : ∀ b, -2147483648 ≤ truthP b ∧ truthP b ≤ 2147483647 := fun b => by cases b <;> decide
  rcases hv with rfl | rfl | rfl | rfl | rfl | rfl
  · exact wrap_ok _
  · exact wrap_ok _
  · exact wrap_ok _
  · exact hq 47
  · exact hq 109
  · exact ht _
set_option maxRecDepth 100000 in
set_option maxHeartbeats 4000000 in
theorem do_bin (it : ItemD) (hv : isBin it.verb) : DoSpec it (fun m => pushE' (popM (popM m)) ⟨binP it.verb (topP (popM m)).num (topP m).num, [], false⟩) := by
  intro w B K mb vb bm m h _ _
  obtain ⟨p, v, n, t, f⟩ := it
  have hv : isBin v := hv
  have CR := Lib.hid (result_any v hv (w.alloc (itemObj v.toNat n t f p)) B K mb vb bm m (h.below (alloc_one _ _)))
  have CU : Hid (∀ W, MachX W B K mb vb bm (popM (popM m)) → Calls Tryd.prog 49 #[.pointer (some ⟨mb, 0, none⟩), .agg #[.int .i32 (binP v (topP (popM m)).num (topP m).num), .string ⟨#[]⟩, .bool false]] W (DoPost W B K mb vb bm (pushE' (popM (popM m)) ⟨binP v (topP (popM m)).num (topP m).num, [], false⟩))) := Lib.hid fun W hW => push_e W B K mb vb bm _ hW ⟨binP v (topP (popM m)).num (topP m).num, [], false⟩
  unfold OpPost at CR
  unfold DoPost OpPost at CU
  unfold DoPost OpPost
  dsimp only
  have ne : ∀ d : Nat, d < 256 → (UInt8.ofNat d ≠ 43 ∧ UInt8.ofNat d ≠ 45 ∧ UInt8.ofNat d ≠ 42 ∧ UInt8.ofNat d ≠ 47 ∧ UInt8.ofNat d ≠ 109 ∧ UInt8.ofNat d ≠ 61) → ((v.toNat : Int) == (d : Int)) = false := fun d hd hn => by
    refine ne_byte (fun e => ?_) hd
    rcases hv with h | h | h | h | h | h <;> rw [h] at e
    · exact hn.1 e.symm
    · exact hn.2.1 e.symm
    · exact hn.2.2.1 e.symm
    · exact hn.2.2.2.1 e.symm
    · exact hn.2.2.2.2.1 e.symm
    · exact hn.2.2.2.2.2 e.symm
  have q1 := ne 37 (by decide) (by decide)
  have q2 := ne 99 (by decide) (by decide)
  have q3 := ne 100 (by decide) (by decide)
  have q4 := ne 111 (by decide) (by decide)
  have q5 := ne 120 (by decide) (by decide)
  have q6 := ne 88 (by decide) (by decide)
  have q7 := ne 115 (by decide) (by decide)
  have q8 := ne 105 (by decide) (by decide)
  have q9 := ne 80 (by decide) (by decide)
  have q10 := ne 112 (by decide) (by decide)
  have q11 := ne 103 (by decide) (by decide)
  have q12 := ne 123 (by decide) (by decide)
  generalize pushE' (popM (popM m)) ⟨binP v (topP (popM m)).num (topP m).num, [], false⟩ = r at *
  generalize binP v (topP (popM m)).num (topP m).num = z at *
  generalize popM (popM m) = m2 at *
  clear h hv ne
  show Calls Tryd.prog 32 #[.pointer (some ⟨mb, 0, none⟩), .agg #[.int .i64 p, .int .u8 v.toNat, .int .i32 n, str t, .bool f.left, .bool f.plus, .bool f.sharp, .bool f.blank, .bool f.zero, .int .i64 f.width, .int .i64 f.prec]] w _
  go_enter Tryd.func32, Tryd.ntmps32
  go_wp2_with (first
    | (go_at_call 52; (with_reducible refine (CR.out).mono ?_); rintro e w1 ⟨rfl, hm1, ht1⟩; have H1 := Lib.hid (And.intro hm1 ht1); clear hm1 ht1)
    | (go_at_call 49; (with_reducible refine (CU.out _ H1.out.1).mono ?_); rintro e w2 ⟨rfl, hm2, ht2⟩; have H2 := Lib.hid (And.intro hm2 ht2); clear hm2 ht2))
  go_ret
  exact ⟨rfl, H2.out.1, ((touch_new (alloc_one _ _)).trans H1.out.2).trans H2.out.2⟩
theorem does_bin {it : ItemD} (hv : isBin it.verb) : DoSpec it (ddE it) ∧ ∀ m, MOk m → MOk (ddE it m).2 := by
  have e : ddE it = fun m => pushE' (popM (popM m)) ⟨binP it.verb (topP (popM m)).num (topP m).num, [], false⟩ := by
    funext m
    unfold ddE
    have hne : it.verb ≠ 105 ∧ it.verb ≠ 112 ∧ it.verb ≠ 123 ∧ it.verb ≠ 100 ∧ it.verb ≠ 120 := by
      rcases hv with h | h | h | h | h | h <;> rw [h] <;> decide
    rw [if_neg hne.1, if_neg hne.2.1, if_neg hne.2.2.1, if_neg (fun e => e.elim hne.2.2.2.1 hne.2.2.2.2)]
  rw [e]
  exact ⟨do_bin it hv, fun m hm => push_ok (pop_ok (pop_ok hm)) (bin_ok hv (top_ok (pop_ok hm)) (top_ok hm))⟩
end Go.Proofs.YtgjebakjjgjojaaDoor
