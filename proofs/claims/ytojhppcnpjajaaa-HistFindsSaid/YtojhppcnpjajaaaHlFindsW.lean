/-
  The law's walk: what a search tells is there, and no line between has the text.
-/
import Derived.Test.YtojhppcnpjajaaaHlFind
namespace Go.Proofs.Ytojhppcnpjajaaa
open Go.RowKit Go.Shelf Go.Lib
attribute [local go_sem] Oper.semAt_some

theorem check_mem {xs : List HL} (h : checkP xs = 0) : ∀ x ∈ xs, x.1.size ≤ 16384 ∧ 0 ≤ x.2 := by
  unfold checkP at h
  split at h
  · cases h
  · next h1 =>
    split at h
    · cases h
    · next h2 =>
      intro x hx
      constructor
      · refine Nat.le_of_not_lt fun hlt => h1 (List.any_eq_true.2 ⟨x, hx, ?_⟩)
        exact decide_eq_true hlt
      · refine Int.not_lt.1 fun hlt => h2 (List.any_eq_true.2 ⟨x, hx, ?_⟩)
        exact decide_eq_true hlt
theorem push_mem {S : HS} {xs : List HL} : ∀ x ∈ (pushP S xs).ls, x ∈ S.ls ∨ x ∈ xs := by
  induction xs generalizing S with
  | nil => exact fun x hx => .inl hx
  | cons y r ih =>
    intro x hx
    rcases ih (S := push1 S y) x hx with h | h
    · have h2 := List.mem_of_mem_drop h
      simp only [put1, List.mem_append, List.mem_singleton] at h2
      rcases h2 with h2 | rfl
      · exact .inl h2
      · exact .inr (by simp)
    · exact .inr (by simp [h])
/-- what was pushed is within the bound -/
theorem trimP_all (l : List HL) : (pushP (hs0 4096) l).ls.length ≤ 4096 := by
  have key : ∀ (xs : List HL) (S : HS), S.ls.length ≤ 4096 → S.most = 4096 → (pushP S xs).ls.length ≤ 4096 := by
    intro xs
    induction xs with
    | nil => exact fun S h _ => h
    | cons y r ih => exact fun S h hm => ih (push1 S y) (by have := trimP_le (put1 S y); exact Nat.le_trans this (by show S.most ≤ _; omega)) hm
  exact key l (hs0 4096) (Nat.zero_le _) rfl
theorem quiet_same {f : FuncId} {args : Array Value} {w : World} {n : Nat} {v : Value} (h : Calls Try.prog f args (w.drewN n) fun e w' => e = .returned v ∧ w.drewN n = w') : Calls Try.prog f args (w.drewN n) fun e w'' => e = .returned v ∧ ∃ m, w'' = w.drewN m :=
  h.mono fun _ _ ⟨he, hm⟩ => ⟨he, n, hm.symm⟩
theorem below_drewN {w w' : World} {B : Nat} (h : Below B w w') (n : Nat) : Below B w (w'.drewN n) := ⟨h.os, h.tape, h.output, h.size, h.block⟩
theorem ext_drop (s : ByteArray) (j : Nat) : (s.extract j s.size).data.toList = s.data.toList.drop j := by
  rw [ByteArray.data_extract]
  simp
  exact List.take_of_length_le (by simp)
/-- what lies while the law asks: the text, begins, the history -/
structure FE (w : World) (hb g : Nat) (v : Value) (S : HS) (t : ByteArray) (begins : Bool) (W : World) : Prop where
  tb : Box W w.heap.size (.string t) 9
  bb : Box W (w.heap.size + 1) (.bool begins) 4
  hb' : Box W hb (.pointer (some ⟨g, 0, none⟩)) 24
  l : LAt W g v S
  m : MaxL W
  b : Below w.heap.size w W
theorem FE.below {w W W' : World} {hb g : Nat} {v : Value} {S : HS} {t : ByteArray} {begins : Bool} (h : FE w hb g v S t begins W) (hb' : Below W.heap.size W W') : FE w hb g v S t begins W' :=
  ⟨h.tb.same (hb'.block _ h.tb.lt), h.bb.same (hb'.block _ h.bb.lt), h.hb'.same (hb'.block _ h.hb'.lt), h.l.below hb', h.m.below hb', h.b.trans (hb'.mono h.b.size)⟩
set_option maxRecDepth 1000000 in
set_option maxHeartbeats 1000000 in
theorem has_is (w : World) (hb g : Nat) (v : Value) (S : HS) (t : ByteArray) (begins : Bool) (W : World) (h : FE w hb g v S t begins W) (hsz : ∀ x ∈ S.ls, x.1.size ≤ 16384) (k : Nat) (x : HL) (hx : S.ls[k]? = some x) :
    Calls Try.prog 30 #[.int .i64 (k : Int), .pointer (some ⟨hb, 0, none⟩), .pointer (some ⟨w.heap.size + 1, 0, none⟩), .pointer (some ⟨w.heap.size, 0, none⟩)] W fun e W' => e = .returned (.bool (hasP t begins x.1)) ∧ Below W.heap.size W W' := by
  have hk : k < S.ls.length := (List.getElem?_eq_some_iff.1 hx).1
  have CA := At_any W g v S h.l (k : Int)
  rw [lineAt_some hk, plc_iff.2 (by omega), (List.getElem?_eq_some_iff.1 hx).2] at CA
  have CA := Lib.hid CA
  have CH := Lib.hid fun W => hasPrefix_any W x.1 t
  have CC := Lib.hid fun W (hb : Below w.heap.size w W) (hm : MaxL W) => contains_any W x.1 t hm (hsz x (List.mem_of_getElem? hx))
  have c1 := h.hb'.cell
  have HE := Lib.hid h
  clear h hsz hx hk
  unfold hasP
  generalize hasPrefix x.1.data.toList t.data.toList = p at *
  generalize contains x.1.data.toList t.data.toList = q at *
  cases begins <;> cases p <;> cases q <;>
  · go_enter Try.func30, Try.ntmps30
    go_wp2_with (first
      | (go_at_call 31; refine (CA.out).mono ?_; rintro e w1 ⟨rfl, hb1⟩; have HE1 := Lib.hid (HE.out.below hb1); have HE2 := Lib.hid (HE1.out.below ((Below.refl w1.heap.size w1).alloc (Nat.le_refl _) (.cells #[.string x.1, .int .i64 x.2] 69))); have d0 := HE2.out.tb.cell; have d1 := HE2.out.bb.cell; have d2 := HE1.out.tb.cell; have d3 := HE1.out.bb.cell; have HB1 := Lib.hid hb1; clear hb1)
      | (go_at_call 32; refine (CH.out _).mono ?_; rintro e w2 ⟨rfl, rfl⟩)
      | (go_at_call 33; refine (CC.out _ HE2.out.b HE2.out.m).mono ?_; rintro e w2 ⟨rfl, rfl⟩))
    go_ret
    exact ⟨rfl, HB1.out.alloc HB1.out.size _⟩
set_option maxRecDepth 1000000 in
set_option maxHeartbeats 1000000 in
theorem finds_bad (w : World) (A : Option Addr) (m c : Nat) (l : List HL) (hv : HH w (.slice A m c) l) (hl : l.length ≤ 140737488355328) (hc : checkP l ≠ 0) (frm : Int) (t : ByteArray) (back begins : Bool) :
    Calls Try.prog 6 #[.slice A m c, .int .i64 frm, .string t, .bool back, .bool begins] w fun e w' => e = .returned (.bool true) ∧ Below w.heap.size w w' := by
  have hb0 := ((Below.refl w.heap.size w).alloc (Nat.le_refl _) (.cells #[.string t] 9)).alloc (by simp) (.cells #[.bool begins] 4)
  have hfe : fromErr 4096 l = checkP l := by unfold fromErr; rw [if_pos (by decide)]
  have CF := Lib.hid (from_bad _ 4096 _ l (hv.below hb0) hl (by rw [hfe]; exact hc))
  rw [hfe] at CF
  have HB0 := Lib.hid hb0
  have CB := Lib.hid fun W => begun_any W
  rcases checkP_cases l with h | h | h
  · exact absurd h hc
  all_goals
    rw [h] at CF
    clear hv hl hc hb0 hfe h
    go_enter Try.func6, Try.ntmps6
    go_wp2_with (first
      | (go_at_call 9; refine (CF.out).mono ?_; rintro e w1 ⟨rfl, hb⟩; have HB1 := Lib.hid ((HB0.out.trans (hb.mono HB0.out.size)).alloc (Nat.le_trans HB0.out.size hb.size) (.cells #[.pointer none] 24)); clear hb)
      | (go_at_call 13; refine (CB.out _).mono ?_; rintro e w2 ⟨rfl, hb⟩; have HB2 := Lib.hid (HB1.out.trans (hb.mono HB1.out.size)); clear hb))
    go_ret
    exact ⟨rfl, HB2.out⟩
set_option maxRecDepth 1000000 in
set_option maxHeartbeats 4000000 in
theorem finds_ok (w : World) (A : Option Addr) (m c : Nat) (l : List HL) (hv : HH w (.slice A m c) l) (hl : l.length ≤ 140737488355328) (hc : checkP l = 0) (hm : MaxL w) (frm : Int) (t : ByteArray) (back begins : Bool) :
    Calls Try.prog 6 #[.slice A m c, .int .i64 frm, .string t, .bool back, .bool begins] w fun e w' => e = .returned (.bool true) ∧ Below w.heap.size w w' := by
  have hb0 := ((Below.refl w.heap.size w).alloc (Nat.le_refl _) (.cells #[.string t] 9)).alloc (by simp) (.cells #[.bool begins] 4)
  have CF := Lib.hid (from_ok _ 4096 (Nat.le_refl _) _ l (hv.below hb0) hl hc)
  have hsz : ∀ x ∈ (pushP (hs0 4096) l).ls, x.1.size ≤ 16384 := fun x hx => (check_mem hc x ((push_mem x hx).elim (fun h => by cases h) id)).1
  obtain ⟨S, hS⟩ : ∃ S, S = pushP (hs0 4096) l := ⟨_, rfl⟩
  rw [← hS] at CF hsz
  have HSZ := Lib.hid hsz
  have HB0 := Lib.hid hb0
  have HM := Lib.hid hm
  have CB := Lib.hid fun W => begun_any W
  have CS := Lib.hid fun W hb g v (h : FE w hb g v S t begins W) => Search_any W g v S h.l h.m HSZ.out frm t back begins
  have CL := Lib.hid fun W hb g v (h : FE w hb g v S t begins W) => len_any W g v S h.l
  have CH := Lib.hid fun W hb g v (h : FE w hb g v S t begins W) k x (hx : S.ls[k]? = some x) => has_is w hb g v S t begins W h HSZ.out k x hx
  have FIRST : Hid (∀ g v w1, FreshL ((w.alloc (.cells #[.string t] 9)).alloc (.cells #[.bool begins] 4)) w1 g v S → FE w w1.heap.size g v S t begins (w1.alloc (.cells #[.pointer (some ⟨g, 0, none⟩)] 24))) := Lib.hid fun g v w1 h => by
    have hsz2 : ((w.alloc (.cells #[.string t] 9)).alloc (.cells #[.bool begins] 4)).heap.size = w.heap.size + 2 := by simp
    have hlt := h.below.size
    have hb1 := (Below.refl w1.heap.size w1).alloc (Nat.le_refl _) (.cells #[.pointer (some ⟨g, 0, none⟩)] 24)
    have hx := HB0.out.trans (h.below.mono HB0.out.size)
    refine ⟨?_, ?_, alloc_new _ _, h.at'.below hb1, ((HM.out.below HB0.out).below h.below).below hb1, hx.alloc hx.size _⟩
    · show _ = _
      rw [hb1.block _ (by omega), h.below.block _ (by omega)]
      exact alloc2_first w _ _
    · show _ = _
      rw [hb1.block _ (by omega), h.below.block _ (by omega)]
      have := alloc_new (w.alloc (.cells #[.string t] 9)) (.cells #[.bool begins] 4)
      rwa [show (w.alloc (.cells #[.string t] 9)).heap.size = w.heap.size + 1 by simp] at this
  rcases src_spec (findP t back begins) S.ls frm back with ⟨hr, hno⟩ | ⟨i, x, hx, hr, h0, hno, hend⟩
  · rw [hr] at CS
    have HNO : Hid (∀ (k : Nat) (x : HL), S.ls[k]? = some x → betw back frm k = true → hasP t begins x.1 = false) := Lib.hid fun k x hx hb => by
      rcases findP_spec t back begins x.1 with h | ⟨i, h, _⟩
      · exact h.2
      · have := hno k x hx hb; omega
    have HL4 : Hid (S.ls.length ≤ 4096) := Lib.hid (by rw [hS]; exact trimP_all l)
    obtain ⟨n, hn⟩ : ∃ n, n = S.ls.length := ⟨_, rfl⟩
    rw [← hn] at CL HL4
    have HN := Lib.hid hn
    clear hv hl hc hm hb0 hsz hr hno hS hn
    cases back with
    | true =>
      go_enter Try.func6, Try.ntmps6
      go_wp2_with (first
        | (go_at_call 9; refine (CF.out).mono ?_; rintro e w1 ⟨g, v, rfl, hf⟩; have HE1 := Lib.hid (FIRST.out g v w1 hf); clear hf)
        | (go_at_call 13; refine (CB.out _).mono ?_; rintro e w2 ⟨rfl, hb⟩; have HE2 := Lib.hid (HE1.out.below hb); have d0 := HE2.out.tb.cell; have d1 := HE2.out.bb.cell; have d2 := HE2.out.hb'.cell; clear hb)
        | (go_at_call 34; refine (CS.out _ _ _ _ HE2.out).mono ?_; rintro e w3 ⟨rfl, hb⟩; have HE3 := Lib.hid (HE2.out.below hb); have d3 := HE3.out.hb'.cell; clear hb)
        | (go_at_call 15; refine (CL.out _ _ _ _ HE3.out).mono ?_; rintro e w4 ⟨rfl, hb⟩; have HE4 := Lib.hid (HE3.out.below hb); clear hb))
      go_loopw [85] (fun z wr => ∃ k : Nat, k ≤ n ∧ z = .int .i64 (k : Int) ∧ FE w w1.heap.size g v S t begins wr) (fun z _ => n - (RowKit.intOf z).toNat)
      case atStart => exact ⟨0, Nat.zero_le _, rfl, HE4.out⟩
      case round =>
        obtain ⟨k, hk, rfl, hE⟩ := hrel
        have HE := Lib.hid hE
        by_cases hlt : k < n
        · have hx2 : S.ls[k]? = some (S.ls[k]'(by rw [← HN.out]; exact hlt)) := List.getElem?_eq_getElem _
          generalize S.ls[k]'(by rw [← HN.out]; exact hlt) = y at hx2
          have HX2 := Lib.hid hx2
          have HLT := Lib.hid hlt
          have i2 : ((k : Int) < (n : Int)) = True := eq_true (by omega)
          have i3 : (k < n) = True := eq_true hlt
          have hwk : wrap64 ((k : Int) + 1) = (k : Int) + 1 := by have := HL4.out; unfold wrap64; omega
          clear hk hE hlt hx2
          cases hc1 : decide ((k : Int) ≤ frm) with
          | false =>
            go_wp2_with fail
            go_roundw
            case rel => exact ⟨k + 1, HLT.out, next_val hwk, HE.out⟩
            case measure => exact measure_lt HLT.out hwk
          | true =>
            have CX := CH.out wr _ _ _ HE.out k y HX2.out
            rw [HNO.out k y HX2.out (by unfold betw; simpa using hc1)] at CX
            have CX := Lib.hid CX
            go_wp2_with (with_reducible refine (CX.out).mono ?_; rintro e w5 ⟨rfl, hb⟩; have HE5 := Lib.hid (HE.out.below hb); clear hb)
            go_roundw
            case rel => exact ⟨k + 1, HLT.out, next_val hwk, HE5.out⟩
            case measure => exact measure_lt HLT.out hwk
        · obtain rfl : k = n := by omega
          have i2 : ((k : Int) < (k : Int)) = False := by simp
          clear hlt hk hE
          go_wp2_with fail
          go_ret
          exact ⟨rfl, HE.out.b⟩
    | false =>
      go_enter Try.func6, Try.ntmps6
      go_wp2_with (first
        | (go_at_call 9; refine (CF.out).mono ?_; rintro e w1 ⟨g, v, rfl, hf⟩; have HE1 := Lib.hid (FIRST.out g v w1 hf); clear hf)
        | (go_at_call 13; refine (CB.out _).mono ?_; rintro e w2 ⟨rfl, hb⟩; have HE2 := Lib.hid (HE1.out.below hb); have d0 := HE2.out.tb.cell; have d1 := HE2.out.bb.cell; have d2 := HE2.out.hb'.cell; clear hb)
        | (go_at_call 34; refine (CS.out _ _ _ _ HE2.out).mono ?_; rintro e w3 ⟨rfl, hb⟩; have HE3 := Lib.hid (HE2.out.below hb); have d3 := HE3.out.hb'.cell; clear hb)
        | (go_at_call 15; refine (CL.out _ _ _ _ HE3.out).mono ?_; rintro e w4 ⟨rfl, hb⟩; have HE4 := Lib.hid (HE3.out.below hb); clear hb))
      go_loopw [85] (fun z wr => ∃ k : Nat, k ≤ n ∧ z = .int .i64 (k : Int) ∧ FE w w1.heap.size g v S t begins wr) (fun z _ => n - (RowKit.intOf z).toNat)
      case atStart => exact ⟨0, Nat.zero_le _, rfl, HE4.out⟩
      case round =>
        obtain ⟨k, hk, rfl, hE⟩ := hrel
        have HE := Lib.hid hE
        by_cases hlt : k < n
        · have hx2 : S.ls[k]? = some (S.ls[k]'(by rw [← HN.out]; exact hlt)) := List.getElem?_eq_getElem _
          generalize S.ls[k]'(by rw [← HN.out]; exact hlt) = y at hx2
          have HX2 := Lib.hid hx2
          have HLT := Lib.hid hlt
          have i2 : ((k : Int) < (n : Int)) = True := eq_true (by omega)
          have i3 : (k < n) = True := eq_true hlt
          have hwk : wrap64 ((k : Int) + 1) = (k : Int) + 1 := by have := HL4.out; unfold wrap64; omega
          clear hk hE hlt hx2
          cases hc1 : decide (frm ≤ (k : Int)) with
          | false =>
            go_wp2_with fail
            go_roundw
            case rel => exact ⟨k + 1, HLT.out, next_val hwk, HE.out⟩
            case measure => exact measure_lt HLT.out hwk
          | true =>
            have CX := CH.out wr _ _ _ HE.out k y HX2.out
            rw [HNO.out k y HX2.out (by unfold betw; simpa using hc1)] at CX
            have CX := Lib.hid CX
            go_wp2_with (with_reducible refine (CX.out).mono ?_; rintro e w5 ⟨rfl, hb⟩; have HE5 := Lib.hid (HE.out.below hb); clear hb)
            go_roundw
            case rel => exact ⟨k + 1, HLT.out, next_val hwk, HE5.out⟩
            case measure => exact measure_lt HLT.out hwk
        · obtain rfl : k = n := by omega
          have i2 : ((k : Int) < (k : Int)) = False := by simp
          clear hlt hk hE
          go_wp2_with fail
          go_ret
          exact ⟨rfl, HE.out.b⟩
  · rw [hr] at CS
    have HNO : Hid (∀ (k : Nat) (y : HL), S.ls[k]? = some y → betw back frm k = true → (if back then i < k else k < i) → hasP t begins y.1 = false) := Lib.hid fun k y hy hb hlt => by
      rcases findP_spec t back begins y.1 with h | ⟨j, h, _⟩
      · exact h.2
      · have := hno k y hy hb hlt; omega
    have HL4 : Hid (S.ls.length ≤ 4096) := Lib.hid (by rw [hS]; exact trimP_all l)
    have hin : i < S.ls.length := (List.getElem?_eq_some_iff.1 hx).1
    have CAT : Hid (∀ W hb g v, FE w hb g v S t begins W → Calls Try.prog 31 #[.pointer (some ⟨g, 0, none⟩), .int .i64 (i : Int)] W fun e w' => e = .returned (.tuple #[.agg #[.string x.1, .int .i64 x.2], .bool true]) ∧ Below W.heap.size W w') := Lib.hid fun W hb g v h => by
      have := At_any W g v S h.l (i : Int)
      rwa [lineAt_some hin, plc_iff.2 (by omega), (List.getElem?_eq_some_iff.1 hx).2] at this
    obtain ⟨at', hat, hatl, _, hpre, hbeg⟩ : ∃ j : Nat, findP t back begins x.1 = (j : Int) ∧ j ≤ x.1.size ∧ hasP t begins x.1 = true ∧ hasPrefix (x.1.data.toList.drop j) t.data.toList = true ∧ (begins = true → j = 0) := by
      rcases findP_spec t back begins x.1 with h | h
      · omega
      · exact h
    rw [hat] at CS
    have CHP : Hid (∀ W, Calls Try.prog 32 #[.string (x.1.extract at' x.1.size), .string t] W fun e w' => e = .returned (.bool true) ∧ W = w') := Lib.hid fun W => by
      have := hasPrefix_any W (x.1.extract at' x.1.size) t
      rwa [ext_drop, hpre] at this
    have HEND := Lib.hid hend
    have HAT := Lib.hid hatl
    have HBEG := Lib.hid hbeg
    have HIN := Lib.hid hin
    obtain ⟨n, hn⟩ : ∃ n, n = S.ls.length := ⟨_, rfl⟩
    rw [← hn] at CL HL4
    have HN := Lib.hid hn
    clear hv hl hc hm hb0 hsz hr hno hS hn hin hend hat hpre h0 hatl hbeg hx
    cases back with
    | true =>
      go_enter Try.func6, Try.ntmps6
      go_wp2_with (first
        | (go_at_call 9; refine (CF.out).mono ?_; rintro e w1 ⟨g, v, rfl, hf⟩; have HE1 := Lib.hid (FIRST.out g v w1 hf); clear hf)
        | (go_at_call 13; refine (CB.out _).mono ?_; rintro e w2 ⟨rfl, hb⟩; have HE2 := Lib.hid (HE1.out.below hb); have d0 := HE2.out.tb.cell; have d1 := HE2.out.bb.cell; have d2 := HE2.out.hb'.cell; clear hb)
        | (go_at_call 34; refine (CS.out _ _ _ _ HE2.out).mono ?_; rintro e w3 ⟨rfl, hb⟩; have HE3 := Lib.hid (HE2.out.below hb); have d3 := HE3.out.hb'.cell; clear hb)
        | (go_at_call 31; refine (CAT.out _ _ _ _ HE3.out).mono ?_; rintro e w5 ⟨rfl, hb⟩; have HE5a := Lib.hid (HE3.out.below hb); have HE5 := Lib.hid (HE5a.out.below ((Below.refl w5.heap.size w5).alloc (Nat.le_refl _) (.cells #[.string x.1, .int .i64 x.2] 69))); have d4 := HE5.out.tb.cell; have d5 := HE5.out.bb.cell; have d6 := HE5.out.hb'.cell; have d7 := HE5a.out.tb.cell; have d8 := HE5a.out.bb.cell; have d9 := HE5a.out.hb'.cell; clear hb))
      have b5 := cell_of_row _ _ 0 _ _ _ (alloc_new w5 (.cells #[.string x.1, .int .i64 x.2] 69))
      generalize w5.alloc (.cells #[.string x.1, .int .i64 x.2] 69) = W6 at *
      have g1 : decide ((at' : Int) < 0) = false := decide_eq_false (by omega)
      have g2 : decide (x.1.size < at') = false := decide_eq_false (by have := HAT.out; omega)
      have g3 : decide ((x.1.size : Int) < (at' : Int)) = false := decide_eq_false (by have := HAT.out; omega)
      have g4 : at' ≤ x.1.size := HAT.out
      cases begins with
      | true =>
        have g5 : ((at' : Int) != 0) = false := by have := HBEG.out rfl; simp [this]
        have g6 : ((at' : Int) == 0) = true := by have := HBEG.out rfl; simp [this]
        go_quiet ((go_at_call 32; exact quiet_same (CHP.out _)))
        clear g1 g2 g3 g4
        have HE6 := Lib.hid (HE5.out.below (below_drewN (Below.refl W6.heap.size W6) nq))
        go_wp2_with (go_at_call 15; refine (CL.out _ _ _ _ HE6.out).mono ?_; rintro e w4 ⟨rfl, hb⟩; have HE4 := Lib.hid (HE6.out.below hb); clear hb)
        go_loopw [85] (fun z wr => ∃ k : Nat, k ≤ n ∧ z = .int .i64 (k : Int) ∧ FE w w1.heap.size g v S t true wr) (fun z _ => n - (RowKit.intOf z).toNat)
        case atStart => exact ⟨0, Nat.zero_le _, rfl, HE4.out⟩
        case round =>
          obtain ⟨k, hk, rfl, hE⟩ := hrel
          have HE := Lib.hid hE
          by_cases hlt : k < n
          · have hx2 : S.ls[k]? = some (S.ls[k]'(by rw [← HN.out]; exact hlt)) := List.getElem?_eq_getElem _
            generalize S.ls[k]'(by rw [← HN.out]; exact hlt) = y at hx2
            have HX2 := Lib.hid hx2
            have HLT := Lib.hid hlt
            have i2 : ((k : Int) < (n : Int)) = True := eq_true (by omega)
            have i3 : (k < n) = True := eq_true hlt
            have hwk : wrap64 ((k : Int) + 1) = (k : Int) + 1 := by have := HL4.out; unfold wrap64; omega
            clear hk hE hlt hx2
            cases hc1 : decide ((k : Int) ≤ frm) with
            | false =>
              go_wp2_with fail
              go_roundw
              case rel => exact ⟨k + 1, HLT.out, next_val hwk, HE.out⟩
              case measure => exact measure_lt HLT.out hwk
            | true =>
              by_cases hc2 : i < k
              · have q1 : decide (i < k) = true := decide_eq_true hc2
                have q2 : decide ((i : Int) < (k : Int)) = true := decide_eq_true (by omega)
                have CX := CH.out wr _ _ _ HE.out k y HX2.out
                rw [HNO.out k y HX2.out (by unfold betw; simpa using hc1) (by simpa using hc2)] at CX
                have CX := Lib.hid CX
                clear hc2
                go_wp2_with (with_reducible refine (CX.out).mono ?_; rintro e w7 ⟨rfl, hb⟩; have HE7 := Lib.hid (HE.out.below hb); clear hb)
                go_roundw
                case rel => exact ⟨k + 1, HLT.out, next_val hwk, HE7.out⟩
                case measure => exact measure_lt HLT.out hwk
              · have q1 : decide (i < k) = false := decide_eq_false hc2
                have q2 : decide ((i : Int) < (k : Int)) = false := decide_eq_false (by omega)
                clear hc2
                go_wp2_with fail
                go_roundw
                case rel => exact ⟨k + 1, HLT.out, next_val hwk, HE.out⟩
                case measure => exact measure_lt HLT.out hwk
          · obtain rfl : k = n := by omega
            have i2 : ((k : Int) < (k : Int)) = False := by simp
            clear hlt hk hE
            have e1 : decide ((i : Int) ≤ max frm 0) = true := decide_eq_true (by simpa using HEND.out)
            go_wp2_with fail
            go_ret
            exact ⟨rfl, HE.out.b⟩
      | false =>
        go_quiet ((go_at_call 32; exact quiet_same (CHP.out _)))
        clear g1 g2 g3 g4
        have HE6 := Lib.hid (HE5.out.below (below_drewN (Below.refl W6.heap.size W6) nq))
        go_wp2_with (go_at_call 15; refine (CL.out _ _ _ _ HE6.out).mono ?_; rintro e w4 ⟨rfl, hb⟩; have HE4 := Lib.hid (HE6.out.below hb); clear hb)
        go_loopw [85] (fun z wr => ∃ k : Nat, k ≤ n ∧ z = .int .i64 (k : Int) ∧ FE w w1.heap.size g v S t false wr) (fun z _ => n - (RowKit.intOf z).toNat)
        case atStart => exact ⟨0, Nat.zero_le _, rfl, HE4.out⟩
        case round =>
          obtain ⟨k, hk, rfl, hE⟩ := hrel
          have HE := Lib.hid hE
          by_cases hlt : k < n
          · have hx2 : S.ls[k]? = some (S.ls[k]'(by rw [← HN.out]; exact hlt)) := List.getElem?_eq_getElem _
            generalize S.ls[k]'(by rw [← HN.out]; exact hlt) = y at hx2
            have HX2 := Lib.hid hx2
            have HLT := Lib.hid hlt
            have i2 : ((k : Int) < (n : Int)) = True := eq_true (by omega)
            have i3 : (k < n) = True := eq_true hlt
            have hwk : wrap64 ((k : Int) + 1) = (k : Int) + 1 := by have := HL4.out; unfold wrap64; omega
            clear hk hE hlt hx2
            cases hc1 : decide ((k : Int) ≤ frm) with
            | false =>
              go_wp2_with fail
              go_roundw
              case rel => exact ⟨k + 1, HLT.out, next_val hwk, HE.out⟩
              case measure => exact measure_lt HLT.out hwk
            | true =>
              by_cases hc2 : i < k
              · have q1 : decide (i < k) = true := decide_eq_true hc2
                have q2 : decide ((i : Int) < (k : Int)) = true := decide_eq_true (by omega)
                have CX := CH.out wr _ _ _ HE.out k y HX2.out
                rw [HNO.out k y HX2.out (by unfold betw; simpa using hc1) (by simpa using hc2)] at CX
                have CX := Lib.hid CX
                clear hc2
                go_wp2_with (with_reducible refine (CX.out).mono ?_; rintro e w7 ⟨rfl, hb⟩; have HE7 := Lib.hid (HE.out.below hb); clear hb)
                go_roundw
                case rel => exact ⟨k + 1, HLT.out, next_val hwk, HE7.out⟩
                case measure => exact measure_lt HLT.out hwk
              · have q1 : decide (i < k) = false := decide_eq_false hc2
                have q2 : decide ((i : Int) < (k : Int)) = false := decide_eq_false (by omega)
                clear hc2
                go_wp2_with fail
                go_roundw
                case rel => exact ⟨k + 1, HLT.out, next_val hwk, HE.out⟩
                case measure => exact measure_lt HLT.out hwk
          · obtain rfl : k = n := by omega
            have i2 : ((k : Int) < (k : Int)) = False := by simp
            clear hlt hk hE
            have e1 : decide ((i : Int) ≤ max frm 0) = true := decide_eq_true (by simpa using HEND.out)
            go_wp2_with fail
            go_ret
            exact ⟨rfl, HE.out.b⟩
    | false =>
      go_enter Try.func6, Try.ntmps6
      go_wp2_with (first
        | (go_at_call 9; refine (CF.out).mono ?_; rintro e w1 ⟨g, v, rfl, hf⟩; have HE1 := Lib.hid (FIRST.out g v w1 hf); clear hf)
        | (go_at_call 13; refine (CB.out _).mono ?_; rintro e w2 ⟨rfl, hb⟩; have HE2 := Lib.hid (HE1.out.below hb); have d0 := HE2.out.tb.cell; have d1 := HE2.out.bb.cell; have d2 := HE2.out.hb'.cell; clear hb)
        | (go_at_call 34; refine (CS.out _ _ _ _ HE2.out).mono ?_; rintro e w3 ⟨rfl, hb⟩; have HE3 := Lib.hid (HE2.out.below hb); have d3 := HE3.out.hb'.cell; clear hb)
        | (go_at_call 31; refine (CAT.out _ _ _ _ HE3.out).mono ?_; rintro e w5 ⟨rfl, hb⟩; have HE5a := Lib.hid (HE3.out.below hb); have HE5 := Lib.hid (HE5a.out.below ((Below.refl w5.heap.size w5).alloc (Nat.le_refl _) (.cells #[.string x.1, .int .i64 x.2] 69))); have d4 := HE5.out.tb.cell; have d5 := HE5.out.bb.cell; have d6 := HE5.out.hb'.cell; have d7 := HE5a.out.tb.cell; have d8 := HE5a.out.bb.cell; have d9 := HE5a.out.hb'.cell; clear hb))
      have b5 := cell_of_row _ _ 0 _ _ _ (alloc_new w5 (.cells #[.string x.1, .int .i64 x.2] 69))
      generalize w5.alloc (.cells #[.string x.1, .int .i64 x.2] 69) = W6 at *
      have g1 : decide ((at' : Int) < 0) = false := decide_eq_false (by omega)
      have g2 : decide (x.1.size < at') = false := decide_eq_false (by have := HAT.out; omega)
      have g3 : decide ((x.1.size : Int) < (at' : Int)) = false := decide_eq_false (by have := HAT.out; omega)
      have g4 : at' ≤ x.1.size := HAT.out
      cases begins with
      | true =>
        have g5 : ((at' : Int) != 0) = false := by have := HBEG.out rfl; simp [this]
        have g6 : ((at' : Int) == 0) = true := by have := HBEG.out rfl; simp [this]
        go_quiet ((go_at_call 32; exact quiet_same (CHP.out _)))
        clear g1 g2 g3 g4
        have HE6 := Lib.hid (HE5.out.below (below_drewN (Below.refl W6.heap.size W6) nq))
        go_wp2_with (go_at_call 15; refine (CL.out _ _ _ _ HE6.out).mono ?_; rintro e w4 ⟨rfl, hb⟩; have HE4 := Lib.hid (HE6.out.below hb); clear hb)
        go_loopw [85] (fun z wr => ∃ k : Nat, k ≤ n ∧ z = .int .i64 (k : Int) ∧ FE w w1.heap.size g v S t true wr) (fun z _ => n - (RowKit.intOf z).toNat)
        case atStart => exact ⟨0, Nat.zero_le _, rfl, HE4.out⟩
        case round =>
          obtain ⟨k, hk, rfl, hE⟩ := hrel
          have HE := Lib.hid hE
          by_cases hlt : k < n
          · have hx2 : S.ls[k]? = some (S.ls[k]'(by rw [← HN.out]; exact hlt)) := List.getElem?_eq_getElem _
            generalize S.ls[k]'(by rw [← HN.out]; exact hlt) = y at hx2
            have HX2 := Lib.hid hx2
            have HLT := Lib.hid hlt
            have i2 : ((k : Int) < (n : Int)) = True := eq_true (by omega)
            have i3 : (k < n) = True := eq_true hlt
            have hwk : wrap64 ((k : Int) + 1) = (k : Int) + 1 := by have := HL4.out; unfold wrap64; omega
            clear hk hE hlt hx2
            cases hc1 : decide (frm ≤ (k : Int)) with
            | false =>
              go_wp2_with fail
              go_roundw
              case rel => exact ⟨k + 1, HLT.out, next_val hwk, HE.out⟩
              case measure => exact measure_lt HLT.out hwk
            | true =>
              by_cases hc2 : k < i
              · have q1 : decide (k < i) = true := decide_eq_true hc2
                have q2 : decide ((k : Int) < (i : Int)) = true := decide_eq_true (by omega)
                have CX := CH.out wr _ _ _ HE.out k y HX2.out
                rw [HNO.out k y HX2.out (by unfold betw; simpa using hc1) (by simpa using hc2)] at CX
                have CX := Lib.hid CX
                clear hc2
                go_wp2_with (with_reducible refine (CX.out).mono ?_; rintro e w7 ⟨rfl, hb⟩; have HE7 := Lib.hid (HE.out.below hb); clear hb)
                go_roundw
                case rel => exact ⟨k + 1, HLT.out, next_val hwk, HE7.out⟩
                case measure => exact measure_lt HLT.out hwk
              · have q1 : decide (k < i) = false := decide_eq_false hc2
                have q2 : decide ((k : Int) < (i : Int)) = false := decide_eq_false (by omega)
                clear hc2
                go_wp2_with fail
                go_roundw
                case rel => exact ⟨k + 1, HLT.out, next_val hwk, HE.out⟩
                case measure => exact measure_lt HLT.out hwk
          · obtain rfl : k = n := by omega
            have i2 : ((k : Int) < (k : Int)) = False := by simp
            clear hlt hk hE
            have e1 : decide (frm ≤ (i : Int)) = true := decide_eq_true (by simpa using HEND.out)
            go_wp2_with fail
            go_ret
            exact ⟨rfl, HE.out.b⟩
      | false =>
        go_quiet ((go_at_call 32; exact quiet_same (CHP.out _)))
        clear g1 g2 g3 g4
        have HE6 := Lib.hid (HE5.out.below (below_drewN (Below.refl W6.heap.size W6) nq))
        go_wp2_with (go_at_call 15; refine (CL.out _ _ _ _ HE6.out).mono ?_; rintro e w4 ⟨rfl, hb⟩; have HE4 := Lib.hid (HE6.out.below hb); clear hb)
        go_loopw [85] (fun z wr => ∃ k : Nat, k ≤ n ∧ z = .int .i64 (k : Int) ∧ FE w w1.heap.size g v S t false wr) (fun z _ => n - (RowKit.intOf z).toNat)
        case atStart => exact ⟨0, Nat.zero_le _, rfl, HE4.out⟩
        case round =>
          obtain ⟨k, hk, rfl, hE⟩ := hrel
          have HE := Lib.hid hE
          by_cases hlt : k < n
          · have hx2 : S.ls[k]? = some (S.ls[k]'(by rw [← HN.out]; exact hlt)) := List.getElem?_eq_getElem _
            generalize S.ls[k]'(by rw [← HN.out]; exact hlt) = y at hx2
            have HX2 := Lib.hid hx2
            have HLT := Lib.hid hlt
            have i2 : ((k : Int) < (n : Int)) = True := eq_true (by omega)
            have i3 : (k < n) = True := eq_true hlt
            have hwk : wrap64 ((k : Int) + 1) = (k : Int) + 1 := by have := HL4.out; unfold wrap64; omega
            clear hk hE hlt hx2
            cases hc1 : decide (frm ≤ (k : Int)) with
            | false =>
              go_wp2_with fail
              go_roundw
              case rel => exact ⟨k + 1, HLT.out, next_val hwk, HE.out⟩
              case measure => exact measure_lt HLT.out hwk
            | true =>
              by_cases hc2 : k < i
              · have q1 : decide (k < i) = true := decide_eq_true hc2
                have q2 : decide ((k : Int) < (i : Int)) = true := decide_eq_true (by omega)
                have CX := CH.out wr _ _ _ HE.out k y HX2.out
                rw [HNO.out k y HX2.out (by unfold betw; simpa using hc1) (by simpa using hc2)] at CX
                have CX := Lib.hid CX
                clear hc2
                go_wp2_with (with_reducible refine (CX.out).mono ?_; rintro e w7 ⟨rfl, hb⟩; have HE7 := Lib.hid (HE.out.below hb); clear hb)
                go_roundw
                case rel => exact ⟨k + 1, HLT.out, next_val hwk, HE7.out⟩
                case measure => exact measure_lt HLT.out hwk
              · have q1 : decide (k < i) = false := decide_eq_false hc2
                have q2 : decide ((k : Int) < (i : Int)) = false := decide_eq_false (by omega)
                clear hc2
                go_wp2_with fail
                go_roundw
                case rel => exact ⟨k + 1, HLT.out, next_val hwk, HE.out⟩
                case measure => exact measure_lt HLT.out hwk
          · obtain rfl : k = n := by omega
            have i2 : ((k : Int) < (k : Int)) = False := by simp
            clear hlt hk hE
            have e1 : decide (frm ≤ (i : Int)) = true := decide_eq_true (by simpa using HEND.out)
            go_wp2_with fail
            go_ret
            exact ⟨rfl, HE.out.b⟩
end Go.Proofs.Ytojhppcnpjajaaa
