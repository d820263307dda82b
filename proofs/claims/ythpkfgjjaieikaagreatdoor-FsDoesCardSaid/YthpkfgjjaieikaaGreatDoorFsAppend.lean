/-
  What Append of package simfs returns and changes, for every file system, every path and every slice of bytes.
-/
import Derived.Test.YthpkfgjjaieikaaGreatDoorFsBegun
namespace Go.Proofs.YthpkfgjjaieikaaGreatDoor
open Go.RowKit Go.Shelf Go.Lib Go.Maps

theorem row_cells {W : World} {u : Value} {c : List UInt8} (hr : Row W u c) : ∀ k, u.ownBlock = some k → ∃ cur, W.heap[k]? = some (.cells cur 5 (0, 0)) := fun k hk => by
  rcases hr.2 with ⟨h1, _⟩ | ⟨g, cap, cur, hv, _, hh, _⟩
  · rw [h1] at hk; cases hk
  · rw [hv] at hk; injection hk with hk; subst hk; exact ⟨cur, hh⟩
theorem count_keep {s : St} {f : Int × Int × Int} (ho : StOk s) (hc : s.calls ≤ 4000000000000000000) (hf : f = (hitP { s with calls := s.calls + 1 }).1) : 0 ≤ f.2.2 := by
  have := hit_keep (s := { s with calls := s.calls + 1 }) ⟨ho.1, ho.2.1, ho.2.2.1, ho.2.2.2.1, ho.2.2.2.2.1, ho.2.2.2.2.2.1, by have := ho.2.2.2.2.2.2.1; show 0 ≤ s.calls + 1; omega, by show s.calls + 1 ≤ _; omega⟩
  rw [hf]
  exact this
theorem row_shape {W : World} {u : Value} {c : List UInt8} (hr : Row W u c) : ∃ A cap, u = .slice A c.length cap := by
  rcases hr.2 with ⟨h1, h0⟩ | ⟨g, cap, cur, hv, _⟩
  · exact ⟨none, 0, by rw [h1, h0]⟩
  · exact ⟨_, _, hv⟩

set_option maxRecDepth 100000 in
set_option maxHeartbeats 1000000 in
theorem append_err_none (w : World) (FP : Nat → Prop) (b bm : Nat) (es : List Ent) (s s1 : St) (p c : List UInt8) (v : Value) (hfd : findE es p = none) (h : FsAt w FP b bm es s) (ho : StOk s) (hc : s.calls ≤ 4000000000000000000) (x k y : Int) (h1 : countP s (goodP p) = ((x, k, y), 0, s1)) (hg : goodP p = true) (hv : Reads w v c) (hl : c.length ≤ 140737488355328)
    (he : checkP es p (((putP.oldP es p true).length : Int) + c.length) ≠ 0 ∨ k = 1) :
    Calls Tryz.prog 89 #[.pointer (some ⟨b, 0, none⟩), str p, v, .bool true] w (PutPost w FP b bm es p (putP es s p c true)) := by
  have CG := Lib.hid (good_any p w)
  have CC := Lib.hid (fun (W : World) (hW : Below w.heap.size w W) => count_any W FP b bm es s (goodP p) (h.below hW) ho hc)
  have hP : putP es s p c true = (orP (errnoP k) (checkP es p (((putP.oldP es p true).length : Int) + c.length)), none, s1) := by
    unfold putP
    rw [h1, if_neg (fun h => h rfl), if_pos he]
  rw [h1] at CC
  have HP := Lib.hid hP
  have HO := Lib.hid h.own
  have HK := Lib.hid (keyStr p (good_short' hg))
  have CK := Lib.hid (fun (W : World) (hW : FsAt W FP b bm es s1) => checkPut_any W FP b bm es s1 p (((putP.oldP es p true).length : Int) + c.length) hW (good_short' hg))
  generalize checkP es p (((putP.oldP es p true).length : Int) + c.length) = er at *
  obtain ⟨A, cap, rfl, _⟩ := hv
  have HS := Lib.hid (fun z hz => (h.files.small z hz).2)
  clear h ho hc h1 hP hg
  have hor : ((er != 0) = true) ∨ (er = 0 ∧ k = 1) := by
    by_cases h0 : er = 0
    · exact .inr ⟨h0, he.resolve_left (fun h => h h0)⟩
    · exact .inl (by simpa using h0)
  clear he
  have hod : (putP.oldP es p true).length = 0 := by simp [putP.oldP, hfd]
  have HFD := Lib.hid hfd
  rw [hod, show (((0 : Nat) : Int) + (c.length : Int)) = (c.length : Int) by omega] at CK
  clear hod hfd
  rcases hor with hq | ⟨rfl, rfl⟩
  all_goals
    go_enter Tryz.func89, Tryz.ntmps89
    go_wp2_with (first
      | (go_at_call 91; refine (CG.out).mono ?_; rintro e w1 ⟨rfl, hb1⟩)
      | (go_at_call 156; refine (CC.out _ hb1).mono ?_; rintro e w2 ⟨rfl, hF2, hT2⟩; have c2 := fun o => (hF2.alloc o).cell0; have HF2 := Lib.hid hF2; have HT2 := Lib.hid hT2; clear hF2 hT2)
      | (at_lookup; refine wpList_lookup_none _ rfl _ _ rfl bm es p rfl (HF2.out.alloc _).files.map rfl HK.out HFD.out ?_)
      | (go_at_call 157; (with_reducible refine (CK.out _ (HF2.out.alloc _)).mono ?_); rintro e w3 ⟨rfl, hb3⟩; have hbk := box_after hb3; obtain ⟨d0, d1, d2, g0, g1, g2⟩ := three_cells hbk; clear hbk)
      | (go_at_call 159; refine (errno_any (_, _, _) _).mono ?_; rintro e w4 ⟨rfl, hb4⟩)
      | (go_at_call 158; refine (or_new _ _ _).mono ?_; rintro e w5 ⟨rfl, rfl⟩))
    go_ret
    rw [HP.out]
    exact ⟨es, rfl, ((((HF2.out.alloc _).below hb3).below hb4).alloc _).more (fun _ h => .inl h), touch_own (((((Touch.of_below hb1).trans HT2.out).trans (Touch.alloc _ _ _)).trans (Touch.of_below hb3)).trans ((Touch.of_below hb4).trans (Touch.alloc _ _ _))) HO.out, rfl⟩


set_option maxRecDepth 100000 in
set_option maxHeartbeats 1000000 in
theorem append_err_some (w : World) (FP : Nat → Prop) (b bm : Nat) (es : List Ent) (s s1 : St) (p c : List UInt8) (v : Value) (yp yd : List UInt8) (A0 : Option Addr) (cap0 : Nat) (hfd : findE es p = some ⟨yp, .slice A0 yd.length cap0, yd⟩) (h : FsAt w FP b bm es s) (ho : StOk s) (hc : s.calls ≤ 4000000000000000000) (x k y : Int) (h1 : countP s (goodP p) = ((x, k, y), 0, s1)) (hg : goodP p = true) (hv : Reads w v c) (hl : c.length ≤ 140737488355328)
    (he : checkP es p (((putP.oldP es p true).length : Int) + c.length) ≠ 0 ∨ k = 1) :
    Calls Tryz.prog 89 #[.pointer (some ⟨b, 0, none⟩), str p, v, .bool true] w (PutPost w FP b bm es p (putP es s p c true)) := by
  have CG := Lib.hid (good_any p w)
  have CC := Lib.hid (fun (W : World) (hW : Below w.heap.size w W) => count_any W FP b bm es s (goodP p) (h.below hW) ho hc)
  have hP : putP es s p c true = (orP (errnoP k) (checkP es p (((putP.oldP es p true).length : Int) + c.length)), none, s1) := by
    unfold putP
    rw [h1, if_neg (fun h => h rfl), if_pos he]
  rw [h1] at CC
  have HP := Lib.hid hP
  have HO := Lib.hid h.own
  have HK := Lib.hid (keyStr p (good_short' hg))
  have CK := Lib.hid (fun (W : World) (hW : FsAt W FP b bm es s1) => checkPut_any W FP b bm es s1 p (((putP.oldP es p true).length : Int) + c.length) hW (good_short' hg))
  generalize checkP es p (((putP.oldP es p true).length : Int) + c.length) = er at *
  obtain ⟨A, cap, rfl, _⟩ := hv
  have HS := Lib.hid (fun z hz => (h.files.small z hz).2)
  have hyl0 : yd.length ≤ 1048576 := (h.files.small _ (findE_mem hfd).1).2
  clear h ho hc h1 hP hg
  have hor : ((er != 0) = true) ∨ (er = 0 ∧ k = 1) := by
    by_cases h0 : er = 0
    · exact .inr ⟨h0, he.resolve_left (fun h => h h0)⟩
    · exact .inl (by simpa using h0)
  clear he
  have hod : putP.oldP es p true = yd := by simp [putP.oldP, hfd]
  rw [hod] at CK
  have HFD := Lib.hid hfd
  have hyl := hyl0
  clear hod hfd hyl0
  rcases hor with hq | ⟨rfl, rfl⟩
  all_goals
    go_enter Tryz.func89, Tryz.ntmps89
    go_wp2_with (first
      | (go_at_call 91; refine (CG.out).mono ?_; rintro e w1 ⟨rfl, hb1⟩)
      | (go_at_call 156; refine (CC.out _ hb1).mono ?_; rintro e w2 ⟨rfl, hF2, hT2⟩; have c2 := fun o => (hF2.alloc o).cell0; have HF2 := Lib.hid hF2; have HT2 := Lib.hid hT2; clear hF2 hT2)
      | (at_lookup; refine wpList_lookup_held _ rfl _ _ rfl bm es p ⟨yp, .slice A0 yd.length cap0, yd⟩ rfl (HF2.out.alloc _).files.map rfl HK.out HFD.out ?_)
      | (go_at_call 157; (with_reducible refine (CK.out _ (HF2.out.alloc _)).mono ?_); rintro e w3 ⟨rfl, hb3⟩; have hbk := box_after hb3; obtain ⟨d0, d1, d2, g0, g1, g2⟩ := three_cells hbk; clear hbk)
      | (go_at_call 159; refine (errno_any (_, _, _) _).mono ?_; rintro e w4 ⟨rfl, hb4⟩)
      | (go_at_call 158; refine (or_new _ _ _).mono ?_; rintro e w5 ⟨rfl, rfl⟩))
    go_ret
    rw [HP.out]
    exact ⟨es, rfl, ((((HF2.out.alloc _).below hb3).below hb4).alloc _).more (fun _ h => .inl h), touch_own (((((Touch.of_below hb1).trans HT2.out).trans (Touch.alloc _ _ _)).trans (Touch.of_below hb3)).trans ((Touch.of_below hb4).trans (Touch.alloc _ _ _))) HO.out, rfl⟩


set_option maxRecDepth 100000 in
set_option maxHeartbeats 1000000 in
theorem append_ok_none (w : World) (FP : Nat → Prop) (b bm : Nat) (es : List Ent) (s s1 : St) (p c : List UInt8) (v : Value) (hfd : findE es p = none) (h : FsAt w FP b bm es s) (ho : StOk s) (hc : s.calls ≤ 4000000000000000000) (x k y : Int) (h1 : countP s (goodP p) = ((x, k, y), 0, s1)) (hg : goodP p = true) (hv : ∀ W, Touch FP w W → Reads W v c) (hl : c.length ≤ 140737488355328)
    (hy : 0 ≤ y) (hes : es.length ≤ 4096) (her : checkP es p (((putP.oldP es p true).length : Int) + c.length) = 0) (hk : k ≠ 1) :
    Calls Tryz.prog 89 #[.pointer (some ⟨b, 0, none⟩), str p, v, .bool true] w (PutPost w FP b bm es p (putP es s p c true)) := by
  have CG := Lib.hid (good_any p w)
  have CC := Lib.hid (fun (W : World) (hW : Below w.heap.size w W) => count_any W FP b bm es s (goodP p) (h.below hW) ho hc)
  have hP : putP es s p c true = (errnoP k, some (writtenP (x, k, y) c), s1) := by
    have ho' : putP.oldP es p true = [] := by simp [putP.oldP, hfd]
    unfold putP
    rw [h1, if_neg (fun h => h rfl), if_neg (fun h => h.elim (fun h => h her) hk), ho']
    rfl
  rw [h1] at CC
  have HP := Lib.hid hP
  have HO := Lib.hid h.own
  have HK := Lib.hid (keyStr p (good_short' hg))
  have hod : (putP.oldP es p true).length = 0 := by simp [putP.oldP, hfd]
  have HFD := Lib.hid hfd
  rw [hod, show (((0 : Nat) : Int) + (c.length : Int)) = (c.length : Int) by omega] at her
  have CK := Lib.hid (fun (W : World) (hW : FsAt W FP b bm es s1) => checkPut_any W FP b bm es s1 p (c.length : Int) hW (good_short' hg))
  rw [her] at CK
  have hcl : c.length ≤ 1048576 := by
    unfold checkP at her
    split at her
    · simp at her
    · split at her
      · simp at her
      · omega
  have hwl : (writtenP (x, k, y) c).length ≤ 1048576 := by
    unfold writtenP
    split
    · exact hcl
    · rw [List.length_take]; omega
  have HWL := Lib.hid hwl
  have HV := Lib.hid hv
  have CW := Lib.hid (fun (W : World) (hW : Touch FP w W) => written_any (x, k, y) v c W (hv W hW) (by omega) hy)
  obtain ⟨A, cap, rfl, _⟩ := hv w (Touch.refl _ _)
  have HG := Lib.hid (goodP_len hg)
  have hk1 : (k == 1) = false := by simpa using hk
  clear h ho hc h1 hP hg hv hod hfd her hcl hwl hk
  go_enter Tryz.func89, Tryz.ntmps89
  go_wp2_with (first
    | (go_at_call 91; refine (CG.out).mono ?_; rintro e w1 ⟨rfl, hb1⟩)
    | (go_at_call 156; refine (CC.out _ hb1).mono ?_; rintro e w2 ⟨rfl, hF2, hT2⟩; have c2 := fun o => (hF2.alloc o).cell0; have HF2 := Lib.hid hF2; have HT2 := Lib.hid hT2; clear hF2 hT2)
    | (at_lookup; refine wpList_lookup_none _ rfl _ _ rfl bm es p rfl (HF2.out.alloc _).files.map rfl HK.out HFD.out ?_)
    | (go_at_call 157; (with_reducible refine (CK.out _ (HF2.out.alloc _)).mono ?_); rintro e w3 ⟨rfl, hb3⟩; have hbk := box_after hb3; obtain ⟨d0, d1, d2, g0, g1, g2⟩ := three_cells hbk; have HBK := Lib.hid hbk; have hF3 := (HF2.out.alloc (.cells #[.int .i64 x, .int .i64 k, .int .i64 y] 70)).below hb3; have c3 := hF3.cell0; have HF3 := Lib.hid hF3; have HT3 := Lib.hid (touch_own (FP := FP) (((Touch.of_below hb1).trans HT2.out).trans ((Touch.alloc _ _ (.cells #[.int .i64 x, .int .i64 k, .int .i64 y] 70)).trans (Touch.of_below hb3))) HO.out); clear hbk hF3))
  go_region_law (first
    | (refine step_append_row rfl _ _ rfl (.slice none 0 0) [] rfl (World.ownsRow_nil _ _ _ _) v5 (writtenP (x, k, y) c) rfl HR5.out (by have := HWL.out; simp; omega) ?_; intro v6 w6 hrow6 hg6 hloc6; obtain ⟨hm6, e0, e1, e2, c6, hbk6⟩ := after_append HF5.out HBK5.out hsz5 hg6 (fun k e => by cases e); obtain ⟨w7, hrun7, hm7, hg7⟩ := run_map_put w6 bm es ⟨p, v6, writtenP (x, k, y) c⟩ hm6 (by omega) HK.out; have HROW6 := Lib.hid hrow6; have HG6 := Lib.hid hg6; have HLOC6 := Lib.hid hloc6; have HBK6 := Lib.hid hbk6; have HM7 := Lib.hid hm7; have HG7 := Lib.hid hg7; clear hrow6 hg6 hloc6 hm6 hbk6 hm7 hg7)
    | (go_simp; go_at_call 160; refine (CW.out _ HT3.out.drew).mono ?_; rintro e w5 ⟨v5, rfl, hr5, hb5⟩; have hF5 := HF3.out.drew.below hb5; have c5 := hF5.cell0; have hbk5 := (hb5.block w2.heap.size (by have := (Array.getElem?_eq_some_iff.1 HBK.out).1; exact this)).trans HBK.out; obtain ⟨x0, x1, x2, _, _, _⟩ := three_cells hbk5; have HF5 := Lib.hid hF5; have HR5 := Lib.hid hr5; have HBK5 := Lib.hid hbk5; have HB5 := Lib.hid hb5; have hsz5 : w2.heap.size < w5.heap.size := (Array.getElem?_eq_some_iff.1 hbk5).1; clear hF5 hr5 hbk5 hb5))
  all_goals
    obtain ⟨hF7, hT7⟩ := put_files (w := w) (p := p) HF5.out (by have := HT3.out.size; have := HB5.out.size; exact Nat.le_trans ‹_› ‹_›) (.inl rfl) HG6.out HROW6.out HLOC6.out HM7.out HG7.out HG.out HWL.out
    obtain ⟨y0, y1, y2⟩ := after_store HBK6.out HG7.out HF5.out HBK5.out
    have HF7 := Lib.hid hF7
    have HT7 := Lib.hid hT7
    clear hF7 hT7
    go_wp2_with (go_at_call 159; refine (errno_any (_, _, _) _).mono ?_; rintro e w8 ⟨rfl, hb8⟩)
    go_ret
    rw [HP.out]
    exact ⟨_, rfl, HF7.out.below hb8, (HT3.out.drew.trans (Touch.of_below HB5.out)).later' HT7.out hb8, _, rfl⟩


set_option maxRecDepth 100000 in
set_option maxHeartbeats 1000000 in
theorem append_ok_some (w : World) (FP : Nat → Prop) (b bm : Nat) (es : List Ent) (s s1 : St) (p c : List UInt8) (v : Value) (yp yd : List UInt8) (A0 : Option Addr) (cap0 : Nat) (hfd : findE es p = some ⟨yp, .slice A0 yd.length cap0, yd⟩) (h : FsAt w FP b bm es s) (ho : StOk s) (hc : s.calls ≤ 4000000000000000000) (x k y : Int) (h1 : countP s (goodP p) = ((x, k, y), 0, s1)) (hg : goodP p = true) (hv : ∀ W, Touch FP w W → Reads W v c) (hl : c.length ≤ 140737488355328)
    (hy : 0 ≤ y) (hes : es.length ≤ 4096) (her : checkP es p (((putP.oldP es p true).length : Int) + c.length) = 0) (hk : k ≠ 1) :
    Calls Tryz.prog 89 #[.pointer (some ⟨b, 0, none⟩), str p, v, .bool true] w (PutPost w FP b bm es p (putP es s p c true)) := by
  have CG := Lib.hid (good_any p w)
  have CC := Lib.hid (fun (W : World) (hW : Below w.heap.size w W) => count_any W FP b bm es s (goodP p) (h.below hW) ho hc)
  have hP : putP es s p c true = (errnoP k, some (yd ++ writtenP (x, k, y) c), s1) := by
    have ho' : putP.oldP es p true = yd := by simp [putP.oldP, hfd]
    unfold putP
    rw [h1, if_neg (fun h => h rfl), if_neg (fun h => h.elim (fun h => h her) hk), ho']
  rw [h1] at CC
  have HP := Lib.hid hP
  have HO := Lib.hid h.own
  have HK := Lib.hid (keyStr p (good_short' hg))
  have hod : putP.oldP es p true = yd := by simp [putP.oldP, hfd]
  have HFD := Lib.hid hfd
  have hyl : yd.length ≤ 1048576 := (h.files.small _ (findE_mem hfd).1).2
  rw [hod] at her
  have CK := Lib.hid (fun (W : World) (hW : FsAt W FP b bm es s1) => checkPut_any W FP b bm es s1 p ((yd.length : Int) + (c.length : Int)) hW (good_short' hg))
  rw [her] at CK
  have hcl : yd.length + c.length ≤ 1048576 := by
    unfold checkP at her
    split at her
    · simp at her
    · split at her
      · simp at her
      · omega
  have hwl : (yd ++ writtenP (x, k, y) c).length ≤ 1048576 := by
    rw [List.length_append]
    unfold writtenP
    split
    · exact hcl
    · rw [List.length_take]; omega
  have HWL := Lib.hid hwl
  have HV := Lib.hid hv
  have CW := Lib.hid (fun (W : World) (hW : Touch FP w W) => written_any (x, k, y) v c W (hv W hW) (by omega) hy)
  obtain ⟨A, cap, rfl, _⟩ := hv w (Touch.refl _ _)
  have HG := Lib.hid (goodP_len hg)
  have hk1 : (k == 1) = false := by simpa using hk
  clear h ho hc h1 hP hg hv hod hfd her hcl hwl hk
  go_enter Tryz.func89, Tryz.ntmps89
  go_wp2_with (first
    | (go_at_call 91; refine (CG.out).mono ?_; rintro e w1 ⟨rfl, hb1⟩)
    | (go_at_call 156; refine (CC.out _ hb1).mono ?_; rintro e w2 ⟨rfl, hF2, hT2⟩; have c2 := fun o => (hF2.alloc o).cell0; have HF2 := Lib.hid hF2; have HT2 := Lib.hid hT2; clear hF2 hT2)
    | (at_lookup; refine wpList_lookup_held _ rfl _ _ rfl bm es p ⟨yp, .slice A0 yd.length cap0, yd⟩ rfl (HF2.out.alloc _).files.map rfl HK.out HFD.out ?_)
    | (go_at_call 157; (with_reducible refine (CK.out _ (HF2.out.alloc _)).mono ?_); rintro e w3 ⟨rfl, hb3⟩; have hbk := box_after hb3; obtain ⟨d0, d1, d2, g0, g1, g2⟩ := three_cells hbk; have HBK := Lib.hid hbk; have hF3 := (HF2.out.alloc (.cells #[.int .i64 x, .int .i64 k, .int .i64 y] 70)).below hb3; have c3 := hF3.cell0; have HF3 := Lib.hid hF3; have HT3 := Lib.hid (touch_own (FP := FP) (((Touch.of_below hb1).trans HT2.out).trans ((Touch.alloc _ _ (.cells #[.int .i64 x, .int .i64 k, .int .i64 y] 70)).trans (Touch.of_below hb3))) HO.out); clear hbk hF3))
  go_region_law (first
    | (refine step_append_row rfl _ _ rfl (.slice A0 yd.length cap0) yd rfl (HF5.out.files.rows _ (findE_mem HFD.out).1).1 v5 (writtenP (x, k, y) c) rfl HR5.out (by have := HWL.out; rw [List.length_append] at this; omega) ?_; intro v6 w6 hrow6 hg6 hloc6; obtain ⟨hm6, e0, e1, e2, c6, hbk6⟩ := after_append HF5.out HBK5.out hsz5 hg6 (row_cells (HF5.out.files.rows _ (findE_mem HFD.out).1).1); obtain ⟨w7, hrun7, hm7, hg7⟩ := run_map_put w6 bm es ⟨p, v6, yd ++ writtenP (x, k, y) c⟩ hm6 (by omega) HK.out; have HROW6 := Lib.hid hrow6; have HG6 := Lib.hid hg6; have HLOC6 := Lib.hid hloc6; have HBK6 := Lib.hid hbk6; have HM7 := Lib.hid hm7; have HG7 := Lib.hid hg7; clear hrow6 hg6 hloc6 hm6 hbk6 hm7 hg7)
    | (go_simp; go_at_call 160; refine (CW.out _ HT3.out.drew).mono ?_; rintro e w5 ⟨v5, rfl, hr5, hb5⟩; have hF5 := HF3.out.drew.below hb5; have c5 := hF5.cell0; have hbk5 := (hb5.block w2.heap.size (by have := (Array.getElem?_eq_some_iff.1 HBK.out).1; exact this)).trans HBK.out; obtain ⟨x0, x1, x2, _, _, _⟩ := three_cells hbk5; have HF5 := Lib.hid hF5; have HR5 := Lib.hid hr5; have HBK5 := Lib.hid hbk5; have HB5 := Lib.hid hb5; have hsz5 : w2.heap.size < w5.heap.size := (Array.getElem?_eq_some_iff.1 hbk5).1; clear hF5 hr5 hbk5 hb5))
  all_goals
    obtain ⟨hF7, hT7⟩ := put_files (w := w) (p := p) HF5.out (by have := HT3.out.size; have := HB5.out.size; exact Nat.le_trans ‹_› ‹_›) (.inr ⟨_, (findE_mem HFD.out).1, (findE_mem HFD.out).2, rfl⟩) HG6.out HROW6.out HLOC6.out HM7.out HG7.out HG.out HWL.out
    obtain ⟨y0, y1, y2⟩ := after_store HBK6.out HG7.out HF5.out HBK5.out
    have HF7 := Lib.hid hF7
    have HT7 := Lib.hid hT7
    clear hF7 hT7
    go_wp2_with (go_at_call 159; refine (errno_any (_, _, _) _).mono ?_; rintro e w8 ⟨rfl, hb8⟩)
    go_ret
    rw [HP.out]
    exact ⟨_, rfl, HF7.out.below hb8, (HT3.out.drew.trans (Touch.of_below HB5.out)).later' HT7.out hb8, _, rfl⟩


theorem put_a (w : World) (FP : Nat → Prop) (b bm : Nat) (es : List Ent) (s : St) (p c : List UInt8) (v : Value) (h : FsAt w FP b bm es s) (ho : StOk s) (hc : s.calls ≤ 4000000000000000000) (hv : ∀ W, Touch FP w W → Reads W v c) (hl : c.length ≤ 140737488355328) (hes : es.length ≤ 4096) :
    Calls Tryz.prog 89 #[.pointer (some ⟨b, 0, none⟩), str p, v, .bool true] w (PutPost w FP b bm es p (putP es s p c true)) := by
  rcases count_cases s (goodP p) with ⟨k, hk, h1, _⟩ | ⟨⟨x, k, y⟩, s1, h1, _⟩
  · exact put_down w FP b bm es s p c v true h ho hc k hk h1
  · obtain ⟨hg, _, hf, _⟩ := count_good h1
    cases hfd : findE es p with
    | none =>
      by_cases he : checkP es p (((putP.oldP es p true).length : Int) + c.length) ≠ 0 ∨ k = 1
      · exact append_err_none w FP b bm es s s1 p c v hfd h ho hc x k y h1 hg (hv w (Touch.refl _ _)) hl he
      · exact append_ok_none w FP b bm es s s1 p c v hfd h ho hc x k y h1 hg hv hl (count_keep ho hc hf) hes (Decidable.byContradiction fun h0 => he (.inl h0)) (fun h0 => he (.inr h0))
    | some z =>
      obtain ⟨yp, yv, yd⟩ := z
      obtain ⟨A0, cap0, hyv⟩ := row_shape (h.files.rows _ (findE_mem hfd).1).1
      simp only at hyv
      subst hyv
      by_cases he : checkP es p (((putP.oldP es p true).length : Int) + c.length) ≠ 0 ∨ k = 1
      · exact append_err_some w FP b bm es s s1 p c v yp yd A0 cap0 hfd h ho hc x k y h1 hg (hv w (Touch.refl _ _)) hl he
      · exact append_ok_some w FP b bm es s s1 p c v yp yd A0 cap0 hfd h ho hc x k y h1 hg hv hl (count_keep ho hc hf) hes (Decidable.byContradiction fun h0 => he (.inl h0)) (fun h0 => he (.inr h0))

theorem append_any (w : World) (FP : Nat → Prop) (b bm : Nat) (es : List Ent) (s : St) (p c : List UInt8) (v : Value) (h : FsAt w FP b bm es s) (ho : StOk s) (hc : s.calls ≤ 4000000000000000000) (hv : ∀ W, Touch FP w W → Reads W v c) (hl : c.length ≤ 140737488355328) (hes : es.length ≤ 4096) :
    Calls Tryz.prog 35 #[.pointer (some ⟨b, 0, none⟩), str p, v] w (PutPost w FP b bm es p (putP es s p c true)) := by
  have CP := Lib.hid (put_a w FP b bm es s p c v h ho hc hv hl hes)
  obtain ⟨A, cap, rfl, _⟩ := hv w (Touch.refl _ _)
  clear h ho hc hv hl hes
  go_enter Tryz.func35, Tryz.ntmps35
  go_wp2_with (go_at_call 89; refine (CP.out).mono ?_; rintro e w1 ⟨es', rfl, hF, hT, hP⟩; have HF := Lib.hid hF; have HT := Lib.hid hT; have HP := Lib.hid hP; clear hF hT hP)
  go_ret
  exact ⟨es', rfl, HF.out, HT.out, HP.out⟩

end Go.Proofs.YthpkfgjjaieikaaGreatDoor
