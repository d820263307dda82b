/-
  What get, with, trim, sameCaps of the document return.
  What Get of the document returns, for every name.
-/
import Derived.Test.YtcfgppjhgobboaaGreatDoorTiSet
import Derived.Test.YtcfgppjhgobboaaGreatDoorTiRefPlace
namespace Go.Proofs.YtcfgppjhgobboaaGreatDoor
section
open Go.RowKit Go.Shelf Go.Lib
attribute [local go_sem] Oper.semAt_some

set_option maxRecDepth 100000 in
theorem refGetAt_any (w : World) (v : Value) (l : List CapD) (h : CapsV w v l) (n : Nat) (hn : n ≤ 164) : Calls Tryz.prog 103 #[v, .int .i64 n] w fun e w' => e = .returned (capVal (getP l n)) ∧ Below w.heap.size w w' := by
  obtain ⟨A, cap, rfl, hsm⟩ := h.form
  have hbz := build_cap0
  have hb : Below w.heap.size w (w.alloc capZero) := (Below.refl _ w).alloc (Nat.le_refl _) _
  have hbox := World.alloc_heap_new w capZero
  obtain ⟨d0, d1, d2, f0, f1, f2⟩ := capZero_facts hbox
  obtain ⟨m, hm⟩ : ∃ m, l.length = m := ⟨_, rfl⟩
  have HM := Lib.hid hm
  rw [hm] at h hsm ⊢
  clear hm
  by_cases hlt : n < m
  · obtain ⟨c, hc⟩ : ∃ c, l[n]? = some c := ⟨_, List.getElem?_eq_getElem (by rw [HM.out]; exact hlt)⟩
    obtain ⟨kb, off, rfl, hkb, g0, g1, g2⟩ := h.cells hc
    rw [← hb.cell (p := ⟨kb, off + n * 3, none⟩) hkb] at g0
    rw [← hb.cell (p := ⟨kb, off + n * 3 + 1, none⟩) hkb] at g1
    rw [← hb.cell (p := ⟨kb, off + n * 3 + 2, none⟩) hkb] at g2
    have i1 : (0 : Int) ≤ (n : Int) := by omega
    have i2 : (n : Int) < (m : Int) := by omega
    have HC := Lib.hid hc
    clear h hb hbox hc hkb
    go_enter Tryz.func103, Tryz.ntmps103
    go_wp2
    have hr := fun j => cell_of_row _ w.heap.size j _ _ _ (World.alloc_heap_new w (.cells #[.int .i64 c.st, .int .i64 c.num, str c.text] 37))
    have hbb : Below w.heap.size w (w.alloc (.cells #[.int .i64 c.st, .int .i64 c.num, str c.text] 37)) := (Below.refl _ w).alloc (Nat.le_refl _) _
    generalize w.alloc (.cells #[.int .i64 c.st, .int .i64 c.num, str c.text] 37) = w1 at *
    simp only [List.getElem?_toArray] at hr
    refine bodyPost_ret (v := capVal c) (by simp [results, Tryz.results103, go_sem, hr]) rfl ?_
    exact ⟨by rw [getP_at HC.out], hbb⟩
  · have i2 : ¬ (n : Int) < (m : Int) := by omega
    clear h hb hbox
    go_enter Tryz.func103, Tryz.ntmps103
    go_wp2
    have hr := fun j => cell_of_row _ w.heap.size j _ _ _ (World.alloc_heap_new w (.cells #[.int .i64 0, .int .i64 0, .string ⟨#[]⟩] 37))
    have hbb : Below w.heap.size w (w.alloc (.cells #[.int .i64 0, .int .i64 0, .string ⟨#[]⟩] 37)) := (Below.refl _ w).alloc (Nat.le_refl _) _
    generalize w.alloc (.cells #[.int .i64 0, .int .i64 0, .string ⟨#[]⟩] 37) = w1 at *
    simp only [List.getElem?_toArray] at hr
    refine bodyPost_ret (v := capVal cap0) (by simp [results, Tryz.results103, go_sem, hr, cap0]) rfl ?_
    exact ⟨by rw [getP_none (by rw [HM.out]; omega)], hbb⟩

def WithPost (w : World) (l : List CapD) (n : Nat) (c : CapD) (e : Ending) (w' : World) : Prop :=
  ∃ u, e = .returned u ∧ CapRow w' u (placedP l n c) ∧ Below w.heap.size w w' ∧ ∀ b, u.ownBlock = some b → w.heap.size ≤ b

set_option maxRecDepth 100000 in
set_option maxHeartbeats 2000000 in
theorem with_any (w : World) (v : Value) (l : List CapD) (n : Nat) (c : CapD) (h : CapsV w v l) (hn : n ≤ 164) :
    Calls Tryz.prog 55 #[v, .int .i64 n, capVal c] w (WithPost w l n c) := by
  have hbz := build_cap0
  obtain ⟨A00, cap00, rfl, hcap, hsm, hsrc⟩ := h
  obtain ⟨ii, hi, hz, hs, hby⟩ := info_parts info_cap
  have hw1 : Below w.heap.size w (w.alloc (.cells #[.int .i64 c.st, .int .i64 c.num, str c.text] 37)) := (Below.refl _ w).alloc (Nat.le_refl _) _
  have HS := Lib.hid (hsrc.below hw1)
  have HW1 := Lib.hid (And.intro hw1 (World.alloc_heap_new w (.cells #[.int .i64 c.st, .int .i64 c.num, str c.text] 37)))
  have HSZ : Hid ((w.alloc (.cells #[.int .i64 c.st, .int .i64 c.num, str c.text] 37)).heap.size = w.heap.size + 1) := Lib.hid (by simp)
  clear hsrc hw1
  go_enter Tryz.func55, Tryz.ntmps55
  go_wp2_with (at_builtin; refine wpList_append_src rfl _ _ 23 rfl (w.heap.size + 1) 37 ii _ 3 32 Tryz.underlying23 hi hz hs hby rfl (by decide) (.slice none 0 0) 0 [] rfl (World.ownsRow_nil _ _ _ _) rfl HS.out (capVals_one l) (by unfold maxLen; omega) (by omega) (by simp) ?_; intro v1 w1 hr1 hg1 hb1; have H1 := Lib.hid hr1; have H2 := Lib.hid hg1; have H3 := Lib.hid hb1; clear hr1 hg1 hb1)
  have hrow1 : CapRow w1 v1 l := by
    have := own_zero H1.out
    rw [Nat.zero_add, List.nil_append] at this
    exact this
  have hown1 : ∀ b, v1.ownBlock = some b → w.heap.size + 1 ≤ b := fun b hb => by
    rcases H3.out with h | h
    · rw [h] at hb; cases hb
    · rw [h, HSZ.out] at hb; injection hb with hb; omega
  have hbel1 : Below (w.heap.size + 1) (w.alloc (.cells #[.int .i64 c.st, .int .i64 c.num, str c.text] 37)) w1 := grown_below H2.out (by rw [HSZ.out]; exact Nat.le_refl _) fun k hk => by cases hk
  have hbox1 : w1.heap[w.heap.size]? = some (.cells #[.int .i64 c.st, .int .i64 c.num, str c.text] 37 (0, 0)) := (hbel1.block _ (by omega)).trans HW1.out.2
  have hwb1 : Below w.heap.size w w1 := HW1.out.1.trans (hbel1.mono (by omega))
  obtain ⟨A0, cap0', rfl⟩ := hrow1.form
  have HROW := Lib.hid hrow1
  have HI := Lib.hid (show PlacedR w1 l (.slice A0 l.length cap0') n (.slice A0 l.length cap0') w1 from ⟨0, .inl rfl, by rw [List.replicate_zero, List.append_nil]; exact hrow1, Touch.refl _ _, .inl rfl⟩)
  have HB1 := Lib.hid (And.intro hbox1 (And.intro hwb1 hown1))
  clear hrow1 hown1 hbel1 hbox1 hwb1 H1 H2 H3 HS HW1 HSZ hi hz hs hby
  go_loopw [7] (fun u wr => PlacedR w1 l (.slice A0 l.length cap0') n u wr) (fun u _ => n + 1 - lenV u)
  case atStart => exact HI.out
  case round =>
    obtain ⟨k, hk, hrow, ht, hu⟩ := hrel
    obtain ⟨A, cap, rfl⟩ := hrow.form
    have hlen : (l ++ List.replicate k cap0).length = l.length + k := by simp
    have HT := Lib.hid ht
    have HU := Lib.hid hu
    have HR := Lib.hid hrow
    rw [hlen] at HR HU ⊢
    obtain ⟨m, hm⟩ : ∃ m, m = l.length + k := ⟨_, rfl⟩
    obtain ⟨L, hL⟩ : ∃ L, L = l ++ List.replicate k cap0 := ⟨_, rfl⟩
    have hLm : L.length = m := by rw [hL, hlen, hm]
    have HM := Lib.hid (And.intro hm (And.intro hL hLm))
    rw [← hm] at HR HU ⊢
    rw [← hL] at HR
    by_cases hle : m ≤ n
    · have hle' : (m : Int) ≤ (n : Int) := by omega
      have hnew : (wr.alloc (.cells #[.int .i64 0, .int .i64 0, .string ⟨#[]⟩] 37)).heap[wr.heap.size]? = some (.cells #[.int .i64 0, .int .i64 0, .string ⟨#[]⟩] 37 (0, 0)) := World.alloc_heap_new wr _
      have HC := Lib.hid (fun j => cell_of_row _ wr.heap.size j _ _ _ hnew)
      clear ht hu hrow hk hlen hm hL hLm hnew
      go_wp2_with (at_builtin; refine wpList_append_cap rfl _ _ rfl (.slice A m cap) L rfl (own_same HR.out fun b hb => Below.heap_alloc _ _ _ (own_lt HR.out b hb).2) cap0 rfl (HC.out 0) (HC.out 1) (HC.out 2) (by have := HM.out.2.2; omega) ?_; intro v' w' hr' hg' hb'; have H1 := Lib.hid hr'; have H2 := Lib.hid hg'; have H3 := Lib.hid hb'; clear hr' hg' hb')
      go_roundw
      case rel =>
        exact PlacedR.next (k := k) (by have := HM.out.1; omega) HT.out HU.out (by have := H1.out; rw [HM.out.2.1] at this; exact this) H2.out H3.out
      case measure =>
        obtain ⟨A', cap', e⟩ := H1.out.form
        rw [e]
        have := HM.out.2.2
        simp [lenV]
        omega
    · have hle' : ¬ (m : Int) ≤ (n : Int) := by omega
      have hi1 : 0 ≤ (n : Int) := by omega
      have hi2 : (n : Int) < (m : Int) := by omega
      have hLn : n < L.length := by omega
      have hval : placedP l n c = L.set n c := by
        unfold placedP
        rw [hL]
        rcases hk with hk | hk
        · subst hk; rw [show n + 1 - l.length = 0 by omega]
        · rw [show n + 1 - l.length = k by omega]
      obtain ⟨g, rfl, hg⟩ := HR.out.head (by omega)
      obtain ⟨x, hx⟩ : ∃ x, L[n]? = some x := ⟨_, List.getElem?_eq_getElem hLn⟩
      obtain ⟨d0, d1, d2, fz⟩ := HR.out.at hx
      have f0 := fz (n * 3)
      have f1 := fz (n * 3 + 1)
      have f2 := fz (n * 3 + 2)
      have hbox : wr.heap[w.heap.size]? = some (.cells #[.int .i64 c.st, .int .i64 c.num, str c.text] 37 (0, 0)) :=
        (HT.out.block _ (Array.getElem?_eq_some_iff.1 HB1.out.1).1 fun e => by have := HB1.out.2.2 _ e; omega).trans HB1.out.1
      have k0 := cell_of_row wr w.heap.size 0 _ _ _ hbox
      have k1 := cell_of_row wr w.heap.size 1 _ _ _ hbox
      have k2 := cell_of_row wr w.heap.size 2 _ _ _ hbox
      simp only [List.getElem?_toArray, List.getElem?_cons_zero, List.getElem?_cons_succ] at k0 k1 k2
      have HV := Lib.hid hval
      have HLN := Lib.hid hLn
      have hge : w.heap.size ≤ g := by
        rcases HU.out with h | ⟨b, h, hb⟩
        · have := HB1.out.2.2 g h.symm; omega
        · injection h with h; subst h; have h2 : w1.heap.size ≤ g := hb; have := HB1.out.2.1.size; omega
      have HGE := Lib.hid hge
      clear ht hu hrow hk hlen hm hL hLm hval hx fz hLn hbox hge
      go_wp2_with fail
      go_ret
      refine ⟨_, rfl, by rw [HV.out]; exact HR.out.setAt HLN.out, ?_, fun b hb => by injection hb with hb; subst hb; exact HGE.out⟩
      have ht1 : Touch (fun b => w.heap.size ≤ b) w wr := (Touch.of_below (T := fun b => w.heap.size ≤ b) HB1.out.2.1).trans (HT.out.mono fun b _ hb => by have := HB1.out.2.2 b hb; omega)
      refine Touch.below (ht1.trans (((Touch.setCell (T := fun b => w.heap.size ≤ b) wr ⟨g, n * 3, none⟩ _ HGE.out).trans (Touch.setCell _ ⟨g, n * 3 + 1, none⟩ _ HGE.out)).trans (Touch.setCell _ ⟨g, n * 3 + 2, none⟩ _ HGE.out))) (Nat.le_refl _) fun k hk => hk
end

section
open Go.RowKit Go.Shelf Go.Lib
attribute [local go_sem] Oper.semAt_some

def RefGetPost (w : World) (r : Int × CapD × Bool) (e : Ending) (w' : World) : Prop := e = .returned (.tuple #[capVal r.2.1, .int .i64 r.1, .bool r.2.2]) ∧ Below w.heap.size w w'

set_option maxRecDepth 100000 in
set_option maxHeartbeats 400000 in
theorem refGet_known0 (w : World) (t : TermD) (v : Nat → Value) (ve : Value) (h : TermV w v ve t) (hT : Tabs w) (name : List UInt8) (n : Nat) (hp : placeP name = some ((0 : Int), (n : Int))) (hn : n ≤ 164) :
    Calls Tryz.prog 53 #[termVal t v ve, str name] w (RefGetPost w (0, getP (listOf t 0) n, true)) := by
  have CP := Lib.hid (fun W (hW : Tabs W) => refPlace_any name W hW)
  have hres : placeRes name = .tuple #[.int .i64 0, .int .i64 n, .bool true] := by unfold placeRes; rw [hp]
  unfold PlacePost at CP
  rw [hres] at CP
  obtain ⟨A0, n0, A1, n1, A2, n2, A3, n3, e0, e1, e2, e3, _, g0, g1, g2, _⟩ := h.forms
  rw [termVal_open e0 e1 e2 e3]
  have CG := Lib.hid (fun W (hW : Below w.heap.size w W) => refGetAt_any W _ (listOf t 0) (g0.below hW) n hn)
  have HT := Lib.hid hT
  generalize getP (listOf t 0) n = c at *
  clear h hT hp hres e0 e1 e2 e3 g0 g1 g2
  obtain ⟨nm, wd, l0, l1, l2, l3⟩ := t
  simp only at CG ⊢
  go_enter Tryz.func53, Tryz.ntmps53
  go_wp2_with (first
    | (go_at_call 54; refine (CP.out _ (HT.out.below (((Below.refl _ w).alloc (Nat.le_refl _) _).alloc (by simp) _))).mono ?_; rintro e w2 ⟨rfl, hb2⟩; obtain ⟨x1, x2, x3, x4⟩ := two_boxes hb2; have HB2 := Lib.hid (And.intro x1 (And.intro x2 (And.intro x3 x4))); have c2 := cell_of_row w2 w.heap.size 2 _ _ _ x1; have c3 := cell_of_row w2 w.heap.size 3 _ _ _ x1; have c4 := cell_of_row w2 w.heap.size 4 _ _ _ x1; simp only [List.getElem?_toArray, List.getElem?_cons_zero, List.getElem?_cons_succ] at c2 c3 c4; clear hb2 x1 x2 x3 x4)
    | (go_at_call 103; with_reducible refine (CG.out _ (HB2.out.2.2.1.alloc HB2.out.2.2.1.size (.cells #[.slice A0 l0.length n0, .slice A1 l1.length n1, .slice A2 l2.length n2] 23))).mono ?_; rintro e w3 ⟨rfl, hb3⟩; have y2 := (hb3.block (w.heap.size + 1) (by rw [World.size_alloc]; have := HB2.out.2.2.2; omega)).trans ((Below.heap_alloc w2 (.cells #[.slice A0 l0.length n0, .slice A1 l1.length n1, .slice A2 l2.length n2] 23) (w.heap.size + 1) HB2.out.2.2.2).trans HB2.out.2.1); have HB3 := Lib.hid (And.intro y2 ((HB2.out.2.2.1.alloc HB2.out.2.2.1.size (.cells #[.slice A0 l0.length n0, .slice A1 l1.length n1, .slice A2 l2.length n2] 23)).trans (hb3.mono (by rw [World.size_alloc]; have := HB2.out.2.2.1.size; omega)))); obtain ⟨d0, d1, d2, f0, f1, f2⟩ := capZero_facts y2; clear hb3 y2))
  have hX := storeCap_touch w3 (w.heap.size + 1) c
  obtain ⟨r0, r1, r2⟩ := storeCap_cells (c := c) HB3.out.1
  refine bodyPost_ret (v := .tuple #[capVal c, .int .i64 0, .bool true]) (by simp [results, Tryz.results53, go_sem, r0, r1, r2]) rfl ?_
  exact ⟨rfl, HB3.out.2.trans (hX.below HB3.out.2.size fun k hk => by omega)⟩

set_option maxRecDepth 100000 in
set_option maxHeartbeats 400000 in
theorem refGet_known1 (w : World) (t : TermD) (v : Nat → Value) (ve : Value) (h : TermV w v ve t) (hT : Tabs w) (name : List UInt8) (n : Nat) (hp : placeP name = some ((1 : Int), (n : Int))) (hn : n ≤ 164) :
    Calls Tryz.prog 53 #[termVal t v ve, str name] w (RefGetPost w (1, getP (listOf t 1) n, true)) := by
  have CP := Lib.hid (fun W (hW : Tabs W) => refPlace_any name W hW)
  have hres : placeRes name = .tuple #[.int .i64 1, .int .i64 n, .bool true] := by unfold placeRes; rw [hp]
  unfold PlacePost at CP
  rw [hres] at CP
  obtain ⟨A0, n0, A1, n1, A2, n2, A3, n3, e0, e1, e2, e3, _, g0, g1, g2, _⟩ := h.forms
  rw [termVal_open e0 e1 e2 e3]
  have CG := Lib.hid (fun W (hW : Below w.heap.size w W) => refGetAt_any W _ (listOf t 1) (g1.below hW) n hn)
  have HT := Lib.hid hT
  generalize getP (listOf t 1) n = c at *
  clear h hT hp hres e0 e1 e2 e3 g0 g1 g2
  obtain ⟨nm, wd, l0, l1, l2, l3⟩ := t
  simp only at CG ⊢
  go_enter Tryz.func53, Tryz.ntmps53
  go_wp2_with (first
    | (go_at_call 54; refine (CP.out _ (HT.out.below (((Below.refl _ w).alloc (Nat.le_refl _) _).alloc (by simp) _))).mono ?_; rintro e w2 ⟨rfl, hb2⟩; obtain ⟨x1, x2, x3, x4⟩ := two_boxes hb2; have HB2 := Lib.hid (And.intro x1 (And.intro x2 (And.intro x3 x4))); have c2 := cell_of_row w2 w.heap.size 2 _ _ _ x1; have c3 := cell_of_row w2 w.heap.size 3 _ _ _ x1; have c4 := cell_of_row w2 w.heap.size 4 _ _ _ x1; simp only [List.getElem?_toArray, List.getElem?_cons_zero, List.getElem?_cons_succ] at c2 c3 c4; clear hb2 x1 x2 x3 x4)
    | (go_at_call 103; with_reducible refine (CG.out _ (HB2.out.2.2.1.alloc HB2.out.2.2.1.size (.cells #[.slice A0 l0.length n0, .slice A1 l1.length n1, .slice A2 l2.length n2] 23))).mono ?_; rintro e w3 ⟨rfl, hb3⟩; have y2 := (hb3.block (w.heap.size + 1) (by rw [World.size_alloc]; have := HB2.out.2.2.2; omega)).trans ((Below.heap_alloc w2 (.cells #[.slice A0 l0.length n0, .slice A1 l1.length n1, .slice A2 l2.length n2] 23) (w.heap.size + 1) HB2.out.2.2.2).trans HB2.out.2.1); have HB3 := Lib.hid (And.intro y2 ((HB2.out.2.2.1.alloc HB2.out.2.2.1.size (.cells #[.slice A0 l0.length n0, .slice A1 l1.length n1, .slice A2 l2.length n2] 23)).trans (hb3.mono (by rw [World.size_alloc]; have := HB2.out.2.2.1.size; omega)))); obtain ⟨d0, d1, d2, f0, f1, f2⟩ := capZero_facts y2; clear hb3 y2))
  have hX := storeCap_touch w3 (w.heap.size + 1) c
  obtain ⟨r0, r1, r2⟩ := storeCap_cells (c := c) HB3.out.1
  refine bodyPost_ret (v := .tuple #[capVal c, .int .i64 1, .bool true]) (by simp [results, Tryz.results53, go_sem, r0, r1, r2]) rfl ?_
  exact ⟨rfl, HB3.out.2.trans (hX.below HB3.out.2.size fun k hk => by omega)⟩

set_option maxRecDepth 100000 in
set_option maxHeartbeats 400000 in
theorem refGet_known2 (w : World) (t : TermD) (v : Nat → Value) (ve : Value) (h : TermV w v ve t) (hT : Tabs w) (name : List UInt8) (n : Nat) (hp : placeP name = some ((2 : Int), (n : Int))) (hn : n ≤ 164) :
    Calls Tryz.prog 53 #[termVal t v ve, str name] w (RefGetPost w (2, getP (listOf t 2) n, true)) := by
  have CP := Lib.hid (fun W (hW : Tabs W) => refPlace_any name W hW)
  have hres : placeRes name = .tuple #[.int .i64 2, .int .i64 n, .bool true] := by unfold placeRes; rw [hp]
  unfold PlacePost at CP
  rw [hres] at CP
  obtain ⟨A0, n0, A1, n1, A2, n2, A3, n3, e0, e1, e2, e3, _, g0, g1, g2, _⟩ := h.forms
  rw [termVal_open e0 e1 e2 e3]
  have CG := Lib.hid (fun W (hW : Below w.heap.size w W) => refGetAt_any W _ (listOf t 2) (g2.below hW) n hn)
  have HT := Lib.hid hT
  generalize getP (listOf t 2) n = c at *
  clear h hT hp hres e0 e1 e2 e3 g0 g1 g2
  obtain ⟨nm, wd, l0, l1, l2, l3⟩ := t
  simp only at CG ⊢
  go_enter Tryz.func53, Tryz.ntmps53
  go_wp2_with (first
    | (go_at_call 54; refine (CP.out _ (HT.out.below (((Below.refl _ w).alloc (Nat.le_refl _) _).alloc (by simp) _))).mono ?_; rintro e w2 ⟨rfl, hb2⟩; obtain ⟨x1, x2, x3, x4⟩ := two_boxes hb2; have HB2 := Lib.hid (And.intro x1 (And.intro x2 (And.intro x3 x4))); have c2 := cell_of_row w2 w.heap.size 2 _ _ _ x1; have c3 := cell_of_row w2 w.heap.size 3 _ _ _ x1; have c4 := cell_of_row w2 w.heap.size 4 _ _ _ x1; simp only [List.getElem?_toArray, List.getElem?_cons_zero, List.getElem?_cons_succ] at c2 c3 c4; clear hb2 x1 x2 x3 x4)
    | (go_at_call 103; with_reducible refine (CG.out _ (HB2.out.2.2.1.alloc HB2.out.2.2.1.size (.cells #[.slice A0 l0.length n0, .slice A1 l1.length n1, .slice A2 l2.length n2] 23))).mono ?_; rintro e w3 ⟨rfl, hb3⟩; have y2 := (hb3.block (w.heap.size + 1) (by rw [World.size_alloc]; have := HB2.out.2.2.2; omega)).trans ((Below.heap_alloc w2 (.cells #[.slice A0 l0.length n0, .slice A1 l1.length n1, .slice A2 l2.length n2] 23) (w.heap.size + 1) HB2.out.2.2.2).trans HB2.out.2.1); have HB3 := Lib.hid (And.intro y2 ((HB2.out.2.2.1.alloc HB2.out.2.2.1.size (.cells #[.slice A0 l0.length n0, .slice A1 l1.length n1, .slice A2 l2.length n2] 23)).trans (hb3.mono (by rw [World.size_alloc]; have := HB2.out.2.2.1.size; omega)))); obtain ⟨d0, d1, d2, f0, f1, f2⟩ := capZero_facts y2; clear hb3 y2))
  have hX := storeCap_touch w3 (w.heap.size + 1) c
  obtain ⟨r0, r1, r2⟩ := storeCap_cells (c := c) HB3.out.1
  refine bodyPost_ret (v := .tuple #[capVal c, .int .i64 2, .bool true]) (by simp [results, Tryz.results53, go_sem, r0, r1, r2]) rfl ?_
  exact ⟨rfl, HB3.out.2.trans (hX.below HB3.out.2.size fun k hk => by omega)⟩

set_option maxRecDepth 100000 in
set_option maxHeartbeats 2000000 in
theorem refGet_unknown (w : World) (t : TermD) (v : Nat → Value) (ve : Value) (h : TermV w v ve t) (hT : Tabs w) (name : List UInt8) (hp : placeP name = none) :
    Calls Tryz.prog 53 #[termVal t v ve, str name] w (RefGetPost w (extR t.exts name)) := by
  have CP := Lib.hid (fun W (hW : Tabs W) => refPlace_any name W hW)
  have hres : placeRes name = .tuple #[.int .i64 0, .int .i64 0, .bool false] := by unfold placeRes; rw [hp]
  unfold PlacePost at CP
  rw [hres] at CP
  have HT := Lib.hid hT
  have hbz := build_cap0
  obtain ⟨A0, n0, A1, n1, A2, n2, A3, n3, e0, e1, e2, e3, ⟨_, _, _, s3⟩, _, _, _, g3⟩ := h.forms
  rw [termVal_open e0 e1 e2 e3]
  clear h e0 e1 e2 e3 hT hp hres
  obtain ⟨nm, wd, l0, l1, l2, l3⟩ := t
  simp only at s3 g3 ⊢
  have HG := Lib.hid g3
  clear g3
  obtain ⟨n, hn⟩ : ∃ n, l3.length = n := ⟨_, rfl⟩
  have HN := Lib.hid hn
  rw [hn] at HG s3 ⊢
  clear hn
  go_enter Tryz.func53, Tryz.ntmps53
  go_wp2_with (go_at_call 54; refine (CP.out _ (HT.out.below (((Below.refl _ w).alloc (Nat.le_refl _) _).alloc (by simp) _))).mono ?_; rintro e w2 ⟨rfl, hb2⟩; obtain ⟨x1, x2, x3, x4⟩ := two_boxes hb2; have HB2 := Lib.hid (And.intro x1 (And.intro x2 (And.intro x3 x4))); have c5 := cell_of_row w2 w.heap.size 5 _ _ _ x1; obtain ⟨d0, d1, d2, f0, f1, f2⟩ := capZero_facts x2; simp only [List.getElem?_toArray, List.getElem?_cons_zero, List.getElem?_cons_succ] at c5; clear hb2 x1 x2 x3 x4)
  go_loop [11] (fun i => ∃ k : Nat, i = .int .i64 k ∧ k ≤ n ∧ ((l3.take k).any fun x => x.name == name) = false) (fun i => n - (RowKit.intOf i).toNat)
  case atStart => exact ⟨0, rfl, Nat.zero_le _, rfl⟩
  case round =>
    obtain ⟨k, rfl, hk, hno⟩ := hrel
    have HNO := Lib.hid hno
    clear hno
    by_cases hlt : k < n
    · obtain ⟨x, hx⟩ : ∃ x, l3[k]? = some x := ⟨_, List.getElem?_eq_getElem (by rw [HN.out]; exact hlt)⟩
      obtain ⟨kb, off, rfl, hkb, g0, g1, g2, g3, g4⟩ := HG.out.cells hx
      rw [← HB2.out.2.2.1.cell (p := ⟨kb, off + k * 5, none⟩) hkb] at g0
      rw [← HB2.out.2.2.1.cell (p := ⟨kb, off + k * 5 + 1, none⟩) hkb] at g1
      rw [← HB2.out.2.2.1.cell (p := ⟨kb, off + k * 5 + 2, none⟩) hkb] at g2
      rw [← HB2.out.2.2.1.cell (p := ⟨kb, off + k * 5 + 3, none⟩) hkb] at g3
      rw [← HB2.out.2.2.1.cell (p := ⟨kb, off + k * 5 + 4, none⟩) hkb] at g4
      have i1 : (0 : Int) ≤ (k : Int) := by omega
      have i2 : (k : Int) < (n : Int) := by omega
      have hkn : ¬ kb = w.heap.size + 1 := by omega
      have HX := Lib.hid hx
      clear hx hkb hk
      by_cases hq : x.name = name
      · have HQ := Lib.hid hq
        have hq2 : (x.name == name) = true := by simpa using hq
        clear hq
        have HR : Hid (extR l3 name = (x.kind, x.cap, true)) := Lib.hid (by
          have h1 := idx_at HX.out HNO.out hq2
          unfold idxInt at h1
          cases hi : extIdx l3 name with
          | none => rw [hi] at h1; simp at h1
          | some i => rw [hi] at h1; have : i = k := by simp at h1; omega
                      subst this; rw [extR, hi]; simp only [HX.out])
        go_wp2
        go_region
        all_goals
          go_wp2
          have hX := storeCap_touch w2 (w.heap.size + 1) x.cap
          obtain ⟨r0, r1, r2⟩ := storeCap_cells (c := x.cap) HB2.out.2.1
          refine bodyPost_ret (v := .tuple #[capVal x.cap, .int .i64 x.kind, .bool true]) (by simp [results, Tryz.results53, go_sem, r0, r1, r2]) rfl ?_
          exact ⟨by rw [HR.out], HB2.out.2.2.1.trans ((hX.drew).below HB2.out.2.2.1.size fun k hk => by omega)⟩
      · have HQ := Lib.hid hq
        have hq2 : (x.name == name) = false := by simpa using hq
        clear hq
        go_wp2
        exact ⟨⟨k + 1, by go_num, hlt, any_next HX.out HNO.out (by simpa using HQ.out)⟩, by simp [RowKit.intOf]; omega⟩
    · obtain rfl : k = n := by omega
      have HR : Hid (extR l3 name = (0, cap0, false)) := Lib.hid (by
        have h1 := idx_none (any_end (Nat.le_of_eq HN.out) HNO.out)
        unfold idxInt at h1
        cases hi : extIdx l3 name with
        | none => rw [extR, hi]
        | some i => rw [hi] at h1; simp at h1)
      go_wp2
      have hX := storeCap_touch w2 (w.heap.size + 1) cap0
      obtain ⟨r0, r1, r2⟩ := storeCap_cells (c := cap0) HB2.out.2.1
      simp only [storeCap, cap0] at r0 r1 r2
      refine bodyPost_ret (v := .tuple #[capVal cap0, .int .i64 0, .bool false]) (by simp [results, Tryz.results53, go_sem, r0, r1, r2, cap0]) rfl ?_
      exact ⟨by rw [HR.out], HB2.out.2.2.1.trans (hX.below HB2.out.2.2.1.size fun k hk => by omega)⟩

theorem refGet_any (w : World) (t : TermD) (v : Nat → Value) (ve : Value) (h : TermV w v ve t) (hT : Tabs w) (name : List UInt8) :
    Calls Tryz.prog 53 #[termVal t v ve, str name] w (RefGetPost w (findR t name)) := by
  cases hp : placeP name with
  | none =>
    rw [show findR t name = extR t.exts name by rw [findR, hp]]
    exact refGet_unknown w t v ve h hT name hp
  | some q =>
    obtain ⟨k, n⟩ := q
    obtain ⟨hk, hn0, hn⟩ := placeP_small hp
    obtain ⟨n', rfl⟩ : ∃ n' : Nat, n = n' := ⟨n.toNat, by omega⟩
    rw [show findR t name = (k, getP (listOf t k) n', true) by rw [findR, hp]; rfl]
    rcases hk with rfl | rfl | rfl
    · exact refGet_known0 w t v ve h hT name n' hp (by omega)
    · exact refGet_known1 w t v ve h hT name n' hp (by omega)
    · exact refGet_known2 w t v ve h hT name n' hp (by omega)
end
end Go.Proofs.YtcfgppjhgobboaaGreatDoor
