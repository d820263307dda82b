/-
  The reader of package tinfo: rows of numbers.
  The reader of package tinfo: the names, rows of texts.
  The reader of package tinfo: the counts at the head of a file, and of its extended part.
-/
import Derived.Test.YtcfgppjhgobboaaGreatDoorTiRd
import Derived.Test.YtcfgppjhgobboaaGreatDoorTiTexts
namespace Go.Proofs.YtcfgppjhgobboaaGreatDoor
section
open Go.RowKit Go.Shelf Go.Lib
attribute [local go_sem] Oper.semAt_some

theorem ints_any (w : World) (rb : Nat) (A : Option Addr) (cap : Nat) (b : List UInt8) (p size : Nat) (wide : Bool) (n : Nat) (h : RdAt w rb (.slice A b.length cap) b p size) (hn : n ≤ 100000) (hok : p + n * sizeOf wide ≤ b.length) :
    Calls Tryz.prog 114 #[.pointer (some ⟨rb, 0, none⟩), .int .i64 n, .int .i64 (sizeOf wide : Nat)] w (IntsPost w rb (.slice A b.length cap) b (p + n * sizeOf wide) size (numsAt wide b p n)) := by
  cases wide with
  | false => exact ints2_ok w rb A cap b p size n h hn hok
  | true => exact ints4_ok w rb A cap b p size n h hn hok
theorem ints_short (w : World) (rb : Nat) (v : Value) (b : List UInt8) (p size : Nat) (wide : Bool) (n : Nat) (h : RdAt w rb v b p size) (hn : n ≤ 100000) (hbad : b.length < p + n * sizeOf wide) :
    Calls Tryz.prog 114 #[.pointer (some ⟨rb, 0, none⟩), .int .i64 n, .int .i64 (sizeOf wide : Nat)] w fun e w' => e = flawE b.length 31 ∧ Touch (fun k => k = rb) w w' := by
  cases wide with
  | false => exact ints_bad w rb v b p size n 2 h hn (.inl rfl) hbad
  | true => exact ints_bad w rb v b p size n 4 h hn (.inr rfl) hbad
set_option maxRecDepth 100000 in
theorem numbers_bad (w : World) (rb : Nat) (v : Value) (b : List UInt8) (p : Nat) (wide : Bool) (n : Nat) (h : RdAt w rb v b p (sizeOf wide)) (hn : n ≤ 100000) (hbad : b.length < p + n * sizeOf wide) :
    Calls Tryz.prog 67 #[.pointer (some ⟨rb, 0, none⟩), .int .i64 n] w fun e w' => e = flawE b.length 31 ∧ Touch (fun k => k = rb) w w' := by
  obtain ⟨c0, c1, c2, _, _, _⟩ := h.cells
  have CT := Lib.hid (ints_short w rb v b p (sizeOf wide) wide n h hn hbad)
  clear h hbad
  generalize sizeOf wide = sz at *
  go_enter Tryz.func67, Tryz.ntmps67
  go_wp2_with (go_at_call 114; (refine (CT.out).mono ?_); rintro e w' ⟨rfl, hs⟩; have HS := Lib.hid hs; clear hs)
  exact ⟨rfl, rfl, HS.out⟩
theorem IntRow.reads_n {w : World} {v : Value} {l : List Int} {n : Nat} (h : IntRow w v l) (hl : l.length = n) (hn : n ≤ 100000) : ∃ A cap, v = .slice A n cap ∧ IntsV w (.slice A n cap) l := by
  obtain ⟨A, cap, e⟩ := h.form
  subst e
  refine ⟨A, cap, by rw [hl], ?_⟩
  have := h.reads (by omega)
  rwa [hl] at this
theorem capOfNum_pos {z : Int} (h : 0 ≤ z) : capOfNum z = ⟨1, z, []⟩ := by unfold capOfNum stateOf; rw [if_pos h, if_pos h]
theorem capOfNum_neg {z : Int} (h : ¬ 0 ≤ z) : capOfNum z = ⟨stateOf z, 0, []⟩ := by unfold capOfNum; rw [if_neg h]
set_option maxRecDepth 100000 in
set_option maxHeartbeats 2000000 in
theorem numbers_ok (w : World) (rb : Nat) (A : Option Addr) (cap : Nat) (b : List UInt8) (p : Nat) (wide : Bool) (n : Nat) (h : RdAt w rb (.slice A b.length cap) b p (sizeOf wide)) (hn : n ≤ 1000) (hok : p + n * sizeOf wide ≤ b.length) :
    Calls Tryz.prog 67 #[.pointer (some ⟨rb, 0, none⟩), .int .i64 n] w (CapsPost w rb (.slice A b.length cap) b (p + n * sizeOf wide) (sizeOf wide) ((numsAt wide b p n).map capOfNum)) := by
  obtain ⟨c0, c1, c2, _, _, _⟩ := h.cells
  have CI := Lib.hid (ints_any w rb A cap b p (sizeOf wide) wide n h (by omega) hok)
  have hbs := build_sn
  have HLL : Hid ((numsAt wide b p n).length = n) := Lib.hid (numsAt_length _ _ _ _)
  clear h hok
  generalize numsAt wide b p n = l at *
  generalize sizeOf wide = sz at *
  obtain ⟨L, hL⟩ : ∃ L, l.map capOfNum = L := ⟨_, rfl⟩
  have HNX : Hid (∀ k z, l[k]? = some z → L.take (k + 1) = L.take k ++ [capOfNum z]) := Lib.hid (fun k z hz => by rw [← hL]; exact map_take _ hz)
  have HL2 : Hid (L.length = n) := Lib.hid (by rw [← hL, List.length_map, HLL.out])
  rw [hL]
  clear hL
  go_enter Tryz.func67, Tryz.ntmps67
  go_wp2_with (go_at_call 114; (refine (CI.out).mono ?_); rintro e w2 ⟨u0, rfl, hr0, ho0, hs2⟩; obtain ⟨B1, bc1, hB1, hIN⟩ := hr0.reads_n HLL.out (by omega); subst hB1; have HIN := Lib.hid hIN; have HS := Lib.hid hs2; clear hs2 hIN hr0 ho0)
  have HI := Lib.hid (show CapsR w2 L n (.slice none 0 0) (.int .i64 0) w2 from ⟨0, rfl, Nat.zero_le _, World.ownsRow_nil _ _ _ _, (fun j hj => by cases hj), Below.refl _ _⟩)
  go_loopw [5, 16] (fun u i wr => CapsR w2 L n u i wr) (fun _ i _ => n - (RowKit.intOf i).toNat)
  case atStart => exact HI.out
  case round =>
    obtain ⟨k, rfl, hk, hrow, hown, hbel⟩ := hrel
    obtain ⟨B0, bc, rfl⟩ := hrow.form
    have HR := Lib.hid (And.intro hrow (And.intro hown hbel))
    have hlen : (L.take k).length = k := by rw [List.length_take, HL2.out]; omega
    rw [hlen] at HR ⊢
    by_cases hlt : k < n
    · obtain ⟨z, hz⟩ : ∃ z, l[k]? = some z := ⟨_, List.getElem?_eq_getElem (by rw [HLL.out]; exact hlt)⟩
      obtain ⟨ka, oa, hA, _, hcell⟩ := (HIN.out.below hbel).cell hz
      rw [hA]
      have i1 : (0 : Int) ≤ (k : Int) := by omega
      have i2 : (k : Int) < (n : Int) := by omega
      have HNK := Lib.hid (HNX.out k z hz)
      have HLK := Lib.hid (And.intro hlt hn)
      have CF := Lib.hid (fun W => valueState_any W z)
      clear hrow hown hbel hlen hk hz
      by_cases h0 : 0 ≤ z
      · have HC0 := Lib.hid (capOfNum_pos h0)
        have hst : stateOf z = 1 := by unfold stateOf; rw [if_pos h0]
        rw [hst] at CF
        have hmax : max z 0 = z := by omega
        have hnl : ¬ z < 0 := by omega
        clear hst
        go_wp2_with (first
          | (go_at_call 115; (with_reducible refine (CF.out _).mono ?_); rintro e w' ⟨rfl, rfl⟩; have hx := World.alloc_heap_new wr (.cells #[.int .i64 1, .int .i64 z, .string ⟨#[]⟩] 37); have HX := Lib.hid (fun j => cell_of_row _ wr.heap.size j _ _ _ hx); clear hx hcell)
          | (at_builtin; refine wpList_append_cap (by rfl) (.tmp 20) (.tmp 26) (by rfl) (.slice B0 k bc) (L.take k) (by rfl) (own_same HR.out.1 fun j hj => Below.heap_alloc _ _ _ (own_lt HR.out.1 j hj).2) ⟨1, z, []⟩ (by rfl) (HX.out 0) (HX.out 1) (HX.out 2) (by rw [List.length_take]; have := HLK.out.2; omega) ?_; intro v' w' hr' hg' hv'; have H1 := Lib.hid hr'; have H2 := Lib.hid hg'; have H3 := Lib.hid hv'; clear hr' hg' hv'))
        go_roundw
        case rel => exact CapsR.next HLK.out.1 HR.out.2.1 HR.out.2.2 (by rw [HNK.out, HC0.out]) ((Below.refl _ _).alloc (Nat.le_refl _) _) H1.out H2.out H3.out
        case measure => have := HLK.out.1; simp [RowKit.intOf]; omega
      · have HC0 := Lib.hid (capOfNum_neg h0)
        have hmax : max z 0 = 0 := by omega
        have hnl : z < 0 := by omega
        generalize stateOf z = st at *
        clear h0
        go_wp2_with (first
          | (go_at_call 115; (with_reducible refine (CF.out _).mono ?_); rintro e w' ⟨rfl, rfl⟩; have hx := World.alloc_heap_new wr (.cells #[.int .i64 st, .int .i64 0, .string ⟨#[]⟩] 37); have HX := Lib.hid (fun j => cell_of_row _ wr.heap.size j _ _ _ hx); clear hx hcell)
          | (at_builtin; refine wpList_append_cap (by rfl) (.tmp 20) (.tmp 26) (by rfl) (.slice B0 k bc) (L.take k) (by rfl) (own_same HR.out.1 fun j hj => Below.heap_alloc _ _ _ (own_lt HR.out.1 j hj).2) ⟨st, 0, []⟩ (by rfl) (HX.out 0) (HX.out 1) (HX.out 2) (by rw [List.length_take]; have := HLK.out.2; omega) ?_; intro v' w' hr' hg' hv'; have H1 := Lib.hid hr'; have H2 := Lib.hid hg'; have H3 := Lib.hid hv'; clear hr' hg' hv'))
        go_roundw
        case rel => exact CapsR.next HLK.out.1 HR.out.2.1 HR.out.2.2 (by rw [HNK.out, HC0.out]) ((Below.refl _ _).alloc (Nat.le_refl _) _) H1.out H2.out H3.out
        case measure => have := HLK.out.1; simp [RowKit.intOf]; omega
    · obtain rfl : n = k := by omega
      have hall : L.take n = L := List.take_of_length_le (by rw [HL2.out]; exact Nat.le_refl _)
      rw [hall] at HR
      clear hall hrow hown hbel hlen hk
      go_wp2_with fail
      go_ret
      exact ⟨_, rfl, HR.out.1, fun j hj => Nat.le_trans HS.out.2.size (HR.out.2.1 j hj), HS.out.next HR.out.2.2⟩
end

section
open Go.RowKit Go.Shelf Go.Lib
attribute [local go_sem] Oper.semAt_some

theorem fail_at (w : World) (z : Int) (p : Nat) (er : Int) (hz : z = p) : Calls Tryz.prog 72 #[.int .i64 z, .int .i64 er] w fun e w' => e = flawE p er ∧ w = w' := by
  subst hz
  exact fail_any w p er
def NamesPost (w : World) (start : Nat) (l : List UInt8) (e : Ending) (w' : World) : Prop := w = w' ∧ e = if namesBad l then flawE start 33 else .returned (str (l.take (l.length - 1)))
set_option maxRecDepth 100000 in
theorem namesOf_any (w : World) (start : Nat) (A : Option Addr) (n cap : Nat) (l : List UInt8) (h : BytesV w (.slice A n cap) l) :
    Calls Tryz.prog 69 #[.int .i64 start, .slice A n cap] w (NamesPost w start l) := by
  have hn : n = l.length := by obtain ⟨_, _, e, _⟩ := h; injection e
  subst hn
  obtain ⟨hcap, hbig⟩ := h.size
  have CI := Lib.hid (bindex_any w A l.length cap l h)
  by_cases hok : 1 ≤ indexByte l 0 ∧ indexByte l 0 = (l.length : Int) - 1
  · have HP : Hid (namesBad l = false) := Lib.hid (by
      obtain ⟨h1, h2⟩ := hok
      unfold namesBad
      have : 1 < l.length := by omega
      simp [this, h2])
    obtain ⟨h1, h2⟩ := hok
    have hsl := slice_head (P := Tryz.prog) 22 5 Tryz.underlying22 1 size_u8 A l.length cap (l.length - 1) (by omega)
    have hT : Tryz.prog.underlying 22 = some (.slice 5) := Tryz.underlying22
    have hcv := (h.head (m := l.length - 1) (by omega)).text
    have hd : indexByte l 0 = ((l.length - 1 : Nat) : Int) := by omega
    rw [hd] at CI h1
    have i4 : (((l.length - 1 : Nat) : Int) != (l.length : Int) - 1) = false := by simp; omega
    have i3 : ¬ ((l.length - 1 : Nat) : Int) < 1 := by omega
    clear hd h2 h h1
    generalize hm : l.length - 1 = m at *
    have HMM := Lib.hid hm
    clear hm
    go_enter Tryz.func69, Tryz.ntmps69
    go_wp2_with (first
      | (refine wpList_slice_run hsl hT (by rfl) _ _ _ (by rfl) (by rfl) (by rfl) (by rfl) ?_)
      | (go_at_call 116; refine (CI.out).mono ?_; rintro e w' ⟨rfl, rfl⟩))
    go_ret
    refine ⟨rfl, ?_⟩
    rw [HP.out, HMM.out]
    rfl
  · have HP : Hid (namesBad l = true) := Lib.hid (by
      unfold namesBad
      have : (decide (1 < l.length) && indexByte l 0 == (l.length : Int) - 1) = false := by
        rw [Bool.eq_false_iff]
        intro hx
        simp at hx
        exact hok ⟨by omega, hx.2⟩
      rw [this]; rfl)
    have CF := Lib.hid (fun W => fail_any W start 33)
    by_cases h1 : indexByte l 0 < 1
    · generalize indexByte l 0 = d at *
      clear h hok
      go_enter Tryz.func69, Tryz.ntmps69
      go_wp2_with (first
        | (go_at_call 116; refine (CI.out).mono ?_; rintro e w' ⟨rfl, rfl⟩)
        | (go_at_call 72; refine (CF.out _).mono ?_; rintro e w' ⟨rfl, rfl⟩))
      exact ⟨rfl, rfl, by rw [HP.out]; rfl⟩
    · have h2 : (indexByte l 0 != (l.length : Int) - 1) = true := by simpa using fun e => hok ⟨by omega, e⟩
      generalize indexByte l 0 = d at *
      clear h hok
      go_enter Tryz.func69, Tryz.ntmps69
      go_wp2_with (first
        | (go_at_call 116; refine (CI.out).mono ?_; rintro e w' ⟨rfl, rfl⟩)
        | (go_at_call 72; refine (CF.out _).mono ?_; rintro e w' ⟨rfl, rfl⟩))
      exact ⟨rfl, rfl, by rw [HP.out]; rfl⟩

def textBad (tab : List UInt8) (is : List Int) (i : Nat) : Bool := (textCap tab (is.getD i 0)).isNone
/-- behind the reading of a row of texts -/
def TextsPost (w : World) (start : Nat) (tab : List UInt8) (is : List Int) (e : Ending) (w' : World) : Prop :=
  Below w.heap.size w w' ∧ match firstBad is.length (textBad tab is) with
    | some i => e = flawE (start + 2 * i) 33
    | none => ∃ u, e = .returned u ∧ CapRow w' u (textsOf tab is) ∧ ∀ k, u.ownBlock = some k → w.heap.size ≤ k
theorem TextsPost.bad {w w' : World} {start : Nat} {tab : List UInt8} {is : List Int} {k : Nat} (hk : k < is.length) (hg : ∀ j, j < k → textBad tab is j = false) (hb : textBad tab is k = true) (hB : Below w.heap.size w w') : TextsPost w start tab is (flawE (start + 2 * k) 33) w' := by
  refine ⟨hB, ?_⟩
  rw [firstBad_some hk hb hg]
theorem TextsPost.ok {w w' : World} {start : Nat} {tab : List UInt8} {is : List Int} {u : Value} (hg : ∀ j, j < is.length → textBad tab is j = false) (hr : CapRow w' u (textsOf tab is)) (ho : ∀ k, u.ownBlock = some k → w.heap.size ≤ k) (hB : Below w.heap.size w w') : TextsPost w start tab is (.returned u) w' := by
  refine ⟨hB, ?_⟩
  rw [firstBad_none.2 hg]
  exact ⟨u, rfl, hr, ho⟩
def TextsR (w : World) (tab : List UInt8) (is : List Int) (n : Nat) (u i : Value) (W : World) : Prop :=
  CapsR w (textsOf tab is) n u i W ∧ ∃ k : Nat, i = .int .i64 k ∧ ∀ j, j < k → textBad tab is j = false
theorem TextsR.next {w W : World} {tab : List UInt8} {is : List Int} {n k : Nat} {u : Value} (h : CapsR w (textsOf tab is) n u (.int .i64 ((k : Int) + 1)) W) (hg : ∀ j, j < k → textBad tab is j = false) (hk : textBad tab is k = false) : TextsR w tab is n u (.int .i64 ((k : Int) + 1)) W :=
  ⟨h, k + 1, by go_num, fun j hj => by
    rcases Nat.lt_or_ge j k with h1 | h1
    · exact hg j h1
    · obtain rfl : j = k := by omega
      exact hk⟩
theorem boxed_below {wr w2 : World} {o1 o4 : Obj} (hb : Below (wr.alloc o1).heap.size (wr.alloc o1) w2) (j : Nat) (v : Value) : Below wr.heap.size wr ((w2.setCell ⟨wr.heap.size, j, none⟩ v).alloc o4) :=
  (((((Below.refl _ _).alloc (Nat.le_refl _) _).trans (hb.mono (by simp))).setCell (by simp) _).alloc (by have := hb.size; simp at *; omega) _)
theorem textsOf_take {tab : List UInt8} {is : List Int} {k : Nat} {z : Int} {c : CapD} (hz : is[k]? = some z) (hc : textCap tab z = some c) : (textsOf tab is).take (k + 1) = (textsOf tab is).take k ++ [c] := by
  have := map_take (fun i => (textCap tab i).getD cap0) hz
  rw [hc] at this
  exact this

set_option maxRecDepth 100000 in
set_option maxHeartbeats 4000000 in
theorem texts_any (w : World) (start : Nat) (hst : start ≤ 140737488351232) (A : Option Addr) (n cap : Nat) (B : Option Addr) (m bc : Nat) (is : List Int) (tab : List UInt8) (hi : IntsV w (.slice A n cap) is) (ht : BytesV w (.slice B m bc) tab) (hb : tab.length ≤ 4000000) (hn : n ≤ 1000) :
    Calls Tryz.prog 70 #[.int .i64 start, .slice A n cap, .slice B m bc] w (TextsPost w start tab is) := by
  have hnl : is.length = n := by obtain ⟨_, _, e, _⟩ := hi; injection e with _ e; exact e.symm
  have HLL := Lib.hid hnl
  have HIN := Lib.hid hi
  have HT := Lib.hid ht
  have HBT := Lib.hid hb
  have hbs := build_st
  have HL2 : Hid ((textsOf tab is).length = n) := Lib.hid (by unfold textsOf; rw [List.length_map, hnl])
  have HI := Lib.hid (show TextsR w tab is n (.slice none 0 0) (.int .i64 0) w from ⟨⟨0, rfl, Nat.zero_le _, World.ownsRow_nil _ _ _ _, (fun j hj => by cases hj), Below.refl _ _⟩, 0, rfl, fun j hj => by omega⟩)
  clear hi ht hb hnl
  go_enter Tryz.func70, Tryz.ntmps70
  go_wp2_with fail
  go_loopw [7, 15] (fun u i wr => TextsR w tab is n u i wr) (fun _ i _ => n - (RowKit.intOf i).toNat)
  case atStart => exact HI.out
  case round =>
    obtain ⟨⟨k, rfl, hk, hrow, hown, hbel⟩, k', hkk, hgood⟩ := hrel
    obtain rfl : k' = k := by injection hkk with _ e; omega
    obtain ⟨B0, bc0, rfl⟩ := hrow.form
    have HR := Lib.hid (And.intro hrow (And.intro hown hbel))
    have HG := Lib.hid hgood
    have hlen : ((textsOf tab is).take k').length = k' := by rw [List.length_take, HL2.out]; omega
    rw [hlen] at HR ⊢
    by_cases hlt : k' < n
    · obtain ⟨z, hz⟩ : ∃ z, is[k']? = some z := ⟨_, List.getElem?_eq_getElem (by rw [HLL.out]; exact hlt)⟩
      have hgd : is.getD k' 0 = z := by rw [List.getD_eq_getElem?_getD, hz]; rfl
      obtain ⟨ka, oa, rfl, hka, hcell⟩ := (HIN.out.below hbel).cell hz
      have i1 : (0 : Int) ≤ (k' : Int) := by omega
      have i2 : (k' : Int) < (n : Int) := by omega
      have HLK := Lib.hid (And.intro hlt hn)
      have HZ := Lib.hid (And.intro hz hgd)
      have CF := Lib.hid (fun W => valueState_any W z)
      clear hrow hown hbel hlen hk hz hkk hgood hgd
      by_cases h0 : 0 ≤ z
      · have hst1 : stateOf z = 1 := by unfold stateOf; rw [if_pos h0]
        rw [hst1] at CF
        clear hst1
        have HB1 : Hid (Below w.heap.size w (wr.alloc (.cells #[.int .i64 1, .int .i64 0, .string ⟨#[]⟩] 37))) := Lib.hid (HR.out.2.2.alloc HR.out.2.2.size _)
        have CT0 := Lib.hid (textAt_any (wr.alloc (.cells #[.int .i64 1, .int .i64 0, .string ⟨#[]⟩] 37)) B m bc tab z (HT.out.below HB1.out) HBT.out)
        cases hp : textP tab z with
        | none =>
          have HBad : Hid (textBad tab is k' = true) := Lib.hid (by unfold textBad; rw [HZ.out.2]; unfold textCap; rw [if_pos h0, hp]; rfl)
          have CT := Lib.hid ((CT0.out).mono fun e w' (h : TextPost _ _ e w') => (show e = .returned (.tuple #[str [], .bool false]) ∧ Below _ _ w' from ⟨by rw [h.1, hp]; rfl, h.2⟩))
          clear CT0
          have CX := Lib.hid (fun W => fail_at W ((start : Int) + 2 * (k' : Int)) (start + 2 * k') 33 (by push_cast; rfl))
          clear hp h0
          go_wp2_with (first
            | (go_at_call 115; (with_reducible refine (CF.out _).mono ?_); rintro e w' ⟨rfl, rfl⟩)
            | (go_at_call 117; refine (CT.out).mono ?_; rintro e w2 ⟨rfl, hb2⟩; have HB2 := Lib.hid hb2; clear hb2)
            | (go_at_call 72; refine (CX.out _).mono ?_; rintro e w' ⟨rfl, rfl⟩))
          exact ⟨rfl, TextsPost.bad (by rw [HLL.out]; exact HLK.out.1) HG.out HBad.out (HB1.out.trans (HB2.out.mono HB1.out.size))⟩
        | some t =>
          have HOk : Hid (textBad tab is k' = false ∧ (textsOf tab is).take (k' + 1) = (textsOf tab is).take k' ++ [⟨1, 0, t⟩]) := Lib.hid (by
            have hc : textCap tab z = some ⟨1, 0, t⟩ := by unfold textCap; rw [if_pos h0, hp]; rfl
            exact ⟨by unfold textBad; rw [HZ.out.2, hc]; rfl, textsOf_take HZ.out.1 hc⟩)
          have CT := Lib.hid ((CT0.out).mono fun e w' (h : TextPost _ _ e w') => (show e = .returned (.tuple #[str t, .bool true]) ∧ Below _ _ w' from ⟨by rw [h.1, hp]; rfl, h.2⟩))
          clear CT0
          clear hp h0
          go_wp2_with (first
            | (go_at_call 115; (with_reducible refine (CF.out _).mono ?_); rintro e w' ⟨rfl, rfl⟩)
            | (go_at_call 117; refine (CT.out).mono ?_; rintro e w2 ⟨rfl, hb2⟩; have HB2 := Lib.hid hb2; have hbx := (hb2.block wr.heap.size (by simp)).trans (World.alloc_heap_new wr _); have q0 := cell_of_row w2 wr.heap.size 0 _ _ _ hbx; have q1 := cell_of_row w2 wr.heap.size 1 _ _ _ hbx; have q2 := cell_of_row w2 wr.heap.size 2 _ _ _ hbx; have f2 := frozen_of_row w2 wr.heap.size 2 _ _ hbx; simp only [List.getElem?_toArray, List.getElem?_cons_zero, List.getElem?_cons_succ] at q0 q1 q2; have hx := World.alloc_heap_new (w2.setCell ⟨wr.heap.size, 2, none⟩ (str t)) (.cells #[.int .i64 1, .int .i64 0, str t] 37); rw [show (w2.setCell ⟨wr.heap.size, 2, none⟩ (str t)).heap.size = w2.heap.size by simp] at hx; have HX := Lib.hid (fun j => cell_of_row _ _ j _ _ _ hx); have HBW := Lib.hid (boxed_below (o4 := .cells #[.int .i64 1, .int .i64 0, str t] 37) hb2 2 (str t)); clear hb2 hbx hx hcell)
            | (at_builtin; refine wpList_append_cap (by rfl) (.tmp 41) (.tmp 43) (by rfl) (.slice B0 k' bc0) ((textsOf tab is).take k') (by rfl) (own_same HR.out.1 fun j hj => HBW.out.block j (own_lt HR.out.1 j hj).2) ⟨1, 0, t⟩ (by rfl) (HX.out 0) (HX.out 1) (HX.out 2) (by rw [List.length_take]; have := HLK.out; omega) ?_; intro v' w' hr' hg' hv'; have H1 := Lib.hid hr'; have H2 := Lib.hid hg'; have H3 := Lib.hid hv'; clear hr' hg' hv'))
          go_roundw
          case rel => exact TextsR.next (CapsR.next HLK.out.1 HR.out.2.1 HR.out.2.2 HOk.out.2 HBW.out H1.out H2.out H3.out) HG.out HOk.out.1
          case measure => have := HLK.out.1; simp [RowKit.intOf]; omega
      · have HOk : Hid (textBad tab is k' = false ∧ (textsOf tab is).take (k' + 1) = (textsOf tab is).take k' ++ [⟨stateOf z, 0, []⟩]) := Lib.hid (by
          have hc : textCap tab z = some ⟨stateOf z, 0, []⟩ := by unfold textCap; rw [if_neg h0]
          exact ⟨by unfold textBad; rw [HZ.out.2, hc]; rfl, textsOf_take HZ.out.1 hc⟩)
        have hs1 : (stateOf z == 1) = false := by unfold stateOf; rw [if_neg h0]; split <;> rfl
        generalize stateOf z = st at *
        clear h0
        go_wp2_with (first
          | (go_at_call 115; (with_reducible refine (CF.out _).mono ?_); rintro e w' ⟨rfl, rfl⟩; have hx := World.alloc_heap_new (wr.alloc (.cells #[.int .i64 st, .int .i64 0, .string ⟨#[]⟩] 37)) (.cells #[.int .i64 st, .int .i64 0, .string ⟨#[]⟩] 37); rw [show (wr.alloc (.cells #[.int .i64 st, .int .i64 0, .string ⟨#[]⟩] 37)).heap.size = wr.heap.size + 1 by simp] at hx; have HX := Lib.hid (fun j => cell_of_row _ _ j _ _ _ hx); have HBW := Lib.hid ((((Below.refl _ wr).alloc (Nat.le_refl _) (.cells #[.int .i64 st, .int .i64 0, .string ⟨#[]⟩] 37)).alloc (by simp) (.cells #[.int .i64 st, .int .i64 0, .string ⟨#[]⟩] 37))); clear hx hcell)
          | (at_builtin; refine wpList_append_cap (by rfl) (.tmp 41) (.tmp 43) (by rfl) (.slice B0 k' bc0) ((textsOf tab is).take k') (by rfl) (own_same HR.out.1 fun j hj => HBW.out.block j (own_lt HR.out.1 j hj).2) ⟨st, 0, []⟩ (by rfl) (HX.out 0) (HX.out 1) (HX.out 2) (by rw [List.length_take]; have := HLK.out; omega) ?_; intro v' w' hr' hg' hv'; have H1 := Lib.hid hr'; have H2 := Lib.hid hg'; have H3 := Lib.hid hv'; clear hr' hg' hv'))
        go_roundw
        case rel => exact TextsR.next (CapsR.next HLK.out.1 HR.out.2.1 HR.out.2.2 HOk.out.2 HBW.out H1.out H2.out H3.out) HG.out HOk.out.1
        case measure => have := HLK.out.1; simp [RowKit.intOf]; omega
    · obtain rfl : n = k' := by omega
      have hall : (textsOf tab is).take n = textsOf tab is := List.take_of_length_le (by rw [HL2.out]; exact Nat.le_refl _)
      rw [hall] at HR
      clear hall hrow hown hbel hlen hk hkk hgood
      go_wp2_with fail
      go_ret
      exact TextsPost.ok (fun j hj => HG.out j (by rw [HLL.out] at hj; exact hj)) HR.out.1 HR.out.2.1 HR.out.2.2
end

section
open Go.RowKit Go.Shelf Go.Lib
attribute [local go_sem] Oper.semAt_some

/-- a slice of integers that stays whatever becomes of the blocks of T -/
def RobI (T : Nat → Prop) (W : World) (u : Value) (l : List Int) : Prop := ∀ W', Touch T W W' → IntsV W' u l
theorem RobI.next {T : Nat → Prop} {W W' : World} {u : Value} {l : List Int} (h : RobI T W u l) (ht : Touch T W W') : RobI T W' u l := fun _ h2 => h _ (ht.trans h2)
theorem RobI.val {T : Nat → Prop} {W : World} {u : Value} {l : List Int} (h : RobI T W u l) : IntsV W u l := h W (Touch.refl _ _)
theorem RobI.of_row {T : Nat → Prop} {W : World} {u : Value} {l : List Int} (hr : IntRow W u l) (ho : ∀ b, u.ownBlock = some b → ¬ T b) (hl : l.length ≤ 100000) : RobI T W u l :=
  fun _ ht => IntRow.reads (own_same hr fun b hb => ht.block b (own_lt hr b hb).2 (ho b hb)) hl
theorem IntsV.tail1 {W : World} {A : Option Addr} {n cap : Nat} {l : List Int} (h : IntsV W (.slice A (n + 1) cap) l) : IntsV W (.slice (tailA A cap 1 1) n (cap - 1)) (l.drop 1) := by
  obtain ⟨A', cap', e, h1, h2, h3⟩ := h
  injection e with e1 e2 e3
  subst e1 e3
  have hs := src_part (p := 1) (n := n) h3 (by omega) h1
  have hl : (l.drop 1).length = n := by rw [List.length_drop]; omega
  refine ⟨_, _, by rw [hl], by omega, by omega, ?_⟩
  rw [hl]
  have : intVals (l.drop 1) = ((intVals l).drop (1 * 1)).take (n * 1) := by
    rw [Nat.mul_one, Nat.mul_one]
    unfold intVals
    rw [← List.map_drop, List.take_of_length_le (by rw [List.length_map, hl]; exact Nat.le_refl _)]
  rw [this]
  exact hs
theorem IntsV.le_cap {W : World} {A : Option Addr} {n cap : Nat} {l : List Int} (h : IntsV W (.slice A n cap) l) : n ≤ cap := by
  obtain ⟨A', cap', e, h1, _⟩ := h
  injection e with e1 e2 e3
  omega
theorem shorts_at (b : List UInt8) (p n i : Nat) (h : i < n) : (shortsAt b p n)[i]? = some (shortAt b (p + 2 * i)) := by
  unfold shortsAt numsAt
  simp [h, numAt, sizeOf]
theorem shorts_drop (b : List UInt8) (p n : Nat) : (shortsAt b p (n + 1)).drop 1 = shortsAt b (p + 2) n := by
  apply List.ext_getElem?
  intro i
  rw [List.getElem?_drop]
  by_cases h : i < n
  · rw [shorts_at _ _ _ _ (by omega), shorts_at _ _ _ _ h]
    congr 2
    omega
  · rw [List.getElem?_eq_none (by unfold shortsAt; rw [numsAt_length]; omega), List.getElem?_eq_none (by unfold shortsAt; rw [numsAt_length]; omega)]
theorem shorts_length (b : List UInt8) (p n : Nat) : (shortsAt b p n).length = n := numsAt_length _ _ _ _
theorem short2_bd (x y : UInt8) : -32768 ≤ short2 x y ∧ short2 x y ≤ 32767 := by
  have := x.toNat_lt
  have := y.toNat_lt
  unfold short2
  split <;> omega
theorem short_bd (b : List UInt8) (p : Nat) : -32768 ≤ shortAt b p ∧ shortAt b p ≤ 32767 := short2_bd _ _

/-- behind the head of a file -/
def HeadPost (w : World) (rb : Nat) (v : Value) (b : List UInt8) (e : Ending) (w' : World) : Prop :=
  Touch (fun k => k = rb) w w' ∧
  if b.length < 12 then e = flawE b.length 31
  else if shortAt b 0 ≠ 282 ∧ shortAt b 0 ≠ 542 then e = flawE 0 30
  else match firstBad 5 (countBad b) with
    | some i => e = flawE (2 + 2 * i) 32
    | none => ∃ A cap, e = .returned (.slice A 5 cap) ∧ RobI (fun k => k < w.heap.size) w' (.slice A 5 cap) (shortsAt b 2 5) ∧ RdAt w' rb v b 12 (sizeOf (decide (shortAt b 0 = 542)))
theorem HeadPost.short {w w' : World} {rb : Nat} {v : Value} {b : List UInt8} (h : b.length < 12) (ht : Touch (fun k => k = rb) w w') : HeadPost w rb v b (flawE b.length 31) w' := ⟨ht, by rw [if_pos h]⟩
theorem HeadPost.magic {w w' : World} {rb : Nat} {v : Value} {b : List UInt8} (h : ¬ b.length < 12) (h2 : shortAt b 0 ≠ 282 ∧ shortAt b 0 ≠ 542) (ht : Touch (fun k => k = rb) w w') : HeadPost w rb v b (flawE 0 30) w' := ⟨ht, by rw [if_neg h, if_pos h2]⟩
theorem HeadPost.bad {w w' : World} {rb : Nat} {v : Value} {b : List UInt8} {k : Nat} (h : ¬ b.length < 12) (h2 : ¬ (shortAt b 0 ≠ 282 ∧ shortAt b 0 ≠ 542)) (hk : k < 5) (hg : ∀ j, j < k → countBad b j = false) (hb : countBad b k = true) (ht : Touch (fun k => k = rb) w w') : HeadPost w rb v b (flawE (2 + 2 * k) 32) w' :=
  ⟨ht, by rw [if_neg h, if_neg h2, firstBad_some hk hb hg]⟩
theorem HeadPost.ok {w w' : World} {rb : Nat} {v : Value} {b : List UInt8} {A : Option Addr} {cap : Nat} (h : ¬ b.length < 12) (h2 : ¬ (shortAt b 0 ≠ 282 ∧ shortAt b 0 ≠ 542)) (hg : ∀ j, j < 5 → countBad b j = false) (ht : Touch (fun k => k = rb) w w')
    (hr : RobI (fun k => k < w.heap.size) w' (.slice A 5 cap) (shortsAt b 2 5)) (hrd : RdAt w' rb v b 12 (sizeOf (decide (shortAt b 0 = 542)))) : HeadPost w rb v b (.returned (.slice A 5 cap)) w' :=
  ⟨ht, by rw [if_neg h, if_neg h2, firstBad_none.2 hg]; exact ⟨A, cap, rfl, hr, hrd⟩⟩
theorem tail_some (ka oa bc : Nat) (h : 1 < bc) : tailA (some ⟨ka, oa, none⟩) bc 1 1 = some ⟨ka, oa + 1, none⟩ := by
  unfold tailA
  rw [if_neg (by omega)]
  show some ((⟨ka, oa, none⟩ : Addr).add (1 * 1)) = _
  rw [add_off]
/-- ahead of the test of the counts -/
structure HeadF (w w3 : World) (rb : Nat) (v : Value) (b : List UInt8) (sz : Nat) (ka oa bc mb : Nat) : Prop where
  rd : RdAt w3 rb v b 12 sz
  touch : Touch (fun k => k = rb) w w3
  ints : RobI (fun k => k < w.heap.size) w3 (.slice (some ⟨ka, oa + 1, none⟩) 5 (bc - 1)) (shortsAt b 2 5)
  most : w3.heap[mb]? = some (.cells #[.int .i64 512, .int .i64 64, .int .i64 64, .int .i64 512, .int .i64 32767] 155 (0, 0))
theorem HeadF.made {w w2 : World} {rb : Nat} {v : Value} {b : List UInt8} {size ka oa bc : Nat} (hs : Step w rb v b (0 + 6 * 2) size w2) (hr : IntRow w2 (.slice (some ⟨ka, oa, none⟩) 6 bc) (shortsAt b 0 6) ∧ ∀ k, (Value.slice (some ⟨ka, oa, none⟩) 6 bc).ownBlock = some k → w.heap.size ≤ k) (hlt : rb < w.heap.size) (hbc : 6 ≤ bc) (sz : Nat) :
    HeadF w ((w2.setCell ⟨rb, 2, none⟩ (.int .i64 sz)).alloc (.cells #[.int .i64 512, .int .i64 64, .int .i64 64, .int .i64 512, .int .i64 32767] 155)) rb v b sz ka oa bc w2.heap.size := by
  have ht1 : Touch (fun k => k = rb) w2 (w2.setCell ⟨rb, 2, none⟩ (.int .i64 sz)) := Touch.setCell _ ⟨rb, 2, none⟩ _ rfl
  have ht : Touch (fun k => k = rb) w2 ((w2.setCell ⟨rb, 2, none⟩ (.int .i64 sz)).alloc (.cells #[.int .i64 512, .int .i64 64, .int .i64 64, .int .i64 512, .int .i64 32767] 155)) := ht1.trans (Touch.of_below ((Below.refl _ _).alloc (Nat.le_refl _) _))
  have hR : RobI (fun k => k < w.heap.size) w2 (.slice (some ⟨ka, oa, none⟩) 6 bc) (shortsAt b 0 6) := RobI.of_row hr.1 (fun k hk => by have := hr.2 k hk; omega) (by rw [shorts_length]; omega)
  refine ⟨(hs.1.setSize sz).below ((Below.refl _ _).alloc (Nat.le_refl _) _), hs.2.trans ht, fun W' hW => ?_, ?_⟩
  · have := (hR.next (ht.mono fun k _ hk => by omega) W' hW).tail1
    rw [tail_some _ _ _ (by omega), shorts_drop] at this
    exact this
  · have := World.alloc_heap_new (w2.setCell ⟨rb, 2, none⟩ (.int .i64 sz)) (.cells #[.int .i64 512, .int .i64 64, .int .i64 64, .int .i64 512, .int .i64 32767] 155)
    rw [show (w2.setCell ⟨rb, 2, none⟩ (.int .i64 sz)).heap.size = w2.heap.size by simp] at this
    exact this
def mostCells : Array Value := #[.int .i64 512, .int .i64 64, .int .i64 64, .int .i64 512, .int .i64 32767]
theorem most_at (k : Nat) (hk : k < 5) : (#[.int .i64 512, .int .i64 64, .int .i64 64, .int .i64 512, .int .i64 32767] : Array Value)[k]? = some (.int .i64 (mostOf k)) := by
  match k, hk with
  | 0, _ | 1, _ | 2, _ | 3, _ | 4, _ => rfl
def CountR (b : List UInt8) (n : Nat) (i : Value) : Prop := ∃ k : Nat, i = .int .i64 k ∧ k ≤ n ∧ ∀ j, j < k → countBad b j = false
theorem CountR.next {b : List UInt8} {n k : Nat} (hk : k < n) (hg : ∀ j, j < k → countBad b j = false) (h : countBad b k = false) : CountR b n (.int .i64 ((k : Int) + 1)) :=
  ⟨k + 1, by go_num, hk, fun j hj => by
    rcases Nat.lt_or_ge j k with h1 | h1
    · exact hg j h1
    · obtain rfl : j = k := by omega
      exact h⟩
theorem countBad_false {b : List UInt8} {k : Nat} (h1 : ¬ shortAt b (2 + 2 * k) < 0) (h2 : ¬ mostOf k < shortAt b (2 + 2 * k)) (h3 : ¬ (k = 0 ∧ shortAt b (2 + 2 * k) = 0)) : countBad b k = false := by
  unfold countBad
  simp only [Bool.or_eq_false_iff, decide_eq_false_iff_not, Bool.and_eq_false_iff, beq_eq_false_iff_ne]
  refine ⟨⟨h1, h2⟩, ?_⟩
  by_cases hk : k = 0
  · exact .inr fun e => h3 ⟨hk, e⟩
  · exact .inl hk
theorem head_short (w : World) (rb : Nat) (v : Value) (b : List UInt8) (size : Nat) (h : RdAt w rb v b 0 size) (hl : b.length < 12) :
    Calls Tryz.prog 63 #[.pointer (some ⟨rb, 0, none⟩)] w (HeadPost w rb v b) := by
  have CT := Lib.hid (shorts_bad w rb v b 0 size 6 h (by omega) (by omega))
  have HL := Lib.hid hl
  clear h hl
  go_enter Tryz.func63, Tryz.ntmps63
  go_wp2_with (go_at_call 68; (refine (CT.out).mono ?_); rintro e w' ⟨rfl, hs⟩; have HS := Lib.hid hs; clear hs)
  exact ⟨rfl, HeadPost.short HL.out HS.out⟩
set_option maxRecDepth 100000 in
set_option maxHeartbeats 4000000 in
theorem head_long (w : World) (rb : Nat) (A : Option Addr) (cap : Nat) (b : List UInt8) (size : Nat) (h : RdAt w rb (.slice A b.length cap) b 0 size) (hl : ¬ b.length < 12) :
    Calls Tryz.prog 63 #[.pointer (some ⟨rb, 0, none⟩)] w (HeadPost w rb (.slice A b.length cap) b) := by
  have CT := Lib.hid (shorts_ok w rb A cap b 0 size 6 h (by omega) (by omega))
  have HL := Lib.hid hl
  have hlt := h.lt
  have HLT := Lib.hid hlt
  clear h hl
  by_cases hm : shortAt b 0 ≠ 282 ∧ shortAt b 0 ≠ 542
  · have HM := Lib.hid hm
    obtain ⟨m1, m2⟩ := hm
    have CF := Lib.hid (fun W => fail_any W 0 30)
    go_enter Tryz.func63, Tryz.ntmps63
    go_wp2_with (first
      | (go_at_call 68; (refine (CT.out).mono ?_); rintro e w2 ⟨u0, rfl, hr0, ho0, hs2⟩; obtain ⟨B1, bc1, hB1, hIN⟩ := hr0.reads_n (shorts_length _ _ _) (by omega); subst hB1; obtain ⟨ka, oa, rfl, hka, hcell⟩ := hIN.cell (shorts_at b 0 6 0 (by omega)); have HS := Lib.hid hs2; simp only [Nat.mul_zero, Nat.add_zero] at hcell; clear hs2 hIN hr0 ho0)
      | (go_at_call 72; refine (CF.out _).mono ?_; rintro e w' ⟨rfl, rfl⟩))
    exact ⟨rfl, HeadPost.magic HL.out HM.out HS.out.2⟩
  · have HM := Lib.hid hm
    have hsl : ∀ (ka oa bc : Nat) (W : World), 6 ≤ bc → (Instr.slice 73 (.slice (some ⟨ka, oa, none⟩) 6 bc) (some (.int .i64 1)) none none).run Tryz.prog W = .ok (.slice (some ⟨ka, oa + 1, none⟩) 5 (bc - 1)) W := fun ka oa bc W hbc => by
      have := slice_tail (P := Tryz.prog) 73 3 Tryz.underlying73 1 size_int (some ⟨ka, oa, none⟩) 6 bc 1 (by omega) W
      rw [tail_some ka oa bc (by omega)] at this
      exact this
    have HSL := Lib.hid hsl
    have hT : Tryz.prog.underlying 73 = some (.slice 3) := Tryz.underlying73
    have hbm : ∀ W, (Instr.build 155 #[(0, .int .i64 512), (1, .int .i64 64), (2, .int .i64 64), (3, .int .i64 512), (4, .int .i64 32767)]).run Tryz.prog W = .ok (.agg #[.int .i64 512, .int .i64 64, .int .i64 64, .int .i64 512, .int .i64 32767]) W := fun W => by kernel_rfl
    obtain ⟨wide, hwide, hmg⟩ : ∃ wide : Bool, decide (shortAt b 0 = 542) = wide ∧ shortAt b 0 = if wide then 542 else 282 := by
      by_cases h5 : shortAt b 0 = 542
      · exact ⟨true, by simp [h5], by simp [h5]⟩
      · exact ⟨false, by simp [h5], by simp; omega⟩
    have HW := Lib.hid hwide
    clear hm hsl hwide
    cases wide
    · simp only [Bool.false_eq_true, if_false] at hmg
      have HMG := Lib.hid hmg
      clear hmg
      go_enter Tryz.func63, Tryz.ntmps63
      go_wp2_with (first
        | (go_at_call 68; (refine (CT.out).mono ?_); rintro e w2 ⟨u0, rfl, hr0, ho0, hs2⟩; have HROW := Lib.hid (And.intro hr0 ho0); obtain ⟨B1, bc1, hB1, hIN⟩ := hr0.reads_n (shorts_length _ _ _) (by omega); subst hB1; have hbc := hIN.le_cap; obtain ⟨ka, oa, rfl, hka, hcell⟩ := hIN.cell (shorts_at b 0 6 0 (by omega)); have hsl1 := fun W => HSL.out ka oa bc1 W hbc; have HS := Lib.hid hs2; simp only [Nat.mul_zero, Nat.add_zero] at hcell; rw [HMG.out] at hcell; obtain ⟨c0, c1, c2, f0, f1, f2⟩ := hs2.1.cells; clear hs2 hIN hr0 ho0)
        | (refine wpList_slice_run hsl1 hT (by rfl) _ _ _ (by rfl) (by rfl) (by rfl) (by rfl) ?_))
      have F := Lib.hid (HeadF.made HS.out HROW.out HLT.out hbc 2)
      generalize (w2.setCell ⟨rb, 2, none⟩ (.int .i64 2)).alloc (.cells #[.int .i64 512, .int .i64 64, .int .i64 64, .int .i64 512, .int .i64 32767] 155) = w3 at *
      clear c0 c1 c2 f0 f1 f2 hcell hsl1 hbm
      go_loop [29] (CountR b 5) (fun i => 5 - (RowKit.intOf i).toNat)
      case atStart => exact ⟨0, rfl, by omega, fun j hj => by omega⟩
      case round =>
        obtain ⟨k, rfl, hk, hg⟩ := hrel
        have HG := Lib.hid hg
        by_cases hk5 : k < 5
        · have HLK := Lib.hid hk5
          obtain ⟨ka2, oa2, e2, _, hc⟩ := F.out.ints.val.cell (shorts_at b 2 5 k hk5)
          injection e2 with e2
          injection e2 with e3 e4
          subst e3 e4
          have hmc := (cell_of_row w3 w2.heap.size k _ _ _ F.out.most).trans (most_at k hk5)
          have HBD : Hid (countBad b k = (decide (shortAt b (2 + 2 * k) < 0) || decide (mostOf k < shortAt b (2 + 2 * k)) || (k == 0 && shortAt b (2 + 2 * k) == 0))) := Lib.hid rfl
          have CX := Lib.hid (fun W => fail_at W (2 * (1 + (k : Int))) (2 + 2 * k) 32 (by omega))
          have i1 : (0 : Int) ≤ (k : Int) := by omega
          have i2 : (k : Int) < 5 := by omega
          clear hk hg hk5
          generalize shortAt b (2 + 2 * k) = z at *
          generalize mostOf k = m at *
          by_cases h1 : z < 0
          · have H1 := Lib.hid h1
            go_wp2_with (go_at_call 72; refine (CX.out _).mono ?_; rintro e w' ⟨rfl, rfl⟩)
            exact ⟨rfl, HeadPost.bad HL.out HM.out HLK.out HG.out (by rw [HBD.out]; simp [H1.out]) F.out.touch⟩
          · by_cases h2 : m < z
            · have H1 := Lib.hid h2
              go_wp2_with (go_at_call 72; refine (CX.out _).mono ?_; rintro e w' ⟨rfl, rfl⟩)
              exact ⟨rfl, HeadPost.bad HL.out HM.out HLK.out HG.out (by rw [HBD.out]; simp [H1.out]) F.out.touch⟩
            · have h1' : 0 ≤ z := by omega
              have h2' : z ≤ m := by omega
              have H1 := Lib.hid (And.intro h1 h2)
              by_cases hk0 : k = 0
              · have hkb : ((k : Int) == 0) = true := by simpa using hk0
                have HK0 := Lib.hid hk0
                clear hk0
                by_cases hz0 : z = 0
                · have hzb : (z == 0) = true := by simpa using hz0
                  have HZ0 := Lib.hid hz0
                  clear hz0
                  go_wp2_with (go_at_call 72; refine (CX.out _).mono ?_; rintro e w' ⟨rfl, rfl⟩)
                  exact ⟨rfl, HeadPost.bad HL.out HM.out HLK.out HG.out (by rw [HBD.out]; simp [HK0.out, HZ0.out]) F.out.touch⟩
                · have hzb : (z == 0) = false := by simpa using hz0
                  have HZ0 := Lib.hid hz0
                  clear hz0
                  go_wp2_with fail
                  go_round
                  case rel => exact CountR.next HLK.out HG.out (by rw [HBD.out]; simp [H1.out, HZ0.out])
                  case measure => have := HLK.out; simp [RowKit.intOf]; omega
              · have hkb : ((k : Int) == 0) = false := by simpa using hk0
                have HK0 := Lib.hid hk0
                clear hk0
                go_wp2_with fail
                go_round
                case rel => exact CountR.next HLK.out HG.out (by rw [HBD.out]; simp [H1.out, HK0.out])
                case measure => have := HLK.out; simp [RowKit.intOf]; omega
        · obtain rfl : k = 5 := by omega
          clear hk hg
          go_wp2_with fail
          go_ret
          exact HeadPost.ok HL.out HM.out HG.out F.out.touch F.out.ints (by rw [HW.out]; exact F.out.rd)
    · simp only [if_true] at hmg
      have HMG := Lib.hid hmg
      clear hmg
      go_enter Tryz.func63, Tryz.ntmps63
      go_wp2_with (first
        | (go_at_call 68; (refine (CT.out).mono ?_); rintro e w2 ⟨u0, rfl, hr0, ho0, hs2⟩; have HROW := Lib.hid (And.intro hr0 ho0); obtain ⟨B1, bc1, hB1, hIN⟩ := hr0.reads_n (shorts_length _ _ _) (by omega); subst hB1; have hbc := hIN.le_cap; obtain ⟨ka, oa, rfl, hka, hcell⟩ := hIN.cell (shorts_at b 0 6 0 (by omega)); have hsl1 := fun W => HSL.out ka oa bc1 W hbc; have HS := Lib.hid hs2; simp only [Nat.mul_zero, Nat.add_zero] at hcell; rw [HMG.out] at hcell; obtain ⟨c0, c1, c2, f0, f1, f2⟩ := hs2.1.cells; clear hs2 hIN hr0 ho0)
        | (refine wpList_slice_run hsl1 hT (by rfl) _ _ _ (by rfl) (by rfl) (by rfl) (by rfl) ?_))
      have F := Lib.hid (HeadF.made HS.out HROW.out HLT.out hbc 4)
      generalize (w2.setCell ⟨rb, 2, none⟩ (.int .i64 4)).alloc (.cells #[.int .i64 512, .int .i64 64, .int .i64 64, .int .i64 512, .int .i64 32767] 155) = w3 at *
      clear c0 c1 c2 f0 f1 f2 hcell hsl1 hbm
      go_loop [29] (CountR b 5) (fun i => 5 - (RowKit.intOf i).toNat)
      case atStart => exact ⟨0, rfl, by omega, fun j hj => by omega⟩
      case round =>
        obtain ⟨k, rfl, hk, hg⟩ := hrel
        have HG := Lib.hid hg
        by_cases hk5 : k < 5
        · have HLK := Lib.hid hk5
          obtain ⟨ka2, oa2, e2, _, hc⟩ := F.out.ints.val.cell (shorts_at b 2 5 k hk5)
          injection e2 with e2
          injection e2 with e3 e4
          subst e3 e4
          have hmc := (cell_of_row w3 w2.heap.size k _ _ _ F.out.most).trans (most_at k hk5)
          have HBD : Hid (countBad b k = (decide (shortAt b (2 + 2 * k) < 0) || decide (mostOf k < shortAt b (2 + 2 * k)) || (k == 0 && shortAt b (2 + 2 * k) == 0))) := Lib.hid rfl
          have CX := Lib.hid (fun W => fail_at W (2 * (1 + (k : Int))) (2 + 2 * k) 32 (by omega))
          have i1 : (0 : Int) ≤ (k : Int) := by omega
          have i2 : (k : Int) < 5 := by omega
          clear hk hg hk5
          generalize shortAt b (2 + 2 * k) = z at *
          generalize mostOf k = m at *
          by_cases h1 : z < 0
          · have H1 := Lib.hid h1
            go_wp2_with (go_at_call 72; refine (CX.out _).mono ?_; rintro e w' ⟨rfl, rfl⟩)
            exact ⟨rfl, HeadPost.bad HL.out HM.out HLK.out HG.out (by rw [HBD.out]; simp [H1.out]) F.out.touch⟩
          · by_cases h2 : m < z
            · have H1 := Lib.hid h2
              go_wp2_with (go_at_call 72; refine (CX.out _).mono ?_; rintro e w' ⟨rfl, rfl⟩)
              exact ⟨rfl, HeadPost.bad HL.out HM.out HLK.out HG.out (by rw [HBD.out]; simp [H1.out]) F.out.touch⟩
            · have h1' : 0 ≤ z := by omega
              have h2' : z ≤ m := by omega
              have H1 := Lib.hid (And.intro h1 h2)
              by_cases hk0 : k = 0
              · have hkb : ((k : Int) == 0) = true := by simpa using hk0
                have HK0 := Lib.hid hk0
                clear hk0
                by_cases hz0 : z = 0
                · have hzb : (z == 0) = true := by simpa using hz0
                  have HZ0 := Lib.hid hz0
                  clear hz0
                  go_wp2_with (go_at_call 72; refine (CX.out _).mono ?_; rintro e w' ⟨rfl, rfl⟩)
                  exact ⟨rfl, HeadPost.bad HL.out HM.out HLK.out HG.out (by rw [HBD.out]; simp [HK0.out, HZ0.out]) F.out.touch⟩
                · have hzb : (z == 0) = false := by simpa using hz0
                  have HZ0 := Lib.hid hz0
                  clear hz0
                  go_wp2_with fail
                  go_round
                  case rel => exact CountR.next HLK.out HG.out (by rw [HBD.out]; simp [H1.out, HZ0.out])
                  case measure => have := HLK.out; simp [RowKit.intOf]; omega
              · have hkb : ((k : Int) == 0) = false := by simpa using hk0
                have HK0 := Lib.hid hk0
                clear hk0
                go_wp2_with fail
                go_round
                case rel => exact CountR.next HLK.out HG.out (by rw [HBD.out]; simp [H1.out, HK0.out])
                case measure => have := HLK.out; simp [RowKit.intOf]; omega
        · obtain rfl : k = 5 := by omega
          clear hk hg
          go_wp2_with fail
          go_ret
          exact HeadPost.ok HL.out HM.out HG.out F.out.touch F.out.ints (by rw [HW.out]; exact F.out.rd)
end
end Go.Proofs.YtcfgppjhgobboaaGreatDoor
