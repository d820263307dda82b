/-
  The reader of package tinfo: texts of a table.
-/
import Derived.Test.YtcfgppjhgobboaaGreatDoorTiRd
import Derived.Test.YtcfgppjhgobboaaGreatDoorTiLayB
import Derived.Shelf.Bytes.SlCut
import Derived.Shelf.Bytes.SlEqualAll
namespace Go.Proofs.YtcfgppjhgobboaaGreatDoor
open Go.RowKit Go.Shelf Go.Lib
attribute [local go_sem] Oper.semAt_some

def byteInts (l : List UInt8) : List Int := l.map fun c => (c.toNat : Int)
theorem bytesOf_ints (l : List UInt8) : bytesOf (byteInts l) = l := by
  unfold bytesOf byteInts
  rw [List.map_map]
  conv => rhs; rw [← List.map_id l]
  apply List.map_congr_left
  intro c _
  simp
theorem strOf_ints (l : List UInt8) : strOfNums (byteInts l) = ⟨l.toArray⟩ := by
  have h : (byteInts l).map (fun n => UInt8.ofNat n.toNat) = l := bytesOf_ints l
  unfold strOfNums
  simp only [h]
theorem BytesV.inn {W : World} {A : Option Addr} {n cap : Nat} {l : List UInt8} (h : BytesV W (.slice A n cap) l) : BytesIn W A l.length (byteInts l) := by
  intro hn
  obtain ⟨A', cap', e, _, _, h3⟩ := h
  injection e with e1 e2 e3
  subst e1
  obtain ⟨k, off, e, hk, hc⟩ := h3.cells hn
  refine ⟨k, off, e, fun i hi => ?_⟩
  rw [hc i _ (byteVals_at hi)]
  simp [byteInts, byteAt, hi]
theorem byteInts_length (l : List UInt8) : (byteInts l).length = l.length := by simp [byteInts]
theorem BytesV.text {W : World} {A : Option Addr} {n cap : Nat} {l : List UInt8} (h : BytesV W (.slice A n cap) l) : (convert 22 9 (.slice A n cap)).run Tryz.prog W = .ok (str l) W := by
  have hn : n = l.length := by obtain ⟨_, _, e, _⟩ := h; injection e
  subst hn
  have := h.inn.convert (P := Tryz.prog) (byteInts_length l) cap 22 5 9 Tryz.underlying22 Tryz.underlying5 Tryz.underlying9
  rw [strOf_ints] at this
  exact this
theorem bindex_any (w : World) (A : Option Addr) (n cap : Nat) (l : List UInt8) (h : BytesV w (.slice A n cap) l) : Calls Tryz.prog 116 #[.slice A n cap, .int .u8 0] w fun e w' => e = .returned (.int .i64 (indexByte l 0)) ∧ w = w' := by
  have hn : n = l.length := by obtain ⟨_, _, e, _⟩ := h; injection e
  subst hn
  have hi := h.inn
  rcases Nat.eq_zero_or_pos l.length with h0 | h0
  · cases A with
    | none =>
      obtain ⟨A', cap', e, _, _, h3⟩ := h
      injection e with e1 _ e3
      have := h3.nil e1.symm
      obtain rfl : l = [] := List.eq_nil_of_length_eq_zero h0
      obtain rfl : cap = 0 := by omega
      exact (Any.bytes_IndexByte_nil Tryz.layIndexByteB 0 w).mono fun _ _ ⟨h1, h2⟩ => ⟨h1, h2.symm⟩
    | some a =>
      refine (Any.bytes_IndexByte_at Tryz.layIndexByteB a l.length cap (byteInts l) 0 w (byteInts_length l) (fun i hi => by omega)).mono fun _ _ ⟨h1, h2⟩ => ⟨?_, h2.symm⟩
      rw [bytesOf_ints] at h1
      exact h1
  · obtain ⟨k, off, rfl, hc⟩ := hi.at h0
    refine (Any.bytes_IndexByte Tryz.layIndexByteB k off l.length cap (byteInts l) 0 w (byteInts_length l) hc).mono fun _ _ ⟨h1, h2⟩ => ⟨?_, h2.symm⟩
    rw [bytesOf_ints] at h1
    exact h1
theorem cut_any (w : World) (A : Option Addr) (n cap d b2 : Nat) (l : List UInt8) (h : BytesV w (.slice A n cap) l) (h2 : w.cell? ⟨b2, 0, none⟩ = some (.int .u8 0)) (hb : l.length ≤ 4000000) :
    Calls Tryz.prog 139 #[.slice A n cap, .slice (some ⟨b2, 0, none⟩) 1 d] w fun e w' => e = .returned (cutV A l.length cap 1 (indexByte l 0)) ∧ ∃ q, w' = w.drewN q := by
  have hn : n = l.length := by obtain ⟨_, _, e, _⟩ := h; injection e
  subst hn
  obtain ⟨hcap, _⟩ := h.size
  have hi := h.inn
  refine Any.bytes_Cut_of Tryz.layCut A (some ⟨b2, 0, none⟩) l.length cap 1 d (indexByte l 0) w hcap (indexByte_ge _ _) (fun h0 => ?_) (by omega) ?_
  · obtain ⟨j, hj⟩ : ∃ j : Nat, indexByte l 0 = j := ⟨(indexByte l 0).toNat, by omega⟩
    have := (List.getElem?_eq_some_iff.1 (indexByte_some hj).1).1
    omega
  · show Calls Tryz.prog (Tryz.layCut_ren.viaSlbt.f 185) _ _ _
    rcases Nat.eq_zero_or_pos l.length with h0 | h0
    · cases A with
      | none =>
        obtain ⟨A', cap', e, _, _, h3⟩ := h
        injection e with e1 _ e3
        have := h3.nil e1.symm
        obtain rfl : l = [] := List.eq_nil_of_length_eq_zero h0
        obtain rfl : cap = 0 := by omega
        exact (Any.bytes_Index_one_nil Tryz.layCut.index b2 0 d 0 w h2).mono fun _ _ ⟨h1, h2⟩ => ⟨h1, 0, h2⟩
      | some a =>
        refine (Any.bytes_Index_one_at Tryz.layCut.index a l.length cap b2 0 d (byteInts l) 0 w (byteInts_length l) (fun i hi => by omega) h2).mono fun _ _ ⟨h1, h2⟩ => ⟨?_, 0, h2⟩
        rw [bytesOf_ints] at h1
        exact h1
    · obtain ⟨k, off, rfl, hc⟩ := hi.at h0
      refine (Any.bytes_Index_one Tryz.layCut.index k off l.length cap b2 0 d (byteInts l) 0 w (byteInts_length l) hc h2).mono fun _ _ ⟨h1, h2⟩ => ⟨?_, 0, h2⟩
      rw [bytesOf_ints] at h1
      exact h1
theorem indexByte_isT {l : List UInt8} : (∃ i : Nat, indexByte l 0 = i ∧ i < l.length) ∨ indexByte l 0 = -1 := by
  by_cases h : 0 ≤ indexByte l 0
  · obtain ⟨i, hi⟩ : ∃ i : Nat, indexByte l 0 = i := ⟨(indexByte l 0).toNat, by omega⟩
    exact .inl ⟨i, hi, (List.getElem?_eq_some_iff.1 (indexByte_some hi).1).1⟩
  · have := indexByte_ge l 0
    exact .inr (by omega)
theorem upto_end {l : List UInt8} {i : Nat} (h : indexByte l 0 = i) : (l.takeWhile fun c => c != 0) = l.take i ∧ i < l.length := by
  obtain ⟨h1, h2⟩ := indexByte_some h
  have hlt := (List.getElem?_eq_some_iff.1 h1).1
  refine ⟨?_, hlt⟩
  clear h
  induction l generalizing i with
  | nil => simp at h1
  | cons x l ih =>
    cases i with
    | zero =>
      simp at h1
      subst h1
      simp
    | succ i =>
      have hx : x ≠ 0 := fun e => h2 0 (by omega) (by simp [e])
      have := ih (i := i) (by simpa using h1) (fun k hk => by have := h2 (k + 1) (by omega); simpa using this) (by simpa using hlt)
      simp [hx, this]
theorem upto_none {l : List UInt8} (h : indexByte l 0 = -1) : (l.takeWhile fun c => c != 0) = l := by
  have h1 := indexByte_none h
  clear h
  induction l with
  | nil => rfl
  | cons x l ih =>
    have hx : x ≠ 0 := fun e => h1 0 (by simp [e])
    have := ih fun k => by have := h1 (k + 1); simpa using this
    simp [hx, this]
theorem textP_at {tab : List UInt8} {k i : Nat} (hk : k ≤ tab.length) (h : indexByte (tab.drop k) 0 = i) : textP tab k = if i ≤ 1000 then some ((tab.drop k).take i) else none := by
  obtain ⟨h1, h2⟩ := upto_end h
  rw [List.length_drop] at h2
  unfold textP
  rw [if_neg (by omega)]
  simp only [Int.toNat_natCast, h1, List.length_take, List.length_drop]
  rw [Nat.min_eq_left (by omega)]
  by_cases hi : i ≤ 1000
  · rw [if_pos hi, if_pos ⟨by omega, hi⟩]
  · rw [if_neg hi, if_neg (by omega)]
theorem textP_open {tab : List UInt8} {k : Nat} (hk : k ≤ tab.length) (h : indexByte (tab.drop k) 0 = -1) : textP tab k = none := by
  have h1 := upto_none h
  unfold textP
  rw [if_neg (by omega)]
  simp only [Int.toNat_natCast, h1, List.length_drop]
  rw [if_neg (by omega)]
def textV (o : Option (List UInt8)) : Value := .tuple #[str (o.getD []), .bool o.isSome]
def TextPost (w : World) (o : Option (List UInt8)) (e : Ending) (w' : World) : Prop := e = .returned (textV o) ∧ Below w.heap.size w w'
set_option maxRecDepth 100000 in
set_option maxHeartbeats 2000000 in
theorem textAt_any (w : World) (A : Option Addr) (n cap : Nat) (tab : List UInt8) (z : Int) (h : BytesV w (.slice A n cap) tab) (hb : tab.length ≤ 4000000) :
    Calls Tryz.prog 117 #[.slice A n cap, .int .i64 z] w (TextPost w (textP tab z)) := by
  have hn : n = tab.length := by obtain ⟨_, _, e, _⟩ := h; injection e
  subst hn
  obtain ⟨hcap, _⟩ := h.size
  by_cases h0 : z < 0
  · have hp : textP tab z = none := by unfold textP; rw [if_pos (.inl h0)]
    rw [hp]
    clear h hp
    go_enter Tryz.func117, Tryz.ntmps117
    go_wp2
    go_ret2
    exact ⟨rfl, Below.refl _ _⟩
  · by_cases h1 : (tab.length : Int) < z
    · have hp : textP tab z = none := by unfold textP; rw [if_pos (.inr h1)]
      rw [hp]
      clear h hp
      go_enter Tryz.func117, Tryz.ntmps117
      go_wp2
      go_ret2
      exact ⟨rfl, Below.refl _ _⟩
    · obtain ⟨k, rfl⟩ : ∃ k : Nat, z = k := ⟨z.toNat, by omega⟩
      have hk : k ≤ tab.length := by omega
      have hd := h.drop hk
      have hw1 : Below w.heap.size w (w.alloc (.cells #[.int .u8 0] 5)) := (Below.refl _ _).alloc (Nat.le_refl _) _
      have hc := World.alloc_heap_new w (.cells #[.int .u8 0] 5)
      have CC := Lib.hid (cut_any _ _ _ _ 1 w.heap.size _ (hd.below hw1) (cell_of_row _ _ 0 _ _ _ hc) (by rw [List.length_drop]; omega))
      have hsl := slice_tail (P := Tryz.prog) 22 5 Tryz.underlying22 1 size_u8 A tab.length cap k hk
      have hT : Tryz.prog.underlying 22 = some (.slice 5) := Tryz.underlying22
      have i0 : (0 : Int) ≤ (k : Int) := by omega
      have i1 : ¬ (tab.length : Int) < (k : Int) := by omega
      rw [List.length_drop] at CC
      have HD := Lib.hid hd
      have HW := Lib.hid hw1
      clear h hd hw1 hc h0 h1
      rcases indexByte_isT (l := tab.drop k) with ⟨i, hi, hil⟩ | hi
      · have hp := textP_at hk hi
        rw [hp]
        rw [hi, cutV, if_pos (by omega), Int.toNat_natCast] at CC
        have HT := Lib.hid (HD.out.head (m := i) (by omega))
        rw [List.length_drop] at hil
        by_cases hbig : i ≤ 1000
        · rw [if_pos hbig]
          have i2 : ¬ (1000 : Int) < (i : Int) := by omega
          clear hp hi HD
          go_enter Tryz.func117, Tryz.ntmps117
          go_wp2_with (first
            | (refine wpList_slice_run hsl hT (by rfl) _ _ _ (by rfl) (by rfl) (by rfl) (by rfl) ?_)
            | (go_at_call 139; refine (CC.out).mono ?_; rintro e w' ⟨rfl, q, rfl⟩; have hcv := (HT.out.below (HW.out.trans ((drewN_below _ q).mono HW.out.size))).text))
          go_ret2
          exact ⟨rfl, HW.out.trans ((drewN_below _ q).mono HW.out.size)⟩
        · rw [if_neg hbig]
          have i2 : (1000 : Int) < (i : Int) := by omega
          clear hp hi HD HT
          go_enter Tryz.func117, Tryz.ntmps117
          go_wp2_with (first
            | (refine wpList_slice_run hsl hT (by rfl) _ _ _ (by rfl) (by rfl) (by rfl) (by rfl) ?_)
            | (go_at_call 139; refine (CC.out).mono ?_; rintro e w' ⟨rfl, q, rfl⟩))
          go_ret2
          exact ⟨rfl, HW.out.trans ((drewN_below _ q).mono HW.out.size)⟩
      · have hp := textP_open hk hi
        rw [hp]
        rw [hi, cutV, if_neg (by omega)] at CC
        clear hp hi HD
        go_enter Tryz.func117, Tryz.ntmps117
        go_wp2_with (first
          | (refine wpList_slice_run hsl hT (by rfl) _ _ _ (by rfl) (by rfl) (by rfl) (by rfl) ?_)
          | (go_at_call 139; refine (CC.out).mono ?_; rintro e w' ⟨rfl, q, rfl⟩))
        go_ret2
        exact ⟨rfl, HW.out.trans ((drewN_below _ q).mono HW.out.size)⟩
end Go.Proofs.YtcfgppjhgobboaaGreatDoor
