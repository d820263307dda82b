/-
  What the document's Place returns, for every name.
-/
import Derived.Test.YtcfgppjhgobboaaGreatDoorTiPlace
namespace Go.Proofs.YtcfgppjhgobboaaGreatDoor
open Go.RowKit Go.Shelf Go.Lib
attribute [local go_sem] Oper.semAt_some

/-- the three texts of names and numbers -/
def refT : List (List UInt8) :=
  [[98, 119, 32, 48, 32, 97, 109, 32, 49, 32, 120, 115, 98, 32, 50, 32, 120, 104, 112, 32, 51, 32, 120, 101, 110, 108, 32, 52, 32, 101, 111, 32, 53, 32, 103, 110, 32, 54, 32, 104, 99, 32, 55, 32, 107, 109, 32, 56, 32, 104, 115, 32, 57, 32, 105, 110, 32, 49, 48, 32, 100, 97, 32, 49, 49, 32, 100, 98, 32, 49, 50, 32, 109, 105, 114, 32, 49, 51, 32, 109, 115, 103, 114, 32, 49, 52, 32, 111, 115, 32, 49, 53],
   [99, 111, 108, 115, 32, 48, 32, 105, 116, 32, 49, 32, 108, 105, 110, 101, 115, 32, 50, 32, 108, 109, 32, 51, 32, 120, 109, 99, 32, 52, 32, 112, 98, 32, 53, 32, 118, 116, 32, 54, 32, 119, 115, 108, 32, 55, 32, 110, 108, 97, 98, 32, 56, 32, 108, 104, 32, 57, 32, 108, 119, 32, 49, 48, 32, 109, 97, 32, 49, 49, 32, 119, 110, 117, 109, 32, 49, 50, 32, 99, 111, 108, 111, 114, 115, 32, 49, 51, 32, 112, 97, 105, 114, 115, 32, 49, 52, 32, 110, 99, 118, 32, 49, 53],
   [99, 98, 116, 32, 48, 32, 98, 101, 108, 32, 49, 32, 99, 114, 32, 50, 32, 99, 115, 114, 32, 51, 32, 116, 98, 99, 32, 52, 32, 99, 108, 101, 97, 114, 32, 53, 32, 101, 108, 32, 54, 32, 101, 100, 32, 55, 32, 104, 112, 97, 32, 56, 32, 99, 109, 100, 99, 104, 32, 57, 32, 99, 117, 112, 32, 49, 48, 32, 99, 117, 100, 49, 32, 49, 49, 32, 104, 111, 109, 101, 32, 49, 50, 32, 99, 105, 118, 105, 115, 32, 49, 51, 32, 99, 117, 98, 49, 32, 49, 52, 32, 109, 114, 99, 117, 112, 32, 49, 53, 32, 99, 110, 111, 114, 109, 32, 49, 54, 32, 99, 117, 102, 49, 32, 49, 55, 32, 108, 108, 32, 49, 56, 32, 99, 117, 117, 49, 32, 49, 57, 32, 99, 118, 118, 105, 115, 32, 50, 48, 32, 100, 99, 104, 49, 32, 50, 49, 32, 100, 108, 49, 32, 50, 50, 32, 100, 115, 108, 32, 50, 51, 32, 104, 100, 32, 50, 52, 32, 115, 109, 97, 99, 115, 32, 50, 53, 32, 98, 108, 105, 110, 107, 32, 50, 54, 32, 98, 111, 108, 100, 32, 50, 55, 32, 115, 109, 99, 117, 112, 32, 50, 56, 32, 115, 109, 100, 99, 32, 50, 57, 32, 100, 105, 109, 32, 51, 48, 32, 115, 109, 105, 114, 32, 51, 49, 32, 105, 110, 118, 105, 115, 32, 51, 50, 32, 112, 114, 111, 116, 32, 51, 51, 32, 114, 101, 118, 32, 51, 52, 32, 115, 109, 115, 111, 32, 51, 53, 32, 115, 109, 117, 108, 32, 51, 54, 32, 101, 99, 104, 32, 51, 55, 32, 114, 109, 97, 99, 115, 32, 51, 56, 32, 115, 103, 114, 48, 32, 51, 57, 32, 114, 109, 99, 117, 112, 32, 52, 48, 32, 114, 109, 100, 99, 32, 52, 49, 32, 114, 109, 105, 114, 32, 52, 50, 32, 114, 109, 115, 111, 32, 52, 51, 32, 114, 109, 117, 108, 32, 52, 52, 32, 102, 108, 97, 115, 104, 32, 52, 53, 32, 105, 99, 104, 49, 32, 53, 50, 32, 105, 108, 49, 32, 53, 51, 32, 105, 112, 32, 53, 52, 32, 107, 98, 115, 32, 53, 53, 32, 107, 100, 99, 104, 49, 32, 53, 57, 32, 107, 99, 117, 100, 49, 32, 54, 49, 32, 107, 104, 111, 109, 101, 32, 55, 54, 32, 107, 105, 99, 104, 49, 32, 55, 55, 32, 107, 99, 117, 98, 49, 32, 55, 57, 32, 107, 110, 112, 32, 56, 49, 32, 107, 112, 112, 32, 56, 50, 32, 107, 99, 117, 102, 49, 32, 56, 51, 32, 107, 99, 117, 117, 49, 32, 56, 55, 32, 114, 109, 107, 120, 32, 56, 56, 32, 115, 109, 107, 120, 32, 56, 57, 32, 110, 101, 108, 32, 49, 48, 51, 32, 100, 99, 104, 32, 49, 48, 53, 32, 100, 108, 32, 49, 48, 54, 32, 99, 117, 100, 32, 49, 48, 55, 32, 105, 99, 104, 32, 49, 48, 56, 32, 105, 110, 100, 110, 32, 49, 48, 57, 32, 105, 108, 32, 49, 49, 48, 32, 99, 117, 98, 32, 49, 49, 49, 32, 99, 117, 102, 32, 49, 49, 50, 32, 114, 105, 110, 32, 49, 49, 51, 32, 99, 117, 117, 32, 49, 49, 52, 32, 114, 99, 32, 49, 50, 54, 32, 118, 112, 97, 32, 49, 50, 55, 32, 115, 99, 32, 49, 50, 56, 32, 105, 110, 100, 32, 49, 50, 57, 32, 114, 105, 32, 49, 51, 48, 32, 115, 103, 114, 32, 49, 51, 49, 32, 104, 116, 115, 32, 49, 51, 50, 32, 107, 101, 110, 100, 32, 49, 54, 52]]
/-- the same as rows -/
def refRows : List (List (List UInt8 × Int × Int)) := [capTab.take 16, (capTab.drop 16).take 16, capTab.drop 32]
def digitsOf (n : Int) : List UInt8 := (toString n.toNat).toUTF8.toList
/-- a row's fields: each name, and its number behind it -/
def rowOk (k : Nat) (s : List UInt8) (r : List (List UInt8 × Int × Int)) : Bool :=
  decide ((fields s).length = 2 * r.length) && (s.all fun b => decide (b.toNat < 128)) && decide (s.length ≤ 4096) && decide (r.length ≤ 1000) &&
  (r.zipIdx.all fun p => (fields s)[2 * p.2]? == some p.1.1 && p.1.2.1 == (k : Int) && (match (fields s)[2 * p.2 + 1]? with | some d => atoi d == some p.1.2.2 && decide (d.length ≤ 18) | none => false))
theorem ref_ok : ((refT.zip refRows).zipIdx.all fun p => rowOk p.2 p.1.1 p.1.2) = true := by decide +kernel
theorem ref_tab : capTab = refRows.flatten := by decide +kernel
theorem ref_len : refT.length = 3 ∧ refRows.length = 3 := ⟨rfl, rfl⟩
structure RowOk (k : Nat) (s : List UInt8) (r : List (List UInt8 × Int × Int)) : Prop where
  len : (fields s).length = 2 * r.length
  ascii : ∀ (j : Nat) (b : UInt8), s[j]? = some b → b.toNat < 128
  short : s.length ≤ 4096
  rows : r.length ≤ 1000
  at0 : ∀ (j : Nat) n q, r[j]? = some (n, q) → (fields s)[2 * j]? = some n
  kind : ∀ (j : Nat) n q, r[j]? = some (n, q) → q.1 = k
  at1 : ∀ (j : Nat) n q, r[j]? = some (n, q) → ∃ d, (fields s)[2 * j + 1]? = some d ∧ atoi d = some q.2 ∧ d.length ≤ 18
theorem row_ok {k : Nat} {s : List UInt8} {r : List (List UInt8 × Int × Int)} (hs : refT[k]? = some s) (hr : refRows[k]? = some r) : RowOk k s r := by
  have hm : ((s, r), k) ∈ (refT.zip refRows).zipIdx := by
    rw [List.mem_zipIdx_iff_getElem?]
    simp [List.getElem?_zip_eq_some, hs, hr]
  have h := List.all_eq_true.1 ref_ok _ hm
  simp only [rowOk, Bool.and_eq_true, decide_eq_true_eq] at h
  obtain ⟨⟨⟨⟨h1, h2⟩, h3⟩, h4⟩, h5⟩ := h
  have each : ∀ (j : Nat) n q, r[j]? = some (n, q) → ((fields s)[2 * j]? == some n && q.1 == (k : Int) && (match (fields s)[2 * j + 1]? with | some d => atoi d == some q.2 && decide (d.length ≤ 18) | none => false)) = true := fun j n q hj => by
    have := List.all_eq_true.1 h5 ((n, q), j) (by rw [List.mem_zipIdx_iff_getElem?]; exact hj)
    exact this
  refine ⟨h1, fun j b hb => ?_, h3, h4, fun j n q hj => ?_, fun j n q hj => ?_, fun j n q hj => ?_⟩
  · have := List.all_eq_true.1 h2 b (List.mem_of_getElem? hb)
    simpa using this
  · have := each j n q hj
    simp only [Bool.and_eq_true, beq_iff_eq] at this
    exact this.1.1
  · have := each j n q hj
    simp only [Bool.and_eq_true, beq_iff_eq] at this
    exact this.1.2
  · have := each j n q hj
    simp only [Bool.and_eq_true] at this
    obtain ⟨_, h⟩ := this
    split at h
    · next d hd => simp only [Bool.and_eq_true, beq_iff_eq, decide_eq_true_eq] at h; exact ⟨d, hd, h.1, h.2⟩
    · cases h

/-- the library's table of spaces lies in its variable -/
def SpaceTab (w : World) : Prop := ∀ c : Nat, c < 256 → w.cell? ⟨1, c, none⟩ = some (.int .u8 (if isSp (UInt8.ofNat c) then 1 else 0))
structure Tabs (w : World) : Prop where
  run : RunTab w
  space : SpaceTab w
theorem Tabs.lt {w : World} (h : Tabs w) : 0 < w.heap.size ∧ 1 < w.heap.size := by
  obtain ⟨t, fr, hr⟩ := h.run
  exact ⟨(Array.getElem?_eq_some_iff.1 hr).1, World.block_lt_of_cell? _ _ (h.space 0 (by omega))⟩
theorem Tabs.touch {T : Nat → Prop} {w w' : World} (h : Tabs w) (ht : Touch T w w') (hT : ∀ k, T k → k ≠ 0 ∧ k ≠ 1) : Tabs w' := by
  obtain ⟨h1, h2⟩ := h.lt
  refine ⟨?_, fun c hc => (ht.cell (p := ⟨1, c, none⟩) h2 fun hk => (hT _ hk).2 rfl).trans (h.space c hc)⟩
  obtain ⟨t, fr, hr⟩ := h.run
  exact ⟨t, fr, (ht.block _ h1 fun hk => (hT _ hk).1 rfl).trans hr⟩
theorem Tabs.below {w w' : World} (h : Tabs w) (hb : Below w.heap.size w w') : Tabs w' := h.touch (Touch.of_below (T := fun _ => False) hb) fun _ hk => hk.elim

theorem fields_any (s : List UInt8) (w : World) (hT : SpaceTab w) (hs : s.length ≤ 4096) (ha : ∀ (j : Nat) (b : UInt8), s[j]? = some b → b.toNat < 128) :
    Calls Tryz.prog 104 #[str s] w fun e w' => e = .returned (.slice (some ⟨w.heap.size, 0, none⟩) (fields s).length (fields s).length) ∧ w' = w.alloc (.cells ((fields s).map str).toArray 9) :=
  Any.strings_Fields_core Tryz.layFields (by kernel_rfl) ⟨s.toArray⟩ w (by simp [ByteArray.size]; omega) (by simpa using ha) hT
theorem below_bytes (w : World) (e : TypeId) (s : ByteArray) : Below w.heap.size w (bytesWorld w e s) := by
  refine ⟨?_, ?_, ?_, by rw [bytesWorld_size]; omega, fun k hk => bytesWorld_at_old w e s k hk⟩
  all_goals (unfold bytesWorld World.freeze; split <;> rfl)
theorem atoi_any (s : List UInt8) (n : Int) (hs : s.length ≤ 18) (h : atoi s = some n) (w : World) :
    Calls Tryz.prog 105 #[str s] w fun e w' => e = .returned (.tuple #[.int .i64 n, .nilIface]) ∧ Below w.heap.size w w' :=
  (Any.strconv_Atoi Tryz.layAtoi ⟨s.toArray⟩ n (by simpa [ByteArray.size] using hs) (by simpa using h) w).mono fun e w' ⟨h1, t, h2⟩ => ⟨h1, by rw [h2]; exact below_bytes _ _ _⟩

theorem ref_split {i : Nat} {r : List (List UInt8 × Int × Int)} (hr : refRows[i]? = some r) : capTab = (refRows.take i).flatten ++ (r ++ (refRows.drop (i + 1)).flatten) := by
  have hlt := (List.getElem?_eq_some_iff.1 hr).1
  have h1 : refRows = refRows.take i ++ (r :: refRows.drop (i + 1)) := by
    have := (List.take_append_drop i refRows).symm
    rw [List.drop_eq_getElem_cons hlt, (List.getElem?_eq_some_iff.1 hr).2] at this
    exact this
  rw [ref_tab]
  conv => lhs; rw [h1]
  simp
theorem ref_found {name : List UInt8} {i j : Nat} {r : List (List UInt8 × Int × Int)} {q : Int × Int} (hr : refRows[i]? = some r) (hno : findTab ((refRows.take i).flatten) name = none) (hq : r[j]? = some (name, q))
    (hne : ∀ (j' : Nat) n q, j' < j → r[j']? = some (n, q) → n ≠ name) : placeP name = some q := by
  unfold placeP
  rw [ref_split hr, findTab_append, hno, findTab_append, find_hit hq fun j' n p hj hn => hne j' n p hj hn]
  rfl
theorem ref_next {name : List UInt8} {i : Nat} {r : List (List UInt8 × Int × Int)} (hr : refRows[i]? = some r) (hno : findTab ((refRows.take i).flatten) name = none)
    (hne : ∀ (j' : Nat) n q, j' < r.length → r[j']? = some (n, q) → n ≠ name) : findTab ((refRows.take (i + 1)).flatten) name = none := by
  rw [List.take_add_one, hr, List.flatten_append, findTab_append, hno]
  simp only [Option.toList, List.flatten_cons, List.flatten_nil, List.append_nil, Option.or]
  exact find_miss fun j n p hj => hne j n p (List.getElem?_eq_some_iff.1 hj).1 hj

/-- between two lists -/
def RefPlaceR (name : List UInt8) (w : World) (n : Nat) (k : Value) (W : World) : Prop :=
  ∃ i : Nat, k = .int .i64 i ∧ i ≤ 3 ∧ W.heap[n]? = some (.cells (refT.map str).toArray 9 (0, 0)) ∧ findTab ((refRows.take i).flatten) name = none ∧ Below w.heap.size w W
/-- between two names of a list -/
def RefPlaceI (name : List UInt8) (r : List (List UInt8 × Int × Int)) (i : Value) : Prop :=
  ∃ j : Nat, i = .int .i64 (2 * (j : Int)) ∧ j ≤ r.length ∧ ∀ (j' : Nat) n q, j' < j → r[j']? = some (n, q) → n ≠ name

set_option maxRecDepth 100000 in
set_option maxHeartbeats 4000000 in
theorem refPlace_any (name : List UInt8) (w : World) (hT : Tabs w) : Calls Tryz.prog 54 #[str name] w (PlacePost name w) := by
  have HT := Lib.hid hT
  clear hT
  go_enter Tryz.func54, Tryz.ntmps54
  go_wp2_with fail
  generalize hX : Obj.cells #[_, _, _] _ = X
  have hX' : X = .cells (refT.map str).toArray 9 (0, 0) := by rw [← hX]; exact (show _ = _ by kernel_rfl)
  have HI := Lib.hid (show RefPlaceR name w w.heap.size (.int .i64 0) (w.alloc X) from ⟨0, rfl, by omega, by rw [← hX']; exact World.alloc_heap_new w X, rfl, (Below.refl _ w).alloc (Nat.le_refl _) _⟩)
  clear hX hX'
  go_loopw [6] (fun k wr => RefPlaceR name w w.heap.size k wr) (fun k _ => 3 - (RowKit.intOf k).toNat)
  case atStart => exact HI.out
  case round =>
    obtain ⟨i, rfl, hi, hh, hno, hb⟩ := hrel
    by_cases hlt : i < 3
    · obtain ⟨s, hs⟩ : ∃ s, refT[i]? = some s := ⟨_, List.getElem?_eq_getElem (by rw [ref_len.1]; exact hlt)⟩
      obtain ⟨r, hr⟩ : ∃ r, refRows[i]? = some r := ⟨_, List.getElem?_eq_getElem (by rw [ref_len.2]; exact hlt)⟩
      have ok := row_ok hs hr
      have hcell : wr.cell? ⟨w.heap.size, i, none⟩ = some (str s) := by
        rw [cell_of_row wr w.heap.size i _ _ _ hh]
        simp [hs]
      have HT1 := Lib.hid (HT.out.below hb)
      have HNO := Lib.hid hno
      have HB := Lib.hid hb
      have HH := Lib.hid hh
      have OK := Lib.hid ok
      have HR := Lib.hid hr
      obtain ⟨n, hn⟩ : ∃ n, (fields s).length = n := ⟨_, rfl⟩
      have hn2 : n = 2 * r.length := by rw [← hn]; exact ok.len
      have hr1 : r.length ≤ 1000 := ok.rows
      have CF := Lib.hid (fields_any s wr HT1.out.space ok.short ok.ascii)
      rw [hn] at CF
      have HN := Lib.hid hn
      clear hno hb hh ok hr hs hn
      go_wp2_with (go_at_call 104; refine (CF.out).mono ?_; rintro e w' ⟨rfl, rfl⟩)
      have hrow : (wr.alloc (.cells ((fields s).map str).toArray 9)).heap[wr.heap.size]? = some (.cells ((fields s).map str).toArray 9 (0, 0)) := World.alloc_heap_new wr _
      have hat : ∀ (j : Nat) (x : List UInt8), (fields s)[j]? = some x → (wr.alloc (.cells ((fields s).map str).toArray 9)).cell? ⟨wr.heap.size, j, none⟩ = some (str x) := fun j x hx => by
        rw [cell_of_row _ wr.heap.size j _ _ _ hrow]
        simp [hx]
      have HB2 : Hid (Below w.heap.size w (wr.alloc (.cells ((fields s).map str).toArray 9))) := Lib.hid (HB.out.alloc HB.out.size _)
      have HH2 : Hid ((wr.alloc (.cells ((fields s).map str).toArray 9)).heap[w.heap.size]? = some (.cells (refT.map str).toArray 9 (0, 0))) := Lib.hid (by rw [Below.heap_alloc _ _ _ (Array.getElem?_eq_some_iff.1 HH.out).1]; exact HH.out)
      generalize wr.alloc (.cells ((fields s).map str).toArray 9) = W at *
      have HAT := Lib.hid hat
      clear hat hrow hcell
      go_loop [8] (fun i => RefPlaceI name r i) (fun i => n - (RowKit.intOf i).toNat)
      case atStart => exact ⟨0, rfl, by omega, fun j' _ _ hj => by omega⟩
      case round =>
        obtain ⟨j, rfl, hj, hne⟩ := hrel
        have HNE := Lib.hid hne
        clear hne
        by_cases hjl : j < r.length
        · obtain ⟨⟨nm, q⟩, hq⟩ : ∃ p, r[j]? = some p := ⟨_, List.getElem?_eq_getElem hjl⟩
          have c0 := HAT.out _ _ (OK.out.at0 j nm q hq)
          obtain ⟨d, hd, ha, hdl⟩ := OK.out.at1 j nm q hq
          have c1 := HAT.out _ _ hd
          have CA := Lib.hid (fun W => atoi_any d q.2 hdl ha W)
          have HQ := Lib.hid hq
          clear hq hd ha hdl
          have hlt2 : 2 * (j : Int) + 1 < (n : Int) := by omega
          have hlt3 : 2 * j + 1 < n := by omega
          have hlt4 : 2 * j < n := by omega
          have i1 : 0 ≤ 2 * (j : Int) := by omega
          have i2 : 2 * (j : Int) ≤ 4000 := by omega
          have t1 : (2 * (j : Int)).toNat = 2 * j := by omega
          have t2 : (2 * (j : Int) + 1).toNat = 2 * j + 1 := by omega
          by_cases hq : nm = name
          · have hq' : (nm == name) = true := by simpa using hq
            have HE := Lib.hid hq
            clear hq
            go_wp2_with (go_at_call 105; refine (CA.out _).mono ?_; rintro e w2 ⟨rfl, hb2⟩; have HB3 := Lib.hid hb2; clear hb2)
            go_ret3
            have hres : placeRes name = .tuple #[.int .i64 i, .int .i64 q.2, .bool true] := by
              unfold placeRes
              rw [ref_found HR.out HNO.out (by rw [← HE.out]; exact HQ.out) HNE.out]
              simp only [OK.out.kind j nm q HQ.out]
            exact ⟨congrArg Ending.returned hres.symm, HB2.out.trans (HB3.out.mono HB2.out.size)⟩
          · have hq' : (nm == name) = false := by simpa using hq
            have HE := Lib.hid hq
            clear hq
            go_wp2_with fail
            refine ⟨⟨j + 1, by rw [show 2 * ((j + 1 : Nat) : Int) = 2 * (j : Int) + 2 by omega], hjl, fun j' n' q' hj' hq' => ?_⟩, by simp [RowKit.intOf]; omega⟩
            rcases Nat.lt_or_ge j' j with h | h
            · exact HNE.out j' n' q' h hq'
            · obtain rfl : j' = j := by omega
              rw [HQ.out] at hq'
              cases hq'
              exact HE.out
        · obtain rfl : j = r.length := by omega
          have hge : ¬ 2 * ((r.length : Nat) : Int) + 1 < (n : Int) := by omega
          go_wp2_with fail
          exact ⟨⟨i + 1, by go_num, hlt, HH2.out, ref_next HR.out HNO.out HNE.out, HB2.out⟩, by simp [RowKit.intOf]; omega⟩
    · obtain rfl : i = 3 := by omega
      have HNO := Lib.hid hno
      have HB := Lib.hid hb
      clear hno hb hh hi hlt
      go_wp2_with fail
      go_ret3
      have hres : placeRes name = .tuple #[.int .i64 0, .int .i64 0, .bool false] := by
        unfold placeRes
        rw [show placeP name = none by rw [show placeP name = findTab capTab name from rfl, ref_tab]; exact HNO.out]
      exact ⟨congrArg Ending.returned hres.symm, HB.out⟩

end Go.Proofs.YtcfgppjhgobboaaGreatDoor
