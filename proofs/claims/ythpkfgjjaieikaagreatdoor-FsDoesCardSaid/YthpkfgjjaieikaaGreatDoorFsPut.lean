/-
  What Write and Append of package simfs return and change, for every file system, every path and every slice of bytes.
-/
import Derived.Test.YthpkfgjjaieikaaGreatDoorFsIs
import Derived.Deep.RegionWith
import Derived.Laws.AppendOwnNone
namespace Go.Proofs.YthpkfgjjaieikaaGreatDoor
open Go.RowKit Go.Shelf Go.Lib Go.Maps

/-- the slice v reads as the bytes c -/
def Reads (w : World) (v : Value) (c : List UInt8) : Prop :=
  ∃ A cap, v = .slice A c.length cap ∧ c.length ≤ cap ∧ (A = none → cap = 0) ∧ (0 < c.length → ∃ k off, A = some ⟨k, off, none⟩ ∧ k < w.heap.size ∧ ∀ j u, (byteVals c)[j]? = some u → w.cell? ⟨k, off + j, none⟩ = some u)
theorem Reads.below {w w' : World} {v : Value} {c : List UInt8} (h : Reads w v c) (hb : Below w.heap.size w w') : Reads w' v c := by
  obtain ⟨A, cap, rfl, h1, h2, h3⟩ := h
  refine ⟨A, cap, rfl, h1, h2, fun hp => ?_⟩
  obtain ⟨k, off, e, hk, hc⟩ := h3 hp
  exact ⟨k, off, e, Nat.lt_of_lt_of_le hk hb.size, fun j u hu => (hb.cell (p := ⟨k, off + j, none⟩) hk).trans (hc j u hu)⟩
theorem Reads.take {w : World} {A : Option Addr} {cap : Nat} {c : List UInt8} {n m : Nat} (h : Reads w (.slice A n cap) c) (hm : m ≤ c.length) : Reads w (.slice A m cap) (c.take m) := by
  obtain ⟨A', cap', e, h1, h2, h3⟩ := h
  injection e with e1 e2 e3
  subst e1 e3
  have hl : (c.take m).length = m := by rw [List.length_take]; omega
  refine ⟨A, cap, by rw [hl], by omega, h2, fun hp => ?_⟩
  rw [hl] at hp
  obtain ⟨k, off, e, hk, hc⟩ := h3 (by omega)
  refine ⟨k, off, e, hk, fun j u hu => hc j u ?_⟩
  have hb : byteVals (c.take m) = (byteVals c).take m := List.map_take
  rw [hb, List.getElem?_take] at hu
  split at hu
  · exact hu
  · cases hu
theorem Reads.of_row {w : World} {base : Nat} {v : Value} {c : List UInt8} (h : w.ownsRow base 5 1 v c.length (byteVals c)) : Reads w v c := by
  rcases h.2 with ⟨rfl, h0⟩ | ⟨g, cap, cur, rfl, _, hg, hn, _, hcur, htake⟩
  · exact ⟨none, 0, by rw [h0], by omega, fun _ => rfl, fun h => by omega⟩
  · refine ⟨some ⟨g, 0, none⟩, cap, rfl, hn, (fun h => by cases h), fun _ => ⟨g, 0, rfl, (Array.getElem?_eq_some_iff.1 hg).1, fun j u hu => ?_⟩⟩
    rw [cell_of_row w g (0 + j) cur _ (0, 0) hg, Nat.zero_add]
    rw [← htake, List.getElem?_take] at hu
    split at hu
    · rw [← hu, Array.getElem?_toList]
    · cases hu

/-- the bytes that a call with the fault writes -/
def writtenP (f : Int × Int × Int) (c : List UInt8) : List UInt8 := if f.2.1 = 0 then c else c.take (min f.2.2.toNat c.length)

set_option maxRecDepth 100000 in
theorem written_any (f : Int × Int × Int) (v : Value) (c : List UInt8) (w : World) (hv : Reads w v c) (hc : c.length ≤ 4611686018427387904) (hf : 0 ≤ f.2.2) :
    Calls Tryz.prog 160 #[faultV f, v] w fun e w' => ∃ v', e = .returned v' ∧ Reads w' v' (writtenP f c) ∧ Below w.heap.size w w' := by
  obtain ⟨x, k, y⟩ := f
  have hB : Below w.heap.size w (w.alloc (.cells #[.int .i64 x, .int .i64 k, .int .i64 y] 70)) := (Below.refl _ _).alloc (Nat.le_refl _) _
  have HB := Lib.hid hB
  obtain ⟨A, cap, rfl, h1, h2, h3⟩ := id hv
  have HV := Lib.hid hv
  have H2 := Lib.hid h2
  clear hB hv h2 h3
  by_cases hk : k = 0
  · subst hk
    go_enter Tryz.func160, Tryz.ntmps160
    go_wp2
    go_ret
    exact ⟨_, rfl, HV.out.below HB.out, HB.out⟩
  · have hp : writtenP (x, k, y) c = c.take (min y.toNat c.length) := by rw [writtenP, if_neg hk]
    have HP := Lib.hid hp
    have hq : (k == 0) = false := by simpa using hk
    obtain ⟨m, rfl⟩ : ∃ m : Nat, y = m := ⟨y.toNat, by have : 0 ≤ y := hf; omega⟩
    clear hp hk hf
    go_enter Tryz.func160, Tryz.ntmps160
    go_wp2
    go_ret
    rw [HP.out]
    have e1 : (min (m : Int) (c.length : Int)).toNat = min (m : Int).toNat c.length := by omega
    refine ⟨_, rfl, ?_, HB.out⟩
    have := (HV.out.below HB.out).take (m := min (m : Int).toNat c.length) (Nat.min_le_right _ _)
    rw [← e1] at this ⊢
    exact this

/-- the first that is no nought -/
def orP (x y : Int) : Int := if x = 0 then y else x
def OrRel (x y : Int) (i : Value) : Prop := ∃ n : Nat, n ≤ 2 ∧ i = .int .i64 n ∧ (1 ≤ n → x = 0) ∧ (2 ≤ n → y = 0)
theorem or_any (w : World) (k : Nat) (x y : Int) (h0 : w.cell? ⟨k, 0, none⟩ = some (.int .i64 x)) (h1 : w.cell? ⟨k, 1, none⟩ = some (.int .i64 y)) :
    Calls Tryz.prog 158 #[.slice (some ⟨k, 0, none⟩) 2 2] w fun e w' => e = .returned (.int .i64 (orP x y)) ∧ w = w' := by
  go_enter Tryz.func158, Tryz.ntmps158
  go_wp2
  go_loop [8] (fun i => OrRel x y i) (fun i => 2 - (intOf i).toNat)
  case atStart => exact ⟨0, by omega, rfl, fun h => by omega, fun h => by omega⟩
  case round =>
    obtain ⟨n, hn, rfl, q1, q2⟩ := hrel
    have HQ1 := Lib.hid q1
    have HQ2 := Lib.hid q2
    clear q1 q2
    rcases (by omega : n = 0 ∨ n = 1 ∨ n = 2) with rfl | rfl | rfl
    · by_cases hx : x = 0
      · subst hx
        go_wp2
        go_round
        case rel => exact ⟨1, by omega, by go_num, fun _ => rfl, fun h => by omega⟩
        case measure => simp [intOf]
      · have hq : (x != 0) = true := by simpa using hx
        have hp : orP x y = x := if_neg hx
        have HP := Lib.hid hp
        clear hp hx
        go_wp2
        go_ret
        exact ⟨ret_int HP.out.symm, rfl⟩
    · have hx0 := HQ1.out (by omega)
      subst hx0
      by_cases hy : y = 0
      · subst hy
        go_wp2
        go_round
        case rel => exact ⟨2, by omega, by go_num, fun _ => rfl, fun _ => rfl⟩
        case measure => simp [intOf]
      · have hq : (y != 0) = true := by simpa using hy
        clear hy
        go_wp2
        go_ret
        exact ⟨rfl, rfl⟩
    · have hx0 := HQ1.out (by omega)
      have hy0 := HQ2.out (by omega)
      subst hx0 hy0
      go_wp2
      go_ret
      exact ⟨rfl, rfl⟩

theorem map_len {w : World} {bm : Nat} {es : List Ent} (h : w.ownsMap Tryz.prog 9 heldR bm es.length (toD es)) : ∀ ty : TypeId, (Builtin.len_ #[68] ty #[.map (some bm)]).run Tryz.prog w = .ok (.int .i64 es.length) w := fun ty => by
  rw [h.len Tryz.underlying68 ty, toD_size]
/-- the error of a file with that path that is to hold so many bytes -/
def checkP (es : List Ent) (p : List UInt8) (size : Int) : Int :=
  if (es.any fun x => blocks p p x.path) = true then 24 else if 1048576 < size then 3 else if (findE es p).isSome = false ∧ 4096 ≤ es.length then 3 else 0

set_option maxRecDepth 100000 in
set_option maxHeartbeats 1000000 in
theorem checkPut_any (w : World) (FP : Nat → Prop) (b bm : Nat) (es : List Ent) (s : St) (p : List UInt8) (size : Int) (h : FsAt w FP b bm es s) (hp : p.length ≤ maxLen) :
    Calls Tryz.prog 157 #[.pointer (some ⟨b, 0, none⟩), str p, .int .i64 size] w fun e w' => e = .returned (.int .i64 (checkP es p size)) ∧ Below w.heap.size w w' := by
  have CO := Lib.hid (obstructed_any w FP b bm es s p p h)
  have HF := Lib.hid h
  have HK := Lib.hid (keyStr p hp)
  have hC : checkP es p size = if (es.any fun x => blocks p p x.path) = true then 24 else if 1048576 < size then 3 else if (findE es p).isSome = false ∧ 4096 ≤ es.length then 3 else 0 := rfl
  clear h hp
  cases ho : es.any fun x => blocks p p x.path with
  | true =>
    rw [ho] at CO hC
    have HC := Lib.hid hC
    clear ho hC
    go_enter Tryz.func157, Tryz.ntmps157
    go_wp2_with (go_at_call 102; refine (CO.out).mono ?_; rintro e w1 ⟨rfl, hb1⟩)
    go_ret
    rw [HC.out]
    exact ⟨rfl, hb1⟩
  | false =>
    rw [ho] at CO hC
    rw [if_neg (by simp)] at hC
    by_cases hs : 1048576 < size
    · rw [if_pos hs] at hC
      have HC := Lib.hid hC
      clear ho hC
      go_enter Tryz.func157, Tryz.ntmps157
      go_wp2_with (go_at_call 102; refine (CO.out).mono ?_; rintro e w1 ⟨rfl, hb1⟩)
      go_ret
      rw [HC.out]
      exact ⟨rfl, hb1⟩
    · rw [if_neg hs] at hC
      cases hf : (findE es p).isSome with
      | true =>
        have HH := Lib.hid ((toD_has es p).trans hf)
        rw [if_neg (by simp [hf])] at hC
        have HC := Lib.hid hC
        clear ho hC hf
        go_enter Tryz.func157, Tryz.ntmps157
        go_wp2_with (first
          | (go_at_call 102; refine (CO.out).mono ?_; rintro e w1 ⟨rfl, hb1⟩; have hF1 := HF.out.below hb1; have c1 := hF1.cell0; have HF1 := Lib.hid hF1; clear hF1)
          | (at_lookup; refine wpList_lookup_own_ok _ rfl _ _ 68 rfl 9 30 law Tryz.underlying68 heldR (zeroE _) (.held (.slice none 0 0)) [] rfl bm es.length (toD es) rfl HF1.out.files.map _ _ rfl HK.out ?_; rw [HH.out]; intro v ps hv; clear hv))
        go_ret
        rw [HC.out]
        exact ⟨rfl, hb1⟩
      | false =>
        have HH := Lib.hid ((toD_has es p).trans hf)
        by_cases hl : 4096 ≤ es.length
        · rw [if_pos ⟨hf, hl⟩] at hC
          have HC := Lib.hid hC
          clear ho hC hf
          go_enter Tryz.func157, Tryz.ntmps157
          go_wp2_with (first
            | (go_at_call 102; refine (CO.out).mono ?_; rintro e w1 ⟨rfl, hb1⟩; have hF1 := HF.out.below hb1; have c1 := hF1.cell0; have hlen := map_len hF1.files.map; have HF1 := Lib.hid hF1; clear hF1)
            | (at_lookup; refine wpList_lookup_own_ok _ rfl _ _ 68 rfl 9 30 law Tryz.underlying68 heldR (zeroE _) (.held (.slice none 0 0)) [] rfl bm es.length (toD es) rfl HF1.out.files.map _ _ rfl HK.out ?_; rw [HH.out]; intro v ps hv; clear hv))
          go_ret
          rw [HC.out]
          exact ⟨rfl, hb1⟩
        · rw [if_neg (fun h => hl h.2)] at hC
          have HC := Lib.hid hC
          clear ho hC hf
          go_enter Tryz.func157, Tryz.ntmps157
          go_wp2_with (first
            | (go_at_call 102; refine (CO.out).mono ?_; rintro e w1 ⟨rfl, hb1⟩; have hF1 := HF.out.below hb1; have c1 := hF1.cell0; have hlen := map_len hF1.files.map; have HF1 := Lib.hid hF1; clear hF1)
            | (at_lookup; refine wpList_lookup_own_ok _ rfl _ _ 68 rfl 9 30 law Tryz.underlying68 heldR (zeroE _) (.held (.slice none 0 0)) [] rfl bm es.length (toD es) rfl HF1.out.files.map _ _ rfl HK.out ?_; rw [HH.out]; intro v ps hv; clear hv))
          go_ret
          rw [HC.out]
          exact ⟨rfl, hb1⟩

end Go.Proofs.YthpkfgjjaieikaaGreatDoor
