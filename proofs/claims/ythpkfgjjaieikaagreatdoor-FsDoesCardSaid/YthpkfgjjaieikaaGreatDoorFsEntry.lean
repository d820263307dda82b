/-
  What strings.Cut at one slash and entry of package simfs return, for every string.
-/
import Derived.Test.YthpkfgjjaieikaaGreatDoorFsPaths
import Derived.Deep.QuietTactic
import Derived.BigQuiet
import Derived.Lib.Bytes2
import Derived.Laws.Concat
namespace Go.Proofs.YthpkfgjjaieikaaGreatDoor
open Go.RowKit Go.Shelf Go.Lib Go.Maps

theorem index_in (s : ByteArray) (w : World) :
    Calls Tryz.prog 221 #[.string s, .string ⟨#[47]⟩] w fun e w' => e = .returned (.int .i64 (indexByte s.data.toList 47)) ∧ w = w' := (Any.stringslite_Index_one Tryz.layIndexIn s 47 w).mono fun _ _ ⟨h1, h2⟩ => ⟨h1, h2.symm⟩
theorem trim_any (l p : List UInt8) (w : World) :
    Calls Tryz.prog 164 #[str l, str p] w fun e w' => e = .returned (str (Lib.trimPrefix l p)) ∧ w = w' :=
  (Any.strings_TrimPrefix Tryz.layTrimPrefix ⟨l.toArray⟩ ⟨p.toArray⟩ w).mono fun _ _ ⟨h1, h2⟩ => ⟨h1, h2.symm⟩

theorem take_v (l : List UInt8) (i : Nat) : Value.string ((⟨l.toArray⟩ : ByteArray).extract 0 i) = str (l.take i) := congrArg Value.string (take_str l i)
theorem drop_v (l : List UInt8) (i : Nat) : Value.string ((⟨l.toArray⟩ : ByteArray).extract i l.length) = str (l.drop i) := congrArg Value.string (drop_str l i)
theorem app_str (a : List UInt8) (x : UInt8) : (⟨a.toArray⟩ : ByteArray) ++ ⟨#[x]⟩ = ⟨(a ++ [x]).toArray⟩ := by
  apply ByteArray.ext
  simp
theorem app_v (a : List UInt8) (x : UInt8) : Value.string ((⟨a.toArray⟩ : ByteArray) ++ ⟨#[x]⟩) = str (a ++ [x]) := congrArg Value.string (app_str a x)
/-- a text around its first slash -/
def cutP (r : List UInt8) : List UInt8 × List UInt8 × Bool := if indexByte r 47 = -1 then (r, [], false) else (r.take (indexByte r 47).toNat, r.drop ((indexByte r 47).toNat + 1), true)

set_option maxRecDepth 100000 in
set_option maxHeartbeats 1000000 in
theorem cut1_any (r : List UInt8) (w : World) (hl : r.length ≤ 4611686018427387904) :
    Calls Tryz.prog 163 #[str r, str [47]] w fun e w' => e = .returned (.tuple #[str (cutP r).1, str (cutP r).2.1, .bool (cutP r).2.2]) ∧ Below w.heap.size w w' := by
  by_cases hi : indexByte r 47 = -1
  · have hc : cutP r = (r, [], false) := by rw [cutP, if_pos hi]
    have HC := Lib.hid hc
    clear hc
    have CC : Hid (Calls Tryz.prog 198 #[str r, str [47]] w fun e w' => e = .returned (.tuple #[str r, str [], .bool false]) ∧ w = w') := Lib.hid (by
      go_enter Tryz.func198, Tryz.ntmps198
      go_wp2_with (go_at_call 221; refine (index_in _ _).mono ?_; rintro e w' ⟨rfl, rfl⟩)
      go_ret3
      exact ⟨rfl, rfl⟩)
    clear hi
    go_enter Tryz.func163, Tryz.ntmps163
    go_wp2_with (go_at_call 198; refine (CC.out).mono ?_; rintro e w' ⟨rfl, rfl⟩)
    go_ret3
    rw [HC.out]
    exact ⟨rfl, Below.refl _ _⟩
  · have hge := indexByte_ge r 47
    obtain ⟨i, hI⟩ : ∃ i : Nat, indexByte r 47 = i := ⟨(indexByte r 47).toNat, by omega⟩
    have hil := index_lt hI
    have hc : cutP r = (r.take i, r.drop (i + 1), true) := by rw [cutP, if_neg hi, hI]; rfl
    have HC := Lib.hid hc
    clear hc hge hi
    have q1 : (i : Int) ≤ (r.length : Int) := by omega
    have q2 : (i : Int) + 1 ≤ (r.length : Int) := by omega
    have CC : Hid (Calls Tryz.prog 198 #[str r, str [47]] w fun e w' => e = .returned (.tuple #[str (r.take i), str (r.drop (i + 1)), .bool true]) ∧ Below w.heap.size w w') := Lib.hid (by
      go_enter Tryz.func198, Tryz.ntmps198
      go_wp2_with (go_at_call 221; refine (index_in _ _).mono ?_; rintro e w' ⟨rfl, rfl⟩)
      go_quiet (fail)
      go_wp2
      go_ret3
      refine ⟨?_, ⟨rfl, rfl, rfl, Nat.le_refl _, fun _ _ => rfl⟩⟩
      rw [← take_v, ← drop_v]
      rfl)
    go_enter Tryz.func163, Tryz.ntmps163
    go_wp2_with (go_at_call 198; refine (CC.out).mono ?_; rintro e w1 ⟨rfl, hb1⟩)
    go_ret3
    rw [HC.out]
    exact ⟨rfl, hb1⟩

theorem cutP_le (r : List UInt8) : (cutP r).1.length ≤ r.length := by
  unfold cutP
  split
  · exact Nat.le_refl _
  · show (r.take _).length ≤ _
    rw [List.length_take]
    exact Nat.min_le_right _ _
/-- the name, in a directory's list, of the entry that is or holds a file -/
def entryP (d p : List UInt8) : List UInt8 × Bool :=
  if belowP d p = false then ([], false)
  else (if (cutP (Lib.trimPrefix (p.drop d.length) [47])).2.2 then (cutP (Lib.trimPrefix (p.drop d.length) [47])).1 ++ [47] else (cutP (Lib.trimPrefix (p.drop d.length) [47])).1, true)
set_option maxRecDepth 100000 in
set_option maxHeartbeats 1000000 in
theorem entry_any (d p : List UInt8) (w : World) (hl : p.length ≤ 1024) :
    Calls Tryz.prog 94 #[str d, str p] w fun e w' => e = .returned (.tuple #[str (entryP d p).1, .bool (entryP d p).2]) ∧ Below w.heap.size w w' := by
  have CB := Lib.hid (below_any d p w)
  cases hb : belowP d p with
  | false =>
    have he : entryP d p = ([], false) := by rw [entryP, if_pos hb]
    have HE := Lib.hid he
    rw [hb] at CB
    clear he hb
    go_enter Tryz.func94, Tryz.ntmps94
    go_wp2_with (go_at_call 162; refine (CB.out).mono ?_; rintro e w' ⟨rfl, rfl⟩)
    go_ret2
    rw [HE.out]
    exact ⟨rfl, Below.refl _ _⟩
  | true =>
    have hpre : d.length ≤ p.length := by
      unfold belowP at hb
      rw [Bool.and_eq_true] at hb
      exact hasPrefix_le hb.1
    have CT := Lib.hid (trim_any (p.drop d.length) [47] w)
    have hr : (Lib.trimPrefix (p.drop d.length) [47]).length ≤ 1024 := Nat.le_trans (trimPrefix_le _ _) (by rw [List.length_drop]; omega)
    have CC := Lib.hid (cut1_any (Lib.trimPrefix (p.drop d.length) [47]) w (by omega))
    have he : entryP d p = (if (cutP (Lib.trimPrefix (p.drop d.length) [47])).2.2 then (cutP (Lib.trimPrefix (p.drop d.length) [47])).1 ++ [47] else (cutP (Lib.trimPrefix (p.drop d.length) [47])).1, true) := by rw [entryP, hb]; rfl
    have HE := Lib.hid he
    have hdr := drop_v p d.length
    have hql : (cutP (Lib.trimPrefix (p.drop d.length) [47])).1.length ≤ 1024 := Nat.le_trans (cutP_le _) hr
    rw [hb] at CB
    rw [← hdr] at CT
    clear he hb hr hdr
    generalize Lib.trimPrefix (p.drop d.length) [47] = r at *
    generalize cutP r = q at *
    obtain ⟨q1, q2, q3⟩ := q
    cases q3 with
    | false =>
      clear hql
      go_enter Tryz.func94, Tryz.ntmps94
      go_wp2_with (first
        | (go_at_call 162; refine (CB.out).mono ?_; rintro e w' ⟨rfl, rfl⟩)
        | (go_at_call 164; (with_reducible refine (CT.out).mono ?_); rintro e w' ⟨rfl, rfl⟩)
        | (go_at_call 163; (with_reducible refine (CC.out).mono ?_); rintro e w1 ⟨rfl, hb1⟩))
      go_ret2
      rw [HE.out]
      exact ⟨rfl, hb1⟩
    | true =>
      have hadd : ∀ W : World, (Op.stringOp .add ⟨q1.toArray⟩ ⟨#[47]⟩).run Tryz.prog W = .ok (.string ((⟨q1.toArray⟩ : ByteArray) ++ ⟨#[47]⟩)) W := fun W => run_string_add_sum W _ _ (by have : q1.length ≤ 1024 := hql; simp [ByteArray.size]; omega)
      have hq1 : q1.length ≤ 1024 := hql
      clear hql
      go_enter Tryz.func94, Tryz.ntmps94
      go_wp2_with (first
        | (go_at_call 162; refine (CB.out).mono ?_; rintro e w' ⟨rfl, rfl⟩)
        | (go_at_call 164; (with_reducible refine (CT.out).mono ?_); rintro e w' ⟨rfl, rfl⟩)
        | (go_at_call 163; (with_reducible refine (CC.out).mono ?_); rintro e w1 ⟨rfl, hb1⟩))
      go_ret2
      rw [HE.out]
      exact ⟨congrArg (fun v => Ending.returned (.tuple #[v, .bool true])) (app_v q1 47), hb1⟩

end Go.Proofs.YthpkfgjjaieikaaGreatDoor
