/-
  What a parser tells of one byte, and of many.
-/
import Derived.Test.YtjoiagaadofndaaDoorVpByte
namespace Go.Proofs.YtjoiagaadofndaaDoor
open Go.RowKit Go.Shelf Go.Lib
attribute [local go_sem] Oper.semAt_some

theorem wpList_append_act {ops : Array Oper} {rest : List Oper} {o : Oper} {a : Act} {w : World} {Q : Exit → Act → World → Prop} (hgd : o.guard = none) (s x : Operand)
    (ho : o.op = .call { callee := .builtin .append, args := #[s, x], argTypes := #[25, 25] }) (B : Nat) (v : Value) (al : List ActD) (hs : a.eval s = v) (hrow : ActRow w B v al) (c : ActD) (pv : Value) (hp : IntRow w B pv c.ps) {g cp : Nat} {cs : Array Value} {t2 : TypeId} {fr : Nat × Nat}
    (hx : a.eval x = .slice (some ⟨g, 0, none⟩) 1 cp) (hh : w.heap[g]? = some (.cells cs t2 fr)) (hcs : cs.toList = actCells (c, pv)) (hl : al.length ≤ 1000000000) (hB : B ≤ w.heap.size)
    (h : ∀ v' w', ActRow w' B v' (al ++ [c]) → Below B w w' → w.grownBy w' v.ownBlock → wpList Tryd.prog ops Q rest (a.put o.dst v') w') : wpList Tryd.prog ops Q (o :: rest) a w := by
  refine wpList_plain hgd fun K hK => ?_
  obtain ⟨v', w', hrun, r1, r2, r3⟩ := run_append_act w B o.type v al hrow c pv hp (cp := cp) hh hcs hl hB
  unfold Oper.wp
  simp [execOp, ho, resolve, invoke, builtin, hs, hx, hrun, Result.andThen]
  exact hK _ _ (h v' w' r1 r2 r3)

theorem ctl_eq (r : Int) : ctl r = ctrlP r := by
  rw [Bool.eq_iff_iff]
  simp [ctl, ctrlP]
  omega
theorem prints_snoc (l : List Int) (r : Int) : printsP (l ++ [r]) = printsP l ++ (if ctrlP r = true then [] else [printA r]) := by
  simp only [printsP, List.filter_append, List.map_append]
  by_cases h : ctrlP r = true <;> simp [h]
theorem prints_len (l : List Int) : (printsP l).length ≤ l.length := by
  simp only [printsP, List.length_map]
  exact List.length_filter_le _ _
/-- between two runes -/
def PrintsI (w : World) (B Br : Nat) (al : List ActD) (rs : List Int) (rv : Value) (l i : Value) (wr : World) : Prop :=
  ∃ k : Nat, k ≤ rs.length ∧ i = .int .i64 k ∧ ActRow wr B l (al ++ printsP (rs.take k)) ∧ wr.ownsRow Br 21 1 rv rs.length (runeVals rs) ∧ Below B w wr
theorem rune_ne : 21 ≠ 39 := by decide

set_option maxRecDepth 1000000 in
set_option maxHeartbeats 2000000 in
theorem addPrints_any (w : World) (B Br : Nat) (v rv : Value) (al : List ActD) (rs : List Int) (hrow : ActRow w B v al) (hr : w.ownsRow Br 21 1 rv rs.length (runeVals rs)) (hB : B ≤ w.heap.size) (hlen : al.length + rs.length ≤ 1000000000) :
    Calls Tryd.prog 29 #[v, rv] w fun e w' => ∃ v', e = .returned v' ∧ ActRow w' B v' (al ++ printsP rs) ∧ Below B w w' := by
  obtain ⟨A, c, hrv, _⟩ := own_form hr
  subst hrv
  have HI := Lib.hid (show PrintsI w B Br al rs (.slice A rs.length c) v (.int .i64 0) w from ⟨0, Nat.zero_le _, rfl, by simpa [printsP] using hrow, hr, Below.refl _ _⟩)
  have HL := Lib.hid hlen
  have HBB := Lib.hid hB
  clear hrow hr hB hlen
  generalize hn : rs.length = n at *
  have HN := Lib.hid hn
  clear hn
  go_enter Tryd.func29, Tryd.ntmps29
  go_wp2
  go_loopw [0, 9] (fun l i wr => PrintsI w B Br al rs (.slice A n c) l i wr) (fun _ i _ => n - (RowKit.intOf i).toNat)
  case atStart => exact HI.out
  case round =>
    obtain ⟨k, hk, rfl, hrow, hr, hb⟩ := hrel
    rw [HN.out] at hk hr
    by_cases hlt : k < n
    · obtain ⟨r, hx⟩ : ∃ r, rs[k]? = some r := ⟨_, List.getElem?_eq_getElem (by rw [HN.out]; exact hlt)⟩
      obtain ⟨A', c', e0, _, hc⟩ := Holds1.of_own hr
      injection e0 with e1 e2 e3
      subst e1 e3
      clear e2
      obtain ⟨bk, off, rfl, _, hc⟩ := hc (by rw [show (runeVals rs).length = n by simp [runeVals]; exact HN.out]; omega)
      have hl0 := hc k (.int .i32 r) (by simp [runeVals, hx])
      have htk : rs.take (k + 1) = rs.take k ++ [r] := by rw [List.take_add_one, hx]; rfl
      have HS : Hid (al ++ printsP (rs.take (k + 1)) = (al ++ printsP (rs.take k)) ++ (if ctrlP r = true then [] else [printA r])) := Lib.hid (by rw [htk, prints_snoc, List.append_assoc])
      have CC := Lib.hid fun W => control_any r W
      have HLen : Hid ((al ++ printsP (rs.take k)).length ≤ 1000000000) := Lib.hid (by have := prints_len (rs.take k); have h2 := HL.out; rw [List.length_take] at this; rw [List.length_append]; omega)
      rw [ctl_eq] at CC
      have i1 : (0 : Int) ≤ (k : Int) := by omega
      have i2 : ((k : Int) < (n : Int)) = True := by simp; exact hlt
      have hwk : wrap64 ((k : Int) + 1) = (k : Int) + 1 := by have := HL.out; unfold wrap64; omega
      have HLT := Lib.hid hlt
      have HR := Lib.hid hr
      have HW := Lib.hid hrow
      have HB := Lib.hid hb
      clear hr hrow hb hc hlt hk htk hx
      generalize hq : printsP (rs.take k) = q at *
      clear hq
      by_cases hcr : ctrlP r = true
      · rw [hcr] at CC
        have HS2 : Hid (al ++ printsP (rs.take (k + 1)) = al ++ q) := Lib.hid (by rw [HS.out, hcr]; simp)
        clear hcr HS
        go_wp2_with (go_at_call 43; refine (CC.out _).mono ?_; rintro e w' ⟨rfl, rfl⟩)
        go_roundw
        case rel => exact ⟨k + 1, by have := HLT.out; have := HN.out; omega, by go_num, by rw [HS2.out]; exact HW.out, by rw [HN.out]; exact HR.out, HB.out⟩
        case measure => rw [hwk]; clear hwk; have := HLT.out; simp [RowKit.intOf]; omega
      · have hcf : ctrlP r = false := by simpa using hcr
        rw [hcf] at CC
        have HS2 : Hid (al ++ printsP (rs.take (k + 1)) = (al ++ q) ++ [printA r]) := Lib.hid (by rw [HS.out, hcf]; simp)
        clear hcr hcf HS
        have hsz : B ≤ wr.heap.size := Nat.le_trans HBB.out HB.out.size
        have hba := (Below.refl wr.heap.size wr).alloc (Nat.le_refl _) (.cells #[.int .i64 1, .int .i32 r, .int .u8 0, .int .u8 0, .slice none 0 0, .string ⟨#[]⟩, .string ⟨#[]⟩] 39)
        have HW2 := Lib.hid (HW.out.touch (Touch.of_below (T := fun _ => False) hba) (fun k hk => hk.elim))
        have HX2 := Lib.hid (heap_alloc_new wr (.cells #[.int .i64 1, .int .i32 r, .int .u8 0, .int .u8 0, .slice none 0 0, .string ⟨#[]⟩, .string ⟨#[]⟩] 39))
        have HR2 := Lib.hid (own_below HR.out hba)
        have HB2 := Lib.hid (HB.out.trans (hba.mono hsz))
        have HZ := Lib.hid hsz
        clear hba hsz
        go_wp2_with (first
          | (go_at_call 43; refine (CC.out _).mono ?_; rintro e w' ⟨rfl, rfl⟩)
          | (at_builtin; refine wpList_append_act (by rfl) _ _ (by rfl) B _ _ (by rfl) HW2.out (printA r) (.slice none 0 0) (IntRow.nil _ _) (by rfl) HX2.out (by rfl) HLen.out (by have := HZ.out; simp; omega) ?_; intro v' w' hr' hb' hg'; have HW3 := Lib.hid hr'; have HB3 := Lib.hid (HB2.out.trans hb'); obtain ⟨xs, _, hx0, _⟩ := HW2.out; have HR3 := Lib.hid (own_apart HR2.out hx0 rune_ne hg'); clear hr' hb' hg' hx0))
        go_roundw
        case rel => exact ⟨k + 1, by have := HLT.out; have := HN.out; omega, by go_num, by rw [HS2.out]; exact HW3.out, by rw [HN.out]; exact HR3.out, HB3.out⟩
        case measure => rw [hwk]; clear hwk; have := HLT.out; simp [RowKit.intOf]; omega
    · obtain rfl : k = n := by omega
      have htk : rs.take k = rs := List.take_of_length_le (by rw [HN.out]; omega)
      rw [htk] at hrow
      have i2 : ((k : Int) < (k : Int)) = False := by simp
      clear hlt hk
      go_wp2
      go_ret
      exact ⟨_, rfl, hrow, hb⟩
end Go.Proofs.YtjoiagaadofndaaDoor
