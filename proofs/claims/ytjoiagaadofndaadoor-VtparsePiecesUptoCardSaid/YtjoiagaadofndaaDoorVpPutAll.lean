/-
  What a parser's Put, Ground and All answer.
-/
import Derived.Test.YtjoiagaadofndaaDoorVpTake2
namespace Go.Proofs.YtjoiagaadofndaaDoor
open Go.RowKit Go.Shelf Go.Lib
attribute [local go_sem] Oper.semAt_some

theorem TakePost.eq {w : World} {g B : Nat} {S S' : PS} {al al' : List ActD} {e : Ending} {w' : World} (h : TakePost w g B S al e w') (e1 : S = S') (e2 : al = al') : TakePost w g B S' al' e w' := by subst e1 e2; exact h
theorem take_any (w : World) (g : Nat) (S : PS) (b : UInt8) (B : Nat) (v : Value) (al : List ActD) (hT : Tabs w) (h : ParAt w g S) (hrow : ActRow w B v al) (hg : g < B) (hB : B ≤ w.heap.size) (hlen : al.length ≤ 900000000) :
    Calls Tryd.prog 35 #[.pointer (some ⟨g, 0, none⟩), v, .int .u8 b.toNat] w (TakePost w g B (takeP S b).1 (al ++ (takeP S b).2)) := by
  have hb : (128 ≤ b) ↔ 128 ≤ b.toNat := by rw [UInt8.le_iff_toNat_le]; rfl
  by_cases hs : S.st = 0
  · by_cases hh : 128 ≤ b
    · have e : takeP S b = ({ S with held := (putAll (S.held ++ [b])).2 }, printsP (putAll (S.held ++ [b])).1) := by unfold takeP; rw [if_pos ⟨hs, hh⟩]
      rw [e]
      exact take_high w g S b B v al hT h hrow hg hB hlen hs (hb.1 hh)
    · have e : takeP S b = ((stepP { S with held := [] } b).1, printsP (decAll S.held) ++ oneA (stepP { S with held := [] } b).2) := by unfold takeP; rw [if_neg (fun x => hh x.2), if_pos hs]
      rw [e]
      refine (take_low w g S b B v al hT h hrow hg hB hlen hs (fun x => hh (hb.2 x))).mono fun e w' h => h.eq rfl ?_
      simp
  · have e : takeP S b = ((stepP S b).1, oneA (stepP S b).2) := by unfold takeP; rw [if_neg (fun x => hs x.1), if_neg hs]
    rw [e]
    exact take_in w g S b B v al h hrow hg hB hlen hs

theorem oneA_len (a : ActD) : (oneA a).length ≤ 1 := by
  unfold oneA
  split <;> simp
theorem take_len (S : PS) (b : UInt8) (h : S.held.length ≤ 3) : (takeP S b).2.length ≤ 4 := by
  unfold takeP
  split
  · have h1 := (putAll_rest (S.held ++ [b])).2
    have h2 := prints_len (putAll (S.held ++ [b])).1
    rw [List.length_append] at h1
    simp at h1 ⊢
    omega
  · split
    · have h1 := decAll_le S.held
      have h2 := prints_len (decAll S.held)
      have h3 := oneA_len (stepP { S with held := [] } b).2
      simp only [List.length_append]
      omega
    · have h3 := oneA_len (stepP S b).2
      simp only
      omega
theorem putPS_snoc (S : PS) (l : List UInt8) (b : UInt8) : putPS S (l ++ [b]) = ((takeP (putPS S l).1 b).1, (putPS S l).2 ++ (takeP (putPS S l).1 b).2) := by
  rw [putPS_append]
  simp [putPS]
/-- bytes that lie elsewhere -/
def HoldsOff (w : World) (g : Nat) (v : Value) (s : List UInt8) : Prop := Holds1 w v (byteVals s) ∧ (0 < s.length → ∀ b off n c, v = .slice (some ⟨b, off, none⟩) n c → b ≠ g)
/-- between two bytes -/
def PutI (w : World) (g : Nat) (S : PS) (bs : List UInt8) (l i : Value) (wr : World) : Prop :=
  ∃ k : Nat, k ≤ bs.length ∧ i = .int .i64 k ∧ ActRow wr w.heap.size l (putPS S (bs.take k)).2 ∧ ParAt wr g (putPS S (bs.take k)).1 ∧ Touch (Only g) w wr ∧ (putPS S (bs.take k)).2.length ≤ 4 * k
def PutAPost (w : World) (g : Nat) (S : PS) (bs : List UInt8) (e : Ending) (w' : World) : Prop :=
  ∃ v', e = .returned v' ∧ ActRow w' w.heap.size v' (putPS S bs).2 ∧ ParAt w' g (putPS S bs).1 ∧ Touch (Only g) w w'
theorem only_turn {w w' w'' : World} {g : Nat} (h : Touch (Only g) w w') (h2 : Touch (Turn g w.heap.size) w' w'') : Touch (Only g) w w'' :=
  ⟨h2.os.trans h.os, h2.tape.trans h.tape, h2.output.trans h.output, Nat.le_trans h.size h2.size, fun k hk hn => (h2.block k (Nat.lt_of_lt_of_le hk h.size) (fun t => t.elim hn (fun x => Nat.not_lt_of_le x hk))).trans (h.block k hk hn)⟩

set_option maxRecDepth 1000000 in
set_option maxHeartbeats 2000000 in
theorem putP_any (w : World) (g : Nat) (S : PS) (bs : List UInt8) (bv : Value) (hT : Tabs w) (h : ParAt w g S) (hg2 : 2 ≤ g) (hv : HoldsOff w g bv bs) (hlen : bs.length ≤ 200000000) :
    Calls Tryd.prog 18 #[.pointer (some ⟨g, 0, none⟩), bv] w (PutAPost w g S bs) := by
  obtain ⟨⟨A, c, hbv, _, hc⟩, hoff⟩ := hv
  rw [byteVals_length] at hbv hc
  subst hbv
  have CU := Lib.hid (usableP_any w g S h)
  have HG := Lib.hid h.lt
  have HI := Lib.hid (show PutI w g S bs (.slice none 0 0) (.int .i64 0) w from ⟨0, Nat.zero_le _, rfl, ActRow.nil _ _, h, Touch.refl _ _, Nat.zero_le _⟩)
  have HT : Hid (∀ W, Touch (Only g) w W → Tabs W) := Lib.hid fun W hW => hT.touch (B := w.heap.size) hg2 hT.size (turn_only hW)
  have HC := Lib.hid hc
  have HO := Lib.hid hoff
  clear h hT hc hoff hg2
  generalize hn : bs.length = n at *
  have HN := Lib.hid hn
  clear hn
  go_enter Tryd.func18, Tryd.ntmps18
  go_wp2_with (go_at_call 34; refine (CU.out).mono ?_; rintro e w' ⟨rfl, rfl⟩)
  go_loopw [5, 13] (fun l i wr => PutI w g S bs l i wr) (fun _ i _ => n - (RowKit.intOf i).toNat)
  case atStart => exact HI.out
  case round =>
    obtain ⟨k, hk, rfl, hrow, hp, ht, hl4⟩ := hrel
    rw [HN.out] at hk
    by_cases hlt : k < n
    · obtain ⟨b, hx⟩ : ∃ b, bs[k]? = some b := ⟨_, List.getElem?_eq_getElem (by rw [HN.out]; exact hlt)⟩
      obtain ⟨bk, off, rfl, hbl, hcell⟩ := HC.out (by omega)
      have hne := HO.out (by omega) bk off n c rfl
      have hl0 : wr.cell? ⟨bk, off + k, none⟩ = some (.int .u8 b.toNat) := (ht.cell (p := ⟨bk, off + k, none⟩) hbl hne).trans (hcell k _ (by simp [byteVals, hx]))
      have htk : bs.take (k + 1) = bs.take k ++ [b] := by rw [List.take_add_one, hx]; rfl
      have HS := Lib.hid (show putPS S (bs.take (k + 1)) = _ from htk ▸ putPS_snoc S (bs.take k) b)
      have CT := Lib.hid fun v (hv : ActRow wr w.heap.size v (putPS S (bs.take k)).2) => take_any wr g _ b w.heap.size v _ (HT.out wr ht) hp hv HG.out ht.size (by omega)
      have HL : Hid ((takeP (putPS S (bs.take k)).1 b).2.length ≤ 4) := Lib.hid (take_len _ b hp.shortHeld)
      have HL4 := Lib.hid hl4
      have i1 : (0 : Int) ≤ (k : Int) := by omega
      have i2 : ((k : Int) < (n : Int)) = True := by simp; exact hlt
      have hwk : wrap64 ((k : Int) + 1) = (k : Int) + 1 := by unfold wrap64; omega
      have HLT := Lib.hid hlt
      have HW := Lib.hid hrow
      have HTT := Lib.hid ht
      clear hp hrow hlt hk htk hx ht hl4 hbl hcell hne hlen
      generalize putPS S (bs.take k) = q at *
      go_wp2_with (go_at_call 35; refine (CT.out _ HW.out).mono ?_; rintro e w' ⟨v', rfl, hr', hp', ht'⟩; have HW2 := Lib.hid hr'; have HP2 := Lib.hid hp'; have HT2 := Lib.hid (only_turn HTT.out ht'); clear hr' hp' ht')
      go_roundw
      case rel => exact ⟨k + 1, by have := HLT.out; have := HN.out; omega, by go_num, by rw [HS.out]; exact HW2.out, by rw [HS.out]; exact HP2.out, HT2.out, by rw [HS.out]; have := HL.out; have := HL4.out; simp only [List.length_append]; omega⟩
      case measure => rw [hwk]; clear hwk; have := HLT.out; simp [RowKit.intOf]; omega
    · obtain rfl : k = n := by omega
      have htk : bs.take k = bs := List.take_of_length_le (by rw [HN.out]; omega)
      rw [htk] at hrow hp
      have i2 : ((k : Int) < (k : Int)) = False := by simp
      clear hlt hk hl4 hlen
      go_wp2
      go_ret
      exact ⟨_, rfl, hrow, hp, ht⟩
end Go.Proofs.YtjoiagaadofndaaDoor
