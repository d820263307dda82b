/-
  What ucell's Runes returns for every slice of bytes: the runes of the bytes, in new memory.
-/
import Derived.Test.YtjoiagaadofndaaDoorMem
import Derived.Test.YtjoiagaadofndaaDoorLay
import Derived.Shelf.Spec.DecodeRune
namespace Go.Proofs.YtjoiagaadofndaaDoor
open Go.RowKit

theorem decode_any (s : List UInt8) (A : Option Addr) (c : Nat) (w : World) (hT : Tabs w) (hs : s ≠ []) (hv : Holds1 w (.slice A s.length c) (byteVals s)) :
    Calls Tryd.prog 62 #[.slice A s.length c] w fun e w' => e = .returned (.tuple #[.int .i32 (dec s).1, .int .i64 (dec s).2]) ∧ Below w.heap.size w w' := by
  obtain ⟨A', c', e, hc, h⟩ := hv
  injection e with e1 e2 e3
  subst e1 e3
  have hp : 0 < s.length := List.length_pos_iff.2 hs
  obtain ⟨b, off, rfl, hlt, hcell⟩ := h (by simpa [byteVals] using hp)
  have hsz : (ByteArray.mk s.toArray).size = s.length := by simp [ByteArray.size]
  have := Any7.utf8_DecodeRune lays32 ⟨s.toArray⟩ b off c w hT.u (fun j hj => hcell j _ (by
    rw [hsz] at hj
    simp [byteVals, ByteArray.get!, hj]))
  rw [decodeGo_list s hs, hsz] at this
  exact this

theorem info_rune : (Tryd.prog.info? 21).map (fun i => (i.zero, i.size, i.bytes)) = some (some (.int .i32 0), 1, 4) := by kernel_rfl

/-- how many elements a slice value has -/
def lenOf : Value → Nat
  | .slice _ n _ => n
  | _ => 0

/-- the loop of Runes: what is left of the bytes, and what was decoded -/
def RunesRel (s : List UInt8) (w : World) (b l : Value) (wr : World) : Prop :=
  ∃ (rest : List UInt8) (out : List Int) (A : Option Addr) (c : Nat), b = .slice A rest.length c ∧ Holds1 w (.slice A rest.length c) (byteVals rest) ∧ out ++ decAll rest = decAll s ∧ rest.length + out.length ≤ s.length ∧
    wr.ownsRow w.heap.size 21 1 l out.length (runeVals out) ∧ Below w.heap.size w wr

theorem runes_step {s rest : List UInt8} {out : List Int} {w w2 : World} {A A' : Option Addr} {k x c m m' : Nat} {v' : Value} (hk : 1 ≤ k) (hlen : rest.length + out.length ≤ s.length)
    (hr : k ≤ rest.length) (hm : m = rest.length - k) (hm' : m' = c - k) (hA : A' = cutA A c k)
    (HC : Holds1 w (.slice (cutA A c k) (rest.drop k).length (c - k)) (byteVals (rest.drop k))) (HO : out ++ decAll rest = decAll s) (HS : decAll rest = (x : Int) :: decAll (rest.drop k))
    (hown : w2.ownsRow w.heap.size 21 1 v' (out.length + 1) (runeVals out ++ [.int .i32 (x : Int)])) (hb : Below w.heap.size w w2) : RunesRel s w (.slice A' m m') v' w2 := by
  subst hm hm' hA
  have hd : rest.length - k = (rest.drop k).length := by rw [List.length_drop]
  rw [hd]
  refine ⟨rest.drop k, out ++ [(x : Int)], _, _, rfl, HC, by rw [List.append_assoc, ← HO, HS]; rfl, by simp; omega, ?_, hb⟩
  simpa [runeVals] using hown

theorem runes_any (s : List UInt8) (v : Value) (w : World) (hT : Tabs w) (hv : Holds1 w v (byteVals s)) (hroom : s.length * 4 ≤ 140737488355328) :
    Calls Tryd.prog 45 #[v] w fun e w' => ∃ r, e = .returned r ∧ w'.ownsRow w.heap.size 21 1 r (decAll s).length (runeVals (decAll s)) ∧ Below w.heap.size w w' := by
  obtain ⟨i0, hi, hz0, hz1, hz2⟩ := info_parts info_rune
  obtain ⟨A, c, hvv, hc, h⟩ := hv
  have hl : (byteVals s).length = s.length := by simp [byteVals]
  rw [hl] at hvv
  subst hvv
  have HV := Lib.hid (p := Holds1 w (.slice A s.length c) (byteVals s)) ⟨A, c, by rw [hl], hc, h⟩
  have HT := Lib.hid hT
  clear h hl hc hT
  go_enter Tryd.func45, Tryd.ntmps45
  go_wp2
  go_loopw [0, 3] (fun b l wr => RunesRel s w b l wr) (fun b _ _ => lenOf b)
  case atStart => exact ⟨s, [], A, c, rfl, HV.out, rfl, by simp, World.ownsRow_nil _ _ _ _, Below.refl _ _⟩
  case round =>
    obtain ⟨rest, out, A, c, rfl, hr, hout, hlen, hown, hb⟩ := hrel
    have HO := Lib.hid hout
    have HR := Lib.hid hr
    clear hout hr HV
    by_cases hlt : rest = []
    · subst hlt
      go_wp2
      go_ret
      have e : decAll s = out := by rw [← HO.out]; simp [decAll_nil]
      rw [e]
      exact ⟨_, rfl, hown, hb⟩
    · have hp : 0 < rest.length := List.length_pos_iff.2 hlt
      have hd := dec_bounds rest hlt
      have cD := decode_any rest A c wr (HT.out.below hb) hlt (HR.out.below hb)
      have hstep := decAll_step rest hlt
      have hcl : rest.length ≤ c := by
        obtain ⟨A', c', e, hc, _⟩ := HR.out
        injection e with e1 e2 e3
        subst e3
        simpa [byteVals] using hc.1
      obtain ⟨hd1, hd2, hd3, hd4⟩ := hd
      have hcut : ∀ k, k ≤ rest.length → Holds1 w (.slice (cutA A c k) (rest.drop k).length (c - k)) (byteVals (rest.drop k)) := fun k hk => by
        have := HR.out.cut hk
        rw [List.length_drop]
        simpa [byteVals] using this
      have HC := Lib.hid (hcut _ hd2)
      clear hcut
      have HS := Lib.hid hstep
      clear hstep hlt
      have hdl : (rest.drop (dec rest).2).length = rest.length - (dec rest).2 := List.length_drop
      have HDL := Lib.hid hdl
      clear hdl
      generalize hx : (dec rest).1 = x at *
      generalize hk : (dec rest).2 = k at *
      clear hx hk
      have CD := Lib.hid cD
      clear cD
      have hsz := hb.size
      have hroom' : (out.length + 1) * 4 ≤ 140737488355328 := by omega
      have h63 : out.length + 1 ≤ maxLen := by unfold maxLen; omega
      rcases Decidable.em (c = k) with rfl | hck
      all_goals
        go_wp2_with (first
          | (go_at_call 62; refine (CD.out).mono ?_; rintro e w1 ⟨rfl, hb1⟩)
          | (at_builtin; refine append_one w1 rfl _ _ 49 rfl w.heap.size 21 i0 (.int .i32 0) 4 Tryd.underlying49 hi hz0 hz1 hz2 rfl _ out.length (runeVals out) rfl (own_below hown hb1) (.int .i32 x) rfl rfl h63 hroom' (Nat.le_trans hsz hb1.size) ?_; intro v' w2 hown' hb2))
        go_roundw
        case rel => exact runes_step (A := A) (c := c) hd1 hlen hd2 (by omega) (by omega) (by simp [cutA, *]) HC.out HO.out HS.out hown' (hb.trans ((hb1.mono hsz).trans hb2))
        case measure => simp [lenOf]; omega

end Go.Proofs.YtjoiagaadofndaaDoor
