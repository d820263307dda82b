/-
  Plain functions: what one byte does to the document's parser, and that it tells what the program's tells. No program is walked here, and nothing is assumed.
-/
import Derived.Test.YtjoiagaadofndaaDoorVpP
namespace Go.Proofs.YtjoiagaadofndaaDoor
open Go.Lib

def manyP (S : PS) : Nat := S.ps.length + (if S.beyond = true then 1 else 0)
def oscA (S : PS) : ActD := ⟨5, 0, 0, 0, [], [], S.text⟩
def dcsA (S : PS) : ActD := actOf S 6
def csiA (S : PS) (b : UInt8) : ActD := ⟨4, 0, b, S.priv, S.ps, S.inter, []⟩
def escA (b : UInt8) (i : List UInt8) : ActD := ⟨3, 0, b, 0, [], i, []⟩
def rTextP (S : PS) (b : UInt8) : PS × List ActD :=
  if S.st = 11 then (if b.toNat = 127 then (S, []) else (addTextP S b, []))
  else if b.toNat = 7 then ({ S with st := 0 }, [oscA S]) else if 32 ≤ b.toNat then (addTextP S b, []) else (S, [])
def rControlP (S : PS) (b : UInt8) : PS × List ActD := if 7 ≤ S.st ∧ S.st ≤ 10 then (S, []) else (S, [exeA b])
def rEndsP (S : PS) (b : UInt8) : PS × List ActD :=
  if 7 ≤ S.st then (if S.st = 10 then ({ S with fin := b, st := 13 }, []) else ({ S with fin := b, st := 11 }, []))
  else if S.st = 6 then ({ S with st := 0 }, []) else ({ S with st := 0 }, [csiA S b])
def rBase (S : PS) : Nat := if 7 ≤ S.st then 7 else 3
def rSeqP (S : PS) (b : UInt8) : PS × List ActD :=
  if 64 ≤ b.toNat then rEndsP S b
  else if S.st - rBase S = 3 then (S, [])
  else if b.toNat < 48 then ({ addInterP S b with st := rBase S + 2 }, [])
  else if S.st - rBase S = 2 ∨ b.toNat = 58 ∨ (S.st - rBase S = 1 ∧ 60 ≤ b.toNat) then ({ S with st := rBase S + 3 }, [])
  else if 60 ≤ b.toNat then ({ S with priv := b, st := rBase S + 1 }, [])
  else if b.toNat = 59 then ({ beginP (begunP S) with st := rBase S + 1 }, [])
  else ({ digitP (begunP S) b with st := rBase S + 1 }, [])
def rBeginsP (S : PS) (b : UInt8) : PS × List ActD :=
  if b.toNat < 48 then ({ addInterP S b with st := 2 }, [])
  else if b.toNat = 91 then ({ S with st := 3 }, []) else if b.toNat = 93 then ({ S with st := 12 }, []) else if b.toNat = 80 then ({ S with st := 7 }, [])
  else if b.toNat = 88 ∨ b.toNat = 94 ∨ b.toNat = 95 then ({ S with st := 13 }, []) else if b.toNat = 92 then ({ S with st := 0 }, [])
  else ({ S with st := 0 }, [escA b []])
def rGraphicP (S : PS) (b : UInt8) : PS × List ActD :=
  if S.st = 0 then (S, [printA b.toNat]) else if S.st = 1 then rBeginsP S b
  else if S.st = 2 then (if b.toNat < 48 then (addInterP S b, []) else ({ S with st := 0 }, [escA b S.inter])) else rSeqP S b
def rEscA (S : PS) : List ActD := if S.st = 12 then [oscA S] else if S.st = 11 then [dcsA S] else []
def rStepP (S : PS) (b : UInt8) : PS × List ActD :=
  if b.toNat = 24 ∨ b.toNat = 26 then ({ S with st := 0 }, [exeA b])
  else if b.toNat = 27 then ({ freshP S with st := 1 }, rEscA S)
  else if S.st = 12 ∨ S.st = 11 then rTextP S b
  else if 128 ≤ b.toNat ∨ S.st = 13 then (S, [])
  else if b.toNat < 32 then rControlP S b
  else if b.toNat = 127 then (S, [])
  else rGraphicP S b
def rPrintsP (l : List Int) : List ActD := (l.filter fun r => !(decide (128 ≤ r) && decide (r ≤ 159))).map printA
def rTakeP (S : PS) (b : UInt8) : PS × List ActD :=
  if S.st = 0 ∧ 128 ≤ b.toNat then ({ S with held := (putAll (S.held ++ [b])).2 }, rPrintsP (putAll (S.held ++ [b])).1)
  else if S.st = 0 then ((rStepP { S with held := [] } b).1, rPrintsP (decAll S.held) ++ (rStepP { S with held := [] } b).2)
  else rStepP S b
def rPutP : PS → List UInt8 → PS × List ActD
  | S, [] => (S, [])
  | S, b :: l => ((rPutP (rTakeP S b).1 l).1, (rTakeP S b).2 ++ (rPutP (rTakeP S b).1 l).2)
def rAllP (l : List UInt8) : List ActD := (rPutP ps0 l).2 ++ (if (rPutP ps0 l).1.st = 0 then rPrintsP (decAll (rPutP ps0 l).1.held) else [])
theorem rPutP_append (l m : List UInt8) : ∀ S, rPutP S (l ++ m) = ((rPutP (rPutP S l).1 m).1, (rPutP S l).2 ++ (rPutP (rPutP S l).1 m).2) := by
  induction l with
  | nil => intro S; simp [rPutP]
  | cons b l ih => intro S; simp [rPutP, ih]
theorem rPutP_snoc (S : PS) (l : List UInt8) (b : UInt8) : rPutP S (l ++ [b]) = ((rTakeP (rPutP S l).1 b).1, (rPutP S l).2 ++ (rTakeP (rPutP S l).1 b).2) := by
  rw [rPutP_append]
  simp [rPutP]

theorem u8n (b : UInt8) (n : Nat) (h : n < 256) : (b = UInt8.ofNat n) ↔ b.toNat = n := by
  constructor
  · rintro rfl; simp; omega
  · intro e; apply UInt8.toNat_inj.1; simp; omega
/-- what the program's parser never holds -/
structure Fresh (S : PS) : Prop where
  st13 : S.st ≤ 13
  high : ∀ c ∈ S.held, 128 ≤ c.toNat
  esc : S.st = 1 ∨ S.st = 2 ∨ S.st = 12 → S.priv = 0 ∧ S.fin = 0 ∧ S.ps = []
  inter : S.st = 1 ∨ S.st = 12 → S.inter = []
  text : 1 ≤ S.st → S.st ≤ 6 → S.text = []
/-- the same, but for a final byte that is not asked any more -/
def WithF (S : PS) (f : UInt8) : PS := { S with fin := f }
def Alike (x y : PS × List ActD) : Prop := x.2 = y.2 ∧ (∃ f, y.1 = WithF x.1 f ∧ (x.1.st = 11 → f = x.1.fin)) ∧ Fresh x.1
theorem addInter_f (S : PS) (f b : UInt8) : addInterP { S with fin := f } b = { addInterP S b with fin := f } := by unfold addInterP; split <;> rfl
theorem addInter_st (S : PS) (b : UInt8) : (addInterP S b).st = S.st ∧ (addInterP S b).held = S.held ∧ (addInterP S b).priv = S.priv ∧ (addInterP S b).fin = S.fin ∧ (addInterP S b).ps = S.ps ∧ (addInterP S b).beyond = S.beyond ∧ (addInterP S b).text = S.text := by unfold addInterP; split <;> exact ⟨rfl, rfl, rfl, rfl, rfl, rfl, rfl⟩
theorem addText_f (S : PS) (f b : UInt8) : addTextP { S with fin := f } b = { addTextP S b with fin := f } := by unfold addTextP; split <;> rfl
theorem addText_st (S : PS) (b : UInt8) : (addTextP S b).st = S.st ∧ (addTextP S b).held = S.held ∧ (addTextP S b).priv = S.priv ∧ (addTextP S b).fin = S.fin ∧ (addTextP S b).ps = S.ps ∧ (addTextP S b).beyond = S.beyond ∧ (addTextP S b).inter = S.inter := by unfold addTextP; split <;> exact ⟨rfl, rfl, rfl, rfl, rfl, rfl, rfl⟩
theorem begin_f (S : PS) (f : UInt8) : beginP { S with fin := f } = { beginP S with fin := f } := by unfold beginP; split <;> rfl
theorem begun_f (S : PS) (f : UInt8) : begunP { S with fin := f } = { begunP S with fin := f } := by unfold begunP; split <;> first | exact begin_f S f | rfl
theorem digit_f (S : PS) (f b : UInt8) : digitP { S with fin := f } b = { digitP S b with fin := f } := by unfold digitP; split <;> rfl
theorem begin_st (S : PS) : (beginP S).st = S.st ∧ (beginP S).held = S.held ∧ (beginP S).text = S.text := by unfold beginP; split <;> exact ⟨rfl, rfl, rfl⟩
theorem begun_st (S : PS) : (begunP S).st = S.st ∧ (begunP S).held = S.held ∧ (begunP S).text = S.text := by unfold begunP; split <;> first | exact begin_st S | exact ⟨rfl, rfl, rfl⟩
theorem digit_st (S : PS) (b : UInt8) : (digitP S b).st = S.st ∧ (digitP S b).held = S.held ∧ (digitP S b).text = S.text := by unfold digitP; split <;> exact ⟨rfl, rfl, rfl⟩
theorem putPar_digit (S : PS) (b : UInt8) (h : b.toNat ≠ 59) : putParP S b = digitP (begunP S) b := by unfold putParP; rw [if_neg (show ¬ b = 59 from fun e => h ((u8n b 59 (by omega)).1 e))]
theorem putPar_next (S : PS) (b : UInt8) (h : b.toNat = 59) : putParP S b = beginP (begunP S) := by unfold putParP; rw [if_pos (show b = 59 from (u8n b 59 (by omega)).2 h)]
theorem class0 (b : UInt8) (h : b.toNat < 32) : classP b = 0 := by unfold classP; rw [if_pos (UInt8.lt_iff_toNat_lt.2 h)]
theorem classP_r (b : UInt8) : classP b = if b.toNat < 32 then 0 else if b.toNat < 48 then 1 else if b.toNat = 58 then 3 else if b.toNat < 60 then 2 else if b.toNat < 64 then 4 else if b.toNat < 127 then 5 else 6 := by
  have e : (b = 58) ↔ b.toNat = 58 := u8n b 58 (by omega)
  simp only [classP, UInt8.lt_iff_toNat_lt, e]
  rfl
theorem introP_r (b : UInt8) : introP b = if b.toNat = 91 then 3 else if b.toNat = 93 then 12 else if b.toNat = 80 then 7 else if b.toNat = 88 then 13 else if b.toNat = 94 then 13 else if b.toNat = 95 then 13 else if b.toNat = 92 then 0 else 1 := by
  have e1 : (b = 91) ↔ b.toNat = 91 := u8n b 91 (by omega)
  have e2 : (b = 93) ↔ b.toNat = 93 := u8n b 93 (by omega)
  have e3 : (b = 80) ↔ b.toNat = 80 := u8n b 80 (by omega)
  have e4 : (b = 88) ↔ b.toNat = 88 := u8n b 88 (by omega)
  have e5 : (b = 94) ↔ b.toNat = 94 := u8n b 94 (by omega)
  have e6 : (b = 95) ↔ b.toNat = 95 := u8n b 95 (by omega)
  have e7 : (b = 92) ↔ b.toNat = 92 := u8n b 92 (by omega)
  simp only [introP, e1, e2, e3, e4, e5, e6, e7]

section
variable {S : PS} {f b : UInt8}
theorem alike_same (F : Fresh S) (h : S.st = 11 → f = S.fin) (l : List ActD) : Alike (S, l) (WithF S f, l) := ⟨rfl, ⟨f, rfl, h⟩, F⟩
/-- nothing turns but the state -/
theorem alike_st (F : Fresh S) (k : Nat) (hk : k = 0 ∨ k = 13 ∨ k = 7 ∨ (k = 3 ∧ 1 ≤ S.st ∧ S.st ≤ 6) ∨ (k = 12 ∧ S.st = 1) ∨ (8 ≤ k ∧ k ≤ 10) ∨ (4 ≤ k ∧ k ≤ 6 ∧ 1 ≤ S.st ∧ S.st ≤ 6)) (l : List ActD) : Alike ({ S with st := k }, l) ({ WithF S f with st := k }, l) :=
  ⟨rfl, ⟨f, rfl, fun e => by simp only at e; omega⟩, ⟨by simp only; omega, F.high, fun e => F.esc (by simp only at e; omega), fun e => F.inter (by simp only at e; omega), fun h1 h2 => F.text (by simp only at h1 h2; omega) (by simp only at h1 h2; omega)⟩⟩
theorem alike_inter (F : Fresh S) (k : Nat) (hk : (k = 2 ∧ (S.st = 1 ∨ S.st = 2)) ∨ (k = 5 ∧ 3 ≤ S.st ∧ S.st ≤ 6) ∨ k = 9) : Alike ({ addInterP S b with st := k }, []) ({ addInterP (WithF S f) b with st := k }, []) := by
  obtain ⟨h1, h2, h3, h4, h5, h6, h7⟩ := addInter_st S b
  refine ⟨rfl, ⟨f, ?_, fun e => by simp only at e; omega⟩, ⟨by simp only; omega, by simp only [h2]; exact F.high, fun e => ?_, fun e => by simp only at e; omega, fun a1 a2 => ?_⟩⟩
  · unfold WithF; rw [addInter_f]
  · simp only [h3, h4, h5]; exact F.esc (by simp only at e; omega)
  · simp only [h7]; exact F.text (by simp only at a1 a2; omega) (by simp only at a1 a2; omega)
theorem alike_inter2 (F : Fresh S) (hk : S.st = 2) : Alike ({ addInterP S b with st := 2 }, []) (addInterP (WithF S f) b, []) := by
  have h := alike_inter (f := f) (b := b) F 2 (.inl ⟨rfl, .inr hk⟩)
  have e2 : ({ addInterP (WithF S f) b with st := 2 } : PS) = addInterP (WithF S f) b := by have := (addInter_st (WithF S f) b).1; rw [show (WithF S f).st = 2 from hk] at this; rw [← this]
  rw [e2] at h
  exact h
theorem alike_text (F : Fresh S) (h : S.st = 11 → f = S.fin) (hk : S.st = 11 ∨ S.st = 12) : Alike (addTextP S b, []) (addTextP (WithF S f) b, []) := by
  obtain ⟨h1, h2, h3, h4, h5, h6, h7⟩ := addText_st S b
  refine ⟨rfl, ⟨f, ?_, fun e => ?_⟩, ⟨by simp only [h1]; omega, by simp only [h2]; exact F.high, fun e => ?_, fun e => ?_, fun a1 a2 => by simp only [h1] at a1 a2; omega⟩⟩
  · unfold WithF; rw [addText_f]
  · simp only [h1] at e; simp only [h4]; exact h e
  · simp only [h1] at e; simp only [h3, h4, h5]; exact F.esc e
  · simp only [h1] at e; simp only [h7]; exact F.inter e
theorem alike_digit (F : Fresh S) (k : Nat) (hk : (k = 4 ∧ 3 ≤ S.st ∧ S.st ≤ 6) ∨ k = 8) : Alike ({ digitP (begunP S) b with st := k }, []) ({ digitP (begunP (WithF S f)) b with st := k }, []) := by
  have h1 := begun_st S
  have h2 := digit_st (begunP S) b
  refine ⟨rfl, ⟨f, ?_, fun e => by simp only at e; omega⟩, ⟨by simp only; omega, by simp only [h2, h1]; exact F.high, fun e => by simp only at e; omega, fun e => by simp only at e; omega, fun a1 a2 => ?_⟩⟩
  · unfold WithF; rw [begun_f, digit_f]
  · simp only [h2, h1]; exact F.text (by simp only at a1 a2; omega) (by simp only at a1 a2; omega)
theorem alike_next (F : Fresh S) (k : Nat) (hk : (k = 4 ∧ 3 ≤ S.st ∧ S.st ≤ 6) ∨ k = 8) : Alike ({ beginP (begunP S) with st := k }, []) ({ beginP (begunP (WithF S f)) with st := k }, []) := by
  have h1 := begun_st S
  have h2 := begin_st (begunP S)
  refine ⟨rfl, ⟨f, ?_, fun e => by simp only at e; omega⟩, ⟨by simp only; omega, by simp only [h2, h1]; exact F.high, fun e => by simp only at e; omega, fun e => by simp only at e; omega, fun a1 a2 => ?_⟩⟩
  · unfold WithF; rw [begun_f, begin_f]
  · simp only [h2, h1]; exact F.text (by simp only at a1 a2; omega) (by simp only at a1 a2; omega)
theorem alike_priv (F : Fresh S) (k : Nat) (hk : (k = 4 ∧ 3 ≤ S.st ∧ S.st ≤ 6) ∨ k = 8) : Alike ({ S with priv := b, st := k }, []) ({ WithF S f with priv := b, st := k }, []) :=
  ⟨rfl, ⟨f, rfl, fun e => by simp only at e; omega⟩, ⟨by simp only; omega, F.high, fun e => by simp only at e; omega, fun e => by simp only at e; omega, fun h1 h2 => F.text (by simp only at h1 h2; omega) (by simp only at h1 h2; omega)⟩⟩
/-- a final byte: the program keeps it always, the document's parser where it begins a text -/
theorem alike_fin (F : Fresh S) (k : Nat) (hk : k = 11 ∨ k = 13) (l : List ActD) : Alike ({ S with fin := b, st := k }, l) ({ WithF S f with fin := b, st := k }, l) :=
  ⟨rfl, ⟨b, rfl, fun _ => rfl⟩, ⟨by simp only; omega, F.high, fun e => by simp only at e; omega, fun e => by simp only at e; omega, fun h1 h2 => by simp only at h1 h2; omega⟩⟩
theorem alike_end (F : Fresh S) (l m : List ActD) (h : l = m) : Alike ({ S with fin := b, st := 0 }, l) ({ WithF S f with st := 0 }, m) :=
  ⟨h, ⟨f, rfl, fun e => by simp only at e; omega⟩, ⟨by simp only; omega, F.high, fun e => by simp only at e; omega, fun e => by simp only at e; omega, fun h1 h2 => by simp only at h1 h2; omega⟩⟩
theorem alike_esc (F : Fresh S) (l m : List ActD) (h : l = m) : Alike ({ freshP S with st := 1 }, l) ({ freshP (WithF S f) with st := 1 }, m) :=
  ⟨h, ⟨0, rfl, fun e => by simp only at e; omega⟩, ⟨by simp only; omega, F.high, fun e => ⟨rfl, rfl, rfl⟩, fun e => rfl, fun h1 h2 => rfl⟩⟩
theorem one_act (a : ActD) (h : a.kind ≠ 0) : oneA a = [a] := by unfold oneA; rw [if_neg h]
theorem one_none : oneA noneA = [] := rfl
end

/-- the document's parser within a state -/
def rRestP (S : PS) (b : UInt8) : PS × List ActD :=
  if S.st = 12 ∨ S.st = 11 then rTextP S b
  else if 128 ≤ b.toNat ∨ S.st = 13 then (S, [])
  else if b.toNat < 32 then rControlP S b
  else if b.toNat = 127 then (S, [])
  else rGraphicP S b
def Sims (S : PS) (f b : UInt8) : Prop := Alike ((inStateP S b).1, oneA (inStateP S b).2) (rRestP (WithF S f) b)
theorem withF_st (S : PS) (f : UInt8) : (WithF S f).st = S.st := rfl
theorem withF_inter (S : PS) (f : UInt8) : (WithF S f).inter = S.inter := rfl
theorem one_exe (b : UInt8) : oneA (exeA b) = [exeA b] := rfl
theorem one_print (r : Int) : oneA (printA r) = [printA r] := rfl
theorem one_act3 (S : PS) : oneA (actOf S 3) = [actOf S 3] := rfl
theorem one_act4 (S : PS) : oneA (actOf S 4) = [actOf S 4] := rfl
theorem one_act5 (S : PS) : oneA (actOf S 5) = [actOf S 5] := rfl
theorem one_act6 (S : PS) : oneA (actOf S 6) = [actOf S 6] := rfl
theorem esc_act1 {S : PS} (F : Fresh S) (h : S.st = 1) (b : UInt8) : [actOf { S with fin := b } 3] = [escA b []] := by
  obtain ⟨h1, h2, h3⟩ := F.esc (.inl h)
  have h4 := F.inter (.inl h)
  have h5 := F.text (by omega) (by omega)
  simp [actOf, escA, h1, h3, h4, h5]
theorem esc_act2 {S : PS} (F : Fresh S) (h : S.st = 2) (b : UInt8) : [actOf { S with fin := b } 3] = [escA b S.inter] := by
  obtain ⟨h1, h2, h3⟩ := F.esc (.inr (.inl h))
  have h5 := F.text (by omega) (by omega)
  simp [actOf, escA, h1, h3, h5]
theorem csi_act {S : PS} (F : Fresh S) (h1 : 1 ≤ S.st) (h2 : S.st ≤ 6) (f b : UInt8) : [actOf { S with fin := b } 4] = [csiA (WithF S f) b] := by
  have h5 := F.text h1 h2
  simp [actOf, csiA, WithF, h5]
theorem osc_act {S : PS} (F : Fresh S) (h : S.st = 12) (f : UInt8) : [actOf S 5] = [oscA (WithF S f)] := by
  obtain ⟨h1, h2, h3⟩ := F.esc (.inr (.inr h))
  have h4 := F.inter (.inr h)
  simp [actOf, oscA, WithF, h1, h2, h3, h4]
theorem dcs_act {S : PS} {f : UInt8} (h : f = S.fin) : [actOf S 6] = [dcsA (WithF S f)] := by
  subst h
  rfl
set_option maxHeartbeats 4000000 in
theorem sims0 {S : PS} (f b : UInt8) (F : Fresh S) (h11 : S.st = 11 → f = S.fin) (hs : S.st = 0) (hb : b.toNat < 128) : Sims S f b := by
  have hT : (WithF S f).st = S.st := rfl
  have hi := (addInter_st S b).1
  have hd := (digit_st (begunP S) b).1
  have hg := (begun_st S).1
  have hn := (begin_st (begunP S)).1
  have e7 : (b = 7) ↔ b.toNat = 7 := u8n b 7 (by omega)
  have e127 : (b ≠ 127) ↔ b.toNat ≠ 127 := not_congr (u8n b 127 (by omega))
  unfold Sims
  simp only [inStateP, hs]
  rcases (show (b.toNat < 32) ∨ (32 ≤ b.toNat ∧ b.toNat < 48) ∨ (b.toNat = 58) ∨ (b.toNat = 59) ∨ (48 ≤ b.toNat ∧ b.toNat < 58) ∨ (60 ≤ b.toNat ∧ b.toNat < 64) ∨ (64 ≤ b.toNat ∧ b.toNat < 127) ∨ (b.toNat = 127) ∨ (128 ≤ b.toNat) by omega) with h | h | h | h | h | h | h | h | h
  all_goals simp (disch := omega) only [classP_r, rRestP, rTextP, rControlP, rGraphicP, rBeginsP, rSeqP, rEndsP, rBase, groundA, if_pos, if_neg, if_true, withF_inter, one_none, one_exe, one_print]
  all_goals first
    | (exfalso; omega)
    | exact alike_same F h11 _
    | exact alike_st F _ (by omega) _
    | exact alike_inter F _ (by omega)
    | exact alike_inter2 F (by omega)
    | exact alike_text F h11 (by omega)
    | exact alike_digit F _ (by omega)
    | exact alike_next F _ (by omega)
    | exact alike_priv F _ (by omega)
    | exact alike_fin F _ (by omega) _
    | exact alike_end F _ _ (esc_act1 F (by omega) b)
    | exact alike_end F _ _ (esc_act2 F (by omega) b)
    | exact alike_end F _ _ (csi_act F (by omega) (by omega) f b)
    | exact alike_end F _ _ rfl
    | exact ⟨osc_act F (by omega) f, (alike_st (f := f) F 0 (by omega) []).2⟩
set_option maxHeartbeats 4000000 in
theorem sims1 {S : PS} (f b : UInt8) (F : Fresh S) (h11 : S.st = 11 → f = S.fin) (hs : S.st = 1) : Sims S f b := by
  have hT : (WithF S f).st = S.st := rfl
  have hi := (addInter_st S b).1
  have hd := (digit_st (begunP S) b).1
  have hg := (begun_st S).1
  have hn := (begin_st (begunP S)).1
  have e7 : (b = 7) ↔ b.toNat = 7 := u8n b 7 (by omega)
  have e127 : (b ≠ 127) ↔ b.toNat ≠ 127 := not_congr (u8n b 127 (by omega))
  unfold Sims
  simp only [inStateP, hs]
  rcases (show (b.toNat < 32) ∨ (32 ≤ b.toNat ∧ b.toNat < 48) ∨ (b.toNat = 58) ∨ (b.toNat = 59) ∨ (48 ≤ b.toNat ∧ b.toNat < 58) ∨ (60 ≤ b.toNat ∧ b.toNat < 64) ∨ (b.toNat = 91) ∨ (b.toNat = 93) ∨ (b.toNat = 80) ∨ (b.toNat = 88) ∨ (b.toNat = 94) ∨ (b.toNat = 95) ∨ (b.toNat = 92) ∨ (64 ≤ b.toNat ∧ b.toNat < 127 ∧ b.toNat ≠ 91 ∧ b.toNat ≠ 93 ∧ b.toNat ≠ 80 ∧ b.toNat ≠ 88 ∧ b.toNat ≠ 94 ∧ b.toNat ≠ 95 ∧ b.toNat ≠ 92) ∨ (b.toNat = 127) ∨ (128 ≤ b.toNat) by omega) with h | h | h | h | h | h | h | h | h | h | h | h | h | h | h | h
  all_goals simp (disch := omega) only [classP_r, rRestP, rTextP, rControlP, rGraphicP, rBeginsP, rSeqP, rEndsP, rBase, introP_r, inEscapeP, if_pos, if_neg, if_true, withF_inter, one_none, one_exe, one_act3]
  all_goals first
    | (exfalso; omega)
    | exact alike_same F h11 _
    | exact alike_st F _ (by omega) _
    | exact alike_inter F _ (by omega)
    | exact alike_inter2 F (by omega)
    | exact alike_text F h11 (by omega)
    | exact alike_digit F _ (by omega)
    | exact alike_next F _ (by omega)
    | exact alike_priv F _ (by omega)
    | exact alike_fin F _ (by omega) _
    | exact alike_end F _ _ (esc_act1 F (by omega) b)
    | exact alike_end F _ _ (esc_act2 F (by omega) b)
    | exact alike_end F _ _ (csi_act F (by omega) (by omega) f b)
    | exact alike_end F _ _ rfl
    | exact ⟨osc_act F (by omega) f, (alike_st (f := f) F 0 (by omega) []).2⟩
set_option maxHeartbeats 4000000 in
theorem sims2 {S : PS} (f b : UInt8) (F : Fresh S) (h11 : S.st = 11 → f = S.fin) (hs : S.st = 2) : Sims S f b := by
  have hT : (WithF S f).st = S.st := rfl
  have hi := (addInter_st S b).1
  have hd := (digit_st (begunP S) b).1
  have hg := (begun_st S).1
  have hn := (begin_st (begunP S)).1
  have e7 : (b = 7) ↔ b.toNat = 7 := u8n b 7 (by omega)
  have e127 : (b ≠ 127) ↔ b.toNat ≠ 127 := not_congr (u8n b 127 (by omega))
  unfold Sims
  simp only [inStateP, hs]
  rcases (show (b.toNat < 32) ∨ (32 ≤ b.toNat ∧ b.toNat < 48) ∨ (b.toNat = 58) ∨ (b.toNat = 59) ∨ (48 ≤ b.toNat ∧ b.toNat < 58) ∨ (60 ≤ b.toNat ∧ b.toNat < 64) ∨ (64 ≤ b.toNat ∧ b.toNat < 127) ∨ (b.toNat = 127) ∨ (128 ≤ b.toNat) by omega) with h | h | h | h | h | h | h | h | h
  all_goals simp (disch := omega) only [classP_r, rRestP, rTextP, rControlP, rGraphicP, rBeginsP, rSeqP, rEndsP, rBase, inEscapeP, if_pos, if_neg, if_true, withF_inter, one_none, one_exe, one_act3]
  all_goals first
    | (exfalso; omega)
    | exact alike_same F h11 _
    | exact alike_st F _ (by omega) _
    | exact alike_inter F _ (by omega)
    | exact alike_inter2 F (by omega)
    | exact alike_text F h11 (by omega)
    | exact alike_digit F _ (by omega)
    | exact alike_next F _ (by omega)
    | exact alike_priv F _ (by omega)
    | exact alike_fin F _ (by omega) _
    | exact alike_end F _ _ (esc_act1 F (by omega) b)
    | exact alike_end F _ _ (esc_act2 F (by omega) b)
    | exact alike_end F _ _ (csi_act F (by omega) (by omega) f b)
    | exact alike_end F _ _ rfl
    | exact ⟨osc_act F (by omega) f, (alike_st (f := f) F 0 (by omega) []).2⟩
set_option maxHeartbeats 4000000 in
theorem sims3 {S : PS} (f b : UInt8) (F : Fresh S) (h11 : S.st = 11 → f = S.fin) (hs : S.st = 3) : Sims S f b := by
  have hT : (WithF S f).st = S.st := rfl
  have hi := (addInter_st S b).1
  have hd := (digit_st (begunP S) b).1
  have hg := (begun_st S).1
  have hn := (begin_st (begunP S)).1
  have e7 : (b = 7) ↔ b.toNat = 7 := u8n b 7 (by omega)
  have e127 : (b ≠ 127) ↔ b.toNat ≠ 127 := not_congr (u8n b 127 (by omega))
  unfold Sims
  simp only [inStateP, hs]
  rcases (show (b.toNat < 32) ∨ (32 ≤ b.toNat ∧ b.toNat < 48) ∨ (b.toNat = 58) ∨ (b.toNat = 59) ∨ (48 ≤ b.toNat ∧ b.toNat < 58) ∨ (60 ≤ b.toNat ∧ b.toNat < 64) ∨ (64 ≤ b.toNat ∧ b.toNat < 127) ∨ (b.toNat = 127) ∨ (128 ≤ b.toNat) by omega) with h | h | h | h | h | h | h | h | h
  all_goals simp (disch := omega) only [classP_r, rRestP, rTextP, rControlP, rGraphicP, rBeginsP, rSeqP, rEndsP, rBase, paramTail, interTail, inSeqP, enterP, putPar_digit, putPar_next, if_pos, if_neg, if_true, true_and, true_or, or_true, withF_inter, hi, hd, hg, hn, one_none, one_exe, one_act4]
  all_goals first
    | (exfalso; omega)
    | exact alike_same F h11 _
    | exact alike_st F _ (by omega) _
    | exact alike_inter F _ (by omega)
    | exact alike_inter2 F (by omega)
    | exact alike_text F h11 (by omega)
    | exact alike_digit F _ (by omega)
    | exact alike_next F _ (by omega)
    | exact alike_priv F _ (by omega)
    | exact alike_fin F _ (by omega) _
    | exact alike_end F _ _ (esc_act1 F (by omega) b)
    | exact alike_end F _ _ (esc_act2 F (by omega) b)
    | exact alike_end F _ _ (csi_act F (by omega) (by omega) f b)
    | exact alike_end F _ _ rfl
    | exact ⟨osc_act F (by omega) f, (alike_st (f := f) F 0 (by omega) []).2⟩
set_option maxHeartbeats 4000000 in
theorem sims4 {S : PS} (f b : UInt8) (F : Fresh S) (h11 : S.st = 11 → f = S.fin) (hs : S.st = 4) : Sims S f b := by
  have hT : (WithF S f).st = S.st := rfl
  have hi := (addInter_st S b).1
  have hd := (digit_st (begunP S) b).1
  have hg := (begun_st S).1
  have hn := (begin_st (begunP S)).1
  have e7 : (b = 7) ↔ b.toNat = 7 := u8n b 7 (by omega)
  have e127 : (b ≠ 127) ↔ b.toNat ≠ 127 := not_congr (u8n b 127 (by omega))
  unfold Sims
  simp only [inStateP, hs]
  rcases (show (b.toNat < 32) ∨ (32 ≤ b.toNat ∧ b.toNat < 48) ∨ (b.toNat = 58) ∨ (b.toNat = 59) ∨ (48 ≤ b.toNat ∧ b.toNat < 58) ∨ (60 ≤ b.toNat ∧ b.toNat < 64) ∨ (64 ≤ b.toNat ∧ b.toNat < 127) ∨ (b.toNat = 127) ∨ (128 ≤ b.toNat) by omega) with h | h | h | h | h | h | h | h | h
  all_goals simp (disch := omega) only [classP_r, rRestP, rTextP, rControlP, rGraphicP, rBeginsP, rSeqP, rEndsP, rBase, paramTail, interTail, inSeqP, enterP, putPar_digit, putPar_next, if_pos, if_neg, if_true, true_and, true_or, or_true, withF_inter, hi, hd, hg, hn, one_none, one_exe, one_act4]
  all_goals first
    | (exfalso; omega)
    | exact alike_same F h11 _
    | exact alike_st F _ (by omega) _
    | exact alike_inter F _ (by omega)
    | exact alike_inter2 F (by omega)
    | exact alike_text F h11 (by omega)
    | exact alike_digit F _ (by omega)
    | exact alike_next F _ (by omega)
    | exact alike_priv F _ (by omega)
    | exact alike_fin F _ (by omega) _
    | exact alike_end F _ _ (esc_act1 F (by omega) b)
    | exact alike_end F _ _ (esc_act2 F (by omega) b)
    | exact alike_end F _ _ (csi_act F (by omega) (by omega) f b)
    | exact alike_end F _ _ rfl
    | exact ⟨osc_act F (by omega) f, (alike_st (f := f) F 0 (by omega) []).2⟩
set_option maxHeartbeats 4000000 in
theorem sims5 {S : PS} (f b : UInt8) (F : Fresh S) (h11 : S.st = 11 → f = S.fin) (hs : S.st = 5) : Sims S f b := by
  have hT : (WithF S f).st = S.st := rfl
  have hi := (addInter_st S b).1
  have hd := (digit_st (begunP S) b).1
  have hg := (begun_st S).1
  have hn := (begin_st (begunP S)).1
  have e7 : (b = 7) ↔ b.toNat = 7 := u8n b 7 (by omega)
  have e127 : (b ≠ 127) ↔ b.toNat ≠ 127 := not_congr (u8n b 127 (by omega))
  unfold Sims
  simp only [inStateP, hs]
  rcases (show (b.toNat < 32) ∨ (32 ≤ b.toNat ∧ b.toNat < 48) ∨ (b.toNat = 58) ∨ (b.toNat = 59) ∨ (48 ≤ b.toNat ∧ b.toNat < 58) ∨ (60 ≤ b.toNat ∧ b.toNat < 64) ∨ (64 ≤ b.toNat ∧ b.toNat < 127) ∨ (b.toNat = 127) ∨ (128 ≤ b.toNat) by omega) with h | h | h | h | h | h | h | h | h
  all_goals simp (disch := omega) only [classP_r, rRestP, rTextP, rControlP, rGraphicP, rBeginsP, rSeqP, rEndsP, rBase, interTail, inSeqP, enterP, if_pos, if_neg, if_true, true_and, true_or, or_true, withF_inter, hi, one_none, one_exe, one_act4]
  all_goals first
    | (exfalso; omega)
    | exact alike_same F h11 _
    | exact alike_st F _ (by omega) _
    | exact alike_inter F _ (by omega)
    | exact alike_inter2 F (by omega)
    | exact alike_text F h11 (by omega)
    | exact alike_digit F _ (by omega)
    | exact alike_next F _ (by omega)
    | exact alike_priv F _ (by omega)
    | exact alike_fin F _ (by omega) _
    | exact alike_end F _ _ (esc_act1 F (by omega) b)
    | exact alike_end F _ _ (esc_act2 F (by omega) b)
    | exact alike_end F _ _ (csi_act F (by omega) (by omega) f b)
    | exact alike_end F _ _ rfl
    | exact ⟨osc_act F (by omega) f, (alike_st (f := f) F 0 (by omega) []).2⟩
set_option maxHeartbeats 4000000 in
theorem sims6 {S : PS} (f b : UInt8) (F : Fresh S) (h11 : S.st = 11 → f = S.fin) (hs : S.st = 6) : Sims S f b := by
  have hT : (WithF S f).st = S.st := rfl
  have hi := (addInter_st S b).1
  have hd := (digit_st (begunP S) b).1
  have hg := (begun_st S).1
  have hn := (begin_st (begunP S)).1
  have e7 : (b = 7) ↔ b.toNat = 7 := u8n b 7 (by omega)
  have e127 : (b ≠ 127) ↔ b.toNat ≠ 127 := not_congr (u8n b 127 (by omega))
  unfold Sims
  simp only [inStateP, hs]
  rcases (show (b.toNat < 32) ∨ (32 ≤ b.toNat ∧ b.toNat < 48) ∨ (b.toNat = 58) ∨ (b.toNat = 59) ∨ (48 ≤ b.toNat ∧ b.toNat < 58) ∨ (60 ≤ b.toNat ∧ b.toNat < 64) ∨ (64 ≤ b.toNat ∧ b.toNat < 127) ∨ (b.toNat = 127) ∨ (128 ≤ b.toNat) by omega) with h | h | h | h | h | h | h | h | h
  all_goals simp (disch := omega) only [classP_r, rRestP, rTextP, rControlP, rGraphicP, rBeginsP, rSeqP, rEndsP, rBase, inSeqP, if_pos, if_neg, true_and, withF_inter, one_none, one_exe]
  all_goals first
    | (exfalso; omega)
    | exact alike_same F h11 _
    | exact alike_st F _ (by omega) _
    | exact alike_inter F _ (by omega)
    | exact alike_inter2 F (by omega)
    | exact alike_text F h11 (by omega)
    | exact alike_digit F _ (by omega)
    | exact alike_next F _ (by omega)
    | exact alike_priv F _ (by omega)
    | exact alike_fin F _ (by omega) _
    | exact alike_end F _ _ (esc_act1 F (by omega) b)
    | exact alike_end F _ _ (esc_act2 F (by omega) b)
    | exact alike_end F _ _ (csi_act F (by omega) (by omega) f b)
    | exact alike_end F _ _ rfl
    | exact ⟨osc_act F (by omega) f, (alike_st (f := f) F 0 (by omega) []).2⟩
set_option maxHeartbeats 4000000 in
theorem sims7 {S : PS} (f b : UInt8) (F : Fresh S) (h11 : S.st = 11 → f = S.fin) (hs : S.st = 7) : Sims S f b := by
  have hT : (WithF S f).st = S.st := rfl
  have hi := (addInter_st S b).1
  have hd := (digit_st (begunP S) b).1
  have hg := (begun_st S).1
  have hn := (begin_st (begunP S)).1
  have e7 : (b = 7) ↔ b.toNat = 7 := u8n b 7 (by omega)
  have e127 : (b ≠ 127) ↔ b.toNat ≠ 127 := not_congr (u8n b 127 (by omega))
  unfold Sims
  simp only [inStateP, hs]
  rcases (show (b.toNat < 32) ∨ (32 ≤ b.toNat ∧ b.toNat < 48) ∨ (b.toNat = 58) ∨ (b.toNat = 59) ∨ (48 ≤ b.toNat ∧ b.toNat < 58) ∨ (60 ≤ b.toNat ∧ b.toNat < 64) ∨ (64 ≤ b.toNat ∧ b.toNat < 127) ∨ (b.toNat = 127) ∨ (128 ≤ b.toNat) by omega) with h | h | h | h | h | h | h | h | h
  all_goals simp (disch := omega) only [classP_r, rRestP, rTextP, rControlP, rGraphicP, rBeginsP, rSeqP, rEndsP, rBase, paramTail, interTail, inSeqP, enterP, putPar_digit, putPar_next, if_pos, if_neg, if_true, true_and, true_or, or_true, withF_inter, hi, hd, hg, hn, one_none]
  all_goals first
    | (exfalso; omega)
    | exact alike_same F h11 _
    | exact alike_st F _ (by omega) _
    | exact alike_inter F _ (by omega)
    | exact alike_inter2 F (by omega)
    | exact alike_text F h11 (by omega)
    | exact alike_digit F _ (by omega)
    | exact alike_next F _ (by omega)
    | exact alike_priv F _ (by omega)
    | exact alike_fin F _ (by omega) _
    | exact alike_end F _ _ (esc_act1 F (by omega) b)
    | exact alike_end F _ _ (esc_act2 F (by omega) b)
    | exact alike_end F _ _ (csi_act F (by omega) (by omega) f b)
    | exact alike_end F _ _ rfl
    | exact ⟨osc_act F (by omega) f, (alike_st (f := f) F 0 (by omega) []).2⟩
set_option maxHeartbeats 4000000 in
theorem sims8 {S : PS} (f b : UInt8) (F : Fresh S) (h11 : S.st = 11 → f = S.fin) (hs : S.st = 8) : Sims S f b := by
  have hT : (WithF S f).st = S.st := rfl
  have hi := (addInter_st S b).1
  have hd := (digit_st (begunP S) b).1
  have hg := (begun_st S).1
  have hn := (begin_st (begunP S)).1
  have e7 : (b = 7) ↔ b.toNat = 7 := u8n b 7 (by omega)
  have e127 : (b ≠ 127) ↔ b.toNat ≠ 127 := not_congr (u8n b 127 (by omega))
  unfold Sims
  simp only [inStateP, hs]
  rcases (show (b.toNat < 32) ∨ (32 ≤ b.toNat ∧ b.toNat < 48) ∨ (b.toNat = 58) ∨ (b.toNat = 59) ∨ (48 ≤ b.toNat ∧ b.toNat < 58) ∨ (60 ≤ b.toNat ∧ b.toNat < 64) ∨ (64 ≤ b.toNat ∧ b.toNat < 127) ∨ (b.toNat = 127) ∨ (128 ≤ b.toNat) by omega) with h | h | h | h | h | h | h | h | h
  all_goals simp (disch := omega) only [classP_r, rRestP, rTextP, rControlP, rGraphicP, rBeginsP, rSeqP, rEndsP, rBase, paramTail, interTail, inSeqP, enterP, putPar_digit, putPar_next, if_pos, if_neg, if_true, true_and, true_or, or_true, withF_inter, hi, hd, hg, hn, one_none]
  all_goals first
    | (exfalso; omega)
    | exact alike_same F h11 _
    | exact alike_st F _ (by omega) _
    | exact alike_inter F _ (by omega)
    | exact alike_inter2 F (by omega)
    | exact alike_text F h11 (by omega)
    | exact alike_digit F _ (by omega)
    | exact alike_next F _ (by omega)
    | exact alike_priv F _ (by omega)
    | exact alike_fin F _ (by omega) _
    | exact alike_end F _ _ (esc_act1 F (by omega) b)
    | exact alike_end F _ _ (esc_act2 F (by omega) b)
    | exact alike_end F _ _ (csi_act F (by omega) (by omega) f b)
    | exact alike_end F _ _ rfl
    | exact ⟨osc_act F (by omega) f, (alike_st (f := f) F 0 (by omega) []).2⟩
set_option maxHeartbeats 4000000 in
theorem sims9 {S : PS} (f b : UInt8) (F : Fresh S) (h11 : S.st = 11 → f = S.fin) (hs : S.st = 9) : Sims S f b := by
  have hT : (WithF S f).st = S.st := rfl
  have hi := (addInter_st S b).1
  have hd := (digit_st (begunP S) b).1
  have hg := (begun_st S).1
  have hn := (begin_st (begunP S)).1
  have e7 : (b = 7) ↔ b.toNat = 7 := u8n b 7 (by omega)
  have e127 : (b ≠ 127) ↔ b.toNat ≠ 127 := not_congr (u8n b 127 (by omega))
  unfold Sims
  simp only [inStateP, hs]
  rcases (show (b.toNat < 32) ∨ (32 ≤ b.toNat ∧ b.toNat < 48) ∨ (b.toNat = 58) ∨ (b.toNat = 59) ∨ (48 ≤ b.toNat ∧ b.toNat < 58) ∨ (60 ≤ b.toNat ∧ b.toNat < 64) ∨ (64 ≤ b.toNat ∧ b.toNat < 127) ∨ (b.toNat = 127) ∨ (128 ≤ b.toNat) by omega) with h | h | h | h | h | h | h | h | h
  all_goals simp (disch := omega) only [classP_r, rRestP, rTextP, rControlP, rGraphicP, rBeginsP, rSeqP, rEndsP, rBase, interTail, inSeqP, enterP, if_pos, if_neg, if_true, true_and, true_or, or_true, withF_inter, hi, one_none]
  all_goals first
    | (exfalso; omega)
    | exact alike_same F h11 _
    | exact alike_st F _ (by omega) _
    | exact alike_inter F _ (by omega)
    | exact alike_inter2 F (by omega)
    | exact alike_text F h11 (by omega)
    | exact alike_digit F _ (by omega)
    | exact alike_next F _ (by omega)
    | exact alike_priv F _ (by omega)
    | exact alike_fin F _ (by omega) _
    | exact alike_end F _ _ (esc_act1 F (by omega) b)
    | exact alike_end F _ _ (esc_act2 F (by omega) b)
    | exact alike_end F _ _ (csi_act F (by omega) (by omega) f b)
    | exact alike_end F _ _ rfl
    | exact ⟨osc_act F (by omega) f, (alike_st (f := f) F 0 (by omega) []).2⟩
set_option maxHeartbeats 4000000 in
theorem sims10 {S : PS} (f b : UInt8) (F : Fresh S) (h11 : S.st = 11 → f = S.fin) (hs : S.st = 10) : Sims S f b := by
  have hT : (WithF S f).st = S.st := rfl
  have hi := (addInter_st S b).1
  have hd := (digit_st (begunP S) b).1
  have hg := (begun_st S).1
  have hn := (begin_st (begunP S)).1
  have e7 : (b = 7) ↔ b.toNat = 7 := u8n b 7 (by omega)
  have e127 : (b ≠ 127) ↔ b.toNat ≠ 127 := not_congr (u8n b 127 (by omega))
  unfold Sims
  simp only [inStateP, hs]
  rcases (show (b.toNat < 32) ∨ (32 ≤ b.toNat ∧ b.toNat < 48) ∨ (b.toNat = 58) ∨ (b.toNat = 59) ∨ (48 ≤ b.toNat ∧ b.toNat < 58) ∨ (60 ≤ b.toNat ∧ b.toNat < 64) ∨ (64 ≤ b.toNat ∧ b.toNat < 127) ∨ (b.toNat = 127) ∨ (128 ≤ b.toNat) by omega) with h | h | h | h | h | h | h | h | h
  all_goals simp (disch := omega) only [classP_r, rRestP, rTextP, rControlP, rGraphicP, rBeginsP, rSeqP, rEndsP, rBase, inSeqP, if_pos, if_neg, true_and, withF_inter, one_none]
  all_goals first
    | (exfalso; omega)
    | exact alike_same F h11 _
    | exact alike_st F _ (by omega) _
    | exact alike_inter F _ (by omega)
    | exact alike_inter2 F (by omega)
    | exact alike_text F h11 (by omega)
    | exact alike_digit F _ (by omega)
    | exact alike_next F _ (by omega)
    | exact alike_priv F _ (by omega)
    | exact alike_fin F _ (by omega) _
    | exact alike_end F _ _ (esc_act1 F (by omega) b)
    | exact alike_end F _ _ (esc_act2 F (by omega) b)
    | exact alike_end F _ _ (csi_act F (by omega) (by omega) f b)
    | exact alike_end F _ _ rfl
    | exact ⟨osc_act F (by omega) f, (alike_st (f := f) F 0 (by omega) []).2⟩
set_option maxHeartbeats 4000000 in
theorem sims11 {S : PS} (f b : UInt8) (F : Fresh S) (h11 : S.st = 11 → f = S.fin) (hs : S.st = 11) : Sims S f b := by
  have hT : (WithF S f).st = S.st := rfl
  have hi := (addInter_st S b).1
  have hd := (digit_st (begunP S) b).1
  have hg := (begun_st S).1
  have hn := (begin_st (begunP S)).1
  have e7 : (b = 7) ↔ b.toNat = 7 := u8n b 7 (by omega)
  have e127 : (b ≠ 127) ↔ b.toNat ≠ 127 := not_congr (u8n b 127 (by omega))
  unfold Sims
  simp only [inStateP, hs]
  rcases (show (b.toNat < 32) ∨ (32 ≤ b.toNat ∧ b.toNat < 48) ∨ (b.toNat = 58) ∨ (b.toNat = 59) ∨ (48 ≤ b.toNat ∧ b.toNat < 58) ∨ (60 ≤ b.toNat ∧ b.toNat < 64) ∨ (64 ≤ b.toNat ∧ b.toNat < 127) ∨ (b.toNat = 127) ∨ (128 ≤ b.toNat) by omega) with h | h | h | h | h | h | h | h | h
  all_goals simp (disch := omega) only [rRestP, rTextP, rControlP, rGraphicP, rBeginsP, rSeqP, rEndsP, rBase, e127, if_pos, if_neg, withF_inter, one_none]
  all_goals first
    | (exfalso; omega)
    | exact alike_same F h11 _
    | exact alike_st F _ (by omega) _
    | exact alike_inter F _ (by omega)
    | exact alike_inter2 F (by omega)
    | exact alike_text F h11 (by omega)
    | exact alike_digit F _ (by omega)
    | exact alike_next F _ (by omega)
    | exact alike_priv F _ (by omega)
    | exact alike_fin F _ (by omega) _
    | exact alike_end F _ _ (esc_act1 F (by omega) b)
    | exact alike_end F _ _ (esc_act2 F (by omega) b)
    | exact alike_end F _ _ (csi_act F (by omega) (by omega) f b)
    | exact alike_end F _ _ rfl
    | exact ⟨osc_act F (by omega) f, (alike_st (f := f) F 0 (by omega) []).2⟩
set_option maxHeartbeats 4000000 in
theorem sims12 {S : PS} (f b : UInt8) (F : Fresh S) (h11 : S.st = 11 → f = S.fin) (hs : S.st = 12) : Sims S f b := by
  have hT : (WithF S f).st = S.st := rfl
  have hi := (addInter_st S b).1
  have hd := (digit_st (begunP S) b).1
  have hg := (begun_st S).1
  have hn := (begin_st (begunP S)).1
  have e7 : (b = 7) ↔ b.toNat = 7 := u8n b 7 (by omega)
  have e127 : (b ≠ 127) ↔ b.toNat ≠ 127 := not_congr (u8n b 127 (by omega))
  unfold Sims
  simp only [inStateP, hs]
  rcases (show (b.toNat = 7) ∨ (b.toNat < 32 ∧ b.toNat ≠ 7) ∨ (32 ≤ b.toNat ∧ b.toNat < 48) ∨ (b.toNat = 58) ∨ (b.toNat = 59) ∨ (48 ≤ b.toNat ∧ b.toNat < 58) ∨ (60 ≤ b.toNat ∧ b.toNat < 64) ∨ (64 ≤ b.toNat ∧ b.toNat < 127) ∨ (b.toNat = 127) ∨ (128 ≤ b.toNat) by omega) with h | h | h | h | h | h | h | h | h | h
  all_goals simp (disch := omega) only [classP_r, rRestP, rTextP, rControlP, rGraphicP, rBeginsP, rSeqP, rEndsP, rBase, inOscP, e7, if_pos, if_neg, if_true, withF_inter, one_none, one_act5]
  all_goals first
    | (exfalso; omega)
    | exact alike_same F h11 _
    | exact alike_st F _ (by omega) _
    | exact alike_inter F _ (by omega)
    | exact alike_inter2 F (by omega)
    | exact alike_text F h11 (by omega)
    | exact alike_digit F _ (by omega)
    | exact alike_next F _ (by omega)
    | exact alike_priv F _ (by omega)
    | exact alike_fin F _ (by omega) _
    | exact alike_end F _ _ (esc_act1 F (by omega) b)
    | exact alike_end F _ _ (esc_act2 F (by omega) b)
    | exact alike_end F _ _ (csi_act F (by omega) (by omega) f b)
    | exact alike_end F _ _ rfl
    | exact ⟨osc_act F (by omega) f, (alike_st (f := f) F 0 (by omega) []).2⟩
set_option maxHeartbeats 4000000 in
theorem sims13 {S : PS} (f b : UInt8) (F : Fresh S) (h11 : S.st = 11 → f = S.fin) (hs : S.st = 13) : Sims S f b := by
  have hT : (WithF S f).st = S.st := rfl
  have hi := (addInter_st S b).1
  have hd := (digit_st (begunP S) b).1
  have hg := (begun_st S).1
  have hn := (begin_st (begunP S)).1
  have e7 : (b = 7) ↔ b.toNat = 7 := u8n b 7 (by omega)
  have e127 : (b ≠ 127) ↔ b.toNat ≠ 127 := not_congr (u8n b 127 (by omega))
  unfold Sims
  simp only [inStateP, hs]
  rcases (show (b.toNat < 32) ∨ (32 ≤ b.toNat ∧ b.toNat < 48) ∨ (b.toNat = 58) ∨ (b.toNat = 59) ∨ (48 ≤ b.toNat ∧ b.toNat < 58) ∨ (60 ≤ b.toNat ∧ b.toNat < 64) ∨ (64 ≤ b.toNat ∧ b.toNat < 127) ∨ (b.toNat = 127) ∨ (128 ≤ b.toNat) by omega) with h | h | h | h | h | h | h | h | h
  all_goals simp (disch := omega) only [rRestP, rTextP, rControlP, rGraphicP, rBeginsP, rSeqP, rEndsP, rBase, if_pos, if_neg, withF_inter, one_none]
  all_goals first
    | (exfalso; omega)
    | exact alike_same F h11 _
    | exact alike_st F _ (by omega) _
    | exact alike_inter F _ (by omega)
    | exact alike_inter2 F (by omega)
    | exact alike_text F h11 (by omega)
    | exact alike_digit F _ (by omega)
    | exact alike_next F _ (by omega)
    | exact alike_priv F _ (by omega)
    | exact alike_fin F _ (by omega) _
    | exact alike_end F _ _ (esc_act1 F (by omega) b)
    | exact alike_end F _ _ (esc_act2 F (by omega) b)
    | exact alike_end F _ _ (csi_act F (by omega) (by omega) f b)
    | exact alike_end F _ _ rfl
    | exact ⟨osc_act F (by omega) f, (alike_st (f := f) F 0 (by omega) []).2⟩
theorem esc_tells {S : PS} {f : UInt8} (F : Fresh S) (h11 : S.st = 11 → f = S.fin) : oneA (endTextA S) = rEscA (WithF S f) := by
  unfold endTextA rEscA
  rw [withF_st]
  by_cases h1 : S.st = 12
  · rw [if_pos h1, if_pos h1]; exact osc_act F h1 f
  · rw [if_neg h1, if_neg h1]
    by_cases h2 : S.st = 11
    · rw [if_pos h2, if_pos h2]; exact dcs_act (h11 h2)
    · rw [if_neg h2, if_neg h2]; rfl
theorem rsim_step {S : PS} {f b : UInt8} (F : Fresh S) (h11 : S.st = 11 → f = S.fin) (hb : S.st = 0 → b.toNat < 128) : Alike ((stepP S b).1, oneA (stepP S b).2) (rStepP (WithF S f) b) := by
  have e24 : (b = 24) ↔ b.toNat = 24 := u8n b 24 (by omega)
  have e26 : (b = 26) ↔ b.toNat = 26 := u8n b 26 (by omega)
  have e27 : (b = 27) ↔ b.toNat = 27 := u8n b 27 (by omega)
  unfold stepP rStepP
  simp only [e24, e26, e27]
  by_cases h1 : b.toNat = 24 ∨ b.toNat = 26
  · rw [if_pos h1, if_pos h1]; exact alike_st F 0 (by omega) _
  · rw [if_neg h1, if_neg h1]
    by_cases h2 : b.toNat = 27
    · rw [if_pos h2, if_pos h2]; exact alike_esc F _ _ (esc_tells F h11)
    · rw [if_neg h2, if_neg h2]
      have h13 := F.st13
      rcases (show S.st = 0 ∨ S.st = 1 ∨ S.st = 2 ∨ S.st = 3 ∨ S.st = 4 ∨ S.st = 5 ∨ S.st = 6 ∨ S.st = 7 ∨ S.st = 8 ∨ S.st = 9 ∨ S.st = 10 ∨ S.st = 11 ∨ S.st = 12 ∨ S.st = 13 by omega) with h | h | h | h | h | h | h | h | h | h | h | h | h | h
      · exact sims0 f b F h11 h (hb h)
      · exact sims1 f b F h11 h
      · exact sims2 f b F h11 h
      · exact sims3 f b F h11 h
      · exact sims4 f b F h11 h
      · exact sims5 f b F h11 h
      · exact sims6 f b F h11 h
      · exact sims7 f b F h11 h
      · exact sims8 f b F h11 h
      · exact sims9 f b F h11 h
      · exact sims10 f b F h11 h
      · exact sims11 f b F h11 h
      · exact sims12 f b F h11 h
      · exact sims13 f b F h11 h

/-- bytes of 128 and more tell no rune below 128 -/
def High (l : List UInt8) : Prop := ∀ c ∈ l, 128 ≤ c.toNat
theorem High.drop {l : List UInt8} (h : High l) (k : Nat) : High (l.drop k) := fun c hc => h c (List.mem_of_mem_drop hc)
theorem decodeN_high (n b0 b1 b2 b3 : Nat) (h : 128 ≤ b0) : 128 ≤ (decodeN n b0 b1 b2 b3).1 := by
  unfold decodeN
  repeat' split
  all_goals simp only
  all_goals omega
theorem dec_high {l : List UInt8} (hne : l ≠ []) (h : High l) : 128 ≤ (dec l).1 := by
  cases l with
  | nil => exact absurd rfl hne
  | cons c l => exact decodeN_high _ _ _ _ _ (h c List.mem_cons_self)
theorem decAll_high (n : Nat) : ∀ l : List UInt8, l.length ≤ n → High l → ∀ r ∈ decAll l, 128 ≤ r := by
  induction n with
  | zero =>
    intro l hl _ r hr
    obtain rfl : l = [] := List.eq_nil_of_length_eq_zero (by omega)
    simp [decAll, decF] at hr
  | succ n ih =>
    intro l hl h r hr
    by_cases hne : l = []
    · subst hne; simp [decAll, decF] at hr
    · have hb := dec_bounds l hne
      rw [decAll_step l hne] at hr
      rcases List.mem_cons.1 hr with rfl | hr
      · have := dec_high hne h; omega
      · exact ih (l.drop (dec l).2) (by simp; omega) (h.drop _) r hr
theorem putAll_high (l : List UInt8) : High l → (∀ r ∈ (putAll l).1, 128 ≤ r) ∧ High (putAll l).2 :=
  putAll_induct (fun l x => High l → (∀ r ∈ x.1, 128 ≤ r) ∧ High x.2) (fun l _ h => ⟨fun r hr => by simp at hr, h⟩)
    (fun l x hf ih h => ⟨fun r hr => by
      rcases List.mem_cons.1 hr with rfl | hr
      · have := dec_high (fullP_ne hf) h; omega
      · exact (ih (h.drop _)).1 r hr, (ih (h.drop _)).2⟩) l.length l (Nat.le_refl _)
theorem prints_high {l : List Int} (h : ∀ r ∈ l, 128 ≤ r) : printsP l = rPrintsP l := by
  unfold printsP rPrintsP
  congr 1
  apply List.filter_congr
  intro r hr
  have := h r hr
  have h1 : decide (0 ≤ r ∧ r < 32) = false := by simp; omega
  have h2 : decide (127 ≤ r ∧ r ≤ 159) = (decide (128 ≤ r) && decide (r ≤ 159)) := by
    rw [Bool.eq_iff_iff]; simp; omega
  simp only [ctrlP, h1, h2, Bool.false_or]
theorem rsim_take {S : PS} {f b : UInt8} (F : Fresh S) (h11 : S.st = 11 → f = S.fin) : Alike (takeP S b) (rTakeP (WithF S f) b) := by
  have hb : (128 ≤ b) ↔ 128 ≤ b.toNat := by rw [UInt8.le_iff_toNat_le]; rfl
  unfold takeP rTakeP
  rw [withF_st]
  by_cases hs : S.st = 0
  · by_cases hh : 128 ≤ b.toNat
    · rw [if_pos ⟨hs, hb.2 hh⟩, if_pos ⟨hs, hh⟩]
      have hH : High (S.held ++ [b]) := fun c hc => by
        rcases List.mem_append.1 hc with hc | hc
        · exact F.high c hc
        · simp at hc; subst hc; exact hh
      obtain ⟨p1, p2⟩ := putAll_high _ hH
      refine ⟨prints_high p1, ⟨f, rfl, fun e => by simp only [hs] at e; omega⟩, ⟨F.st13, p2, fun e => by simp only [hs] at e; omega, fun e => by simp only [hs] at e; omega, fun h1 h2 => by simp only [hs] at h1; omega⟩⟩
    · rw [if_neg (fun x => hh (hb.1 x.2)), if_pos hs, if_neg (fun x => hh x.2), if_pos hs]
      have F' : Fresh { S with held := [] } := ⟨F.st13, fun c hc => (by cases hc), F.esc, F.inter, F.text⟩
      have h := rsim_step (S := { S with held := [] }) (f := f) (b := b) F' h11 (fun _ => by omega)
      have e : (WithF { S with held := [] } f) = { WithF S f with held := [] } := rfl
      rw [e] at h
      refine ⟨?_, h.2⟩
      have hp := prints_high (decAll_high S.held.length S.held (Nat.le_refl _) F.high)
      show printsP (decAll S.held) ++ _ = rPrintsP (decAll (WithF S f).held) ++ _
      rw [hp, show (WithF S f).held = S.held from rfl]
      exact congrArg _ h.1
  · rw [if_neg (fun x => hs x.1), if_neg hs, if_neg (fun x => hs x.1), if_neg hs]
    exact rsim_step F h11 (fun e => absurd e hs)
theorem rsim_put (l : List UInt8) : ∀ {S : PS} {f : UInt8}, Fresh S → (S.st = 11 → f = S.fin) → Alike (putPS S l) (rPutP (WithF S f) l) := by
  induction l with
  | nil => intro S f F h; exact alike_same F h []
  | cons b l ih =>
    intro S f F h
    have ht := rsim_take (b := b) F h
    obtain ⟨h1, ⟨g, h2, h3⟩, h4⟩ := ht
    have hr := ih (f := g) h4 h3
    rw [← h2] at hr
    refine ⟨?_, hr.2⟩
    show (takeP S b).2 ++ _ = (rTakeP (WithF S f) b).2 ++ _
    rw [h1, hr.1]
theorem fresh0 : Fresh ps0 := ⟨Nat.zero_le _, fun c hc => (by cases hc), fun h => ⟨rfl, rfl, rfl⟩, fun _ => rfl, fun _ _ => rfl⟩
theorem ref_all (l : List UInt8) (h : (putPS ps0 l).1.st ≠ 0 → (putPS ps0 l).1.held = []) : rAllP l = allP l := by
  obtain ⟨h1, ⟨f, h2, _⟩, F⟩ := rsim_put l (S := ps0) (f := 0) fresh0 (fun _ => rfl)
  rw [show WithF ps0 0 = ps0 from rfl] at h1 h2
  unfold rAllP allP
  rw [← h1, h2, withF_st]
  congr 1
  by_cases hs : (putPS ps0 l).1.st = 0
  · rw [if_pos hs]
    exact (prints_high (decAll_high _ _ (Nat.le_refl _) F.high)).symm
  · rw [if_neg hs, h hs]
    rfl
theorem ref_ground {S T : PS} {f : UInt8} (h : T = WithF S f) : groundP T = groundP S := by subst h; rfl
end Go.Proofs.YtjoiagaadofndaaDoor
