/-
  The law on numbers: what it walks.
-/
import Derived.Test.YtapihomdfdhnnaaDoorTpHexDo
namespace Go.Proofs.YtapihomdfdhnnaaDoor
open Go.RowKit Go.Shelf Go.Lib
attribute [local go_sem] Oper.semAt_some

theorem num_does (w : Nat) (hw : w < 256) : Does (numL w) (fun i m => (i, m)) ddE := by
  refine ⟨fun it hit h0 _ => ?_, fun i it hi hbr => ?_⟩
  · simp [numL] at hit
    rcases hit with rfl | rfl | rfl | rfl | rfl | rfl | rfl | rfl
    · exact does_p rfl 1 rfl (by omega) (by omega)
    · exact does_d rfl fmtD_ok
    · exact absurd rfl h0
    · exact does_p rfl 1 rfl (by omega) (by omega)
    · exact does_x rfl fmtD_ok rfl
    · exact absurd rfl h0
    · exact does_p rfl 1 rfl (by omega) (by omega)
    · refine does_d rfl ?_
      show FOk (if w = 0 then { fmtD with zero := true } else fmtWd w)
      split
      · exact ⟨by decide, by decide, by decide⟩
      · exact ⟨by show w ≤ 1000; omega, by show (-1 : Int) ≤ -1; omega, by show (-1 : Int) ≤ 1000; omega⟩
  · exfalso
    have hit := List.mem_of_getElem? hi
    simp [numL] at hit
    rcases hit with rfl | rfl | rfl | rfl | rfl | rfl | rfl | rfl <;> simp [isBranch] at hbr
theorem num_texts (w : Nat) : ∀ it ∈ numL w, it.text.length ≤ 4096 ∧ it.pos ≤ 4096 := by
  intro it hit
  simp [numL] at hit
  rcases hit with rfl | rfl | rfl | rfl | rfl | rfl | rfl | rfl <;> simp
theorem apply_zero (n : Int) (t : List UInt8) (b : Bool) : applyP { fmtD with zero := true } 100 ⟨n, t, b⟩ = itoa n := by
  have h0 := apply_plain n t b
  have hd : digitsP { fmtD with zero := true } 100 n = digitsP fmtD 100 n := rfl
  have hh : headP { fmtD with zero := true } 100 n (digitsP fmtD 100 n) = headP fmtD 100 n (digitsP fmtD 100 n) := by
    unfold headP
    rw [if_pos (by simp), if_neg (by simp)]
    have hq : prefixP { fmtD with zero := true } 100 n (digitsP fmtD 100 n) = prefixP fmtD 100 n (digitsP fmtD 100 n) := rfl
    rw [hq]
    have : ((((0 : Nat) : Int) - (prefixP fmtD 100 n (digitsP fmtD 100 n)).length - (digitsP fmtD 100 n).length)).toNat = 0 := by omega
    show _ ++ List.replicate _ _ = _
    rw [this]
    simp
  unfold applyP at h0 ⊢
  rw [if_neg (by decide)] at h0 ⊢
  simp only [hd, hh] at h0 ⊢
  exact h0
theorem apply_last (w : Nat) (n : Int) (t : List UInt8) (b : Bool) : applyP (if w = 0 then { fmtD with zero := true } else fmtWd w) 100 ⟨n, t, b⟩ = fillP 32 ((w : Int) - (itoa n).length) ++ itoa n := by
  by_cases h : w = 0
  · subst h
    rw [if_pos rfl, apply_zero]
    have : ((((0 : Nat) : Int)) - ((itoa n).length : Int)).toNat = 0 := by omega
    simp [fillP]
  · rw [if_neg h, apply_pad]
/-- what the law wants -/
def numX (w : Nat) (n : Int) : List UInt8 := itoa n ++ [44] ++ uintP 16 (bits32 n) ++ [44] ++ (fillP 32 ((w : Int) - (itoa n).length) ++ itoa n)
theorem writeE_ok {m : MD} {x : List UInt8} (h : m.out.length + x.length ≤ 16384) : writeE m x = (0, { m with out := m.out ++ x }) := by unfold writeE; rw [if_neg (by omega)]
def numLf (f : FmtD) : List ItemD := [⟨0, 112, 1, [], fmtZ⟩, ⟨3, 100, 0, [], fmtD⟩, ⟨5, 0, 0, [44], fmtZ⟩, ⟨6, 112, 1, [], fmtZ⟩, ⟨9, 120, 0, [], fmtD⟩, ⟨11, 0, 0, [44], fmtZ⟩, ⟨12, 112, 1, [], fmtZ⟩, ⟨15, 100, 0, [], f⟩]
theorem step_text {br : Nat → MD → Nat × MD} {dd : ItemD → MD → Int × MD} {l : List ItemD} {n i : Nat} {m : MD} {it : ItemD} (hi : l[i]? = some it) (hv : it.verb = 0) (hl : m.out.length + it.text.length ≤ 16384) : runFrom br dd l (n + 1) i m = runFrom br dd l n (i + 1) { m with out := m.out ++ it.text } := by
  rw [runFrom, hi]
  dsimp only
  rw [if_pos hv, if_neg (by omega)]
theorem step_do {br : Nat → MD → Nat × MD} {dd : ItemD → MD → Int × MD} {l : List ItemD} {n i : Nat} {m m' : MD} {it : ItemD} (hi : l[i]? = some it) (hv : it.verb ≠ 0) (hb : isBranch it.verb = false) (hd : dd it m = (0, m')) : runFrom br dd l (n + 1) i m = runFrom br dd l n (i + 1) m' := by
  rw [runFrom, hi]
  dsimp only
  rw [if_neg hv, if_neg (by rw [hb]; decide), hd, if_neg (by simp)]
theorem num_runs_f (f : FmtD) (n : Int) (d h x : List UInt8) (e1 : itoa n = d) (e2 : uintP 16 (bits32 n) = h) (e3 : applyP f 100 ⟨n, [], false⟩ = x) (hd : d.length ≤ 21) (hh : h.length ≤ 8) (hx : x.length ≤ 300) (br : Nat → MD → Nat × MD) : runFrom br ddE (numLf f) 10 0 ⟨[⟨n, [], false⟩], [], [], 0, fun _ => prm0⟩ = (d ++ [44] ++ h ++ [44] ++ x, 0, 0) := by
  have a1 : applyP fmtD 100 ⟨n, [], false⟩ = d := (apply_plain n _ _).trans e1
  have a2 : applyP fmtD 120 ⟨n, [], false⟩ = h := (apply_hex n _ _).trans e2
  have push : ∀ (q : Nat) (o : List UInt8), ddE ⟨q, 112, 1, [], fmtZ⟩ ⟨[⟨n, [], false⟩], [], o, 0, fun _ => prm0⟩ = (0, ⟨[⟨n, [], false⟩], [⟨n, [], false⟩], o, 0, fun _ => prm0⟩) := fun q o => rfl
  have wr : ∀ (q : Nat) (v : UInt8) (g : FmtD) (o y : List UInt8), v = 100 ∨ v = 120 → applyP g v ⟨n, [], false⟩ = y → o.length + y.length ≤ 16384 → ddE ⟨q, v, 0, [], g⟩ ⟨[⟨n, [], false⟩], [⟨n, [], false⟩], o, 0, fun _ => prm0⟩ = (0, ⟨[⟨n, [], false⟩], [], o ++ y, 0, fun _ => prm0⟩) := fun q v g o y hv hy hl => by
    have e : ddE ⟨q, v, 0, [], g⟩ ⟨[⟨n, [], false⟩], [⟨n, [], false⟩], o, 0, fun _ => prm0⟩ = writeE ⟨[⟨n, [], false⟩], [], o, 0, fun _ => prm0⟩ (applyP g v ⟨n, [], false⟩) := by rcases hv with rfl | rfl <;> rfl
    rw [e, hy, writeE_ok hl]
  rw [step_do (m' := ⟨[⟨n, [], false⟩], [⟨n, [], false⟩], [], 0, fun _ => prm0⟩) rfl (by decide) rfl (push _ _),
    step_do (m' := ⟨[⟨n, [], false⟩], [], [] ++ d, 0, fun _ => prm0⟩) rfl (by decide) rfl (wr _ _ _ _ _ (.inl rfl) a1 (by simp; omega)),
    step_text (it := ⟨5, 0, 0, [44], fmtZ⟩) rfl rfl (by simp; omega),
    step_do (m' := ⟨[⟨n, [], false⟩], [⟨n, [], false⟩], [] ++ d ++ [44], 0, fun _ => prm0⟩) rfl (by decide) rfl (push _ _),
    step_do (m' := ⟨[⟨n, [], false⟩], [], [] ++ d ++ [44] ++ h, 0, fun _ => prm0⟩) rfl (by decide) rfl (wr _ _ _ _ _ (.inr rfl) a2 (by simp; omega)),
    step_text (it := ⟨11, 0, 0, [44], fmtZ⟩) rfl rfl (by simp; omega),
    step_do (m' := ⟨[⟨n, [], false⟩], [⟨n, [], false⟩], [] ++ d ++ [44] ++ h ++ [44], 0, fun _ => prm0⟩) rfl (by decide) rfl (push _ _),
    step_do (m' := ⟨[⟨n, [], false⟩], [], [] ++ d ++ [44] ++ h ++ [44] ++ x, 0, fun _ => prm0⟩) rfl (show (100 : UInt8) ≠ 0 by decide) rfl (wr _ _ _ _ _ (.inl rfl) e3 (by simp; omega))]
  rfl
theorem num_runs (w : Nat) (hw : w < 256) (n : Int) (hl : (itoa n).length ≤ 21) (br : Nat → MD → Nat × MD) : runFrom br ddE (numL w) 10 0 ⟨[⟨n, [], false⟩], [], [], 0, fun _ => prm0⟩ = (numX w n, 0, 0) :=
  num_runs_f (if w = 0 then { fmtD with zero := true } else fmtWd w) n _ _ _ rfl rfl (apply_last w n [] false) hl (uint16_len (bits32_lt n)) (by simp [fillP]; omega) br
/-- what the law's capability comes to -/
theorem run_num {w w1 w2 : World} {cb : Nat} {v : Value} (wd : Nat) (hw : wd < 256) (n : Int) (hn : -2147483648 ≤ n ∧ n ≤ 2147483647) (h1 : CapAt w1 w.heap.size cb v (numS wd) ∧ Below w.heap.size w w1) (h2 : VarsAt w2 (w1.heap.size + 1) w1.heap.size (fun _ => prm0) ∧ Below w1.heap.size w1 w2) (hp : Pow w) :
    Calls Tryd.prog 7 #[.pointer (some ⟨cb, 0, none⟩), .pointer (some ⟨w1.heap.size + 1, 0, none⟩), .slice (some ⟨w2.heap.size, 0, none⟩) 1 1] (w2.alloc (.cells #[.int .i32 n, .string ⟨#[]⟩, .bool false] 32)) fun e w' => e = .returned (.tuple #[str (numX wd n), .int .i64 0, .int .i64 0]) ∧ Below w.heap.size w w' := by
  have hl := itoa_length_le n (by omega) (by omega)
  have hlen : (numS wd).length ≤ 4096 := by
    unfold numS wDigits numHead
    split
    · simp
    · split <;> simp
  have := run_new (ps := [⟨n, [], false⟩]) (o := .cells #[.int .i32 n, .string ⟨#[]⟩, .bool false] 32) (ty := 32) h1.1 h1.2 h2.2 h2.1 h1.2.size hlen (num_parse wd hw) rfl (by simp) (by simp) rfl (fun p hp => by simp at hp; subst hp; exact hn) hp (num_does wd hw) (num_texts wd)
  rw [show (numL wd).length + 2 = 10 from rfl, num_runs wd hw n hl] at this
  exact this
end Go.Proofs.YtapihomdfdhnnaaDoor
