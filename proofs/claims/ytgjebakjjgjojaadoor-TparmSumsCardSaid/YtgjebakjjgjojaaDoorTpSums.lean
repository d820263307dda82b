/-
  Sums, differences, products, quotients, remainders: what the law on them walks.
-/
import Derived.Test.YtgjebakjjgjojaaDoorTpBin
namespace Go.Proofs.YtgjebakjjgjojaaDoor
open Go.RowKit Go.Shelf Go.Lib
attribute [local go_sem] Oper.semAt_some

abbrev sumS (c : UInt8) : List UInt8 := [37, 112, 49, 37, 112, 50, 37, c, 37, 100]
def sumL (c : UInt8) : List ItemD := [⟨0, 112, 1, [], fmtZ⟩, ⟨3, 112, 2, [], fmtZ⟩, ⟨6, c, 0, [], fmtZ⟩, ⟨8, 100, 0, [], fmtD⟩]
theorem sum_parse43 : parseP (sumS 43) = .ok (sumL 43) := by kernel_rfl
theorem sum_parse45 : parseP (sumS 45) = .ok (sumL 45) := by kernel_rfl
theorem sum_parse42 : parseP (sumS 42) = .ok (sumL 42) := by kernel_rfl
theorem sum_parse47 : parseP (sumS 47) = .ok (sumL 47) := by kernel_rfl
theorem sum_parse109 : parseP (sumS 109) = .ok (sumL 109) := by kernel_rfl
def isOp (c : UInt8) : Prop := c = 43 ∨ c = 45 ∨ c = 42 ∨ c = 47 ∨ c = 109
theorem isOp.bin {c : UInt8} (h : isOp c) : isBin c := by
  rcases h with h | h | h | h | h
  · exact .inl h
  · exact .inr (.inl h)
  · exact .inr (.inr (.inl h))
  · exact .inr (.inr (.inr (.inl h)))
  · exact .inr (.inr (.inr (.inr (.inl h))))
theorem sum_parse {c : UInt8} (h : isOp c) : parseP (sumS c) = .ok (sumL c) := by
  rcases h with rfl | rfl | rfl | rfl | rfl
  · exact sum_parse43
  · exact sum_parse45
  · exact sum_parse42
  · exact sum_parse47
  · exact sum_parse109
theorem sum_does {c : UInt8} (h : isOp c) : Does (sumL c) (fun i m => (i, m)) ddE := by
  have hb : isBranch c = false := by rcases h with rfl | rfl | rfl | rfl | rfl <;> decide
  refine ⟨fun it hit h0 _ => ?_, fun i it hi hbr => ?_⟩
  · simp [sumL] at hit
    rcases hit with rfl | rfl | rfl | rfl
    · exact does_p rfl 1 rfl (by omega) (by omega)
    · exact does_p rfl 2 rfl (by omega) (by omega)
    · exact does_bin h.bin
    · exact does_d rfl fmtD_ok
  · exfalso
    have hit := List.mem_of_getElem? hi
    simp [sumL] at hit
    rcases hit with rfl | rfl | rfl | rfl
    · simp [isBranch] at hbr
    · simp [isBranch] at hbr
    · rw [hb] at hbr; cases hbr
    · simp [isBranch] at hbr
theorem sum_texts (c : UInt8) : ∀ it ∈ sumL c, it.text.length ≤ 4096 ∧ it.pos ≤ 4096 := by
  intro it hit
  simp [sumL] at hit
  rcases hit with rfl | rfl | rfl | rfl <;> simp
theorem sum_runs {c : UInt8} (h : isOp c) (a b : Int) (hl : (itoa (binP c a b)).length ≤ 21) (br : Nat → MD → Nat × MD) : runFrom br ddE (sumL c) 6 0 ⟨[⟨a, [], false⟩, ⟨b, [], false⟩], [], [], 0, fun _ => prm0⟩ = (itoa (binP c a b), 0, 0) := by
  have hl2 : ¬ 16384 < (itoa (binP c a b)).length := by omega
  rcases h with rfl | rfl | rfl | rfl | rfl
  all_goals simp [runFrom, sumL, ddE, isBranch, pushE', pushM, paramP, writeE, popM, topP, apply_plain, hl2]
/-- what a sum's capability comes to -/
theorem run_sum {w w1 w2 : World} {cb : Nat} {v : Value} {c : UInt8} (hc : isOp c) (a b : Int) (ha : -2147483648 ≤ a ∧ a ≤ 2147483647) (hb : -2147483648 ≤ b ∧ b ≤ 2147483647) (h1 : CapAt w1 w.heap.size cb v (sumS c) ∧ Below w.heap.size w w1) (h2 : VarsAt w2 (w1.heap.size + 1) w1.heap.size (fun _ => prm0) ∧ Below w1.heap.size w1 w2) (hp : Pow w) :
    Calls Tryd.prog 8 #[.pointer (some ⟨cb, 0, none⟩), .pointer (some ⟨w1.heap.size + 1, 0, none⟩), .slice (some ⟨w2.heap.size, 0, none⟩) 2 2] (w2.alloc (.cells #[.int .i32 a, .string ⟨#[]⟩, .bool false, .int .i32 b, .string ⟨#[]⟩, .bool false] 32)) fun e w' => e = .returned (.tuple #[str (itoa (binP c a b)), .int .i64 0, .int .i64 0]) ∧ Below w.heap.size w w' := by
  have hbin := bin_ok hc.bin ha hb
  have hl := itoa_length_le (binP c a b) (by omega) (by omega)
  have := run_new (ps := [⟨a, [], false⟩, ⟨b, [], false⟩]) (o := .cells #[.int .i32 a, .string ⟨#[]⟩, .bool false, .int .i32 b, .string ⟨#[]⟩, .bool false] 32) (ty := 32) h1.1 h1.2 h2.2 h2.1 h1.2.size (by simp) (sum_parse hc) rfl (by simp) (by simp) rfl (fun p hp => by simp at hp; rcases hp with rfl | rfl; exact ha; exact hb) hp (sum_does hc) (sum_texts c)
  rw [show (sumL c).length + 2 = 6 from rfl, sum_runs hc a b hl] at this
  exact this
end Go.Proofs.YtgjebakjjgjojaaDoor
