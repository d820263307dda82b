/-
  What utf8.FullRune returns for every slice of bytes.
-/
import Derived.Test.YtjoiagaadofndaaDoorMem
import Derived.Deep.QuietTactic
import Derived.BigQuiet
namespace Go.Proofs.YtjoiagaadofndaaDoor
open Go.RowKit Go.Lib

/-- whether a list of bytes begins with a whole form of a rune, or with none -/
def fullN (n b0 b1 b2 : Nat) : Bool :=
  decide (firstT b0 % 8 ≤ n) || (decide (1 < n) && (decide (b1 < accLo (firstT b0 / 16)) || decide (accHi (firstT b0 / 16) < b1))) || (decide (2 < n) && (decide (b2 < 128) || decide (191 < b2)))
def fullP (s : List UInt8) : Bool := decide (0 < s.length) && fullN s.length (byteAt s 0) (byteAt s 1) (byteAt s 2)

theorem full_empty (A : Option Addr) (c : Nat) (w : World) :
    Calls Tryd.prog 65 #[.slice A 0 c] w fun e w' => e = .returned (.bool false) ∧ Below w.heap.size w w' := by
  go_enter Tryd.func65, Tryd.ntmps65
  go_wp2
  go_ret
  exact ⟨rfl, Below.refl _ _⟩

/-- a first byte that is a whole form, or that begins none -/
theorem full_one (n b off c b0 : Nat) (w : World) (hn : 1 ≤ n) (hs0 : w.cell? ⟨b, off, none⟩ = some (.int .u8 b0)) (hl : b0 < 256) (hT : Tabs w) (hX : firstT b0 = 240 ∨ firstT b0 = 241) :
    Calls Tryd.prog 65 #[.slice (some ⟨b, off, none⟩) n c] w fun e w' => e = .returned (.bool true) ∧ Below w.heap.size w w' := by
  have hc0 := hT.u.1 b0 hl
  clear hT
  have hn0 : ((n : Int) == 0) = false := by simp; omega
  rcases hX with hX | hX
  all_goals
    rw [hX] at hc0
    clear hX
    go_enter Tryd.func65, Tryd.ntmps65
    go_wp2
    go_ret
    exact ⟨rfl, Below.refl _ _⟩

theorem below_alloc_drew (w : World) (o : Obj) (n : Nat) : Below w.heap.size w ((w.alloc o).drewN n) :=
  have h := (Below.refl w.heap.size w).alloc (Nat.le_refl _) o
  ⟨h.os, h.tape, h.output, h.size, h.block⟩

set_option maxHeartbeats 2000000 in
/-- a first byte that begins forms of two bytes or more -/
theorem full_two (n b off c b0 b1 b2 x lo hi : Nat) (w : World) (hs0 : w.cell? ⟨b, off, none⟩ = some (.int .u8 b0)) (hs1 : 2 ≤ n → w.cell? ⟨b, off + 1, none⟩ = some (.int .u8 b1)) (hs2 : 3 ≤ n → w.cell? ⟨b, off + 2, none⟩ = some (.int .u8 b2))
    (hb : b < w.heap.size) (hl : b0 < 256) (hn : 1 ≤ n) (hc0 : w.cell? ⟨0, b0, none⟩ = some (.int .u8 x))
    (hx : x = 2 ∨ x = 19 ∨ x = 3 ∨ x = 35 ∨ x = 52 ∨ x = 4 ∨ x = 68)
    (h2 : w.cell? ⟨1, x / 16 * 2, none⟩ = some (.int .u8 lo)) (h3 : w.cell? ⟨1, x / 16 * 2 + 1, none⟩ = some (.int .u8 hi)) (_hg : 1 < w.heap.size) :
    Calls Tryd.prog 65 #[.slice (some ⟨b, off, none⟩) n c] w fun e w' =>
      e = .returned (.bool (decide (x % 8 ≤ n) || (decide (1 < n) && (decide (b1 < lo) || decide (hi < b1))) || (decide (2 < n) && (decide (b2 < 128) || decide (191 < b2))))) ∧ Below w.heap.size w w' := by
  have hn0 : ((n : Int) == 0) = false := by simp; omega
  rcases hx with rfl | rfl | rfl | rfl | rfl | rfl | rfl
  all_goals simp only [Nat.reduceDiv, Nat.reduceMul, Nat.reduceAdd, Nat.reduceMod] at h2 h3 ⊢
  all_goals
    by_cases m4 : 4 ≤ n
    · go_enter Tryd.func65, Tryd.ntmps65
      go_wp2
      go_ret
      exact ⟨ret_bool (by simp; omega), Below.refl _ _⟩
    · by_cases m2 : 2 ≤ n
      · have e1 := hs1 m2
        clear hs1
        by_cases m3 : 3 ≤ n
        · obtain rfl : n = 3 := by omega
          have e2 := hs2 m3
          clear hs2 hn0 m2 m3 m4
          by_cases g1 : b1 < lo
          · have d1 : decide (b1 < lo) = true := by simpa using g1
            go_enter Tryd.func65, Tryd.ntmps65
            go_wp2
            first
              | (go_ret; exact ⟨ret_bool (by simp), Below.refl _ _⟩)
              | (go_quiet (fail); go_wp2; go_ret; exact ⟨ret_bool (by simp; omega), below_alloc_drew _ _ _⟩)
          · have d1 : decide (b1 < lo) = false := by simpa using g1
            by_cases g2 : hi < b1
            · have d2 : decide (hi < b1) = true := by simpa using g2
              go_enter Tryd.func65, Tryd.ntmps65
              go_wp2
              first
                | (go_ret; exact ⟨ret_bool (by simp), Below.refl _ _⟩)
                | (go_quiet (fail); go_wp2; go_ret; exact ⟨ret_bool (by simp; omega), below_alloc_drew _ _ _⟩)
            · have d2 : decide (hi < b1) = false := by simpa using g2
              go_enter Tryd.func65, Tryd.ntmps65
              go_wp2
              first
                | (go_ret; exact ⟨ret_bool (by simp), Below.refl _ _⟩)
                | (go_quiet (fail); go_wp2; all_goals (go_ret; exact ⟨ret_bool (by simp; omega), below_alloc_drew _ _ _⟩))
        · obtain rfl : n = 2 := by omega
          clear hs2 hn0 m2 m3 m4
          by_cases g1 : b1 < lo
          · have d1 : decide (b1 < lo) = true := by simpa using g1
            go_enter Tryd.func65, Tryd.ntmps65
            go_wp2
            first
              | (go_ret; exact ⟨ret_bool (by simp), Below.refl _ _⟩)
              | (go_quiet (fail); go_wp2; go_ret; exact ⟨ret_bool (by simp; omega), below_alloc_drew _ _ _⟩)
          · have d1 : decide (b1 < lo) = false := by simpa using g1
            by_cases g2 : hi < b1
            · have d2 : decide (hi < b1) = true := by simpa using g2
              go_enter Tryd.func65, Tryd.ntmps65
              go_wp2
              first
                | (go_ret; exact ⟨ret_bool (by simp), Below.refl _ _⟩)
                | (go_quiet (fail); go_wp2; go_ret; exact ⟨ret_bool (by simp; omega), below_alloc_drew _ _ _⟩)
            · have d2 : decide (hi < b1) = false := by simpa using g2
              go_enter Tryd.func65, Tryd.ntmps65
              go_wp2
              first
                | (go_ret; exact ⟨ret_bool (by simp), Below.refl _ _⟩)
                | (go_quiet (fail); go_wp2; go_ret; exact ⟨ret_bool (by simp; omega), below_alloc_drew _ _ _⟩)
      · obtain rfl : n = 1 := by omega
        clear hs1 hs2 hn0 m2 m4
        go_enter Tryd.func65, Tryd.ntmps65
        go_wp2
        go_quiet (fail)
        go_wp2
        go_ret
        exact ⟨ret_bool (by simp), below_alloc_drew _ _ _⟩

end Go.Proofs.YtjoiagaadofndaaDoor
