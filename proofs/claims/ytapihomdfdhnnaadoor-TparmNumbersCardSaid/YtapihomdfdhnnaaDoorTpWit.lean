/-
  A world that holds the tables that the rows list, for the witnesses of the rows; and what the rows' list gives the walks.
-/
import Derived.Test.YtapihomdfdhnnaaDoorRows
import Derived.Test.YtapihomdfdhnnaaDoorCards
import Derived.Test.YtapihomdfdhnnaaDoorTie
import Derived.Test.YtapihomdfdhnnaaDoorTpLayW
import Derived.Test.YtapihomdfdhnnaaDoorTpForm
import Derived.ProofKit
import Derived.OpenShut
import Derived.ShutString
import Derived.ChangeOld
import Derived.LaidMore
import Derived.LaidOnce
import Derived.Deep.DeepHandedRow
import Derived.Deep.DeepWitnessRowRef
import Derived.Lib.LaidU8
import Derived.Lib.LaidCaseMet
import Derived.Lib.TrailingZeros
import Derived.MakeChecks
namespace Go.Proofs.YtapihomdfdhnnaaDoor
open Go.ChangeShapes Go.WideShapes Go.ChangeAt Go.RowKit Go.Shelf Go.Lib

theorem own : ownKnob Tryd.prog.godebug = none := by kernel_rfl
theorem laidOut : laidOutB Tryd.prog = true := by kernel_rfl
/-- what the rows list, the pinned table of letters last -/
def laidA : List (String × DataW Unit) := [("math/bits.deBruijn32tab", tabData .u8 (deBruijn32tab.map fun (n : Nat) => (n : Int))), ("math/bits.deBruijn64tab", tabData .u8 (deBruijn64tab.map fun (n : Nat) => (n : Int))), ("internal/strconv.uint64pow10", tabData .u64 pow10Tab), ("unicode/utf8.acceptRanges", acceptData)]
def laidB : (String × DataW Unit) := ("unicode/utf8.first", firstData)
def laidL : List (String × DataW Unit) := laidA ++ [("unicode.CaseRanges", caseData)] ++ [laidB]
theorem vars_swap {P : Program} {w : World} {a b : String × DataW Unit} : ∀ {l : List (String × DataW Unit)} {ps : List MemPlace}, DataW.LaidVars P w (l ++ [a] ++ [b]) ps → ∃ qs, DataW.LaidVars P w (l ++ [b] ++ [a]) qs ∧ ps.Perm qs
  | [], ps, h => by
    obtain ⟨n1, d1⟩ := a
    obtain ⟨n2, d2⟩ := b
    obtain ⟨g, t, cs, fuel, p, q, h1, h2, h3, h4, ⟨g', t', cs', fuel', p', q', k1, k2, k3, k4, k5, rfl⟩, rfl⟩ := h
    subst k5
    refine ⟨_, ⟨g', t', cs', fuel', p', _, k1, k2, k3, k4, ⟨g, t, cs, fuel, p, [], h1, h2, h3, h4, rfl, rfl⟩, rfl⟩, ?_⟩
    simp only [List.append_nil]
    exact List.perm_append_comm
  | (n, d) :: r, ps, h => by
    obtain ⟨g, t, cs, fuel, p, q, h1, h2, h3, h4, h5, rfl⟩ := h
    obtain ⟨qs, hq, hp⟩ := vars_swap (l := r) h5
    exact ⟨_, ⟨g, t, cs, fuel, p, qs, h1, h2, h3, h4, hq, rfl⟩, List.Perm.append_left _ hp⟩
theorem laid_swap {P : Program} {w : World} {l : List (String × DataW Unit)} {a b : String × DataW Unit} (h : laidMet P (l ++ [a] ++ [b]) w) : laidMet P (l ++ [b] ++ [a]) w := by
  obtain ⟨ps, h1, h2, h3⟩ := h
  obtain ⟨qs, hq, hp⟩ := vars_swap h1
  exact ⟨qs, hq, hp.nodup_iff.1 h2, fun b off hm => h3 b off (hp.mem_iff.2 hm)⟩
def caseRen : Go.Shelf.Ren := ⟨Tryd.layCase_ren.f, Tryd.layCase_ren.t, fun | 13 => 4 | n => n⟩
theorem caseLays : Lays.n274 Tryd.prog caseRen := { Tryd.layCase with }
/-- the settled world with one block more, the tables holding what their initialisers lay -/
noncomputable def laidWorld (os : Os) : World :=
  let N := (World.settled Tryd.prog os).heap.size
  let w0 := World.holding Tryd.prog os ⟨#[.cells caseCells5 (caseRen.t 208)], #[], []⟩
  let put (h : Array Obj) (g : Nat) (cs : Array Value) : Array Obj := h.modify g fun
    | .cells _ t frozen => .cells cs t frozen
    | o => o
  let h1 := put w0.heap 2 (deBruijn32tab.map fun (n : Nat) => Value.int .u8 (n : Int)).toArray
  let h2 := put h1 3 (deBruijn64tab.map fun (n : Nat) => Value.int .u8 (n : Int)).toArray
  let h3 := put h2 0 (pow10Tab.map fun z => Value.int .u64 z).toArray
  let h4 := put h3 6 ((List.range 16).flatMap fun i => [Value.int .u8 (accLo i), Value.int .u8 (accHi i)]).toArray
  let h5 := put h4 5 (firstTab.map fun z => Value.int .u8 z).toArray
  let h6 := put h5 4 #[.slice (some ⟨N, 0, none⟩) 336 336]
  { w0 with heap := h6 }
set_option maxRecDepth 1000000 in
theorem laid_met (os : Os) (args : Array Value) : laidMet Tryd.prog laidL ((laidWorld os).forCall (fun _ _ => 0) ⟨#[], args, []⟩).memory :=
  laid_swap (laidMet_with_case (ρ := caseRen) caseLays (by kernel_rfl) ⟨by kernel_rfl, by kernel_rfl, by kernel_rfl, by kernel_rfl, by kernel_rfl, by kernel_rfl⟩
    (l := laidA ++ [laidB]) 10 (by kernel_rfl) (by kernel_rfl) (by kernel_rfl) ((World.settled Tryd.prog default).heap.size) (caseRen.t 208) (of_decide_eq_true (by kernel_rfl)) (by kernel_rfl) (by kernel_rfl) (by kernel_rfl))
theorem laid_vars (os : Os) (args : Array Value) : ((laidWorld os).forCall (fun _ _ => 0) ⟨#[], args, []⟩).variablesRefB Tryd.checked.prog = true := by kernel_rfl
theorem laid_rows (os : Os) (args : Array Value) : ((((laidWorld os).forCall (fun _ _ => 0) ⟨#[], args, []⟩).heap.toList.drop Tryd.checked.prog.globals.size).take ((begin Tryd.checked.prog (fun _ _ => 0) default).world.heap.size - Tryd.checked.prog.globals.size) =
      (begin Tryd.checked.prog (fun _ _ => 0) default).world.heap.toList.drop Tryd.checked.prog.globals.size) := by kernel_rfl
/-- what the rows' list says of the two tables -/
theorem powT_of {W : World} (h : laidMet Tryd.prog laidL W) : PowT W := by
  have r := Lib.laidMet.reads h (n := "internal/strconv.uint64pow10") (d := tabData .u64 pow10Tab) (.tail _ (.tail _ (.head _)))
  obtain ⟨g, t, cs, fuel, p, hg, hty, hvar, hd⟩ := r
  obtain rfl := Option.some.inj ((show Tryd.prog.globalNamed "internal/strconv.uint64pow10" = some 0 by kernel_rfl).symm.trans hg)
  obtain rfl := Option.some.inj ((show (Tryd.prog.globals[0]?).map (·.type) = some 102 by kernel_rfl).symm.trans hty)
  unfold PowT TabIs
  rw [hvar, ← cells_of_tab Tryd.underlying102 Tryd.underlying34 (by kernel_rfl) (by kernel_rfl) hd]
theorem bru_of {W : World} (h : laidMet Tryd.prog laidL W) : Bru W := by
  have r := Lib.laidMet.reads h (n := "math/bits.deBruijn64tab") (d := tabData .u8 (deBruijn64tab.map fun (n : Nat) => (n : Int))) (.tail _ (.head _))
  obtain ⟨g, t, cs, fuel, p, hg, hty, hvar, hd⟩ := r
  obtain rfl := Option.some.inj ((show Tryd.prog.globalNamed "math/bits.deBruijn64tab" = some 3 by kernel_rfl).symm.trans hg)
  obtain rfl := Option.some.inj ((show (Tryd.prog.globals[3]?).map (·.type) = some 121 by kernel_rfl).symm.trans hty)
  unfold Bru TabIs
  rw [hvar, ← cells_of_tab Tryd.underlying121 Tryd.underlying5 (by kernel_rfl) (by kernel_rfl) hd]
theorem pow_of {W : World} (h : laidMetH Tryd.prog laidL W) : Pow W := by
  rw [MakeChecks.laidMetH_plain _ _ _ (by kernel_rfl)] at h
  exact ⟨powT_of h, bru_of h⟩
end Go.Proofs.YtapihomdfdhnnaaDoor
