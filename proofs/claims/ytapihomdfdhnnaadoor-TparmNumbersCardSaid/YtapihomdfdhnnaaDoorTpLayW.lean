/-
  Functions of Go's library lie in this program as the library's own contracts know them: each fact is the program's own or a comparison by the kernel. Nothing is assumed.
-/
import Derived.Lib.LaidCaseMet
import Derived.Test.YtapihomdfdhnnaaDoorProg
namespace Go.Proofs
open Go.Shelf
def Tryd.layCase_ren : Go.Shelf.Ren := ⟨fun | 274 => 94 | n => n, fun | 21 => 21 | 162 => 135 | 160 => 140 | 3 => 3 | 4 => 4 | 46 => 58 | 0 => 0 | 208 => 146 | 51 => 35 | 206 => 144 | n => n, fun | n => n⟩
theorem Tryd.layCase : Go.Proofs.Lays.n274 Tryd.prog Tryd.layCase_ren := {
  mixed := by kernel_rfl
  f274 := Tryd.func94.trans (congrArg some (by kernel_rfl))
  t0 := Tryd.underlying0
  a0 := Tryd.isAgg0
  z0 := Tryd.sizeOf0
  v0 := Tryd.zeroValue0
  t3 := Tryd.underlying3
  a3 := Tryd.isAgg3
  z3 := Tryd.sizeOf3
  v3 := Tryd.zeroValue3
  t4 := Tryd.underlying4
  a4 := Tryd.isAgg4
  z4 := Tryd.sizeOf4
  v4 := Tryd.zeroValue4
  t21 := Tryd.underlying21
  a21 := Tryd.isAgg21
  z21 := Tryd.sizeOf21
  v21 := Tryd.zeroValue21
  t46 := Tryd.underlying58
  a46 := Tryd.isAgg58
  z46 := Tryd.sizeOf58
  v46 := Tryd.zeroValue58
  t51 := Tryd.underlying35
  a51 := Tryd.isAgg35
  z51 := Tryd.sizeOf35
  v51 := Tryd.zeroValue35
  t160 := Tryd.underlying140
  a160 := Tryd.isAgg140
  z160 := Tryd.sizeOf140
  v160 := Tryd.zeroValue140
  t162 := Tryd.underlying135
  a162 := Tryd.isAgg135
  z162 := Tryd.sizeOf135
  v162 := Tryd.zeroValue135
  t208 := Tryd.underlying146
  a208 := Tryd.isAgg146
  z208 := Tryd.sizeOf146
  v208 := Tryd.zeroValue146 }
end Go.Proofs
