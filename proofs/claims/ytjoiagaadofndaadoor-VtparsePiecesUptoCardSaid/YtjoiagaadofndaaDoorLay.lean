/-
  The library's decoder of one rune lies in this program as the library's own contract knows it: each fact is the program's own or a comparison by the kernel. Nothing is assumed.
-/
import Derived.Shelf.Lays7
import Derived.Test.YtjoiagaadofndaaDoorProg
namespace Go.Proofs.YtjoiagaadofndaaDoor
open Go.Shelf
def lays32_ren : Go.Shelf.Ren := ⟨fun | 32 => 62 | 49 => 77 | n => n, fun | 30 => 22 | 21 => 21 | 3 => 3 | 0 => 0 | 5 => 5 | 4 => 4 | 33 => 92 | 66 => 104 | 25 => 90 | 69 => 107 | 68 => 106 | n => n, fun | 2 => 0 | 3 => 1 | n => n⟩
theorem lays32 : Go.Proofs.Lays7.n32 Tryd.prog lays32_ren := {
  mixed := by kernel_rfl
  f32 := Tryd.func62.trans (congrArg some (by kernel_rfl))
  f49 := Tryd.func77.trans (congrArg some (by kernel_rfl))
  t0 := Tryd.underlying0
  a0 := Tryd.isAgg0
  z0 := Tryd.sizeOf0
  v0 := Tryd.zeroValue0
  i0 := by kernel_rfl
  t3 := Tryd.underlying3
  a3 := Tryd.isAgg3
  z3 := Tryd.sizeOf3
  v3 := Tryd.zeroValue3
  i3 := by kernel_rfl
  t4 := Tryd.underlying4
  a4 := Tryd.isAgg4
  z4 := Tryd.sizeOf4
  v4 := Tryd.zeroValue4
  i4 := by kernel_rfl
  t5 := Tryd.underlying5
  a5 := Tryd.isAgg5
  z5 := Tryd.sizeOf5
  v5 := Tryd.zeroValue5
  i5 := by kernel_rfl
  t21 := Tryd.underlying21
  a21 := Tryd.isAgg21
  z21 := Tryd.sizeOf21
  v21 := Tryd.zeroValue21
  i21 := by kernel_rfl
  t25 := Tryd.underlying90
  a25 := Tryd.isAgg90
  z25 := Tryd.sizeOf90
  v25 := Tryd.zeroValue90
  i25 := by kernel_rfl
  t30 := Tryd.underlying22
  a30 := Tryd.isAgg22
  z30 := Tryd.sizeOf22
  v30 := Tryd.zeroValue22
  i30 := by kernel_rfl
  t33 := Tryd.underlying92
  a33 := Tryd.isAgg92
  z33 := Tryd.sizeOf92
  v33 := Tryd.zeroValue92
  i33 := by kernel_rfl
  t66 := Tryd.underlying104
  a66 := Tryd.isAgg104
  z66 := Tryd.sizeOf104
  t68 := Tryd.underlying106
  a68 := Tryd.isAgg106
  z68 := Tryd.sizeOf106
  v68 := Tryd.zeroValue106
  i68 := by kernel_rfl
  t69 := Tryd.underlying107
  a69 := Tryd.isAgg107
  z69 := Tryd.sizeOf107
  v69 := Tryd.zeroValue107
  i69 := by kernel_rfl
  g2 := by kernel_rfl
  g3 := by kernel_rfl }
end Go.Proofs.YtjoiagaadofndaaDoor
