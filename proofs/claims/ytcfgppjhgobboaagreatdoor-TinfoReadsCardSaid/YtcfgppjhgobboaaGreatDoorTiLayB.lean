/-
  Functions of Go's library lie in this program as the library's own contracts know them: each fact is the program's own or a comparison by the kernel. Nothing is assumed.
-/
import Derived.Shelf.Bytes.IndexByte
import Derived.Shelf.Bytes.SlCut
import Derived.Shelf.Lays
import Derived.Shelf.SlLaysT
import Derived.Test.YtcfgppjhgobboaaGreatDoorProg
namespace Go.Proofs
open Go.Shelf
def Tryz.layIndexByteB_ren : Go.Shelf.Ren := ⟨fun | 187 => 116 | 255 => 138 | n => n, fun | 37 => 22 | 5 => 5 | 3 => 3 | n => n, fun | n => n⟩
theorem Tryz.layIndexByteB : Go.Proofs.Lays.n187 Tryz.prog Tryz.layIndexByteB_ren := {
  mixed := by kernel_rfl
  f187 := Tryz.func116.trans (congrArg some (by kernel_rfl))
  f255 := Tryz.func138.trans (congrArg some (by kernel_rfl))
  t3 := Tryz.underlying3
  a3 := Tryz.isAgg3
  z3 := Tryz.sizeOf3
  v3 := Tryz.zeroValue3
  t5 := Tryz.underlying5
  a5 := Tryz.isAgg5
  z5 := Tryz.sizeOf5
  v5 := Tryz.zeroValue5
  t37 := Tryz.underlying22
  a37 := Tryz.isAgg22
  z37 := Tryz.sizeOf22
  v37 := Tryz.zeroValue22 }
def Tryz.layCut_ren : Go.Shelf.Ren := ⟨fun | 4 => 139 | 5 => 153 | 6 => 116 | 7 => 163 | 8 => 164 | 9 => 165 | 10 => 166 | 11 => 138 | 12 => 172 | n => n, fun | 22 => 22 | 4 => 4 | 3 => 3 | 0 => 0 | 5 => 5 | 29 => 166 | 9 => 9 | 31 => 234 | 30 => 164 | n => n, fun | 0 => 3 | n => n⟩
theorem Tryz.layCut : Go.Proofs.SlLaysT.n4 Tryz.prog Tryz.layCut_ren := {
  mixed := by kernel_rfl
  f4 := Tryz.func139.trans (congrArg some (by kernel_rfl))
  f5 := Tryz.func153.trans (congrArg some (by kernel_rfl))
  f6 := Tryz.func116.trans (congrArg some (by kernel_rfl))
  f7 := Tryz.func163.trans (congrArg some (by kernel_rfl))
  f8 := Tryz.func164.trans (congrArg some (by kernel_rfl))
  f9 := Tryz.func165.trans (congrArg some (by kernel_rfl))
  f10 := Tryz.func166.trans (congrArg some (by kernel_rfl))
  f11 := Tryz.func138.trans (congrArg some (by kernel_rfl))
  f12 := Tryz.func172.trans (congrArg some (by kernel_rfl))
  t0 := Tryz.underlying0
  a0 := Tryz.isAgg0
  z0 := Tryz.sizeOf0
  v0 := Tryz.zeroValue0
  t3 := Tryz.underlying3
  a3 := Tryz.isAgg3
  z3 := Tryz.sizeOf3
  v3 := Tryz.zeroValue3
  t4 := Tryz.underlying4
  a4 := Tryz.isAgg4
  z4 := Tryz.sizeOf4
  v4 := Tryz.zeroValue4
  t5 := Tryz.underlying5
  a5 := Tryz.isAgg5
  z5 := Tryz.sizeOf5
  v5 := Tryz.zeroValue5
  t9 := Tryz.underlying9
  a9 := Tryz.isAgg9
  z9 := Tryz.sizeOf9
  v9 := Tryz.zeroValue9
  t22 := Tryz.underlying22
  a22 := Tryz.isAgg22
  z22 := Tryz.sizeOf22
  v22 := Tryz.zeroValue22
  t29 := Tryz.underlying166
  a29 := Tryz.isAgg166
  z29 := Tryz.sizeOf166
  v29 := Tryz.zeroValue166
  t30 := Tryz.underlying164
  a30 := Tryz.isAgg164
  z30 := Tryz.sizeOf164
  v30 := Tryz.zeroValue164
  t31 := Tryz.underlying234
  a31 := Tryz.isAgg234
  z31 := Tryz.sizeOf234
  v31 := Tryz.zeroValue234
  g0 := by kernel_rfl }
end Go.Proofs
