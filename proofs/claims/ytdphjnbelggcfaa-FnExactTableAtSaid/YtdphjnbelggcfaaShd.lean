/-
  slices.Delete at nodes, laid by the kit's shelf in plain declarations: one application. Used by the claims on chapter 9.
-/
import Derived.Shelf.SlicesG.Delete
import Derived.Test.YtdphjnbelggcfaaProg
namespace Go.Proofs
open Go.Shelf
def Try.delN_ren : Go.Shelf.Ren := ⟨fun | 45 => 106 | n => n, fun | 22 => 94 | 23 => 76 | 3 => 3 | 4 => 4 | 0 => 0 | n => n, fun | n => n⟩
theorem Try.delN : Go.Proofs.SlLaysN.n45 Try.prog Try.delN_ren := {
  mixed := by kernel_rfl
  f45 := ⟨Try.f106.name, by decide, Try.func106.trans (congrArg some (by kernel_rfl))⟩
  t0 := Try.underlying0
  a0 := Try.isAgg0
  z0 := Try.sizeOf0
  v0 := Try.zeroValue0
  t3 := Try.underlying3
  a3 := Try.isAgg3
  z3 := Try.sizeOf3
  v3 := Try.zeroValue3
  t4 := Try.underlying4
  a4 := Try.isAgg4
  z4 := Try.sizeOf4
  v4 := Try.zeroValue4
  t22 := Try.underlying94
  a22 := Try.isAgg94
  z22 := Try.sizeOf94
  v22 := Try.zeroValue94
  t23 := Try.underlying76
  a23 := Try.isAgg76
  z23 := Try.sizeOf76
  v23 := Try.zeroValue76
  i23 := by kernel_rfl }
end Go.Proofs
