/-
  slices.DeleteFunc at slices of slices of numbers, laid by the kit's shelf in plain declarations: one application. Used by the claims on chapter 11.
-/
import Derived.Shelf.SlicesE.DeleteFunc
import Derived.Test.YthkafalpjokfeaaProg
namespace Go.Proofs
open Go.Shelf
def Try.delF_ren : Go.Shelf.Ren := ⟨fun | 10 => 118 | 6 => 132 | n => n, fun | 22 => 103 | 23 => 25 | 25 => 116 | 3 => 3 | 4 => 4 | 0 => 0 | n => n, fun | n => n⟩
theorem Try.delF : Go.Proofs.SlLaysH.n10 Try.prog Try.delF_ren := {
  mixed := by kernel_rfl
  f6 := ⟨Try.f132.name, by decide, Try.func132.trans (congrArg some (by kernel_rfl))⟩
  f10 := ⟨Try.f118.name, by decide, Try.func118.trans (congrArg some (by kernel_rfl))⟩
  t0 := Try.underlying0
  a0 := Try.isAgg0
  z0 := Try.sizeOf0
  v0 := Try.zeroValue0
  t3 := Try.underlying3
  a3 := Try.isAgg3
  z3 := Try.sizeOf3
  v3 := Try.zeroValue3
  t4 := Try.underlying4
  a4 := Try.isAgg4
  z4 := Try.sizeOf4
  v4 := Try.zeroValue4
  t22 := Try.underlying103
  a22 := Try.isAgg103
  z22 := Try.sizeOf103
  v22 := Try.zeroValue103
  a23 := Try.isAgg25
  z23 := Try.sizeOf25
  t25 := Try.underlying116
  a25 := Try.isAgg116
  z25 := Try.sizeOf116
  v25 := Try.zeroValue116 }
end Go.Proofs
