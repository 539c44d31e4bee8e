/-
  The library's contracts that this claim leans on, laid at this translation's numbers (written by the kit's own program).
-/
import Derived.Shelf.SlSortCmp.PdqK
import Derived.Test.YtkoadlgjehmkcaaProg
namespace Go.Proofs
open Go.Shelf
def Try.insJ_ren : Go.Shelf.Ren := ⟨fun | 20 => 30 | n => n, fun | 24 => 24 | 22 => 22 | 3 => 3 | 25 => 37 | 4 => 4 | 0 => 0 | n => n, fun | n => n⟩
theorem Try.insJ : Go.Proofs.SlLaysF0.n20 Try.prog Try.insJ_ren := {
  mixed := by kernel_rfl
  f20 := ⟨Try.f30.name, by decide, Try.func30.trans (congrArg some (by kernel_rfl))⟩
  t0 := Try.underlying0
  a0 := Try.isAgg0
  z0 := Try.sizeOf0
  v0 := Try.zeroValue0
  t3 := Try.underlying3
  a3 := Try.isAgg3
  z3 := Try.sizeOf3
  v3 := Try.zeroValue3
  t4 := Try.underlying4
  a4 := Try.isAgg4
  z4 := Try.sizeOf4
  v4 := Try.zeroValue4
  t22 := Try.underlying22
  a22 := Try.isAgg22
  z22 := Try.sizeOf22
  v22 := Try.zeroValue22
  t25 := Try.underlying37
  a25 := Try.isAgg37
  z25 := Try.sizeOf37
  v25 := Try.zeroValue37 }
end Go.Proofs
