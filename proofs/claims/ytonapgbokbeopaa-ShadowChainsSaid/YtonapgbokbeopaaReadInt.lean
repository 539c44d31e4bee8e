/-
  What an argument reads as, down in memory: an integer.
-/
import Derived.Test.YtonapgbokbeopaaRows
import Derived.Test.YtonapgbokbeopaaBase
import Derived.OpenShut
import Derived.Lib.SmallJoins
import Derived.Deep.Strs
namespace Go.Proofs.Ytonapgbokbeopaa.Read
open Go.RowKit Go.Proofs.Ytonapgbokbeopaa.Mem
open Go.ChangeShapes Go.WideShapes Go.Deep
theorem cells_int1 : Try.prog.cellsOf 3 = 1 := by kernel_rfl
set_option maxRecDepth 100000 in
theorem int_val {H : Type} {enc : TypeId × Value → H} {W : World} {base : Nat} {v : Value} {d : DataW H} {p : List MemPlace} (hv : Value.okWide Try.prog W .any base 3 v)
    (_h : DataW.Trod enc Try.prog W 0 (fun _ => true) true 3 v d p) : ∃ n, v = .int .i64 n := okWide_int Try.underlying3 hv
end Go.Proofs.Ytonapgbokbeopaa.Read
