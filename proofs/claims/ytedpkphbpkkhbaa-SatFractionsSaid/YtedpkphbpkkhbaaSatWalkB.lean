/-
  The walks of the document's digits: Digits of any number, Fits, Times, Plus.
-/
import Derived.Test.YtedpkphbpkkhbaaSatWalkA
import Derived.Deep.QuietTactic
import Derived.BigQuiet
import Derived.LoopTactic
namespace Go.Proofs.Ytedpkphbpkkhbaa.SatWalk
open Go.RowKit Go.Proofs.Ytedpkphbpkkhbaa.SatPlain Go.Proofs.Ytedpkphbpkkhbaa.Mem

theorem digits_any (a : Int) (w : World) (h0 : -9223372036854775808 ≤ a) (h1 : a < 9223372036854775808) :
    Calls Try.prog 8 #[.int .i64 a] w (DigitsIs a.natAbs w) := by
  by_cases h : 0 ≤ a
  · have e : a = (a.natAbs : Int) := by omega
    have hn : a.natAbs < 9223372036854775808 := by omega
    generalize a.natAbs = n at *
    subst e
    exact digits_pos n w hn
  · have e : a = -(a.natAbs : Int) := by omega
    have hn : a.natAbs ≤ 9223372036854775808 := by omega
    have hp : 0 < a.natAbs := by omega
    generalize a.natAbs = n at *
    subst e
    exact digits_neg n w hp hn

theorem four (a b c d : Nat) : ∀ i, i < 4 → #[Value.int .u64 a, .int .u64 b, .int .u64 c, .int .u64 d][i]? = some (dcell [a, b, c, d] i)
  | 0, _ => rfl | 1, _ => rfl | 2, _ => rfl | 3, _ => rfl
  | k + 4, h => by omega
theorem ds_four {a b c d : Nat} (h1 : a < 65536) (h2 : b < 65536) (h3 : c < 65536) (h4 : d < 65536) : Ds [a, b, c, d] := by
  intro x hx
  simp only [List.mem_cons, List.not_mem_nil, or_false] at hx
  omega
theorem reads_four (w : World) (a b c d : Nat) (h1 : a < 65536) (h2 : b < 65536) (h3 : c < 65536) (h4 : d < 65536) :
    Reads (w.alloc (.cells #[.int .u64 a, .int .u64 b, .int .u64 c, .int .u64 d] 41)) (.slice (some ⟨w.heap.size, 0, none⟩) 4 4) [a, b, c, d] :=
  ⟨_, _, rfl, Cells.of_alloc w _ _ _ (four a b c d), ds_four h1 h2 h3 h4⟩

theorem size_alloc (w : World) (o : Obj) : (w.alloc o).heap.size = w.heap.size + 1 := by simp
theorem reads_four2 (w : World) (o : Obj) (a b c d : Nat) (h1 : a < 65536) (h2 : b < 65536) (h3 : c < 65536) (h4 : d < 65536) :
    Reads ((w.alloc o).alloc (.cells #[.int .u64 a, .int .u64 b, .int .u64 c, .int .u64 d] 41)) (.slice (some ⟨w.heap.size + 1, 0, none⟩) 4 4) [a, b, c, d] := by
  have h := reads_four (w.alloc o) a b c d h1 h2 h3 h4
  rwa [size_alloc] at h
def topOf (neg : Bool) : Nat := if neg then 9223372036854775808 else 9223372036854775807
def FitsIs (l : List Nat) (neg : Bool) (w : World) (e : Ending) (w' : World) : Prop := e = .returned (.bool (decide (dval l ≤ topOf neg))) ∧ Below w.heap.size w w'
theorem ret_bool {a b : Bool} (h : a = b) : Ending.returned (.bool a) = .returned (.bool b) := by rw [h]
theorem cmp_top {l : List Nat} {t n : Nat} (h : t = n) : decide (cmpI (dval l) t ≤ 0) = decide (dval l ≤ n) := by subst h; simp only [cmpI_le]

set_option maxHeartbeats 800000 in
theorem fits_any (v : Value) (l : List Nat) (neg : Bool) (w : World) (h : Reads w v l) (hl : l.length ≤ 100) :
    Calls Try.prog 10 #[v, .bool neg] w (FitsIs l neg w) := by
  have b1 := fun o : Obj => (Below.refl w.heap.size w).alloc (Nat.le_refl _) o
  have B1 := Lib.hid b1
  clear b1
  have HR := Lib.hid h
  clear h
  cases neg with
  | false =>
    go_enter Try.func10, Try.ntmps10
    go_wp2_with fail
    refine (cmp_any _ _ _ _ _ (HR.out.below (B1.out _)) (reads_four w 65535 65535 65535 32767 (by omega) (by omega) (by omega) (by omega)) hl (by simp)).mono ?_
    rintro e w1 ⟨rfl, rfl⟩
    go_wp2_with fail
    go_ret
    exact ⟨ret_bool (cmp_top rfl), B1.out _⟩
  | true =>
    go_enter Try.func10, Try.ntmps10
    go_wp2_with fail
    refine (cmp_any _ _ _ _ _ ((HR.out.below (B1.out _)).below ((Below.refl _ _).alloc (Nat.le_refl _) _)) (reads_four2 w _ 0 0 0 32768 (by omega) (by omega) (by omega) (by omega)) hl (by simp)).mono ?_
    rintro e w1 ⟨rfl, rfl⟩
    go_wp2_with fail
    go_ret
    exact ⟨ret_bool (cmp_top rfl), (B1.out _).alloc (by simp) _⟩
end Go.Proofs.Ytedpkphbpkkhbaa.SatWalk
