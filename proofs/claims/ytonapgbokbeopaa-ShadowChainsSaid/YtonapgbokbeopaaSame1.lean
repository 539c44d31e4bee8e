/-
  The walk of the document's answer: are rows of ints the same?
-/
import Derived.Test.YtonapgbokbeopaaRows
import Derived.Test.YtonapgbokbeopaaInts
import Derived.WalkKit
import Derived.WalkSpells
import Derived.WalkLawsBesides
import Derived.LoopTactic
import Derived.Deep.QuietTactic
import Derived.BigQuiet
namespace Go.Proofs.Ytonapgbokbeopaa.Mem
open Go.RowKit
theorem getD_in {l : List Int} {k : Nat} (h : k < l.length) : l.getD k 0 = l[k] := by simp [List.getD, h]
def SameQ (x : Bool) (w : World) (e : Ending) (w' : World) : Prop := e = .returned (.bool x) ∧ ∃ n, w' = w.drewN n
set_option maxHeartbeats 1600000 in
theorem same1 (l : List Int) (u v : Value) (w : World) (hu : IntsAt l w u) (hv : IntsAt l w v) (hl : l.length ≤ 100000) : Calls Try.prog 19 #[u, v] w (SameQ true w) := by
  obtain ⟨A, c, rfl, hc, hA⟩ := hu
  obtain ⟨B, d, rfl, hd, hB⟩ := hv
  have HA := Lib.hid hA
  have HB := Lib.hid hB
  clear hA hB
  have hne : ((l.length : Int) != (l.length : Int)) = false := by simp
  go_enter Try.func19, Try.ntmps19
  go_wp2_with fail
  go_loopw [5] (fun i wr => ∃ k q : Nat, i = .int .i64 k ∧ k ≤ l.length ∧ Hid (wr = w.drewN q)) (fun i _ => l.length - (intOf i).toNat)
  case atStart => exact ⟨0, 0, rfl, Nat.zero_le _, rfl⟩
  case round =>
    obtain ⟨k, q, rfl, hk, HQ⟩ := hrel
    by_cases hlt : k < l.length
    · obtain ⟨a, rfl, ha, h1⟩ := HA.out.at hlt
      obtain ⟨b, rfl, hb, h2⟩ := HB.out.at hlt
      have p1 : wr.cell? (a.add k) = some (.int .i64 l[k]) := by rw [HQ.out, ← getD_in hlt]; exact h1
      have p2 : wr.cell? (b.add k) = some (.int .i64 l[k]) := by rw [HQ.out, ← getD_in hlt]; exact h2
      clear h1 h2
      generalize l[k] = x at *
      have hx : (x != x) = false := by simp
      have i0 : (0 : Int) ≤ (k : Int) := Int.natCast_nonneg _
      have i1 : (k : Int) < (l.length : Int) := by omega
      go_wp2_with fail
      go_quiet (fail)
      have HQ2 : Hid (wr.drewN nq = w.drewN (q + nq)) := Lib.hid (by rw [HQ.out, World.drewN_drewN])
      clear p1 p2
      generalize wr.drewN nq = w2 at *
      go_wp2_with fail
      exact ⟨⟨k + 1, q + nq, by go_num, by omega, HQ2.out⟩, by simp [intOf] <;> omega⟩
    · go_wp2_with fail
      go_ret
      exact ⟨rfl, q, HQ.out⟩
end Go.Proofs.Ytonapgbokbeopaa.Mem
