/-
  The walks of the document's answers for layer 7: Same, of jobs that are the same.
-/
import Derived.Test.YtjegkddpaampmaaOrdMem
namespace Go.Proofs.Ytjegkddpaampmaa.OrdRef
open Go.RowKit Go.Proofs.Ytjegkddpaampmaa.JobPlain Go.Proofs.Ytjegkddpaampmaa.OrdPlain Go.Proofs.Ytjegkddpaampmaa.Mem Go.Proofs.Ytjegkddpaampmaa.JobMem Go.Proofs.Ytjegkddpaampmaa.OrdMem
theorem ne_job (w : World) (j : Jb) : (binOp .neq 28 (jobV j) (jobV j)).run Try.prog w = .ok (.bool false) w := by
  have h1 : Try.prog.underlying 28 = some (.struct (Try.prog.fieldsOf 28)) := by kernel_rfl
  unfold jobV jobA
  simp [go_sem]
def BoolD (b : Bool) (w : World) (e : Ending) (w' : World) : Prop := e = .returned (.bool b) ∧ ∃ n, w' = w.drewN n
set_option maxHeartbeats 1600000 in
theorem same8 (l : List Jb) (v u : Value) (w : World) (hv : JobsIs l w v) (hu : JobsIs l w u) (hl : l.length ≤ 100000) : Calls Try.prog 30 #[v, u] w (BoolD true w) := by
  obtain ⟨A, c, rfl, hn, hA⟩ := hv.open_
  obtain ⟨B, d, rfl, hm, hB⟩ := hu.open_
  have HA := Lib.hid hA
  have HB := Lib.hid hB
  clear hA hB hv hu
  have d0 : ((l.length : Int) != (l.length : Int)) = false := by simp
  go_enter Try.func30, Try.ntmps30
  go_wp2_with fail
  go_loopw [5] (fun i wr => ∃ k : Nat, k ≤ l.length ∧ i = .int .i64 k ∧ ∃ n, wr = w.drewN n) (fun i _ => l.length - (intOf i).toNat)
  case atStart => exact ⟨0, Nat.zero_le _, rfl, 0, rfl⟩
  case round =>
    obtain ⟨k, hk, rfl, n, rfl⟩ := hrel
    by_cases hlt : k < l.length
    · obtain ⟨a, rfl, ⟨p, p0, p1, p2, p3, p4, p5, p6, p7, p8⟩⟩ := HA.out k hlt
      obtain ⟨b, rfl, ⟨q, q0, q1, q2, q3, q4, q5, q6, q7, q8⟩⟩ := HB.out k hlt
      have hlt2 : (k : Int) < (l.length : Int) := by omega
      have hkn : (0 : Int) ≤ (k : Int) := by omega
      have E1 := fun W => ne_job W l[k]
      generalize l[k] = j at *
      unfold jobV jobA at E1
      go_wp2_with fail
      go_quiet (fail)
      go_wp2_with fail
      exact ⟨⟨k + 1, by omega, by go_num, _, rfl⟩, by simp [intOf] <;> omega⟩
    · go_wp2_with fail
      go_ret
      exact ⟨rfl, n, rfl⟩
end Go.Proofs.Ytjegkddpaampmaa.OrdRef
