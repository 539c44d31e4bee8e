/-
  The walks of the document's answers for layer 8: Find.
-/
import Derived.Test.YtkaepadkdohmpaaOrdMem
namespace Go.Proofs.Ytkaepadkdohmpaa.OrdRef
open Go.RowKit Go.Proofs.Ytkaepadkdohmpaa.JobPlain Go.Proofs.Ytkaepadkdohmpaa.OrdPlain Go.Proofs.Ytkaepadkdohmpaa.Mem Go.Proofs.Ytkaepadkdohmpaa.JobMem Go.Proofs.Ytkaepadkdohmpaa.OrdMem
def IntQ (n : Int) (w : World) (e : Ending) (w' : World) : Prop := e = .returned (.int .i64 n) ∧ w = w'
set_option maxHeartbeats 800000 in
theorem find8 (l : List Jb) (id : Int) (v : Value) (w : World) (hv : JobsIs l w v) (hl : l.length ≤ 100000) : Calls Try.prog 25 #[v, .int .i64 id] w (IntQ (findL l id) w) := by
  obtain ⟨A, c, rfl, hn, hA⟩ := hv.open_
  have HA := Lib.hid hA
  clear hA hv
  go_enter Try.func25, Try.ntmps25
  go_wp2_with fail
  go_loop [5] (fun i => ∃ k : Nat, k ≤ l.length ∧ i = .int .i64 k ∧ Hid (∀ i (hi : i < l.length), i < k → (l[i].id == id) = false)) (fun i => l.length - (intOf i).toNat)
  case atStart => exact ⟨0, Nat.zero_le _, rfl, fun _ _ h => absurd h (Nat.not_lt_zero _)⟩
  case round =>
    obtain ⟨k, hk, rfl, HD⟩ := hrel
    by_cases hlt : k < l.length
    · obtain ⟨a, rfl, ⟨p, p0, p1, p2, p3, p4, p5, p6, p7, p8⟩⟩ := HA.out k hlt
      have hlt2 : (k : Int) < (l.length : Int) := by omega
      have hkn : (0 : Int) ≤ (k : Int) := by omega
      have HF := Lib.hid (fun h => find_at (id := id) hlt HD.out h)
      have HN : Hid ((l[k].id == id) = false → ∀ i (hi : i < l.length), i < k + 1 → (l[i].id == id) = false) := fun h i hi hi2 => by
        by_cases he : i = k
        · subst he; exact h
        · exact HD.out i hi (by omega)
      generalize l[k] = j at *
      cases hd : (j.id == id)
      · go_wp2_with fail
        exact ⟨⟨k + 1, by omega, by go_num, HN.out hd⟩, by simp [intOf]; omega⟩
      · go_wp2_with fail
        go_ret
        rw [HF.out hd]
        exact ⟨rfl, rfl⟩
    · have HF := Lib.hid (find_none (l := l) (id := id) (fun i hi => HD.out i hi (by omega)))
      go_wp2_with fail
      go_ret
      rw [HF.out]
      exact ⟨rfl, rfl⟩
end Go.Proofs.Ytkaepadkdohmpaa.OrdRef
