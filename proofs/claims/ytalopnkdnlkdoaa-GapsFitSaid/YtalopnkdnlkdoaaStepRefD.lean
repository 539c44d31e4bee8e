/-
  The walk of the document's answer for layer 4: Within.
-/
import Derived.Test.YtalopnkdnlkdoaaStepRef0
namespace Go.Proofs.Ytalopnkdnlkdoaa.StepRef
open Go.RowKit Go.Proofs.Ytalopnkdnlkdoaa.SpanPlain Go.Proofs.Ytalopnkdnlkdoaa.StepPlain Go.Proofs.Ytalopnkdnlkdoaa.Mem Go.Proofs.Ytalopnkdnlkdoaa.SpanMem Go.Proofs.Ytalopnkdnlkdoaa.StepMem Go.Proofs.Ytalopnkdnlkdoaa.SpanRef
set_option maxHeartbeats 800000 in
theorem within4 (s : List Sp) (v : Value) (t : Int) (w : World) (hv : SpansIs s w v) (hl : s.length ≤ 9000) : Calls Try.prog 17 #[v, .int .i64 t] w (IntQ (val s t) w) := by
  obtain ⟨A, c, rfl, hA⟩ := hv.open_
  have HA := Lib.hid hA
  clear hA hv
  go_enter Try.func17, Try.ntmps17
  go_wp2_with fail
  go_loop [5, 6] (fun n i => ∃ k : Nat, n = .int .i64 (val (s.take k) t) ∧ i = .int .i64 k ∧ k ≤ s.length) (fun _ i => s.length - (intOf i).toNat)
  case atStart => exact ⟨0, rfl, rfl, Nat.zero_le _⟩
  case round =>
    obtain ⟨k, rfl, rfl, hk⟩ := hrel
    by_cases hlt : k < s.length
    · obtain ⟨ad, rfl, had, c1, c2⟩ := HA.out k hlt
      have HV := Lib.hid (val_take hlt t)
      unfold spCell at c1 c2
      dsimp only at c1 c2
      generalize s.getD k (0, 0) = x at *
      generalize val (s.take k) t = n at *
      by_cases hx : x.1 ≤ t
      · have HX := Lib.hid (HV.out.trans (if_pos hx))
        clear HV
        go_wp2_with fail
        exact ⟨⟨k + 1, by rw [HX.out], by go_num, by omega⟩, by simp [intOf] <;> omega⟩
      · have HX := Lib.hid (HV.out.trans (if_neg hx))
        clear HV
        go_wp2_with fail
        exact ⟨⟨k + 1, by rw [HX.out], by go_num, by omega⟩, by simp [intOf] <;> omega⟩
    · go_wp2_with fail
      go_ret
      exact ⟨by rw [List.take_of_length_le (by omega)]; rfl, rfl⟩
end Go.Proofs.Ytalopnkdnlkdoaa.StepRef
