/-
  The walk of the document's answer for layer 4: Free.
-/
import Derived.Test.YtjkninldenoanaaStepRef0
namespace Go.Proofs.Ytjkninldenoanaa.StepRef
open Go.RowKit Go.Proofs.Ytjkninldenoanaa.SpanPlain Go.Proofs.Ytjkninldenoanaa.StepPlain Go.Proofs.Ytjkninldenoanaa.Mem Go.Proofs.Ytjkninldenoanaa.SpanMem Go.Proofs.Ytjkninldenoanaa.StepMem Go.Proofs.Ytjkninldenoanaa.SpanRef

set_option maxHeartbeats 1600000 in
theorem free4w (p : Int) (l : List By) (v : Value) (t : Int) (w : World) (hv : BusyIs l w v) (hb : ∀ b ∈ l, -256 ≤ b.2.2 ∧ b.2.2 ≤ 256) (hp1 : 0 ≤ p) (hp2 : p ≤ 256) (hl : l.length ≤ 400) :
    Calls Try.prog 46 #[.int .i64 p, v, .int .i64 t] w (IntQ (freeL p l t) w) := by
  obtain ⟨A, c, rfl, hA⟩ := hv.open_
  have HA := Lib.hid hA
  have HBY := Lib.hid hb
  clear hA hv hb
  go_enter Try.func46, Try.ntmps46
  go_wp2_with fail
  go_loop [0, 7] (fun n i => ∃ k : Nat, n = .int .i64 (freeL p (l.take k) t) ∧ i = .int .i64 k ∧ k ≤ l.length) (fun _ i => l.length - (intOf i).toNat)
  case atStart => exact ⟨0, rfl, rfl, Nat.zero_le _⟩
  case round =>
    obtain ⟨k, rfl, rfl, hk⟩ := hrel
    by_cases hlt : k < l.length
    · obtain ⟨ad, rfl, had, c1, c2, c3⟩ := HA.out k hlt
      have HF := Lib.hid (free_take hlt p t)
      obtain ⟨f1, f2⟩ := free_bounds HBY.out p t k
      obtain ⟨x1, x2⟩ := by_bounds HBY.out hlt
      generalize byCell l k = b at *
      generalize freeL p (l.take k) t = n at *
      have hcase : (decide (b.1 ≤ t) = true ∧ decide (t < b.2.1) = true ∧ Hid (freeL p (l.take (k + 1)) t = n - b.2.2)) ∨ (decide (b.1 ≤ t) = true ∧ decide (t < b.2.1) = false ∧ Hid (freeL p (l.take (k + 1)) t = n)) ∨ (decide (b.1 ≤ t) = false ∧ Hid (freeL p (l.take (k + 1)) t = n)) := by
        by_cases h1 : b.1 ≤ t
        · by_cases h2 : t < b.2.1
          · exact .inl ⟨decide_eq_true h1, decide_eq_true h2, HF.out.trans (if_pos ⟨h1, h2⟩)⟩
          · exact .inr (.inl ⟨decide_eq_true h1, decide_eq_false h2, HF.out.trans (if_neg (fun h => h2 h.2))⟩)
        · exact .inr (.inr ⟨decide_eq_false h1, HF.out.trans (if_neg (fun h => h1 h.1))⟩)
      clear HF had
      have hlt2 : (k : Int) < (l.length : Int) := by omega
      rcases hcase with ⟨h1, h2, HX⟩ | ⟨h1, h2, HX⟩ | ⟨h1, HX⟩
      all_goals
        go_wp2_with fail
        exact ⟨⟨k + 1, by rw [HX.out], by go_num, by omega⟩, by simp [intOf] <;> omega⟩
    · go_wp2_with fail
      go_ret
      exact ⟨by rw [List.take_of_length_le (by omega)]; rfl, rfl⟩
theorem free4 (p : Int) (l : List By) (v : Value) (t : Int) (w : World) (hv : BusyIs l w v) (hb : ∀ b ∈ l, byB b = true) (hp1 : 0 ≤ p) (hp2 : p ≤ 256) (hl : l.length ≤ 400) :
    Calls Try.prog 46 #[.int .i64 p, v, .int .i64 t] w (IntQ (freeL p l t) w) := free4w p l v t w hv (fun b h => by_wide (hb b h)) hp1 hp2 hl
end Go.Proofs.Ytjkninldenoanaa.StepRef
