/-
  The walks of the document's answers for layer 7: Name.
-/
import Derived.Test.YtjegkddpaampmaaJobMem
namespace Go.Proofs.Ytjegkddpaampmaa.JobRef
open Go.RowKit Go.Proofs.Ytjegkddpaampmaa.JobPlain Go.Proofs.Ytjegkddpaampmaa.Mem Go.Proofs.Ytjegkddpaampmaa.JobMem
def BoolQ (b : Bool) (w : World) (e : Ending) (w' : World) : Prop := e = .returned (.bool b) ∧ w = w'
/-- The first k bytes are letters. -/
def LetTo (s : ByteArray) (k : Nat) : Prop := ∀ c ∈ s.data.toList.take k, letB c = true
theorem LetTo.zero (s : ByteArray) : LetTo s 0 := fun c hc => by simp at hc
theorem let_take (s : ByteArray) (k : Nat) (h : k < s.size) : s.data.toList.take (k + 1) = s.data.toList.take k ++ [s[k]] := by
  have h1 : k < s.data.toList.length := by simpa using h
  rw [List.take_succ_eq_append_getElem h1]; rfl
theorem LetTo.succ {s : ByteArray} {k : Nat} (h : LetTo s k) (hk : k < s.size) (hd : letB s[k] = true) : LetTo s (k + 1) := fun c hc => by
  rw [let_take s k hk] at hc
  rcases List.mem_append.1 hc with hc | hc
  · exact h c hc
  · simp at hc; subst hc; exact hd
theorem LetTo.all {s : ByteArray} {k : Nat} (h : LetTo s k) (hk : s.size ≤ k) : s.data.toList.all letB = true := by
  rw [List.all_eq_true]
  exact fun c hc => h c (by rwa [List.take_of_length_le (by simpa using hk)])
theorem name_no {s : ByteArray} {k : Nat} (hk : k < s.size) (hd : letB s[k] = false) : nameB s = false := by
  unfold nameB
  have : s.data.toList.all letB = false := by
    rw [List.all_eq_false]
    exact ⟨s[k], by rw [show s[k] = s.data.toList[k]'(by simpa using hk) from rfl]; exact List.getElem_mem _, by rw [hd]; decide⟩
  rw [this]; rfl
theorem let_ways (c : UInt8) : (decide ((c.toNat : Int) < 97) = true ∧ letB c = false) ∨ (decide ((c.toNat : Int) < 97) = false ∧ decide (122 < (c.toNat : Int)) = true ∧ letB c = false) ∨ (decide ((c.toNat : Int) < 97) = false ∧ decide (122 < (c.toNat : Int)) = false ∧ letB c = true) := by
  unfold letB
  by_cases h1 : (c.toNat : Int) < 97
  · exact .inl ⟨decide_eq_true h1, by rw [decide_eq_false (by omega)]; rfl⟩
  · by_cases h2 : 122 < (c.toNat : Int)
    · exact .inr (.inl ⟨decide_eq_false h1, decide_eq_true h2, by rw [decide_eq_false (p := c.toNat ≤ 122) (by omega), Bool.and_false]⟩)
    · exact .inr (.inr ⟨decide_eq_false h1, decide_eq_false h2, by rw [decide_eq_true (by omega), decide_eq_true (by omega)]; rfl⟩)
theorem name_ways (s : ByteArray) (h : s.data.toList.all letB = true) : (decide ((1 : Int) ≤ (s.size : Int)) = false ∧ nameB s = false) ∨ (decide ((1 : Int) ≤ (s.size : Int)) = true ∧ decide ((s.size : Int) ≤ 16) = false ∧ nameB s = false) ∨ (decide ((1 : Int) ≤ (s.size : Int)) = true ∧ decide ((s.size : Int) ≤ 16) = true ∧ nameB s = true) := by
  unfold nameB
  rw [h]
  by_cases h1 : (1 : Int) ≤ (s.size : Int)
  · by_cases h2 : (s.size : Int) ≤ 16
    · exact .inr (.inr ⟨decide_eq_true h1, decide_eq_true h2, by rw [decide_eq_true (by omega), decide_eq_true (by omega)]; rfl⟩)
    · exact .inr (.inl ⟨decide_eq_true h1, decide_eq_false h2, by rw [decide_eq_false (p := s.size ≤ 16) (by omega), Bool.and_false]; rfl⟩)
  · exact .inl ⟨decide_eq_false h1, by rw [decide_eq_false (p := 1 ≤ s.size) (by omega)]; rfl⟩
set_option maxHeartbeats 800000 in
theorem name7 (s : ByteArray) (w : World) (hs : s.size ≤ 9223372036854775807) : Calls Try.prog 39 #[.string s] w (BoolQ (nameB s) w) := by
  go_enter Try.func39, Try.ntmps39
  go_wp2_with fail
  go_loop [3] (fun i => ∃ k : Nat, k ≤ s.size ∧ i = .int .i64 k ∧ Hid (LetTo s k)) (fun i => s.size - (intOf i).toNat)
  case atStart => exact ⟨0, Nat.zero_le _, rfl, LetTo.zero s⟩
  case round =>
    obtain ⟨k, hk, rfl, HD⟩ := hrel
    by_cases hlt : k < s.size
    · have hways := let_ways s[k]
      have HNO := Lib.hid (fun h => name_no hlt h)
      have HNX := Lib.hid (fun h => HD.out.succ hlt h)
      rcases hways with ⟨h1, h2⟩ | ⟨h1, h3, h2⟩ | ⟨h1, h3, h2⟩
      all_goals
        have HR := Lib.hid h2
        clear h2
        go_wp2_with fail
        first
          | exact ⟨⟨k + 1, by omega, by go_num, HNX.out HR.out⟩, by simp [intOf]; omega⟩
          | (go_ret; rw [HNO.out HR.out]; exact ⟨rfl, rfl⟩)
    · have hways := name_ways s (HD.out.all (by omega))
      rcases hways with ⟨h1, h2⟩ | ⟨h1, h3, h2⟩ | ⟨h1, h3, h2⟩
      all_goals
        have HR := Lib.hid h2
        clear h2
        go_wp2_with fail
        go_ret
        rw [HR.out]
        exact ⟨rfl, rfl⟩
end Go.Proofs.Ytjegkddpaampmaa.JobRef
