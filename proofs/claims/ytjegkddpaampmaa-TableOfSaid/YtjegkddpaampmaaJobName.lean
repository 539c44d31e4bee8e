/-
  The walk of layer 7's code: Name, as a range over the text. 
-/
import Derived.Test.YtjegkddpaampmaaJobRefB
import Derived.Laws.RangeAny
import Derived.WalkSmall
namespace Go.Proofs.Ytjegkddpaampmaa.JobWalk
open Go.RowKit Go.Proofs.Ytjegkddpaampmaa.JobPlain Go.Proofs.Ytjegkddpaampmaa.Mem Go.Proofs.Ytjegkddpaampmaa.JobMem Go.Proofs.Ytjegkddpaampmaa.JobRef
theorem size_list (s : ByteArray) : s.toList.length = s.size := by rw [ByteArray.toList_eq]; simp
theorem empty_ways (s : ByteArray) : (s.toList.isEmpty = true ∧ (s.toList == []) = true ∧ s.size = 0) ∨ (s.toList.isEmpty = false ∧ (s.toList == []) = false ∧ 1 ≤ s.size) := by
  have h := size_list s
  cases hl : s.toList with
  | nil => rw [hl] at h; exact .inl ⟨rfl, rfl, by simp at h; omega⟩
  | cons c l => rw [hl] at h; exact .inr ⟨rfl, rfl, by simp at h; omega⟩
theorem size_ways (s : ByteArray) : (s.toList.isEmpty = true ∧ (s.toList == []) = true ∧ nameB s = false) ∨ (s.toList.isEmpty = false ∧ (s.toList == []) = false ∧ decide (16 < (s.size : Int)) = true ∧ nameB s = false) ∨ (s.toList.isEmpty = false ∧ (s.toList == []) = false ∧ decide (16 < (s.size : Int)) = false ∧ (s.data.toList.all letB = true → nameB s = true)) := by
  unfold nameB
  rcases empty_ways s with ⟨h1, h2, h3⟩ | ⟨h1, h2, h3⟩
  · exact .inl ⟨h1, h2, by rw [decide_eq_false (p := 1 ≤ s.size) (by omega), Bool.false_and, Bool.and_false]⟩
  · by_cases h4 : 16 < (s.size : Int)
    · exact .inr (.inl ⟨h1, h2, decide_eq_true h4, by rw [decide_eq_false (p := s.size ≤ 16) (by omega), Bool.and_false, Bool.and_false]⟩)
    · exact .inr (.inr ⟨h1, h2, decide_eq_false h4, fun h => by rw [h, decide_eq_true (p := 1 ≤ s.size) (by omega), decide_eq_true (p := s.size ≤ 16) (by omega)]; rfl⟩)
theorem high_not (c : UInt8) (h : ¬ c.toNat < 128) : letB c = false := by
  unfold letB
  rw [decide_eq_false (p := c.toNat ≤ 122) (by omega), Bool.and_false]
set_option maxHeartbeats 1600000 in
theorem name_range (s : ByteArray) (w : World) (hs : s.size ≤ 9223372036854775807) : Calls Try.prog 54 #[.string s] w (BoolIs (nameB s) w) := by
  rcases size_ways s with ⟨h1, h1b, h2⟩ | ⟨h1, h1b, h3, h2⟩ | ⟨h1, h1b, h3, h2⟩
  · go_enter Try.func54, Try.ntmps54
    go_wp2_with fail
    go_ret
    rw [h2]
    exact ⟨rfl, Below.refl _ _⟩
  · go_enter Try.func54, Try.ntmps54
    go_wp2_with fail
    go_ret
    rw [h2]
    exact ⟨rfl, Below.refl _ _⟩
  · have HY := Lib.hid h2
    clear h2
    go_enter Try.func54, Try.ntmps54
    go_wp2_with fail
    go_loopw [] (fun wr => ∃ pos : Nat, wr = w.iter s pos ∧ pos ≤ s.size ∧ Hid (LetTo s pos)) (fun wr => s.size - wr.iterPos w.heap.size)
    case atStart => exact ⟨0, rfl, Nat.zero_le _, LetTo.zero s⟩
    case round =>
      obtain ⟨pos, rfl, hp, HD⟩ := hrel
      by_cases hlt : pos < s.size
      · have HNO := Lib.hid (fun h => name_no hlt h)
        have HNX := Lib.hid (fun h => HD.out.succ hlt h)
        by_cases ha : s[pos].toNat < 128
        · have hnx : ∀ ty, (Instr.next (.pointer (some ⟨w.heap.size, 0, none⟩)) true ty).run Try.prog (w.iter s pos) = _ := fun ty => run_next_ascii w s pos ty hlt ha
          rcases let_ways s[pos] with ⟨c1, c2⟩ | ⟨c1, c3, c2⟩ | ⟨c1, c3, c2⟩
          all_goals
            have HR := Lib.hid c2
            clear c2
            go_wp2_with fail
            first
              | exact ⟨⟨pos + 1, rfl, by omega, HNX.out HR.out⟩, by rw [World.iterPos_iter, World.iterPos_iter]; omega⟩
              | (go_ret; rw [HNO.out HR.out]; exact ⟨rfl, (Below.refl _ _).alloc (Nat.le_refl _) _⟩)
        · have hnx : ∀ ty, (Instr.next (.pointer (some ⟨w.heap.size, 0, none⟩)) true ty).run Try.prog (w.iter s pos) = _ := fun ty => run_next_any w s pos ty hlt
          have HR := Lib.hid (high_not s[pos] ha)
          have hd := (decode_high s pos hlt (by omega)).1
          have c1 : decide (((Utf8.decode s pos).1 : Int) < 97) = false := decide_eq_false (by omega)
          have c3 : decide (122 < ((Utf8.decode s pos).1 : Int)) = true := decide_eq_true (by omega)
          go_wp2_with fail
          go_ret
          rw [HNO.out HR.out]
          exact ⟨rfl, (Below.refl _ _).alloc (Nat.le_refl _) _⟩
      · have hnx : ∀ ty, (Instr.next (.pointer (some ⟨w.heap.size, 0, none⟩)) true ty).run Try.prog (w.iter s pos) = _ := fun ty => run_next_end w s pos ty hlt
        have HR := Lib.hid (HY.out (HD.out.all (by omega)))
        go_wp2_with fail
        go_ret
        rw [HR.out]
        exact ⟨rfl, (Below.refl _ _).alloc (Nat.le_refl _) _⟩
end Go.Proofs.Ytjegkddpaampmaa.JobWalk
