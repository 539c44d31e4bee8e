/-
  The walks of layer 4's code: which busy times there may be; by how many more are free at each time, in a map.
-/
import Derived.Test.YtjkninldenoanaaStepWalkG
import Derived.Maps.OwnOps
import Derived.Maps.Views
import Derived.Maps.RangeWalk
namespace Go.Proofs.Ytjkninldenoanaa.StepWalk
open Go.RowKit Go.Proofs.Ytjkninldenoanaa.SpanPlain Go.Proofs.Ytjkninldenoanaa.StepPlain Go.Proofs.Ytjkninldenoanaa.Mem Go.Proofs.Ytjkninldenoanaa.SpanMem Go.Proofs.Ytjkninldenoanaa.StepMem Go.Proofs.Ytjkninldenoanaa.SpanRef Go.Proofs.Ytjkninldenoanaa.StepRef

def busyB (l : List By) : Bool := decide (l.length ≤ 300) && l.all byB
theorem byb_ways (b : By) : (byB b = false ∧ mayB (b.1, b.2.1) = false) ∨ (byB b = false ∧ mayB (b.1, b.2.1) = true ∧ decide (b.2.2 < 1) = true) ∨ (byB b = false ∧ mayB (b.1, b.2.1) = true ∧ decide (b.2.2 < 1) = false ∧ decide (256 < b.2.2) = true) ∨
    (byB b = true ∧ mayB (b.1, b.2.1) = true ∧ decide (b.2.2 < 1) = false ∧ decide (256 < b.2.2) = false) := by
  unfold byB
  cases mayB (b.1, b.2.1) with
  | false => exact .inl ⟨rfl, rfl⟩
  | true =>
    by_cases h1 : b.2.2 < 1
    · exact .inr (.inl ⟨by rw [decide_eq_false (by omega : ¬ 1 ≤ b.2.2)]; rfl, rfl, decide_eq_true h1⟩)
    · by_cases h2 : 256 < b.2.2
      · exact .inr (.inr (.inl ⟨by rw [decide_eq_false (by omega : ¬ b.2.2 ≤ 256), Bool.and_false], rfl, decide_eq_false h1, decide_eq_true h2⟩))
      · exact .inr (.inr (.inr ⟨by rw [decide_eq_true (by omega : 1 ≤ b.2.2), decide_eq_true (by omega : b.2.2 ≤ 256)]; rfl, rfl, decide_eq_false h1, decide_eq_false h2⟩))
theorem busy_no {l : List By} {k : Nat} (hk : k < l.length) (h : byB (byCell l k) = false) : busyB l = false := by
  unfold busyB
  rw [Bool.and_eq_false_iff]
  right
  rw [List.all_eq_false]
  exact ⟨byCell l k, by rw [by_at hk]; exact List.getElem_mem hk, by rw [h]; simp⟩
theorem busy_yes {l : List By} (hl : l.length ≤ 300) (h : ∀ b ∈ l, byB b = true) : busyB l = true := by
  unfold busyB
  rw [decide_eq_true hl, List.all_eq_true.2 h]; rfl
set_option maxHeartbeats 1600000 in
theorem busyS (l : List By) (v : Value) (w : World) (hv : BusyIs l w v) (hl : l.length ≤ 310) : Calls Try.prog 36 #[v] w (BoolIs (busyB l) w) := by
  obtain ⟨A, c, rfl, hA⟩ := hv.open_
  have HA := Lib.hid hA
  clear hA hv
  by_cases h3 : l.length ≤ 300
  · have d1 : decide ((300 : Int) < (l.length : Int)) = false := decide_eq_false (by omega)
    go_enter Try.func36, Try.ntmps36
    go_wp2_with fail
    go_loopw [10] (fun i wr => ∃ k : Nat, i = .int .i64 k ∧ k ≤ l.length ∧ Hid ((∀ b ∈ l.take k, byB b = true) ∧ Below w.heap.size w wr)) (fun i _ => l.length - (intOf i).toNat)
    case atStart => exact ⟨0, rfl, Nat.zero_le _, fun b hb => by simp at hb, Below.refl _ _⟩
    case round =>
      obtain ⟨k, rfl, hk, HL⟩ := hrel
      obtain ⟨hall, hbl⟩ := HL.out
      by_cases hlt : k < l.length
      · obtain ⟨ad, rfl, had, c1, c2, c3⟩ := (HA.out.below hbl) k hlt
        have hways := byb_ways (byCell l k)
        have HNO := Lib.hid (fun h => busy_no hlt h)
        have HNX := Lib.hid (fun h => all_next hlt hall h)
        have HBL := Lib.hid hbl
        have CM := Lib.hid (fun W => mayS ((byCell l k).1, (byCell l k).2.1) W)
        have HBB := Lib.hid (fun w1 (hb : Below (wr.alloc (.cells #[.int .i64 (byCell l k).1, .int .i64 (byCell l k).2.1, .int .i64 (byCell l k).2.2] 36)).heap.size (wr.alloc (.cells #[.int .i64 (byCell l k).1, .int .i64 (byCell l k).2.1, .int .i64 (byCell l k).2.2] 36)) w1) => box_cell hb (j := 2) rfl)
        unfold spV at CM
        clear hall hbl HL
        generalize byCell l k = b at *
        rcases hways with ⟨hB, hm⟩ | ⟨hB, hm, h1⟩ | ⟨hB, hm, h1, h2⟩ | ⟨hB, hm, h1, h2⟩
        all_goals
          rw [hm] at CM
          first | have HN := Lib.hid (HNO.out hB) | have HN := Lib.hid (HNX.out hB)
          clear hm hB HNO HNX
          go_wp2_with fail
          refine (CM.out _).mono ?_
          rintro e w1 ⟨rfl, hb1⟩
          have x2 := HBB.out w1 hb1
          have HB1 := Lib.hid ((HBL.out.alloc HBL.out.size _).trans (hb1.mono (by have := HBL.out.size; simp; omega)))
          clear hb1 HBB CM
          go_wp2_with fail
        · go_ret
          rw [HN.out]
          exact ⟨rfl, HB1.out⟩
        · go_ret
          rw [HN.out]
          exact ⟨rfl, HB1.out⟩
        · go_ret
          rw [HN.out]
          exact ⟨rfl, HB1.out⟩
        · exact ⟨⟨k + 1, by go_num, by omega, HN.out, HB1.out⟩, by simp [intOf] <;> omega⟩
      · rw [List.take_of_length_le (by omega)] at hall
        have HY := Lib.hid (busy_yes h3 hall)
        have HBL := Lib.hid hbl
        clear hall hbl HL
        go_wp2_with fail
        go_ret
        rw [HY.out]
        exact ⟨rfl, HBL.out⟩
  · have d1 : decide ((300 : Int) < (l.length : Int)) = true := decide_eq_true (by omega)
    have HN : Hid (busyB l = false) := by unfold busyB; rw [decide_eq_false h3]; rfl
    clear h3
    go_enter Try.func36, Try.ntmps36
    go_wp2_with fail
    go_ret
    rw [HN.out]
    exact ⟨rfl, Below.refl _ _⟩
end Go.Proofs.Ytjkninldenoanaa.StepWalk
