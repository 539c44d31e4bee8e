/-
  The walk of the document's answer for layer 3: Same.
-/
import Derived.Test.YtalopnkdnlkdoaaSpanRefC
namespace Go.Proofs.Ytalopnkdnlkdoaa.SpanRef
open Go.RowKit Go.Proofs.Ytalopnkdnlkdoaa.SpanPlain Go.Proofs.Ytalopnkdnlkdoaa.Mem Go.Proofs.Ytalopnkdnlkdoaa.SpanMem
def SameIs (b : Bool) (w : World) (e : Ending) (w' : World) : Prop := e = .returned (.bool b) ∧ ∃ n, w' = w.drewN n
theorem same_take {a b : List Sp} {k : Nat} (ha : k < a.length) (hb : k < b.length) (h : a.take k = b.take k) (he : a.getD k (0, 0) = b.getD k (0, 0)) : a.take (k + 1) = b.take (k + 1) := by
  rw [List.take_succ_eq_append_getElem ha, List.take_succ_eq_append_getElem hb, h]
  simp [List.getD, ha, hb] at he
  rw [he]
theorem same_not {a b : List Sp} {k : Nat} (ha : k < a.length) (hb : k < b.length) (he : a.getD k (0, 0) ≠ b.getD k (0, 0)) : a ≠ b := fun h => by subst h; exact he rfl
set_option maxHeartbeats 1600000 in
theorem same_any (a b : List Sp) (v u : Value) (w : World) (hv : SpansIs a w v) (hu : SpansIs b w u) (hl : a.length ≤ 4000) (hm : b.length ≤ 4000) : Calls Try.prog 18 #[v, u] w (SameIs (decide (a = b)) w) := by
  obtain ⟨A, c, rfl, hA⟩ := hv.open_
  obtain ⟨B, d, rfl, hB⟩ := hu.open_
  have HA := Lib.hid hA
  have HB := Lib.hid hB
  clear hA hB hv hu
  by_cases hlen : a.length = b.length
  · rw [← hlen] at HB ⊢
    have HL := Lib.hid hlen
    clear hlen hm
    go_enter Try.func18, Try.ntmps18
    go_wp2_with fail
    go_loopw [5] (fun i wr => ∃ k : Nat, i = .int .i64 k ∧ k ≤ a.length ∧ Hid (a.take k = b.take k) ∧ Hid (∃ q, wr = w.drewN q)) (fun i _ => a.length - (intOf i).toNat)
    case atStart => exact ⟨0, rfl, Nat.zero_le _, rfl, ⟨0, rfl⟩⟩
    case round =>
      obtain ⟨k, rfl, hk, HS, HW⟩ := hrel
      obtain ⟨q, rfl⟩ := HW.out
      by_cases hlt : k < a.length
      · obtain ⟨ad, rfl, had, c1, c2⟩ := HA.out k hlt
        obtain ⟨bd, rfl, hbd, d1, d2⟩ := HB.out k hlt
        have hlb : k < b.length := by rw [← HL.out]; exact hlt
        have HN := Lib.hid (fun h => same_take hlt hlb HS.out h)
        have HX := Lib.hid (fun h => same_not hlt hlb h)
        unfold spCell at c1 c2 d1 d2
        dsimp only at c1 c2 d1 d2
        generalize a.getD k (0, 0) = s at *
        generalize b.getD k (0, 0) = r at *
        have hlt2 : (k : Int) < (a.length : Int) := by omega
        clear had hbd HW hlb
        by_cases he : s = r
        · subst he
          have HN2 := Lib.hid (HN.out rfl)
          go_wp2_with fail
          go_quiet (fail)
          go_wp2_with fail
          exact ⟨⟨k + 1, by go_num, by omega, HN2.out, ⟨_, rfl⟩⟩, by simp [intOf] <;> omega⟩
        · have HX2 := Lib.hid (HX.out he)
          have hne : (s.1 == r.1) = false ∨ ((s.1 == r.1) = true ∧ (s.2 == r.2) = false) := by
            by_cases h1 : s.1 = r.1
            · right; exact ⟨beq_iff_eq.2 h1, beq_eq_false_iff_ne.2 fun h2 => he (Prod.ext h1 h2)⟩
            · left; exact beq_eq_false_iff_ne.2 h1
          clear he
          rcases hne with h1 | ⟨h1, h2⟩
          all_goals
            go_wp2_with fail
            go_quiet (fail)
            go_wp2_with fail
            go_ret
            exact ⟨by rw [decide_eq_false HX2.out]; rfl, _, World.drewN_drewN _ _ _⟩
      · have h := HS.out
        rw [List.take_of_length_le (by omega), List.take_of_length_le (by rw [← HL.out]; omega)] at h
        have H := Lib.hid h
        clear h
        go_wp2_with fail
        go_ret
        exact ⟨by rw [decide_eq_true H.out]; rfl, q, rfl⟩
  · have hne : ((a.length : Int) != (b.length : Int)) = true := by rw [bne_iff_ne]; omega
    have H : Hid (a ≠ b) := fun h => hlen (by rw [h])
    clear hlen
    go_enter Try.func18, Try.ntmps18
    go_wp2_with fail
    go_ret
    exact ⟨by rw [decide_eq_false H.out]; rfl, 0, rfl⟩
end Go.Proofs.Ytalopnkdnlkdoaa.SpanRef
