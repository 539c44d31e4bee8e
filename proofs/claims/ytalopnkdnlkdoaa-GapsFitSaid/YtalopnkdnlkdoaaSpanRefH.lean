/-
  The walks of the document's answers for layer 3: Has.
-/
import Derived.Test.YtalopnkdnlkdoaaSpanRefA
namespace Go.Proofs.Ytalopnkdnlkdoaa.SpanRef
open Go.RowKit Go.Proofs.Ytalopnkdnlkdoaa.SpanPlain Go.Proofs.Ytalopnkdnlkdoaa.Mem Go.Proofs.Ytalopnkdnlkdoaa.SpanMem
set_option maxHeartbeats 1600000 in
theorem has_any (l : List Sp) (A : Option Addr) (c : Nat) (t : Int) (w : World) (hA : Pairs w A l.length (spCell l)) (hl : l.length ≤ 9000) :
    Calls Try.prog 19 #[.slice A l.length c, .int .i64 t] w (BoolIs (anyB l t) w) := by
  have HA := Lib.hid hA
  clear hA
  go_enter Try.func19, Try.ntmps19
  go_wp2_with fail
  go_loopw [5] (fun i wr => ∃ k : Nat, i = .int .i64 k ∧ k ≤ l.length ∧ Hid (anyB (l.take k) t = false) ∧ Hid (Below w.heap.size w wr)) (fun i _ => l.length - (intOf i).toNat)
  case atStart => exact ⟨0, rfl, Nat.zero_le _, rfl, Below.refl _ _⟩
  case round =>
    obtain ⟨k, rfl, hk, HS, HB⟩ := hrel
    by_cases hlt : k < l.length
    · obtain ⟨ad, rfl, had, c1, c2⟩ := (HA.out.below HB.out) k hlt
      have hs := has_cases (l.getD k (0, 0)) t
      have C1 := Lib.hid (fun w => may_any (l.getD k (0, 0)) w)
      have HN := Lib.hid (fun h => any_next hlt HS.out h)
      have HF := Lib.hid (fun h => any_found (t := t) hlt h)
      unfold spV at C1
      unfold spCell at c1 c2
      dsimp only at c1 c2
      generalize l.getD k (0, 0) = s at *
      rcases hs with ⟨hh, hm⟩ | ⟨hh, hm, h1⟩ | ⟨hh, hm, h1, h2⟩ | ⟨hh, hm, h1, h2⟩
      all_goals
        rw [hm] at C1
        have HH := Lib.hid hh
        have HA1 := Lib.hid had
        clear hh hm had
        go_wp2_with fail
        refine (C1.out _).mono ?_
        rintro e w1 ⟨rfl, hb1⟩
        obtain ⟨_, d1, d2⟩ := pair_below hb1 HA1.out c1 c2
        have HB1 := Lib.hid (below_then HB.out hb1)
        clear hb1
        go_wp2_with fail
        first
          | exact ⟨⟨k + 1, by go_num, by omega, HN.out HH.out, HB1.out⟩, by simp [intOf] <;> omega⟩
          | (go_ret; exact ⟨by rw [HF.out HH.out]; rfl, HB1.out⟩)
    · go_wp2_with fail
      go_ret
      exact ⟨by rw [any_all (by omega) HS.out]; rfl, HB.out⟩
theorem has_is (l : List Sp) (v : Value) (t : Int) (w : World) (h : SpansIs l w v) (hl : l.length ≤ 9000) : Calls Try.prog 19 #[v, .int .i64 t] w (BoolIs (anyB l t) w) := by
  obtain ⟨A, c, rfl, hp⟩ := h.open_
  exact has_any l A c t w hp hl
end Go.Proofs.Ytalopnkdnlkdoaa.SpanRef
