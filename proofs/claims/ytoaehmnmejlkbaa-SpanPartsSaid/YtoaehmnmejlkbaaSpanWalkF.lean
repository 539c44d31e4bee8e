/-
  The walks of layer 3's code: Total, Less.
-/
import Derived.Test.YtoaehmnmejlkbaaSpanWalkE
namespace Go.Proofs.Ytoaehmnmejlkbaa.SpanWalk
open Go.RowKit Go.Proofs.Ytoaehmnmejlkbaa.SpanPlain Go.Proofs.Ytoaehmnmejlkbaa.Mem Go.Proofs.Ytoaehmnmejlkbaa.SpanMem Go.Proofs.Ytoaehmnmejlkbaa.SpanRef

theorem cover_is (l : List Sp) (v : Value) (w : World) (hv : SpansIs l w v) (hl : l.length ≤ 2000) : Calls Try.prog 15 #[v] w (CoverIs l w) :=
  cover_of l v w hl (risS l v w hv (by omega))
theorem coverS (l : List Sp) (v : Value) (w : World) (hv : SpansIs l w v) (hl : l.length ≤ 2000) : Calls Try.prog 15 #[v] w (LessIs l [] w) :=
  (cover_is l v w hv hl).mono fun _ _ ⟨_, _, he, h1, h2, h3, _⟩ => he ▸ less_is h1 h2 h3

set_option maxHeartbeats 1600000 in
theorem totalS (l : List Sp) (v : Value) (w : World) (hv : SpansIs l w v) (hl : l.length ≤ 2000) : Calls Try.prog 17 #[v] w (TotalIs l w) := by
  have HC := Lib.hid (cover_is l v w hv hl)
  clear hv
  go_enter Try.func17, Try.ntmps17
  go_wp2_with fail
  refine HC.out.mono ?_
  rintro e w1 ⟨vc, c, rfl, hc, hof, hb1, _⟩
  have hclen := cov_len hof
  obtain ⟨A, cc, rfl, hA⟩ := hc.open_
  have HA := Lib.hid hA
  have HO := Lib.hid hof
  have HB1 := Lib.hid hb1
  clear hc hA hof hb1 HC
  simp only [List.length_nil, Nat.add_zero] at hclen
  go_wp2_with fail
  go_loopw [3, 9] (fun n i wr => ∃ k : Nat, n = .int .i64 (totL (c.take k)) ∧ i = .int .i64 k ∧ k ≤ c.length ∧ Hid (Below w1.heap.size w1 wr)) (fun _ i _ => c.length - (intOf i).toNat)
  case atStart => exact ⟨0, rfl, rfl, Nat.zero_le _, Below.refl _ _⟩
  case round =>
    obtain ⟨k, rfl, rfl, hk, HB⟩ := hrel
    by_cases hlt : k < c.length
    · obtain ⟨ad, rfl, had, c1, c2⟩ := (HA.out.below HB.out) k hlt
      obtain ⟨b1, b2⟩ := tot_range (cov_take HO.out.1 k)
      have hm := cov_at HO.out.1 hlt
      have HT := Lib.hid (tot_take hlt)
      have C1 := Lib.hid (fun w => lenS (c.getD k (0, 0)) w)
      have hlen : lenL (c.getD k (0, 0)) = (c.getD k (0, 0)).2 - (c.getD k (0, 0)).1 := by unfold lenL; rw [(mayB_iff _).2 hm]; rfl
      rw [hlen] at C1
      clear hlen
      obtain ⟨m1, m2, m3⟩ := hm
      unfold spV at C1
      unfold spCell at c1 c2
      dsimp only at c1 c2
      generalize c.getD k (0, 0) = s at *
      generalize totL (c.take k) = n at *
      go_wp2_with fail
      refine (C1.out _).mono ?_
      rintro e w2 ⟨rfl, hb2⟩
      have HB2 := Lib.hid ((HB.out.alloc HB.out.size _).trans (hb2.mono (by have := HB.out.size; simp; omega)))
      clear hb2
      have wr1 : IntKind.i64.wrap (n + (s.2 - s.1)) = n + s.2 - s.1 := by rw [IntKind.wrap_i64]; omega
      clear b1 b2 m1 m2 m3
      go_wp2_with fail
      exact ⟨⟨k + 1, by rw [HT.out] <;> congr 1 <;> omega, by go_num, by omega, HB2.out⟩, by simp [intOf] <;> omega⟩
    · go_wp2_with fail
      go_ret
      exact ⟨c, HO.out, by rw [List.take_of_length_le (by omega)]; rfl, HB1.out.trans (HB.out.mono HB1.out.size)⟩
end Go.Proofs.Ytoaehmnmejlkbaa.SpanWalk
