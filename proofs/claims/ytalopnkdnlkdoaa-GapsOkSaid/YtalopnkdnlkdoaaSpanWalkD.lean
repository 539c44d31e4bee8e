/-
  The walk of layer 3's code: rising.
-/
import Derived.Test.YtalopnkdnlkdoaaSpanSort
namespace Go.Proofs.Ytalopnkdnlkdoaa.SpanWalk
open Go.RowKit Go.Proofs.Ytalopnkdnlkdoaa.SpanPlain Go.Proofs.Ytalopnkdnlkdoaa.Mem Go.Proofs.Ytalopnkdnlkdoaa.SpanMem Go.Proofs.Ytalopnkdnlkdoaa.SpanRef
/-- What rising answers. -/
def RisIs (l : List Sp) (w : World) (e : Ending) (w' : World) : Prop := ∃ v r, e = .returned v ∧ SpansIs r w' v ∧ Rises r ∧ (∀ t, anyB r t = anyB l t) ∧ r.length ≤ l.length ∧ Below w.heap.size w w'
/-- How the loop of rising stands. -/
def RisLoop (l : List Sp) (w wr : World) (v : Value) (k : Nat) : Prop :=
  OwnN 36 2 w.heap.size wr v (maysL (l.take k)).length (svals (maysL (l.take k))) ∧ Below w.heap.size w wr
set_option maxHeartbeats 1600000 in
theorem risS (l : List Sp) (v : Value) (w : World) (hv : SpansIs l w v) (hl : l.length ≤ 9000) : Calls Try.prog 35 #[v] w (RisIs l w) := by
  obtain ⟨A, cc, rfl, hA⟩ := hv.open_
  have HA := Lib.hid hA
  clear hA hv
  go_enter Try.func35, Try.ntmps35
  go_wp2_with fail
  go_loopw [3, 8] (fun o i wr => ∃ (k : Nat) (v : Value), v = o ∧ i = .int .i64 k ∧ k ≤ l.length ∧ Hid (RisLoop l w wr v k)) (fun _ i _ => l.length - (intOf i).toNat)
  case atStart => exact ⟨0, _, rfl, rfl, Nat.zero_le _, OwnN.nil (Nat.le_refl _), Below.refl _ _⟩
  case round =>
    obtain ⟨k, o, hov, rfl, hk, HL⟩ := hrel
    subst hov
    by_cases hlt : k < l.length
    · obtain ⟨hown, hbl⟩ := HL.out
      obtain ⟨ad, rfl, had, c1, c2⟩ := (HA.out.below hbl) k hlt
      have HOW := Lib.hid hown
      have HBL := Lib.hid hbl
      have HM := Lib.hid (mays_take hlt)
      have hml := mays_len l k
      have C1 := Lib.hid (fun w => mayS (l.getD k (0, 0)) w)
      clear hown hbl HL
      unfold spV at C1
      unfold spCell at c1 c2
      dsimp only at c1 c2
      unfold RisLoop
      generalize l.getD k (0, 0) = s at *
      generalize maysL (l.take k) = c at *
      cases hm : mayB s with
      | false =>
        rw [hm] at C1 HM
        clear hm
        go_wp2_with fail
        refine (C1.out _).mono ?_
        rintro e w1 ⟨rfl, hb1⟩
        have HB1 := Lib.hid hb1
        clear hb1
        go_wp2_with fail
        exact ⟨⟨k + 1, _, rfl, by go_num, by omega, by rw [HM.out]; simpa using ((HOW.out.alloc _).below HB1.out), (HBL.out.alloc HBL.out.size _).trans (HB1.out.mono (by have := HBL.out.size; simp; omega))⟩, by simp [intOf] <;> omega⟩
      | true =>
        rw [hm] at C1 HM
        clear hm
        go_wp2_with fail
        refine (C1.out _).mono ?_
        rintro e w1 ⟨rfl, hb1⟩
        obtain ⟨q0, q1, q2, q3, q4⟩ := (Box2.new wr (.int .i64 s.1) (.int .i64 s.2) 36).below hb1
        have HB1 := Lib.hid hb1
        have HO1 := Lib.hid ((HOW.out.alloc (.cells #[.int .i64 s.1, .int .i64 s.2] 36)).below hb1)
        clear hb1
        go_wp2_with (at_builtin; refine push_own spans_t rfl (.tmp 14) (.tmp 16) rfl w.heap.size _ _ _ rfl (HO1.out.alloc (.cells #[.int .i64 s.1, .int .i64 s.2] 36)) _ 1 [.int .i64 s.1, .int .i64 s.2] rfl rfl ?h1a two_cells ?h1b ?_)
        case h1a => exact raw_at rfl #[.int .i64 s.1, .int .i64 s.2] _
        case h1b => omega
        intro v2 w2 ho2 hb2 hg2
        have HO2 := Lib.hid (ho2.cast (m := (c ++ [s]).length) (ys := svals (c ++ [s])) (by simp) (by rw [svals_append]; rfl))
        have hsz := HBL.out.size
        have hsz1 := HB1.out.size
        have HB2 := Lib.hid ((((HBL.out.alloc HBL.out.size _).trans (HB1.out.mono (by simp; omega))).alloc (by simp at hsz1; omega) _).trans hb2)
        clear ho2 hb2 hg2
        go_wp2_with fail
        exact ⟨⟨k + 1, _, rfl, by go_num, by omega, by rw [HM.out]; exact HO2.out, HB2.out⟩, by simp [intOf] <;> omega⟩
    · have he : l.take k = l := List.take_of_length_le (by omega)
      obtain ⟨hown, hbl⟩ := HL.out
      rw [he] at hown
      have hml := mays_len l l.length
      rw [List.take_of_length_le (Nat.le_refl _)] at hml
      have HS := Lib.hid (sortS (maysL l) w.heap.size o wr hown (by omega))
      have HBL := Lib.hid hbl
      clear hown hbl HL he
      go_wp2_with fail
      refine HS.out.mono ?_
      rintro e w1 ⟨rfl, r, hp, hby, hown, hb⟩
      have HO := Lib.hid hown
      have HB := Lib.hid (HBL.out.trans hb)
      have HP := Lib.hid hp
      have HY := Lib.hid hby
      clear hown hb hp hby
      go_wp2_with fail
      go_ret
      exact ⟨_, r, rfl, OwnN.spans HO.out rfl, ⟨mays_may HP.out, HY.out⟩, mays_any HP.out, by have := HP.out.length_eq; omega, HB.out⟩
end Go.Proofs.Ytalopnkdnlkdoaa.SpanWalk
