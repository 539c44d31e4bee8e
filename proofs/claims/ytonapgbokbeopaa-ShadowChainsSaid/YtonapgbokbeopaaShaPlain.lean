/-
  The plain mathematics of layer 15: a job's shadow and spare, a job laid and lifted, chains.
-/
import Derived.Test.YtonapgbokbeopaaGapPlain
import Derived.Test.YtonapgbokbeopaaJobPlain
namespace Go.Proofs.Ytonapgbokbeopaa.ShaPlain
open Go.Proofs.Ytonapgbokbeopaa.SpanPlain Go.Proofs.Ytonapgbokbeopaa.StepPlain Go.Proofs.Ytonapgbokbeopaa.GapPlain Go.Proofs.Ytonapgbokbeopaa.JobPlain
/-- How a job lies from a time on. -/
def runS (a : Int) (j : Jb) : Sp := (a, a + j.est)
/-- What Of tells: the shadow, the spare, is there one. -/
def ShIs (s : List Sp) (now : Int) (j : Jb) (a spare : Int) (ok : Bool) : Prop := FitIs s now j.width j.est a ok ∧ spare = if ok = true then val s a - j.width else 0
theorem ShIs.unique {s : List Sp} {now : Int} {j : Jb} {a c p q : Int} {b d : Bool} (x : ShIs s now j a p b) (y : ShIs s now j c q d) : a = c ∧ p = q ∧ b = d := by
  obtain ⟨h1, h2⟩ := FitIs.unique x.1 y.1
  subst h1 h2
  exact ⟨rfl, x.2.trans y.2.symm, rfl⟩
theorem room_may {s : List Sp} {a : Int} {j : Jb} (h : okG s a j.width j.est = true) : Chk s ∧ (1 ≤ j.width ∧ j.width ≤ 256) ∧ (1 ≤ j.est ∧ j.est ≤ 1099511627776) ∧ head s ≤ a ∧ 0 ≤ a ∧ a ≤ 1125899906842624 ∧ May (runS a j) ∧ ¬ addBad s (runS a j) (-j.width) ∧ ¬ addOut s (runS a j) (-j.width) := by
  obtain ⟨hm, hroom⟩ := okG_iff.1 h
  obtain ⟨hc, hww, he1, he2⟩ := mayG_iff.1 hm
  have h1 := hroom.1
  have h2 := hroom.2.1
  have h0 := hc.lo
  have hx : May (runS a j) := ⟨by show (0 : Int) ≤ a; omega, by show a < a + j.est; omega, by show a + j.est ≤ _; omega⟩
  have hin : ∀ u, hasB (runS a j) u = true ↔ a ≤ u ∧ u < a + j.est := fun u => by
    rw [hasB_iff]
    exact ⟨fun q => q.2, fun q => ⟨hx, q⟩⟩
  refine ⟨hc, hww, ⟨he1, he2⟩, h1, by omega, h2, hx, ?_, ?_⟩
  · rintro (q | q | q | q)
    · exact chk_false q hc
    · rw [(mayB_iff _).2 hx] at q; cases q
    · omega
    · omega
  · rintro ⟨u, hu, ho⟩
    apply ho
    have hv := hc.val_free (t := u) hu
    unfold addF
    by_cases hcu : hasB (runS a j) u = true
    · have := hroom.2.2 u ((hin u).1 hcu).1 ((hin u).1 hcu).2
      rw [if_pos hcu]; omega
    · rw [if_neg hcu]; exact hv
theorem lay_rep {s r : List Sp} {a : Int} {j : Jb} (h : okG s a j.width j.est = true) (hr : AddIs s (runS a j) (-j.width) r) : Rep r (head s) (addF s (runS a j) (-j.width)) := by
  obtain ⟨_, _, _, _, _, _, _, hnb, hno⟩ := room_may h
  rcases hr with ⟨hb, _⟩ | ⟨_, ho, _⟩ | ⟨_, hrep⟩
  · exact absurd hb hnb
  · exact absurd ho hno
  · exact hrep
/-- What Lay tells. -/
def LayIs (s : List Sp) (a : Int) (j : Jb) (r : List Sp) (ok : Bool) : Prop := (okG s a j.width j.est = true ∧ ok = true ∧ AddIs s (runS a j) (-j.width) r) ∨ (okG s a j.width j.est = false ∧ ok = false ∧ r = [])
theorem LayIs.unique {s r q : List Sp} {a : Int} {j : Jb} {b c : Bool} (x : LayIs s a j r b) (y : LayIs s a j q c) : r = q ∧ b = c := by
  rcases x with ⟨x1, x2, x3⟩ | ⟨x1, x2, x3⟩ <;> rcases y with ⟨y1, y2, y3⟩ | ⟨y1, y2, y3⟩
  · exact ⟨AddIs.unique x3 y3, x2.trans y2.symm⟩
  · rw [x1] at y1; cases y1
  · rw [x1] at y1; cases y1
  · exact ⟨x3.trans y3.symm, x2.trans y2.symm⟩
def mayLift (s : List Sp) (a : Int) (j : Jb) : Bool := chkB s && decide (0 ≤ a) && decide (a ≤ 1125899906842624) && decide (1 ≤ j.est) && decide (j.est ≤ 1099511627776) && decide (1 ≤ j.width) && decide (j.width ≤ 256)
/-- What Lift tells. -/
def LiftIs (s : List Sp) (a : Int) (j : Jb) (r : List Sp) (ok : Bool) : Prop :=
  (mayLift s a j = false ∧ ok = false ∧ r = []) ∨ (mayLift s a j = true ∧ addOut s (runS a j) j.width ∧ ok = false ∧ r = []) ∨ (mayLift s a j = true ∧ ¬ addOut s (runS a j) j.width ∧ ok = true ∧ AddIs s (runS a j) j.width r)
theorem LiftIs.unique {s r q : List Sp} {a : Int} {j : Jb} {b c : Bool} (x : LiftIs s a j r b) (y : LiftIs s a j q c) : r = q ∧ b = c := by
  rcases x with ⟨x1, x2, x3⟩ | ⟨x1, x0, x2, x3⟩ | ⟨x1, x0, x2, x3⟩ <;> rcases y with ⟨y1, y2, y3⟩ | ⟨y1, y0, y2, y3⟩ | ⟨y1, y0, y2, y3⟩
  · exact ⟨x3.trans y3.symm, x2.trans y2.symm⟩
  · rw [x1] at y1; cases y1
  · rw [x1] at y1; cases y1
  · rw [x1] at y1; cases y1
  · exact ⟨x3.trans y3.symm, x2.trans y2.symm⟩
  · exact absurd x0 y0
  · rw [x1] at y1; cases y1
  · exact absurd y0 x0
  · exact ⟨AddIs.unique x3 y3, x2.trans y2.symm⟩
/-- What is laid and lifted turned nothing. -/
theorem lift_back {s r : List Sp} {a : Int} {j : Jb} (h : LayIs s a j r true) : LiftIs r a j s true := by
  rcases h with ⟨h1, _, h3⟩ | ⟨_, h2, _⟩
  · obtain ⟨hc, hww, hee, hhd, h0, hmt, hx, hnb, hno⟩ := room_may h1
    have hrep := lay_rep h1 h3
    obtain ⟨b1, b2⟩ := add_back hnb hrep
    rw [Int.neg_neg] at b1 b2
    have hml : mayLift r a j = true := by
      unfold mayLift
      rw [(chk_iff r).2 hrep.1]
      simp
      omega
    exact .inr (.inr ⟨hml, rep_fits b2, rfl, .inr (.inr ⟨b1, b2⟩)⟩)
  · cases h2
/-- What Chain tells: when each starts, and the steps then. -/
def ChainIs : List Sp → Int → List Jb → List Int → List Sp → Prop
  | s, _, [], l, t => l = [] ∧ t = s
  | s, now, j :: js, l, t => ∃ a b l' s', l = (if b = true then a else -1) :: l' ∧ FitIs s now j.width j.est a b ∧ ((b = true ∧ AddIs s (runS a j) (-j.width) s') ∨ (b = false ∧ s' = s)) ∧ ChainIs s' now js l' t
theorem ChainIs.unique : ∀ {js : List Jb} {s : List Sp} {now : Int} {l m : List Int} {t u : List Sp}, ChainIs s now js l t → ChainIs s now js m u → l = m ∧ t = u
  | [], _, _, _, _, _, _, ⟨x1, x2⟩, ⟨y1, y2⟩ => ⟨x1.trans y1.symm, x2.trans y2.symm⟩
  | j :: js, s, now, l, m, t, u, ⟨a, b, l', s', x1, x2, x3, x4⟩, ⟨c, d, m', u', y1, y2, y3, y4⟩ => by
    obtain ⟨h1, h2⟩ := FitIs.unique x2 y2
    subst h1 h2
    have h3 : s' = u' := by
      rcases x3 with ⟨q1, q2⟩ | ⟨q1, q2⟩ <;> rcases y3 with ⟨r1, r2⟩ | ⟨r1, r2⟩
      · exact AddIs.unique q2 r2
      · rw [q1] at r1; cases r1
      · rw [q1] at r1; cases r1
      · exact q2.trans r2.symm
    subst h3
    obtain ⟨h4, h5⟩ := ChainIs.unique x4 y4
    exact ⟨by rw [x1, y1, h4], h5⟩
/-- None that is laid has room earlier. -/
theorem no_earlier {s : List Sp} {now a k : Int} {j : Jb} (h : FitIs s now j.width j.est a true) (hk : 1 ≤ k) (h1 : head s ≤ a - k) (h2 : now < 0 ∨ now ≤ a - k) : okG s (a - k) j.width j.est = false := by
  rcases h with ⟨_, hm, hge, hroom, hmin⟩ | ⟨h, _⟩
  · cases ho : okG s (a - k) j.width j.est with
    | false => rfl
    | true =>
      have hc := (mayG_iff.1 hm).1
      have h0 := hc.lo
      have h3 := hmin (a - k) (by omega) (okG_iff.1 ho).2
      omega
  · cases h
theorem rise_nodup {e : List Int} (h : Rise e) : e.Nodup := List.Pairwise.imp (fun h => Int.ne_of_lt h) h
theorem add_len {s r : List Sp} {x : Sp} {n : Int} (h : AddIs s x n r) : r.length ≤ s.length + 3 := by
  rcases h with ⟨_, rfl⟩ | ⟨_, _, rfl⟩ | ⟨hb, hr⟩
  · exact Nat.zero_le _
  · exact Nat.zero_le _
  · obtain ⟨hc, hx, _, _⟩ := not_addBad hb
    have hf : ∀ e ∈ addEnds s x, 0 ≤ addF s x n e ∧ addF s x n e ≤ 256 := fun e he => by
      have h1 := ((keep_iff hc).1 (List.mem_filter.1 he).2).1
      by_cases hh : 0 ≤ addF s x n e ∧ addF s x n e ≤ 256
      · exact hh
      · exact absurd ⟨e, h1, hh⟩ (rep_fits hr)
    have e := AddIs.unique (add_done hb hf) (.inr (.inr ⟨hb, hr⟩))
    rw [← e]
    refine Nat.le_trans (build_len _ _) ?_
    have h1 := List.length_filter_le (keepB s x) (endsL (addSpans s x))
    have hs := ends_spec (addSpans s x)
    have h2 : (endsL (addSpans s x)).length ≤ (x.1 :: x.2 :: 4503599627370496 :: s.map (·.1)).length := by
      refine sub_len _ _ (rise_nodup hs.1) fun z hz => ?_
      obtain ⟨y, hy, _, hzy⟩ := (hs.2.1 z).1 hz
      rcases List.mem_cons.1 hy with rfl | hy
      · rcases hzy with rfl | rfl <;> simp
      · obtain ⟨p, hp, rfl⟩ := List.mem_map.1 hy
        rcases hzy with rfl | rfl
        · simp only [List.mem_cons, List.mem_map]; exact .inr (.inr (.inr ⟨p, hp, rfl⟩))
        · simp
    simp only [List.length_cons, List.length_map] at h2
    show ((endsL (addSpans s x)).filter (keepB s x)).length ≤ _
    omega
end Go.Proofs.Ytonapgbokbeopaa.ShaPlain
