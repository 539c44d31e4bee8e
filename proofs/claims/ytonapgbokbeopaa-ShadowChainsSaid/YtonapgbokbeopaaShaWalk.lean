/-
  The walk of layer 15's code: mayRun, run, Of, Lay, Lift, Chain.
-/
import Derived.Test.YtonapgbokbeopaaShaSay
import Derived.Test.YtonapgbokbeopaaGapWalk
import Derived.Test.YtonapgbokbeopaaStepWalkD
import Derived.Deep.RegionHeld3
namespace Go.Proofs.Ytonapgbokbeopaa.ShaWalk
open Go.RowKit Go.Proofs.Ytonapgbokbeopaa.SpanPlain Go.Proofs.Ytonapgbokbeopaa.StepPlain Go.Proofs.Ytonapgbokbeopaa.GapPlain Go.Proofs.Ytonapgbokbeopaa.JobPlain Go.Proofs.Ytonapgbokbeopaa.ShaPlain Go.Proofs.Ytonapgbokbeopaa.Mem Go.Proofs.Ytonapgbokbeopaa.SpanMem Go.Proofs.Ytonapgbokbeopaa.StepMem Go.Proofs.Ytonapgbokbeopaa.JobMem Go.Proofs.Ytonapgbokbeopaa.OrdMem Go.Proofs.Ytonapgbokbeopaa.SpanRef Go.Proofs.Ytonapgbokbeopaa.StepRef Go.Proofs.Ytonapgbokbeopaa.GapRef Go.Proofs.Ytonapgbokbeopaa.ShaRef
open Go.Proofs.Ytonapgbokbeopaa.StepWalk (atB atN NewAt AddSays PairIs)
def runB (a : Int) (j : Jb) : Bool := decide (0 ≤ a) && decide (a ≤ 1125899906842624) && decide (1 ≤ j.width) && decide (j.width ≤ 256) && decide (1 ≤ j.est) && decide (j.est ≤ 1099511627776)
theorem runB_iff (a : Int) (j : Jb) : runB a j = true ↔ (0 ≤ a ∧ a ≤ 1125899906842624) ∧ (1 ≤ j.width ∧ j.width ≤ 256) ∧ 1 ≤ j.est ∧ j.est ≤ 1099511627776 := by
  unfold runB
  simp only [Bool.and_eq_true, decide_eq_true_eq]
  omega
theorem lift_run (s : List Sp) (a : Int) (j : Jb) : mayLift s a j = (chkB s && runB a j) := by
  unfold mayLift runB
  cases chkB s <;> cases decide (0 ≤ a) <;> cases decide (a ≤ 1125899906842624) <;> cases decide (1 ≤ j.est) <;> cases decide (j.est ≤ 1099511627776) <;> cases decide (1 ≤ j.width) <;> cases decide (j.width ≤ 256) <;> rfl
theorem run_ways (a x y : Int) (B : Bool) (hB : B = (decide (0 ≤ a) && decide (a ≤ 1125899906842624) && decide (1 ≤ x) && decide (x ≤ 256) && decide (1 ≤ y) && decide (y ≤ 1099511627776))) :
    (B = false ∧ decide (0 ≤ a) = false) ∨ (B = false ∧ decide (0 ≤ a) = true ∧ decide (a ≤ 1125899906842624) = false) ∨ (B = false ∧ decide (0 ≤ a) = true ∧ decide (a ≤ 1125899906842624) = true ∧ decide (1 ≤ x) = false) ∨
    (B = false ∧ decide (0 ≤ a) = true ∧ decide (a ≤ 1125899906842624) = true ∧ decide (1 ≤ x) = true ∧ decide (x ≤ 256) = false) ∨ (B = false ∧ decide (0 ≤ a) = true ∧ decide (a ≤ 1125899906842624) = true ∧ decide (1 ≤ x) = true ∧ decide (x ≤ 256) = true ∧ decide (1 ≤ y) = false) ∨
    (B = decide (y ≤ 1099511627776) ∧ decide (0 ≤ a) = true ∧ decide (a ≤ 1125899906842624) = true ∧ decide (1 ≤ x) = true ∧ decide (x ≤ 256) = true ∧ decide (1 ≤ y) = true) := by
  subst hB
  cases decide (0 ≤ a) <;> cases decide (a ≤ 1125899906842624) <;> cases decide (1 ≤ x) <;> cases decide (x ≤ 256) <;> cases decide (1 ≤ y) <;> simp
set_option maxHeartbeats 1600000 in
theorem may_i (a : Int) (j : Jb) (w : World) : Calls Try.prog 28 #[.int .i64 a, jobV j] w (BoolIs (runB a j) w) := by
  have HX := Lib.hid (JobBox.new w j 25)
  have HB := Lib.hid (box_s w (.cells #[.int .i64 j.id, .string j.user, .int .i64 j.width, .int .i64 j.est, .int .i64 j.prio, .int .i64 j.sub, .int .i64 j.state, .int .i64 j.start, .int .i64 j.fin] 25))
  have hw := run_ways a j.width j.est _ rfl
  unfold runB
  generalize (decide (0 ≤ a) && decide (a ≤ 1125899906842624) && decide (1 ≤ j.width) && decide (j.width ≤ 256) && decide (1 ≤ j.est) && decide (j.est ≤ 1099511627776)) = B at *
  unfold jobV jobA
  rcases hw with ⟨rfl, h1⟩ | ⟨rfl, h1, h2⟩ | ⟨rfl, h1, h2, h3⟩ | ⟨rfl, h1, h2, h3, h4⟩ | ⟨rfl, h1, h2, h3, h4, h5⟩ | ⟨h6, h1, h2, h3, h4, h5⟩
  all_goals
    go_enter Try.func28, Try.ntmps28
    go_upto_region 1 with fail
    generalize w.alloc (.cells #[.int .i64 j.id, .string j.user, .int .i64 j.width, .int .i64 j.est, .int .i64 j.prio, .int .i64 j.sub, .int .i64 j.state, .int .i64 j.start, .int .i64 j.fin] 25) = W0 at *
    obtain ⟨y, y0, y1, y2, y3, y4, y5, y6, y7, y8, _, _, _, _, _, _, _, _, _⟩ := HX.out
  all_goals try (cases hd : decide (j.est ≤ 1099511627776))
  all_goals try rw [hd] at h6
  all_goals try subst h6
  all_goals
    go_wp2_with fail
    go_ret
    exact ⟨rfl, HB.out⟩
def RunIs (a : Int) (j : Jb) (w : World) (e : Ending) (w' : World) : Prop := e = .returned (.agg #[.int .i64 a, .int .i64 (a + j.est)]) ∧ Below w.heap.size w w'
set_option maxHeartbeats 1600000 in
theorem run_i (a : Int) (j : Jb) (w : World) (ha : 0 ≤ a ∧ a ≤ 1125899906842624) (he : 1 ≤ j.est ∧ j.est ≤ 1099511627776) : Calls Try.prog 26 #[.int .i64 a, jobV j] w (RunIs a j w) := by
  have HX := Lib.hid (JobBox.new w j 25)
  have HB := Lib.hid (box_s w (.cells #[.int .i64 j.id, .string j.user, .int .i64 j.width, .int .i64 j.est, .int .i64 j.prio, .int .i64 j.sub, .int .i64 j.state, .int .i64 j.start, .int .i64 j.fin] 25))
  have hsz : (w.alloc (.cells #[.int .i64 j.id, .string j.user, .int .i64 j.width, .int .i64 j.est, .int .i64 j.prio, .int .i64 j.sub, .int .i64 j.state, .int .i64 j.start, .int .i64 j.fin] 25)).heap.size = w.heap.size + 1 := by simp
  unfold jobV jobA
  go_enter Try.func26, Try.ntmps26
  go_upto_region 1 with fail
  generalize w.alloc (.cells #[.int .i64 j.id, .string j.user, .int .i64 j.width, .int .i64 j.est, .int .i64 j.prio, .int .i64 j.sub, .int .i64 j.state, .int .i64 j.start, .int .i64 j.fin] 25) = W0 at *
  obtain ⟨y, y0, y1, y2, y3, y4, y5, y6, y7, y8, _, _, _, _, _, _, _, _, _⟩ := HX.out.alloc (.cells #[.int .i64 0, .int .i64 0] 40)
  have hz := Box2.new W0 (.int .i64 0) (.int .i64 0) 40
  rw [hsz] at hz
  have HZ := Lib.hid hz
  have HB0 := Lib.hid (thenS HB.out (box_s W0 (.cells #[.int .i64 0, .int .i64 0] 40)))
  clear hz hsz
  generalize W0.alloc (.cells #[.int .i64 0, .int .i64 0] 40) = W1 at *
  obtain ⟨b0, b1, b2, b3, b4⟩ := HZ.out
  go_wp2_with fail
  have HB2 : Hid (Below w.heap.size w ((W1.setCell ⟨w.heap.size + 1, 0, none⟩ (.int .i64 a)).setCell ⟨w.heap.size + 1, 1, none⟩ (.int .i64 (a + j.est)))) := (HB0.out.setCell (p := ⟨w.heap.size + 1, 0, none⟩) (by simp) _).setCell (p := ⟨w.heap.size + 1, 1, none⟩) (by simp) _
  have HZ2 := Lib.hid ((HZ.out.set0 (.int .i64 a)).set1 (.int .i64 (a + j.est)))
  obtain ⟨c0, c1, c2, c3, c4⟩ := HZ2.out
  exact bodyPost_ret (v := .agg #[.int .i64 a, .int .i64 (a + j.est)]) (by simp [results, Try.results26, go_sem, c0, c1, c2, c3, c4]) rfl ⟨rfl, HB2.out⟩
/-! Lift, plainly -/
theorem lift_no {s : List Sp} {a : Int} {j : Jb} (h : runB a j = false) : LiftIs s a j [] false := .inl ⟨by rw [lift_run, h, Bool.and_false], rfl, rfl⟩
theorem lift_is {s : List Sp} {a : Int} {j : Jb} {r : List Sp} (h : runB a j = true) (hr : AddIs s (runS a j) j.width r) : LiftIs s a j r (decide (0 < r.length)) := by
  obtain ⟨⟨h1, h2⟩, ⟨h3, h4⟩, h5, h6⟩ := (runB_iff a j).1 h
  have hm := lift_run s a j
  rw [h, Bool.and_true] at hm
  cases hc : chkB s with
  | false =>
    rcases hr with ⟨_, rfl⟩ | ⟨_, _, rfl⟩ | ⟨hb, _⟩
    · exact .inl ⟨hm.trans hc, rfl, rfl⟩
    · exact .inl ⟨hm.trans hc, rfl, rfl⟩
    · exact absurd (.inl hc) hb
  | true =>
    have hnb : ¬ addBad s (runS a j) j.width := by
      rintro (q | q | q | q)
      · rw [hc] at q; cases q
      · rw [(mayB_iff _).2 ⟨by show (0 : Int) ≤ a; omega, by show a < a + j.est; omega, by show a + j.est ≤ _; omega⟩] at q; cases q
      · omega
      · omega
    rcases hr with ⟨hb, _⟩ | ⟨_, ho, rfl⟩ | ⟨hb, hrep⟩
    · exact absurd hb hnb
    · exact .inr (.inl ⟨hm.trans hc, ho, rfl, rfl⟩)
    · have hp : 0 < r.length := hrep.1.pos
      exact .inr (.inr ⟨hm.trans hc, rep_fits hrep, decide_eq_true hp, .inr (.inr ⟨hb, hrep⟩)⟩)
def LaySaysN (s : List Sp) (a : Int) (j : Jb) (w : World) (e : Ending) (w' : World) : Prop := ∃ v r b, e = .returned (.tuple #[v, .bool b]) ∧ SpansIs r w' v ∧ LayIs s a j r b ∧ Below w.heap.size w w' ∧ NewAt w.heap.size v
def LiftSaysN (s : List Sp) (a : Int) (j : Jb) (w : World) (e : Ending) (w' : World) : Prop := ∃ v r b, e = .returned (.tuple #[v, .bool b]) ∧ SpansIs r w' v ∧ LiftIs s a j r b ∧ Below w.heap.size w w' ∧ NewAt w.heap.size v
/-- A job's cells, kept. -/
theorem keep_job {w w' : World} {n : Nat} {a0 a1 a2 a3 a4 a5 a6 a7 a8 : Value} (hb : Below w.heap.size w w') (hl : n < w.heap.size) (h0 : w.cell? ⟨n, 0, none⟩ = some a0) (h1 : w.cell? ⟨n, 1, none⟩ = some a1) (h2 : w.cell? ⟨n, 2, none⟩ = some a2) (h3 : w.cell? ⟨n, 3, none⟩ = some a3) (h4 : w.cell? ⟨n, 4, none⟩ = some a4) (h5 : w.cell? ⟨n, 5, none⟩ = some a5) (h6 : w.cell? ⟨n, 6, none⟩ = some a6) (h7 : w.cell? ⟨n, 7, none⟩ = some a7) (h8 : w.cell? ⟨n, 8, none⟩ = some a8) :
    w'.cell? ⟨n, 0, none⟩ = some a0 ∧ w'.cell? ⟨n, 1, none⟩ = some a1 ∧ w'.cell? ⟨n, 2, none⟩ = some a2 ∧ w'.cell? ⟨n, 3, none⟩ = some a3 ∧ w'.cell? ⟨n, 4, none⟩ = some a4 ∧ w'.cell? ⟨n, 5, none⟩ = some a5 ∧ w'.cell? ⟨n, 6, none⟩ = some a6 ∧ w'.cell? ⟨n, 7, none⟩ = some a7 ∧ w'.cell? ⟨n, 8, none⟩ = some a8 ∧ n < w'.heap.size :=
  ⟨(hb.cell (p := ⟨n, 0, none⟩) hl).trans h0, (hb.cell (p := ⟨n, 1, none⟩) hl).trans h1, (hb.cell (p := ⟨n, 2, none⟩) hl).trans h2, (hb.cell (p := ⟨n, 3, none⟩) hl).trans h3, (hb.cell (p := ⟨n, 4, none⟩) hl).trans h4, (hb.cell (p := ⟨n, 5, none⟩) hl).trans h5, (hb.cell (p := ⟨n, 6, none⟩) hl).trans h6, (hb.cell (p := ⟨n, 7, none⟩) hl).trans h7, (hb.cell (p := ⟨n, 8, none⟩) hl).trans h8, Nat.lt_of_lt_of_le hl hb.size⟩
set_option maxHeartbeats 1600000 in
theorem ofShS (s : List Sp) (now : Int) (j : Jb) (v : Value) (w : World) (hv : SpansIs s w v) (hl : s.length ≤ 1000) : Calls Try.prog 7 #[v, .int .i64 now, jobV j] w (ShSays s now j w) := by
  have HX := Lib.hid (JobBox.new w j 25)
  have HB := Lib.hid (box_s w (.cells #[.int .i64 j.id, .string j.user, .int .i64 j.width, .int .i64 j.est, .int .i64 j.prio, .int .i64 j.sub, .int .i64 j.state, .int .i64 j.start, .int .i64 j.fin] 25))
  have CF := Lib.hid (GapWalk.fitS s now j.width j.est v _ (hv.below HB.out) hl)
  have CA : Hid (∀ W r, Below w.heap.size w W → Calls Try.prog 21 #[v, .int .i64 r] W (PairIs (atN s r) (atB s r) W)) := fun W r hW => StepWalk.atS s r v W (hv.below hW) hl
  have HV : Hid (∀ r, FitIs s now j.width j.est r true → atN s r = val s r ∧ (0 ≤ r ∧ r ≤ 1125899906842624) ∧ (0 ≤ val s r ∧ val s r ≤ 256) ∧ (1 ≤ j.width ∧ j.width ≤ 256)) := fun r h => by
    obtain ⟨h1, h2, h3, h4, h5, h6, _⟩ := room_may (fit_ok h)
    refine ⟨?_, ⟨h5, h6⟩, h1.val_free h4, h2⟩
    unfold atN atB
    rw [(chk_iff s).2 h1, decide_eq_true h4, decide_eq_true (show r < 4503599627370496 by omega)]
    rfl
  obtain ⟨A, c, rfl, _⟩ := hv.open_
  clear hv
  unfold jobV jobA
  go_enter Try.func7, Try.ntmps7
  go_upto_region 1 with fail
  generalize w.alloc (.cells #[.int .i64 j.id, .string j.user, .int .i64 j.width, .int .i64 j.est, .int .i64 j.prio, .int .i64 j.sub, .int .i64 j.state, .int .i64 j.start, .int .i64 j.fin] 25) = W0 at *
  obtain ⟨y, y0, y1, y2, y3, y4, y5, y6, y7, y8, _, _, _, _, _, _, _, _, _⟩ := HX.out
  go_wp2_with fail
  refine CF.out.mono ?_
  rintro e w1 ⟨r, b, rfl, hf, hb1⟩
  have HB1 := Lib.hid (thenS HB.out hb1)
  obtain ⟨z, z0, z1, z2, z3, z4, z5, z6, z7, z8, _, _, _, _, _, _, _, _, _⟩ := HX.out.below hb1
  have HF := Lib.hid hf
  clear hb1 hf CF y y0 y1 y2 y3 y4 y5 y6 y7 y8
  cases b with
  | false =>
    go_wp2_with fail
    go_ret3
    refine ⟨0, 0, false, rfl, ⟨?_, rfl⟩, HB1.out⟩
    rcases HF.out with ⟨h, _⟩ | ⟨_, rfl, h⟩
    · cases h
    · exact .inr ⟨rfl, rfl, h⟩
  | true =>
    obtain ⟨e1, hr, hvr, hww⟩ := HV.out r HF.out
    have C1 := Lib.hid (CA.out w1 r HB1.out)
    rw [e1] at C1
    have hsub : IntKind.i64.wrap (val s r - j.width) = val s r - j.width := by rw [IntKind.wrap_i64]; omega
    have HSH : Hid (ShIs s now j r (val s r - j.width) true) := ⟨HF.out, rfl⟩
    have HX1 : Hid (w.heap.size < w1.heap.size) := z
    clear e1 HV CA HF z z0 z1 z3 z4 z5 z6 z7 z8
    generalize val s r = fr at *
    go_wp2_with fail
    refine C1.out.mono ?_
    rintro e w2 ⟨rfl, hb2⟩
    have q2 := (hb2.cell (p := ⟨w.heap.size, 2, none⟩) HX1.out).trans z2
    have HB2 := Lib.hid (thenS HB1.out hb2)
    clear hb2 z2 C1
    go_wp2_with fail
    go_quiet (fail)
    go_wp2_with fail
    go_ret3
    exact ⟨r, fr - j.width, true, rfl, HSH.out, below_drewN HB2.out _⟩
set_option maxHeartbeats 3200000 in
theorem layN (s : List Sp) (a : Int) (j : Jb) (v : Value) (w : World) (hv : SpansIs s w v) (hl : s.length ≤ 1000) : Calls Try.prog 11 #[v, .int .i64 a, jobV j] w (LaySaysN s a j w) := by
  have HX := Lib.hid (JobBox.new w j 25)
  have HB := Lib.hid (box_s w (.cells #[.int .i64 j.id, .string j.user, .int .i64 j.width, .int .i64 j.est, .int .i64 j.prio, .int .i64 j.sub, .int .i64 j.state, .int .i64 j.start, .int .i64 j.fin] 25))
  have CO := Lib.hid (GapWalk.okS s a j.width j.est v _ (hv.below HB.out) hl)
  have CA : Hid (∀ W, Below w.heap.size w W → Calls Try.prog 25 #[v, spV (runS a j), .int .i64 (-j.width)] W (AddSays s (runS a j) (-j.width) W)) := fun W hW => StepWalk.addS s (runS a j) (-j.width) v W (hv.below hW) hl
  have HM := Lib.hid (fun h => room_may (s := s) (a := a) (j := j) h)
  obtain ⟨A, c, rfl, _⟩ := hv.open_
  clear hv
  unfold jobV jobA
  cases hok : okG s a j.width j.est with
  | false =>
    rw [hok] at CO
    have HLY : Hid (LayIs s a j [] false) := .inr ⟨hok, rfl, rfl⟩
    clear hok HM CA
    go_enter Try.func11, Try.ntmps11
    go_upto_region 1 with fail
    generalize w.alloc (.cells #[.int .i64 j.id, .string j.user, .int .i64 j.width, .int .i64 j.est, .int .i64 j.prio, .int .i64 j.sub, .int .i64 j.state, .int .i64 j.start, .int .i64 j.fin] 25) = W0 at *
    obtain ⟨y, y0, y1, y2, y3, y4, y5, y6, y7, y8, _, _, _, _, _, _, _, _, _⟩ := HX.out
    go_wp2_with fail
    refine CO.out.mono ?_
    rintro e w1 ⟨rfl, hb1⟩
    have HB1 := Lib.hid (thenS HB.out hb1)
    clear hb1
    go_wp2_with fail
    go_ret2
    exact ⟨_, [], false, rfl, .inl ⟨rfl, rfl⟩, HLY.out, HB1.out, NewAt.nil⟩
  | true =>
    obtain ⟨_, hww, hee, _, h0, hmt, _, _, _⟩ := HM.out hok
    rw [hok] at CO
    have HLY : Hid (∀ r, AddIs s (runS a j) (-j.width) r → LayIs s a j r true) := fun r h => .inl ⟨hok, rfl, h⟩
    have CR := Lib.hid (fun W => run_i a j W ⟨h0, hmt⟩ hee)
    have hneg : IntKind.i64.wrap (-j.width) = -j.width := by rw [IntKind.wrap_i64]; omega
    unfold jobV jobA at CR
    unfold spV runS at CA
    dsimp only at CA
    clear hok HM h0 hmt hee hww
    go_enter Try.func11, Try.ntmps11
    go_upto_region 1 with fail
    generalize w.alloc (.cells #[.int .i64 j.id, .string j.user, .int .i64 j.width, .int .i64 j.est, .int .i64 j.prio, .int .i64 j.sub, .int .i64 j.state, .int .i64 j.start, .int .i64 j.fin] 25) = W0 at *
    obtain ⟨y, y0, y1, y2, y3, y4, y5, y6, y7, y8, _, _, _, _, _, _, _, _, _⟩ := HX.out
    go_wp2_with fail
    refine CO.out.mono ?_
    rintro e w1 ⟨rfl, hb1⟩
    have HB1 := Lib.hid (thenS HB.out hb1)
    obtain ⟨z, z0, z1, z2, z3, z4, z5, z6, z7, z8, _, _, _, _, _, _, _, _, _⟩ := HX.out.below hb1
    clear hb1 CO y y0 y1 y2 y3 y4 y5 y6 y7 y8
    go_wp2_with fail
    go_region_held3 (fun w' => w'.cell? ⟨w.heap.size, 0, none⟩ = some (.int .i64 j.id) ∧ w'.cell? ⟨w.heap.size, 1, none⟩ = some (.string j.user) ∧ w'.cell? ⟨w.heap.size, 2, none⟩ = some (.int .i64 j.width) ∧ w'.cell? ⟨w.heap.size, 3, none⟩ = some (.int .i64 j.est) ∧ w'.cell? ⟨w.heap.size, 4, none⟩ = some (.int .i64 j.prio) ∧ w'.cell? ⟨w.heap.size, 5, none⟩ = some (.int .i64 j.sub) ∧ w'.cell? ⟨w.heap.size, 6, none⟩ = some (.int .i64 j.state) ∧ w'.cell? ⟨w.heap.size, 7, none⟩ = some (.int .i64 j.start) ∧ w'.cell? ⟨w.heap.size, 8, none⟩ = some (.int .i64 j.fin) ∧ w.heap.size < w'.heap.size)
      (first | go_keep | (go_split_ands; exact keep_job (by assumption) (by assumption) (by assumption) (by assumption) (by assumption) (by assumption) (by assumption) (by assumption) (by assumption) (by assumption) (by assumption)))
      (first
        | (go_at_call 26; refine (CR.out _).mono ?_; rintro e w2 ⟨rfl, hb2⟩)
        | (go_at_call 25; refine (CA.out _ (thenS HB1.out (below_of_drew hb2))).mono ?_; rintro e w3 ⟨v3, r3, rfl, hs3, ha3, hb3, hn3⟩))
    have hb23 := thenS (thenS HB1.out (below_of_drew hb2)) hb3
    have hnew : NewAt w.heap.size v3 := hn3.mono (thenS HB1.out (below_of_drew hb2)).size
    have HS := Lib.hid hs3
    have HA := Lib.hid (HLY.out _ ha3)
    have HBB := Lib.hid hb23
    have HNW := Lib.hid hnew
    clear hs3 ha3 hb3 hb2 hb23 hn3 hnew CR CA HLY z z0 z1 z2 z3 z4 z5 z6 z7 z8
    go_wp2_with fail
    go_ret2
    exact ⟨_, r3, true, rfl, HS.out, HA.out, HBB.out, HNW.out⟩
set_option maxHeartbeats 3200000 in
theorem liftN (s : List Sp) (a : Int) (j : Jb) (v : Value) (w : World) (hv : SpansIs s w v) (hl : s.length ≤ 1000) : Calls Try.prog 13 #[v, .int .i64 a, jobV j] w (LiftSaysN s a j w) := by
  have HX := Lib.hid (JobBox.new w j 25)
  have HB := Lib.hid (box_s w (.cells #[.int .i64 j.id, .string j.user, .int .i64 j.width, .int .i64 j.est, .int .i64 j.prio, .int .i64 j.sub, .int .i64 j.state, .int .i64 j.start, .int .i64 j.fin] 25))
  have CM := Lib.hid (fun W => may_i a j W)
  have CA : Hid (∀ W, Below w.heap.size w W → Calls Try.prog 25 #[v, spV (runS a j), .int .i64 j.width] W (AddSays s (runS a j) j.width W)) := fun W hW => StepWalk.addS s (runS a j) j.width v W (hv.below hW) hl
  have HM := Lib.hid (fun h => (runB_iff a j).1 h)
  have HNO := Lib.hid (fun h => lift_no (s := s) (a := a) (j := j) h)
  have HIS := Lib.hid (fun r h => lift_is (s := s) (a := a) (j := j) (r := r) h)
  obtain ⟨A, c, rfl, _⟩ := hv.open_
  clear hv
  unfold jobV jobA at CM ⊢
  cases hrun : runB a j with
  | false =>
    rw [hrun] at CM
    have HN := Lib.hid (HNO.out hrun)
    clear hrun HM CA HNO HIS
    go_enter Try.func13, Try.ntmps13
    go_upto_region 1 with fail
    generalize w.alloc (.cells #[.int .i64 j.id, .string j.user, .int .i64 j.width, .int .i64 j.est, .int .i64 j.prio, .int .i64 j.sub, .int .i64 j.state, .int .i64 j.start, .int .i64 j.fin] 25) = W0 at *
    obtain ⟨y, y0, y1, y2, y3, y4, y5, y6, y7, y8, _, _, _, _, _, _, _, _, _⟩ := HX.out
    go_wp2_with (go_at_call 28; refine (CM.out _).mono ?_; rintro e w1 ⟨rfl, hb1⟩)
    go_ret2
    exact ⟨_, [], false, rfl, .inl ⟨rfl, rfl⟩, HN.out, thenS HB.out hb1, NewAt.nil⟩
  | true =>
    obtain ⟨hat, hww, hee⟩ := HM.out hrun
    rw [hrun] at CM
    have CR := Lib.hid (fun W => run_i a j W hat hee)
    have HI := Lib.hid (fun r => HIS.out r hrun)
    unfold jobV jobA at CR
    unfold spV runS at CA
    dsimp only at CA
    clear hrun HM HNO HIS hat hww hee
    go_enter Try.func13, Try.ntmps13
    go_upto_region 1 with fail
    generalize w.alloc (.cells #[.int .i64 j.id, .string j.user, .int .i64 j.width, .int .i64 j.est, .int .i64 j.prio, .int .i64 j.sub, .int .i64 j.state, .int .i64 j.start, .int .i64 j.fin] 25) = W0 at *
    obtain ⟨y, y0, y1, y2, y3, y4, y5, y6, y7, y8, _, _, _, _, _, _, _, _, _⟩ := HX.out
    go_upto_region 2 with (go_at_call 28; refine (CM.out _).mono ?_; rintro e w1 ⟨rfl, hb1⟩)
    have HB1 := Lib.hid (thenS HB.out hb1)
    obtain ⟨z, z0, z1, z2, z3, z4, z5, z6, z7, z8, _, _, _, _, _, _, _, _, _⟩ := HX.out.below hb1
    clear hb1 CM y y0 y1 y2 y3 y4 y5 y6 y7 y8
    go_wp2_with fail
    go_region_held3 (fun w' => w'.cell? ⟨w.heap.size, 0, none⟩ = some (.int .i64 j.id) ∧ w'.cell? ⟨w.heap.size, 1, none⟩ = some (.string j.user) ∧ w'.cell? ⟨w.heap.size, 2, none⟩ = some (.int .i64 j.width) ∧ w'.cell? ⟨w.heap.size, 3, none⟩ = some (.int .i64 j.est) ∧ w'.cell? ⟨w.heap.size, 4, none⟩ = some (.int .i64 j.prio) ∧ w'.cell? ⟨w.heap.size, 5, none⟩ = some (.int .i64 j.sub) ∧ w'.cell? ⟨w.heap.size, 6, none⟩ = some (.int .i64 j.state) ∧ w'.cell? ⟨w.heap.size, 7, none⟩ = some (.int .i64 j.start) ∧ w'.cell? ⟨w.heap.size, 8, none⟩ = some (.int .i64 j.fin) ∧ w.heap.size < w'.heap.size)
      (first | go_keep | (go_split_ands; exact keep_job (by assumption) (by assumption) (by assumption) (by assumption) (by assumption) (by assumption) (by assumption) (by assumption) (by assumption) (by assumption) (by assumption)))
      (first
        | (go_at_call 26; refine (CR.out _).mono ?_; rintro e w2 ⟨rfl, hb2⟩)
        | (go_at_call 25; refine (CA.out _ (thenS HB1.out (below_of_drew hb2))).mono ?_; rintro e w3 ⟨v3, r3, rfl, hs3, ha3, hb3, hn3⟩))
    have hb23 := thenS (thenS HB1.out (below_of_drew hb2)) hb3
    have hnew : NewAt w.heap.size v3 := hn3.mono (thenS HB1.out (below_of_drew hb2)).size
    obtain ⟨A3, c3, rfl, _⟩ := hs3.open_
    have HS := Lib.hid hs3
    have HA := Lib.hid (HI.out _ ha3)
    have HBB := Lib.hid hb23
    have HNW := Lib.hid hnew
    clear hs3 ha3 hb3 hb2 hb23 hn3 hnew CR CA HI z z0 z1 z2 z3 z4 z5 z6 z7 z8
    go_wp2_with fail
    go_ret2
    exact ⟨_, r3, _, rfl, HS.out, HA.out, HBB.out, HNW.out⟩
set_option maxRecDepth 100000 in
set_option maxHeartbeats 3200000 in
theorem chainG (s : List Sp) (now : Int) (js : List Jb) (v u : Value) (w : World) (hv : SpansIs s w v) (hl : s.length + 3 * js.length ≤ 1000) (hu : JobsIs js w u) : Calls Try.prog 17 #[v, .int .i64 now, u] w (ChainSays s now js w) := by
  obtain ⟨B, d, rfl, hnd, hB⟩ := hu.open_
  have HJ := Lib.hid hu
  have HJB := Lib.hid hB
  have CC := Lib.hid (StepWalk.checkS s v w hv (by omega))
  have HV := Lib.hid hv
  clear hu hB hnd
  cases hc : chkB s with
  | false =>
    obtain ⟨A, c, rfl, _⟩ := hv.open_
    rw [hc] at CC
    clear hv
    go_enter Try.func17, Try.ntmps17
    go_wp2_with fail
    refine CC.out.mono ?_
    rintro e w1 ⟨rfl, hb1⟩
    have HB1 := Lib.hid hb1
    clear hb1 CC
    go_wp2_with fail
    go_ret2
    exact ⟨_, _, [], [], rfl, IntsAt.nil _, .inl ⟨rfl, rfl⟩, .inr ⟨hc, rfl, rfl⟩, HB1.out⟩
  | true =>
    obtain ⟨A, c, rfl, hn, hA⟩ := hv.open2
    have hp : 0 < s.length := ((chk_iff s).1 hc).pos
    obtain ⟨ad, rfl, _, _, _⟩ := pair_zero hA hp
    rw [hc] at CC
    have HC := Lib.hid hc
    have CK : Hid (∀ W, Below w.heap.size w W → Calls Try.prog 32 #[.slice (some ad) s.length c] W (StepWalk.CloneIs s.length (svals s) W)) := fun W hW => StepWalk.cloneS ad s.length c (svals s) W (svals_len s) (by omega) (StepWalk.raw_of (HV.out.below hW)) (svals_cell s)
    clear hv hc hA
    go_enter Try.func17, Try.ntmps17
    go_wp2_with fail
    refine CC.out.mono ?_
    rintro e w1 ⟨rfl, hb1⟩
    have HB1 := Lib.hid hb1
    have CK1 := Lib.hid (CK.out w1 hb1)
    clear hb1 CC CK
    go_wp2_with fail
    refine CK1.out.mono ?_
    rintro e w2 ⟨v2, rfl, ho2, hb2⟩
    have HB2 := Lib.hid (thenS HB1.out hb2)
    have HS2 := Lib.hid (OwnR.spans ho2 rfl)
    clear hb2 ho2 CK1
    go_wp2_with fail
    go_loopw [8, 9, 22] (fun ov sv i wr => ∃ (k : Nat) (l : List Int) (t : List Sp), i = .int .i64 k ∧ k ≤ js.length ∧ Hid (ChainLoop s now js w k l t sv ov wr)) (fun _ _ i _ => js.length - (intOf i).toNat)
    case atStart => exact ⟨0, [], s, rfl, Nat.zero_le _, ChainTo.start s now js, rfl, Nat.le_refl _, HS2.out, OwnN.nil HB2.out.size, (fun a m c e hp q => by cases q), HB2.out⟩
    case round =>
      obtain ⟨k, l, t, rfl, hk, HL⟩ := hrel
      obtain ⟨hto, hlen, htl, hst, hown, hoff, hbl⟩ := HL.out
      by_cases hlt : k < js.length
      · obtain ⟨bd, rfl, hat⟩ := HJB.out k hlt
        obtain ⟨y, y0, y1, y2, y3, y4, y5, y6, y7, y8⟩ := hat.below hbl
        have hlt2 : (k : Int) < (js.length : Int) := by omega
        have i0 : (0 : Int) ≤ (k : Int) := Int.natCast_nonneg _
        have HN := Lib.hid (fun a b u h1 h2 => hto.next (a := a) (b := b) (u := u) hlt h1 h2)
        obtain ⟨j, hj2⟩ : ∃ j, j = js[k] := ⟨_, rfl⟩
        rw [← hj2] at y0 y1 y2 y3 y4 y5 y6 y7 y8 HN
        have hkl : k ≤ 1000 := by omega
        have HX := Lib.hid (JobBox.new wr j 25)
        have HBX := Lib.hid (box_s wr (.cells #[.int .i64 j.id, .string j.user, .int .i64 j.width, .int .i64 j.est, .int .i64 j.prio, .int .i64 j.sub, .int .i64 j.state, .int .i64 j.start, .int .i64 j.fin] 25))
        have CO := Lib.hid (ofShS t now j _ _ (hst.below HBX.out) (by omega))
        have HLEN := Lib.hid hlen
        have HTL := Lib.hid htl
        have HST := Lib.hid hst
        have HOW := Lib.hid hown
        have HBL := Lib.hid hbl
        have HOFF := Lib.hid hoff
        have hl25 : l.length ≤ 1000 := by omega
        obtain ⟨A2, c2, hsv, _⟩ := hst.open_
        obtain ⟨A3, c3, hov⟩ := hown.shape
        subst hsv
        subst hov
        have CL : Hid (∀ W a, Below wr.heap.size wr W → Calls Try.prog 11 #[.slice A2 t.length c2, .int .i64 a, jobV j] W (LaySaysN t a j W)) := fun W a hW => layN t a j _ W (HST.out.below hW) (by have := HTL.out; omega)
        clear hj2 hat HL hto hlen htl hst hown hbl hoff
        unfold jobV jobA at CO CL
        go_upto_region 8 with fail
        generalize wr.alloc (.cells #[.int .i64 j.id, .string j.user, .int .i64 j.width, .int .i64 j.est, .int .i64 j.prio, .int .i64 j.sub, .int .i64 j.state, .int .i64 j.start, .int .i64 j.fin] 25) = W0 at *
        clear y y0 y1 y2 y3 y4 y5 y6 y7 y8
        obtain ⟨y, y0, y1, y2, y3, y4, y5, y6, y7, y8, _, _, _, _, _, _, _, _, _⟩ := HX.out
        go_wp2_with fail
        refine CO.out.mono ?_
        rintro e w3 ⟨a, p, b, rfl, hsh, hb3⟩
        have HF := Lib.hid hsh.1
        have HB3 := Lib.hid (thenS HBX.out hb3)
        obtain ⟨z, z0, z1, z2, z3, z4, z5, z6, z7, z8, _, _, _, _, _, _, _, _, _⟩ := HX.out.below hb3
        clear hsh hb3 CO y y0 y1 y2 y3 y4 y5 y6 y7 y8
        cases b with
        | false =>
          have HO1 := Lib.hid ((HOW.out.below HB3.out).alloc (.cells #[.int .i64 (-1)] 3))
          have HS1 := Lib.hid ((HST.out.below HB3.out).below (box_s w3 (.cells #[.int .i64 (-1)] 3)))
          have HBB := Lib.hid (thenS (thenS HBL.out HB3.out) (box_s w3 (.cells #[.int .i64 (-1)] 3)))
          clear CL
          go_wp2_with (at_builtin; refine push_sep ints_t rfl (.tmp 36) (.tmp 37) rfl w.heap.size _ _ _ rfl HO1.out ⟨w3.heap.size, 0, none⟩ 1 1 [.int .i64 (-1)] rfl rfl ?ha1 Mem.one_cell ?ha2 ?_)
          case ha1 => exact Raw.alloc w3 _ _
          case ha2 => omega
          intro A4 c4 w4 ho4 hb4 hg4 hs4
          have HN4 : Hid (ChainLoop s now js w (k + 1) (l ++ [-1]) t (.slice A2 t.length c2) (.slice A4 (l.length + 1) c4) w4) :=
            ⟨HN.out a false t HF.out (.inr ⟨rfl, rfl⟩), by rw [List.length_append, HLEN.out]; rfl, by have := HTL.out; omega, spans_grown HS1.out hg4 HOFF.out, ho4.cast (by simp) (by simp [ivals]), HOFF.out.next HS1.out hs4, HBB.out.trans hb4⟩
          clear ho4 hb4 hg4 hs4 HN HO1 HS1 HBB HOFF HOW HST HB3 HBL z z0 z1 z2 z3 z4 z5 z6 z7 z8
          go_wp2_with fail
          exact ⟨⟨k + 1, l ++ [-1], t, by go_num, by omega, HN4.out⟩, by simp [intOf] <;> omega⟩
        | true =>
          have CL1 := Lib.hid (CL.out w3 a HB3.out)
          clear CL
          go_wp2_with fail
          refine CL1.out.mono ?_
          rintro e w5 ⟨v5, r5, b5, rfl, hs5, hly, hb5, hn5⟩
          have hr5 : AddIs t (runS a j) (-j.width) r5 := by
            rcases hly with ⟨_, _, h⟩ | ⟨h, _⟩
            · exact h
            · rw [fit_ok HF.out] at h; cases h
          have HB5 := Lib.hid (thenS HB3.out hb5)
          have HO1 := Lib.hid ((HOW.out.below HB5.out).alloc (.cells #[.int .i64 a] 3))
          have HS1 := Lib.hid (hs5.below (box_s w5 (.cells #[.int .i64 a] 3)))
          have HBB := Lib.hid (thenS (thenS HBL.out HB5.out) (box_s w5 (.cells #[.int .i64 a] 3)))
          have HOF : Hid (OffRow r5 v5 (.slice A3 l.length c3)) := OffRow.fresh hn5 (HOW.out.below HB3.out)
          have HR5 := Lib.hid hr5
          obtain ⟨A5, c5, rfl, _⟩ := hs5.open_
          clear hs5 hly hb5 hn5 hr5 CL1 z z0 z1 z2 z3 z4 z5 z6 z7 z8
          go_wp2_with (at_builtin; refine push_sep ints_t rfl (.tmp 46) (.tmp 48) rfl w.heap.size _ _ _ rfl HO1.out ⟨w5.heap.size, 0, none⟩ 1 1 [.int .i64 a] rfl rfl ?hb1 Mem.one_cell ?hb2 ?_)
          case hb1 => exact Raw.alloc w5 _ _
          case hb2 => omega
          intro A4 c4 w4 ho4 hb4 hg4 hs4
          have HN5 : Hid (ChainLoop s now js w (k + 1) (l ++ [a]) r5 (.slice A5 r5.length c5) (.slice A4 (l.length + 1) c4) w4) :=
            ⟨HN.out a true r5 HF.out (.inl ⟨rfl, HR5.out⟩), by rw [List.length_append, HLEN.out]; rfl, by have := HTL.out; have := add_len HR5.out; omega, spans_grown HS1.out hg4 HOF.out, ho4.cast (by simp) (by simp [ivals]), HOF.out.next HS1.out hs4, HBB.out.trans hb4⟩
          clear ho4 hb4 hg4 hs4 HN HO1 HS1 HBB HOFF HOW HST HB3 HBL HOF HR5
          go_wp2_with fail
          exact ⟨⟨k + 1, l ++ [a], r5, by go_num, by omega, HN5.out⟩, by simp [intOf] <;> omega⟩
      · obtain rfl : k = js.length := by omega
        have HCH := Lib.hid hto.done
        have HST := Lib.hid hst
        have HOW := Lib.hid (IntsAt.own hown rfl)
        have HBL := Lib.hid hbl
        clear HL hto hst hown hoff hbl
        go_wp2_with fail
        go_ret2
        exact ⟨_, _, l, t, rfl, HOW.out, HST.out, .inl ⟨HC.out, HCH.out⟩, HBL.out⟩
theorem layS (s : List Sp) (a : Int) (j : Jb) (v : Value) (w : World) (hv : SpansIs s w v) (hl : s.length ≤ 1000) : Calls Try.prog 11 #[v, .int .i64 a, jobV j] w (LaySays s a j w) := (layN s a j v w hv hl).mono fun _ _ ⟨v, r, b, h1, h2, h3, h4, _⟩ => ⟨v, r, b, h1, h2, h3, h4⟩
theorem liftS (s : List Sp) (a : Int) (j : Jb) (v : Value) (w : World) (hv : SpansIs s w v) (hl : s.length ≤ 1000) : Calls Try.prog 13 #[v, .int .i64 a, jobV j] w (LiftSays s a j w) := (liftN s a j v w hv hl).mono fun _ _ ⟨v, r, b, h1, h2, h3, h4, _⟩ => ⟨v, r, b, h1, h2, h3, h4⟩
theorem chainS (s : List Sp) (now : Int) (js : List Jb) (v u : Value) (w : World) (hv : SpansIs s w v) (hl : s.length ≤ 400) (hu : JobsIs js w u) (hm : js.length ≤ 200) : Calls Try.prog 17 #[v, .int .i64 now, u] w (ChainSays s now js w) := chainG s now js v u w hv (by omega) hu
end Go.Proofs.Ytonapgbokbeopaa.ShaWalk
