/-
  The walk of the statements of layer 15: ShadowLifts.
-/
import Derived.Test.YtonapgbokbeopaaShaLawB
import Derived.Test.YtonapgbokbeopaaStepRef0
import Derived.Deep.QuietTactic
import Derived.BigQuiet
namespace Go.Proofs.Ytonapgbokbeopaa.ShaWalk
open Go.RowKit Go.Proofs.Ytonapgbokbeopaa.SpanPlain Go.Proofs.Ytonapgbokbeopaa.StepPlain Go.Proofs.Ytonapgbokbeopaa.GapPlain Go.Proofs.Ytonapgbokbeopaa.JobPlain Go.Proofs.Ytonapgbokbeopaa.ShaPlain Go.Proofs.Ytonapgbokbeopaa.Mem Go.Proofs.Ytonapgbokbeopaa.SpanMem Go.Proofs.Ytonapgbokbeopaa.StepMem Go.Proofs.Ytonapgbokbeopaa.JobMem Go.Proofs.Ytonapgbokbeopaa.OrdMem Go.Proofs.Ytonapgbokbeopaa.SpanRef Go.Proofs.Ytonapgbokbeopaa.StepRef Go.Proofs.Ytonapgbokbeopaa.GapRef Go.Proofs.Ytonapgbokbeopaa.ShaRef
theorem lift_ways (s : List Sp) (a : Int) (j : Jb) : (mayLift s a j = false ∧ chkB s = false) ∨
    (mayLift s a j = false ∧ chkB s = true ∧ decide (a < 0) = true) ∨
    (mayLift s a j = false ∧ chkB s = true ∧ decide (a < 0) = false ∧ decide (1125899906842624 < a) = true) ∨
    (mayLift s a j = false ∧ chkB s = true ∧ decide (a < 0) = false ∧ decide (1125899906842624 < a) = false ∧ decide (j.est < 1) = true) ∨
    (mayLift s a j = false ∧ chkB s = true ∧ decide (a < 0) = false ∧ decide (1125899906842624 < a) = false ∧ decide (j.est < 1) = false ∧ decide (1099511627776 < j.est) = true) ∨
    (mayLift s a j = false ∧ chkB s = true ∧ decide (a < 0) = false ∧ decide (1125899906842624 < a) = false ∧ decide (j.est < 1) = false ∧ decide (1099511627776 < j.est) = false ∧ decide (j.width < 1) = true) ∨
    (mayLift s a j = false ∧ chkB s = true ∧ decide (a < 0) = false ∧ decide (1125899906842624 < a) = false ∧ decide (j.est < 1) = false ∧ decide (1099511627776 < j.est) = false ∧ decide (j.width < 1) = false ∧ decide (256 < j.width) = true) ∨
    (mayLift s a j = true ∧ chkB s = true ∧ decide (a < 0) = false ∧ decide (1125899906842624 < a) = false ∧ decide (j.est < 1) = false ∧ decide (1099511627776 < j.est) = false ∧ decide (j.width < 1) = false ∧ decide (256 < j.width) = false) := by
  have h : mayLift s a j = true ↔ chkB s = true ∧ 0 ≤ a ∧ a ≤ 1125899906842624 ∧ 1 ≤ j.est ∧ j.est ≤ 1099511627776 ∧ 1 ≤ j.width ∧ j.width ≤ 256 := by
    unfold mayLift
    simp only [Bool.and_eq_true, decide_eq_true_eq, and_assoc]
  have hf : ¬ mayLift s a j = true → mayLift s a j = false := fun h => by simpa using h
  cases hc : chkB s with
  | false => exact .inl ⟨hf fun q => (by have := (h.1 q).1; rw [hc] at this; cases this), rfl⟩
  | true =>
    right
    by_cases h1 : a < 0
    · exact .inl ⟨hf fun q => by have := h.1 q; omega, rfl, decide_eq_true h1⟩
    right
    by_cases h2 : 1125899906842624 < a
    · exact .inl ⟨hf fun q => by have := h.1 q; omega, rfl, decide_eq_false h1, decide_eq_true h2⟩
    right
    by_cases h3 : j.est < 1
    · exact .inl ⟨hf fun q => by have := h.1 q; omega, rfl, decide_eq_false h1, decide_eq_false h2, decide_eq_true h3⟩
    right
    by_cases h4 : 1099511627776 < j.est
    · exact .inl ⟨hf fun q => by have := h.1 q; omega, rfl, decide_eq_false h1, decide_eq_false h2, decide_eq_false h3, decide_eq_true h4⟩
    right
    by_cases h5 : j.width < 1
    · exact .inl ⟨hf fun q => by have := h.1 q; omega, rfl, decide_eq_false h1, decide_eq_false h2, decide_eq_false h3, decide_eq_false h4, decide_eq_true h5⟩
    right
    by_cases h6 : 256 < j.width
    · exact .inl ⟨hf fun q => by have := h.1 q; omega, rfl, decide_eq_false h1, decide_eq_false h2, decide_eq_false h3, decide_eq_false h4, decide_eq_false h5, decide_eq_true h6⟩
    right
    exact ⟨h.2 ⟨hc, by omega, by omega, by omega, by omega, by omega, by omega⟩, rfl, decide_eq_false h1, decide_eq_false h2, decide_eq_false h3, decide_eq_false h4, decide_eq_false h5, decide_eq_false h6⟩
theorem lift_may {s : List Sp} {a : Int} {j : Jb} (h : mayLift s a j = true) : Chk s ∧ (0 ≤ a ∧ a ≤ 1125899906842624) ∧ (1 ≤ j.est ∧ j.est ≤ 1099511627776) ∧ (1 ≤ j.width ∧ j.width ≤ 256) ∧ May (runS a j) ∧ ¬ addBad s (runS a j) j.width := by
  unfold mayLift at h
  simp only [Bool.and_eq_true, decide_eq_true_eq, and_assoc] at h
  obtain ⟨h0, h1, h2, h3, h4, h5, h6⟩ := h
  have hx : May (runS a j) := ⟨by show (0 : Int) ≤ a; omega, by show a < a + j.est; omega, by show a + j.est ≤ _; omega⟩
  refine ⟨(chk_iff s).1 h0, ⟨h1, h2⟩, ⟨h3, h4⟩, ⟨h5, h6⟩, hx, ?_⟩
  rintro (q | q | q | q)
  · rw [h0] at q; cases q
  · rw [(mayB_iff _).2 hx] at q; cases q
  · omega
  · omega
/-- A job that ran ahead of all steps is lifted for nothing. -/
theorem lift_early {s : List Sp} {a : Int} {j : Jb} (h : mayLift s a j = true) (he : a + j.est ≤ head s) : Rep s (head s) (addF s (runS a j) j.width) := by
  obtain ⟨hc, _⟩ := lift_may h
  refine (Rep.self hc).congr fun t ht => ?_
  unfold addF
  rw [if_neg]
  intro q
  have := (hasB_iff.1 q).2.2
  have h2 : t < a + j.est := this
  omega
/-- What the statement asks of what Lift tells. -/
theorem lift_cases {s r : List Sp} {a : Int} {j : Jb} {b : Bool} (h : LiftIs s a j r b) (hm : mayLift s a j = true) : (b = false ∧ r = [] ∧ addOut s (runS a j) j.width ∧ ¬ a + j.est ≤ head s) ∨ (b = true ∧ ¬ addOut s (runS a j) j.width ∧ Rep r (head s) (addF s (runS a j) j.width)) := by
  rcases h with ⟨h, _⟩ | ⟨_, h2, h3, h4⟩ | ⟨_, h2, h3, h4⟩
  · rw [hm] at h; cases h
  · exact .inl ⟨h3, h4, h2, fun he => rep_fits (lift_early hm he) h2⟩
  · refine .inr ⟨h3, h2, ?_⟩
    rcases h4 with ⟨q, _⟩ | ⟨_, q, _⟩ | ⟨_, q⟩
    · exact absurd q (lift_may hm).2.2.2.2.2
    · exact absurd q h2
    · exact q
set_option maxRecDepth 100000 in
set_option maxHeartbeats 1200000 in
theorem lifts_any (s : List Sp) (a : Int) (j : Jb) (v : Value) (w : World) (hv : SpansIs s w v) : Calls Try.prog 4 #[v, .int .i64 a, jobV j] w (TrueIs w) := by
  have HV := Lib.hid hv
  obtain ⟨A, cap, rfl, hA⟩ := hv.open_
  have HA := Lib.hid hA
  clear hv hA
  have HAW := Lib.hid (fun w => awake_any w)
  have HX := Lib.hid (JobBox.new w j 25)
  have HB := Lib.hid (box_s w (.cells #[.int .i64 j.id, .string j.user, .int .i64 j.width, .int .i64 j.est, .int .i64 j.prio, .int .i64 j.sub, .int .i64 j.state, .int .i64 j.start, .int .i64 j.fin] 25))
  by_cases h1 : s.length ≤ 100
  · have d1 : decide ((100 : Int) < (s.length : Int)) = false := by rw [decide_eq_false_iff_not]; omega
    have CL : Hid (∀ W, Below w.heap.size w W → Calls Try.prog 13 #[.slice A s.length cap, .int .i64 a, jobV j] W (LiftSays s a j W)) := fun W hW => liftS s a j _ W (HV.out.below hW) (by omega)
    have CK : Hid (∀ W, Below w.heap.size w W → Calls Try.prog 8 #[.slice A s.length cap] W (BoolD (chkB s) W)) := fun W hW => check4 s _ W (HV.out.below hW) (by omega)
    have CA : Hid (mayLift s a j = true → ∀ W, Below w.heap.size w W → Calls Try.prog 16 #[.slice A s.length cap, spV (runS a j), .int .i64 j.width] W (AddTellsN s (runS a j) j.width W)) := fun h W hW => by
      obtain ⟨q1, q2, q3, q4, q5, _⟩ := lift_may h
      exact add4n s (runS a j) j.width _ W (HV.out.below hW) (by omega) q1 q5 (by omega) (by omega)
    have hways := lift_ways s a j
    unfold jobV jobA spV runS at *
    go_enter Try.func4, Try.ntmps4
    go_upto_region 1 with fail
    generalize w.alloc (.cells #[.int .i64 j.id, .string j.user, .int .i64 j.width, .int .i64 j.est, .int .i64 j.prio, .int .i64 j.sub, .int .i64 j.state, .int .i64 j.start, .int .i64 j.fin] 25) = W0 at *
    obtain ⟨y, y0, y1, y2, y3, y4, y5, y6, y7, y8, _, _, _, _, _, _, _, _, _⟩ := HX.out
    go_wp2_with fail
    refine (CL.out _ HB.out).mono ?_
    rintro e w2 ⟨v2, r, b, rfl, hs2, hl2, hb2⟩
    have HB2 := Lib.hid (thenS HB.out hb2)
    have HX2 := Lib.hid (HX.out.below hb2)
    have HS2 := Lib.hid hs2
    have HLI := Lib.hid hl2
    clear hb2 hs2 hl2 CL HX HB y y0 y1 y2 y3 y4 y5 y6 y7 y8
    rcases hways with ⟨h0, g0⟩ | ⟨h0, g0, g1⟩ | ⟨h0, g0, g1, g2⟩ | ⟨h0, g0, g1, g2, g3⟩ | ⟨h0, g0, g1, g2, g3, g4⟩ | ⟨h0, g0, g1, g2, g3, g4, g5⟩ | ⟨h0, g0, g1, g2, g3, g4, g5, g6⟩ | ⟨h0, g0, g1, g2, g3, g4, g5, g6⟩
    · obtain ⟨rfl, rfl⟩ : b = false ∧ r = [] := by
        rcases HLI.out with ⟨_, h2, h3⟩ | ⟨h, _⟩ | ⟨h, _⟩
        · exact ⟨h2, h3⟩
        · rw [h0] at h; cases h
        · rw [h0] at h; cases h
      obtain ⟨A2, c2, rfl⟩ := spans_none HS2.out
      rw [g0] at CK
      clear h0 HLI CA
      go_wp2_with fail
      refine (CK.out _ HB2.out).mono ?_
      rintro e w3 ⟨rfl, n3, rfl⟩
      have HB3 := Lib.hid (drew_s HB2.out n3)
      have HX3 := Lib.hid (HX2.out.drewN n3)
      generalize w2.drewN n3 = W3 at *
      clear HX2 HB2 CK
      obtain ⟨z, z0, z1, z2, z3, z4, z5, z6, z7, z8, _, _, _, _, _, _, _, _, _⟩ := HX3.out
      go_wp2_with fail
      refine (HAW.out _).mono ?_
      rintro e w4 ⟨rfl, hb4⟩
      have HB4 := Lib.hid (thenS HB3.out hb4)
      clear hb4
      go_wp2_with fail
      go_ret
      exact ⟨rfl, HB4.out⟩
    · obtain ⟨rfl, rfl⟩ : b = false ∧ r = [] := by
        rcases HLI.out with ⟨_, h2, h3⟩ | ⟨h, _⟩ | ⟨h, _⟩
        · exact ⟨h2, h3⟩
        · rw [h0] at h; cases h
        · rw [h0] at h; cases h
      obtain ⟨A2, c2, rfl⟩ := spans_none HS2.out
      rw [g0] at CK
      clear h0 HLI CA
      go_wp2_with fail
      refine (CK.out _ HB2.out).mono ?_
      rintro e w3 ⟨rfl, n3, rfl⟩
      have HB3 := Lib.hid (drew_s HB2.out n3)
      have HX3 := Lib.hid (HX2.out.drewN n3)
      generalize w2.drewN n3 = W3 at *
      clear HX2 HB2 CK
      obtain ⟨z, z0, z1, z2, z3, z4, z5, z6, z7, z8, _, _, _, _, _, _, _, _, _⟩ := HX3.out
      go_wp2_with fail
      refine (HAW.out _).mono ?_
      rintro e w4 ⟨rfl, hb4⟩
      have HB4 := Lib.hid (thenS HB3.out hb4)
      clear hb4
      go_wp2_with fail
      go_ret
      exact ⟨rfl, HB4.out⟩
    · obtain ⟨rfl, rfl⟩ : b = false ∧ r = [] := by
        rcases HLI.out with ⟨_, h2, h3⟩ | ⟨h, _⟩ | ⟨h, _⟩
        · exact ⟨h2, h3⟩
        · rw [h0] at h; cases h
        · rw [h0] at h; cases h
      obtain ⟨A2, c2, rfl⟩ := spans_none HS2.out
      rw [g0] at CK
      clear h0 HLI CA
      go_wp2_with fail
      refine (CK.out _ HB2.out).mono ?_
      rintro e w3 ⟨rfl, n3, rfl⟩
      have HB3 := Lib.hid (drew_s HB2.out n3)
      have HX3 := Lib.hid (HX2.out.drewN n3)
      generalize w2.drewN n3 = W3 at *
      clear HX2 HB2 CK
      obtain ⟨z, z0, z1, z2, z3, z4, z5, z6, z7, z8, _, _, _, _, _, _, _, _, _⟩ := HX3.out
      go_wp2_with fail
      refine (HAW.out _).mono ?_
      rintro e w4 ⟨rfl, hb4⟩
      have HB4 := Lib.hid (thenS HB3.out hb4)
      clear hb4
      go_wp2_with fail
      go_ret
      exact ⟨rfl, HB4.out⟩
    · obtain ⟨rfl, rfl⟩ : b = false ∧ r = [] := by
        rcases HLI.out with ⟨_, h2, h3⟩ | ⟨h, _⟩ | ⟨h, _⟩
        · exact ⟨h2, h3⟩
        · rw [h0] at h; cases h
        · rw [h0] at h; cases h
      obtain ⟨A2, c2, rfl⟩ := spans_none HS2.out
      rw [g0] at CK
      clear h0 HLI CA
      go_wp2_with fail
      refine (CK.out _ HB2.out).mono ?_
      rintro e w3 ⟨rfl, n3, rfl⟩
      have HB3 := Lib.hid (drew_s HB2.out n3)
      have HX3 := Lib.hid (HX2.out.drewN n3)
      generalize w2.drewN n3 = W3 at *
      clear HX2 HB2 CK
      obtain ⟨z, z0, z1, z2, z3, z4, z5, z6, z7, z8, _, _, _, _, _, _, _, _, _⟩ := HX3.out
      go_wp2_with fail
      refine (HAW.out _).mono ?_
      rintro e w4 ⟨rfl, hb4⟩
      have HB4 := Lib.hid (thenS HB3.out hb4)
      clear hb4
      go_wp2_with fail
      go_ret
      exact ⟨rfl, HB4.out⟩
    · obtain ⟨rfl, rfl⟩ : b = false ∧ r = [] := by
        rcases HLI.out with ⟨_, h2, h3⟩ | ⟨h, _⟩ | ⟨h, _⟩
        · exact ⟨h2, h3⟩
        · rw [h0] at h; cases h
        · rw [h0] at h; cases h
      obtain ⟨A2, c2, rfl⟩ := spans_none HS2.out
      rw [g0] at CK
      clear h0 HLI CA
      go_wp2_with fail
      refine (CK.out _ HB2.out).mono ?_
      rintro e w3 ⟨rfl, n3, rfl⟩
      have HB3 := Lib.hid (drew_s HB2.out n3)
      have HX3 := Lib.hid (HX2.out.drewN n3)
      generalize w2.drewN n3 = W3 at *
      clear HX2 HB2 CK
      obtain ⟨z, z0, z1, z2, z3, z4, z5, z6, z7, z8, _, _, _, _, _, _, _, _, _⟩ := HX3.out
      go_wp2_with fail
      refine (HAW.out _).mono ?_
      rintro e w4 ⟨rfl, hb4⟩
      have HB4 := Lib.hid (thenS HB3.out hb4)
      clear hb4
      go_wp2_with fail
      go_ret
      exact ⟨rfl, HB4.out⟩
    · obtain ⟨rfl, rfl⟩ : b = false ∧ r = [] := by
        rcases HLI.out with ⟨_, h2, h3⟩ | ⟨h, _⟩ | ⟨h, _⟩
        · exact ⟨h2, h3⟩
        · rw [h0] at h; cases h
        · rw [h0] at h; cases h
      obtain ⟨A2, c2, rfl⟩ := spans_none HS2.out
      rw [g0] at CK
      clear h0 HLI CA
      go_wp2_with fail
      refine (CK.out _ HB2.out).mono ?_
      rintro e w3 ⟨rfl, n3, rfl⟩
      have HB3 := Lib.hid (drew_s HB2.out n3)
      have HX3 := Lib.hid (HX2.out.drewN n3)
      generalize w2.drewN n3 = W3 at *
      clear HX2 HB2 CK
      obtain ⟨z, z0, z1, z2, z3, z4, z5, z6, z7, z8, _, _, _, _, _, _, _, _, _⟩ := HX3.out
      go_wp2_with fail
      refine (HAW.out _).mono ?_
      rintro e w4 ⟨rfl, hb4⟩
      have HB4 := Lib.hid (thenS HB3.out hb4)
      clear hb4
      go_wp2_with fail
      go_ret
      exact ⟨rfl, HB4.out⟩
    · obtain ⟨rfl, rfl⟩ : b = false ∧ r = [] := by
        rcases HLI.out with ⟨_, h2, h3⟩ | ⟨h, _⟩ | ⟨h, _⟩
        · exact ⟨h2, h3⟩
        · rw [h0] at h; cases h
        · rw [h0] at h; cases h
      obtain ⟨A2, c2, rfl⟩ := spans_none HS2.out
      rw [g0] at CK
      clear h0 HLI CA
      go_wp2_with fail
      refine (CK.out _ HB2.out).mono ?_
      rintro e w3 ⟨rfl, n3, rfl⟩
      have HB3 := Lib.hid (drew_s HB2.out n3)
      have HX3 := Lib.hid (HX2.out.drewN n3)
      generalize w2.drewN n3 = W3 at *
      clear HX2 HB2 CK
      obtain ⟨z, z0, z1, z2, z3, z4, z5, z6, z7, z8, _, _, _, _, _, _, _, _, _⟩ := HX3.out
      go_wp2_with fail
      refine (HAW.out _).mono ?_
      rintro e w4 ⟨rfl, hb4⟩
      have HB4 := Lib.hid (thenS HB3.out hb4)
      clear hb4
      go_wp2_with fail
      go_ret
      exact ⟨rfl, HB4.out⟩
    · have CA2 := Lib.hid (CA.out h0)
      have HLC := Lib.hid (lift_cases HLI.out h0)
      have HE := Lib.hid (fun he => lift_early h0 he)
      obtain ⟨hc, ha, he, hww, hx, hnb⟩ := lift_may h0
      have HNB := Lib.hid hnb
      have hw1 : IntKind.i64.wrap (a + j.est) = a + j.est := by rw [IntKind.wrap_i64]; omega
      have hlz : (0 : Int) < (s.length : Int) := by have := hc.pos; omega
      have hp := hc.pos
      rw [g0] at CK
      obtain ⟨A2, c2, hv2, _⟩ := HS2.out.open_
      subst hv2
      clear h0 HLI CA hc hx hnb
      go_wp2_with fail
      refine (CK.out _ HB2.out).mono ?_
      rintro e w3 ⟨rfl, n3, rfl⟩
      have HB3 := Lib.hid (drew_s HB2.out n3)
      have HX3 := Lib.hid (HX2.out.drewN n3)
      have HS3 := Lib.hid (HS2.out.below (below_drewN (Below.refl w2.heap.size w2) n3))
      generalize w2.drewN n3 = W3 at *
      clear HX2 HB2 CK HS2
      obtain ⟨z, z0, z1, z2, z3, z4, z5, z6, z7, z8, _, _, _, _, _, _, _, _, _⟩ := HX3.out
      go_wp2_with fail
      refine (CA2.out _ HB3.out).mono ?_
      rintro e w4 ⟨v4, r4, b4, rfl, hs4, hrl4, hcase4, hb4, _⟩
      have HB4 := Lib.hid (thenS HB3.out hb4)
      have HX4 := Lib.hid (HX3.out.below hb4)
      have HS4 := Lib.hid (HS3.out.below hb4)
      have HR4 := Lib.hid hs4
      have HC4 := Lib.hid hcase4
      obtain ⟨A4, c4, hv4, _⟩ := hs4.open_
      subst hv4
      clear hb4 hs4 hcase4 CA2 HX3 HB3 HS3 z z0 z1 z2 z3 z4 z5 z6 z7 z8
      obtain ⟨z, z0, z1, z2, z3, z4, z5, z6, z7, z8, _, _, _, _, _, _, _, _, _⟩ := HX4.out
      obtain ⟨ad, rfl, had, x1, _⟩ := pair_zero (HA.out.below HB4.out) hp
      have hh : (spCell s 0).1 = .int .i64 (head s) := rfl
      rw [hh] at x1
      by_cases hd : a + j.est ≤ head s
      · have d2 : decide (a + j.est ≤ head s) = true := decide_eq_true hd
        go_upto_region 7 with fail
        go_quiet (fail)
        have HB5 := Lib.hid (drew_s HB4.out nq)
        have HV5 := Lib.hid (HV.out.below HB5.out)
        have HS5 := Lib.hid (HS4.out.below (below_drewN (Below.refl w4.heap.size w4) nq))
        have HR5 := Lib.hid (HR4.out.below (below_drewN (Below.refl w4.heap.size w4) nq))
        generalize w4.drewN nq = W5 at *
        clear z z0 z1 z2 z3 z4 z5 z6 z7 z8 x1 had HX4 HB4 HS4 HR4
        rcases HLC.out with ⟨_, _, _, h4⟩ | ⟨rfl, _, h3⟩
        · omega
        · obtain rfl := Rep.unique h3 (HE.out hd)
          have CS1 := Lib.hid (same4 r r _ _ W5 HS5.out HV5.out (by omega) (by omega))
          rw [decide_eq_true rfl] at CS1
          clear hd HLC HE HC4 h3
          go_wp2_with fail
          refine CS1.out.mono ?_
          rintro e w6 ⟨rfl, n6, rfl⟩
          go_wp2_with fail
          refine (HAW.out _).mono ?_
          rintro e w7 ⟨rfl, hb7⟩
          have HB7 := Lib.hid (thenS (drew_s HB5.out n6) hb7)
          clear hb7
          go_wp2_with fail
          go_ret
          exact ⟨rfl, HB7.out⟩
      · have d2 : decide (a + j.est ≤ head s) = false := decide_eq_false hd
        go_upto_region 7 with fail
        go_quiet (fail)
        have HB5 := Lib.hid (drew_s HB4.out nq)
        have HV5 := Lib.hid (HV.out.below HB5.out)
        have HS5 := Lib.hid (HS4.out.below (below_drewN (Below.refl w4.heap.size w4) nq))
        have HR5 := Lib.hid (HR4.out.below (below_drewN (Below.refl w4.heap.size w4) nq))
        generalize w4.drewN nq = W5 at *
        clear z z0 z1 z2 z3 z4 z5 z6 z7 z8 x1 had HX4 HB4 HS4 HR4
        rcases HLC.out with ⟨rfl, rfl, h3, _⟩ | ⟨rfl, h2, h3⟩
        · obtain rfl : b4 = false := by
            rcases HC4.out with ⟨_, q⟩ | ⟨q, _⟩
            · exact absurd h3 (rep_fits q)
            · exact q
          clear hd HLC HE HC4 h3
          go_wp2_with fail
          refine (HAW.out _).mono ?_
          rintro e w7 ⟨rfl, hb7⟩
          have HB7 := Lib.hid (thenS HB5.out hb7)
          clear hb7
          go_wp2_with fail
          go_ret
          exact ⟨rfl, HB7.out⟩
        · obtain ⟨rfl, q⟩ : b4 = true ∧ Rep r4 (head s) (addF s (a, a + j.est) j.width) := by
            rcases HC4.out with q | ⟨_, _, q⟩
            · exact q
            · exact absurd q h2
          obtain rfl := Rep.unique q h3
          have hrl : r4.length ≤ 700 := hrl4
          have CS1 := Lib.hid (same4 r4 r4 _ _ W5 HS5.out HR5.out (by omega) (by omega))
          rw [decide_eq_true rfl] at CS1
          clear hd HLC HE HC4 h3 h2 q
          go_wp2_with fail
          refine CS1.out.mono ?_
          rintro e w6 ⟨rfl, n6, rfl⟩
          go_wp2_with fail
          refine (HAW.out _).mono ?_
          rintro e w7 ⟨rfl, hb7⟩
          have HB7 := Lib.hid (thenS (drew_s HB5.out n6) hb7)
          clear hb7
          go_wp2_with fail
          go_ret
          exact ⟨rfl, HB7.out⟩
  · have d1 : decide ((100 : Int) < (s.length : Int)) = true := by rw [decide_eq_true_iff]; omega
    unfold jobV jobA at *
    go_enter Try.func4, Try.ntmps4
    go_upto_region 1 with fail
    generalize w.alloc (.cells #[.int .i64 j.id, .string j.user, .int .i64 j.width, .int .i64 j.est, .int .i64 j.prio, .int .i64 j.sub, .int .i64 j.state, .int .i64 j.start, .int .i64 j.fin] 25) = W0 at *
    go_wp2_with fail
    refine (HAW.out _).mono ?_
    rintro e w2 ⟨rfl, hb2⟩
    have HB2 := Lib.hid (thenS HB.out hb2)
    clear hb2
    go_wp2_with fail
    go_ret
    exact ⟨rfl, HB2.out⟩
end Go.Proofs.Ytonapgbokbeopaa.ShaWalk
