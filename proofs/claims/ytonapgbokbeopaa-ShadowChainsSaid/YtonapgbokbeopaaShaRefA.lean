/-
  The walks of the document's answers for layer 15: Of, Ok, Lay.
-/
import Derived.Test.YtonapgbokbeopaaGapRefA
import Derived.Test.YtonapgbokbeopaaStepRefF
import Derived.Test.YtonapgbokbeopaaShaPlain
import Derived.Test.YtonapgbokbeopaaOrdMem
namespace Go.Proofs.Ytonapgbokbeopaa.ShaRef
open Go.RowKit Go.Proofs.Ytonapgbokbeopaa.SpanPlain Go.Proofs.Ytonapgbokbeopaa.StepPlain Go.Proofs.Ytonapgbokbeopaa.GapPlain Go.Proofs.Ytonapgbokbeopaa.JobPlain Go.Proofs.Ytonapgbokbeopaa.ShaPlain Go.Proofs.Ytonapgbokbeopaa.Mem Go.Proofs.Ytonapgbokbeopaa.SpanMem Go.Proofs.Ytonapgbokbeopaa.StepMem Go.Proofs.Ytonapgbokbeopaa.JobMem Go.Proofs.Ytonapgbokbeopaa.OrdMem Go.Proofs.Ytonapgbokbeopaa.SpanRef Go.Proofs.Ytonapgbokbeopaa.StepRef Go.Proofs.Ytonapgbokbeopaa.GapRef
/-- The shadow as the document's answer tells it; -1: none. -/
def fitN (s : List Sp) (now : Int) (j : Jb) : Int := if mayG s j.width j.est = true then fitL s now j.width j.est else -1
def IntS (n : Int) (w : World) (e : Ending) (w' : World) : Prop := e = .returned (.int .i64 n) ∧ Below w.heap.size w w'
def BoolS (b : Bool) (w : World) (e : Ending) (w' : World) : Prop := e = .returned (.bool b) ∧ Below w.heap.size w w'
theorem box_s (w : World) (o : Obj) : Below w.heap.size w (w.alloc o) := (Below.refl _ _).alloc (Nat.le_refl _) o
theorem thenS {w w1 w2 : World} (h : Below w.heap.size w w1) (h2 : Below w1.heap.size w1 w2) : Below w.heap.size w w2 := h.trans (h2.mono h.size)
set_option maxHeartbeats 1600000 in
theorem of15 (s : List Sp) (now : Int) (j : Jb) (v : Value) (w : World) (hv : SpansIs s w v) (hl : s.length ≤ 9000) : Calls Try.prog 9 #[v, .int .i64 now, jobV j] w (IntS (fitN s now j) w) := by
  have HX := Lib.hid (JobBox.new w j 25)
  have HB := Lib.hid (box_s w (.cells #[.int .i64 j.id, .string j.user, .int .i64 j.width, .int .i64 j.est, .int .i64 j.prio, .int .i64 j.sub, .int .i64 j.state, .int .i64 j.start, .int .i64 j.fin] 25))
  have CM := Lib.hid (may6 s j.width j.est v (w.alloc (.cells #[.int .i64 j.id, .string j.user, .int .i64 j.width, .int .i64 j.est, .int .i64 j.prio, .int .i64 j.sub, .int .i64 j.state, .int .i64 j.start, .int .i64 j.fin] 25)) (hv.below HB.out) hl)
  have CF : Hid (mayG s j.width j.est = true → ∀ W, Below w.heap.size w W → Calls Try.prog 23 #[v, .int .i64 now, .int .i64 j.width, .int .i64 j.est] W (IntA (fitL s now j.width j.est) W)) := fun h W hW => fit6 s now j.width j.est v W (hv.below hW) hl (mayG_iff.1 h).1 (mayG_iff.1 h).2.2.1 (mayG_iff.1 h).2.2.2
  obtain ⟨A, c, rfl, _⟩ := hv.open_
  unfold fitN
  clear hv
  unfold jobV jobA
  generalize fitL s now j.width j.est = F at *
  cases hm : mayG s j.width j.est with
  | false =>
    rw [hm] at CM
    clear hm CF
    go_enter Try.func9, Try.ntmps9
    go_upto_region 1 with fail
    generalize w.alloc (.cells #[.int .i64 j.id, .string j.user, .int .i64 j.width, .int .i64 j.est, .int .i64 j.prio, .int .i64 j.sub, .int .i64 j.state, .int .i64 j.start, .int .i64 j.fin] 25) = W0 at *
    obtain ⟨y, y0, y1, y2, y3, y4, y5, y6, y7, y8, _, _, _, _, _, _, _, _, _⟩ := HX.out
    go_wp2_with fail
    refine CM.out.mono ?_
    rintro e w1 ⟨rfl, hb1⟩
    have HB1 := Lib.hid (thenS HB.out hb1)
    clear hb1
    go_wp2_with fail
    go_ret
    exact ⟨rfl, HB1.out⟩
  | true =>
    have CG := Lib.hid (CF.out hm)
    rw [hm] at CM
    clear hm CF
    go_enter Try.func9, Try.ntmps9
    go_upto_region 1 with fail
    generalize w.alloc (.cells #[.int .i64 j.id, .string j.user, .int .i64 j.width, .int .i64 j.est, .int .i64 j.prio, .int .i64 j.sub, .int .i64 j.state, .int .i64 j.start, .int .i64 j.fin] 25) = W0 at *
    obtain ⟨y, y0, y1, y2, y3, y4, y5, y6, y7, y8, _, _, _, _, _, _, _, _, _⟩ := HX.out
    go_wp2_with fail
    refine CM.out.mono ?_
    rintro e w1 ⟨rfl, hb1⟩
    have HB1 := Lib.hid (thenS HB.out hb1)
    obtain ⟨z, z0, z1, z2, z3, z4, z5, z6, z7, z8, _, _, _, _, _, _, _, _, _⟩ := HX.out.below hb1
    clear hb1 y y0 y1 y2 y3 y4 y5 y6 y7 y8
    go_wp2_with fail
    refine (CG.out _ HB1.out).mono ?_
    rintro e w2 ⟨rfl, hb2⟩
    have HB2 := Lib.hid (thenS HB1.out hb2)
    clear hb2
    go_wp2_with fail
    go_ret
    exact ⟨rfl, HB2.out⟩
set_option maxHeartbeats 1600000 in
theorem ok15 (s : List Sp) (a : Int) (j : Jb) (v : Value) (w : World) (hv : SpansIs s w v) (hl : s.length ≤ 9000) : Calls Try.prog 12 #[v, .int .i64 a, jobV j] w (BoolS (okG s a j.width j.est) w) := by
  have HX := Lib.hid (JobBox.new w j 25)
  have HB := Lib.hid (box_s w (.cells #[.int .i64 j.id, .string j.user, .int .i64 j.width, .int .i64 j.est, .int .i64 j.prio, .int .i64 j.sub, .int .i64 j.state, .int .i64 j.start, .int .i64 j.fin] 25))
  have CM := Lib.hid (may6 s j.width j.est v (w.alloc (.cells #[.int .i64 j.id, .string j.user, .int .i64 j.width, .int .i64 j.est, .int .i64 j.prio, .int .i64 j.sub, .int .i64 j.state, .int .i64 j.start, .int .i64 j.fin] 25)) (hv.below HB.out) hl)
  have CF : Hid (mayG s j.width j.est = true → ∀ W, Below w.heap.size w W → Calls Try.prog 27 #[v, .int .i64 a, .int .i64 j.width, .int .i64 j.est] W (BoolIs (roomB s a j.width j.est) W)) := fun h W hW => ok6 s a j.width j.est v W (hv.below hW) hl (mayG_iff.1 h).1 (mayG_iff.1 h).2.2.1 (mayG_iff.1 h).2.2.2
  obtain ⟨A, c, rfl, _⟩ := hv.open_
  unfold okG
  clear hv
  unfold jobV jobA
  generalize roomB s a j.width j.est = F at *
  cases hm : mayG s j.width j.est with
  | false =>
    rw [hm] at CM
    clear hm CF
    go_enter Try.func12, Try.ntmps12
    go_upto_region 1 with fail
    generalize w.alloc (.cells #[.int .i64 j.id, .string j.user, .int .i64 j.width, .int .i64 j.est, .int .i64 j.prio, .int .i64 j.sub, .int .i64 j.state, .int .i64 j.start, .int .i64 j.fin] 25) = W0 at *
    obtain ⟨y, y0, y1, y2, y3, y4, y5, y6, y7, y8, _, _, _, _, _, _, _, _, _⟩ := HX.out
    go_wp2_with fail
    refine CM.out.mono ?_
    rintro e w1 ⟨rfl, hb1⟩
    have HB1 := Lib.hid (thenS HB.out hb1)
    clear hb1
    go_wp2_with fail
    go_ret
    exact ⟨rfl, HB1.out⟩
  | true =>
    have CG := Lib.hid (CF.out hm)
    rw [hm] at CM
    clear hm CF
    go_enter Try.func12, Try.ntmps12
    go_upto_region 1 with fail
    generalize w.alloc (.cells #[.int .i64 j.id, .string j.user, .int .i64 j.width, .int .i64 j.est, .int .i64 j.prio, .int .i64 j.sub, .int .i64 j.state, .int .i64 j.start, .int .i64 j.fin] 25) = W0 at *
    obtain ⟨y, y0, y1, y2, y3, y4, y5, y6, y7, y8, _, _, _, _, _, _, _, _, _⟩ := HX.out
    go_wp2_with fail
    refine CM.out.mono ?_
    rintro e w1 ⟨rfl, hb1⟩
    have HB1 := Lib.hid (thenS HB.out hb1)
    obtain ⟨z, z0, z1, z2, z3, z4, z5, z6, z7, z8, _, _, _, _, _, _, _, _, _⟩ := HX.out.below hb1
    clear hb1 y y0 y1 y2 y3 y4 y5 y6 y7 y8
    go_wp2_with fail
    refine (CG.out _ HB1.out).mono ?_
    rintro e w2 ⟨rfl, hb2⟩
    have HB2 := Lib.hid (thenS HB1.out hb2)
    clear hb2
    go_wp2_with fail
    go_ret
    exact ⟨by cases F <;> rfl, HB2.out⟩
def LayTells (s : List Sp) (a : Int) (j : Jb) (w : World) (e : Ending) (w' : World) : Prop := ∃ v r, e = .returned v ∧ SpansIs r w' v ∧ AddIs s (runS a j) (-j.width) r ∧ Below w.heap.size w w' ∧ ∀ a m c, v = .slice (some a) m c → w.heap.size ≤ a.block
set_option maxHeartbeats 1600000 in
theorem lay15 (s : List Sp) (a : Int) (j : Jb) (v : Value) (w : World) (hv : SpansIs s w v) (hl : s.length ≤ 200) (hok : okG s a j.width j.est = true) : Calls Try.prog 15 #[v, .int .i64 a, jobV j] w (LayTells s a j w) := by
  obtain ⟨hc, hww, hee, hhd, h0, hmt, hx, hnb, hno⟩ := room_may hok
  have HX := Lib.hid (JobBox.new w j 25)
  have HB := Lib.hid (box_s w (.cells #[.int .i64 j.id, .string j.user, .int .i64 j.width, .int .i64 j.est, .int .i64 j.prio, .int .i64 j.sub, .int .i64 j.state, .int .i64 j.start, .int .i64 j.fin] 25))
  have CA : Hid (∀ W, Below w.heap.size w W → Calls Try.prog 16 #[v, spV (runS a j), .int .i64 (-j.width)] W (AddTellsN s (runS a j) (-j.width) W)) := fun W hW => add4n s (runS a j) (-j.width) v W (hv.below hW) hl hc hx (by omega) (by omega)
  have HNB := Lib.hid hnb
  have HNO := Lib.hid hno
  have hw1 : IntKind.i64.wrap (a + j.est) = a + j.est := by rw [IntKind.wrap_i64]; omega
  have hw2 : IntKind.i64.wrap (-j.width) = -j.width := by rw [IntKind.wrap_i64]; omega
  obtain ⟨A, c, rfl, _⟩ := hv.open_
  clear hv hc hww hhd hx hnb hno hok
  unfold spV runS at CA
  unfold jobV jobA
  go_enter Try.func15, Try.ntmps15
  go_upto_region 1 with fail
  generalize w.alloc (.cells #[.int .i64 j.id, .string j.user, .int .i64 j.width, .int .i64 j.est, .int .i64 j.prio, .int .i64 j.sub, .int .i64 j.state, .int .i64 j.start, .int .i64 j.fin] 25) = W0 at *
  obtain ⟨y, y0, y1, y2, y3, y4, y5, y6, y7, y8, _, _, _, _, _, _, _, _, _⟩ := HX.out
  go_wp2_with fail
  refine (CA.out _ HB.out).mono ?_
  rintro e w1 ⟨u, r, b, rfl, hs, hrl, hcase, hb1, hn1⟩
  have HB1 := Lib.hid (thenS HB.out hb1)
  have HS := Lib.hid hs
  have HR : Hid (AddIs s (runS a j) (-j.width) r) := by
    rcases hcase with ⟨_, h⟩ | ⟨_, _, h⟩
    · exact .inr (.inr ⟨HNB.out, h⟩)
    · exact absurd h HNO.out
  have HN1 : Hid (∀ a m c, u = .slice (some a) m c → w.heap.size ≤ a.block) := fun a m c e => Nat.le_trans HB.out.size (hn1 a m c e)
  clear hb1 hs hcase hrl hn1
  go_wp2_with fail
  go_ret
  exact ⟨_, r, rfl, HS.out, HR.out, HB1.out, HN1.out⟩
end Go.Proofs.Ytonapgbokbeopaa.ShaRef
