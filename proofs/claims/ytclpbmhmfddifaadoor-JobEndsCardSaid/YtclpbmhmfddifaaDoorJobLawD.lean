/-
  The walks of the statements of layer 7: JobEnds.
-/
import Derived.Test.YtclpbmhmfddifaaDoorJobLawA
import Derived.Deep.RegionHeld3
namespace Go.Proofs.YtclpbmhmfddifaaDoor.JobWalk
open Go.RowKit Go.Proofs.YtclpbmhmfddifaaDoor.JobPlain Go.Proofs.YtclpbmhmfddifaaDoor.Mem Go.Proofs.YtclpbmhmfddifaaDoor.JobMem Go.Proofs.YtclpbmhmfddifaaDoor.JobRef
theorem below_box (w : World) (o : Obj) : Below w.heap.size w (w.alloc o) := (Below.refl _ _).alloc (Nat.le_refl _) o
/-- A slice of pairs of integers that fit. -/
def TwosIs (l : List (Int × Int)) (w : World) (v : Value) : Prop := ∃ A c, v = .slice A l.length c ∧ Pairs w A l.length (fun i => (.int .i64 (l.getD i (0, 0)).1, .int .i64 (l.getD i (0, 0)).2)) ∧ ∀ p ∈ l, -9223372036854775808 ≤ p.2 ∧ p.2 ≤ 9223372036854775807
theorem twos_fit {l : List (Int × Int)} (h : ∀ p ∈ l, -9223372036854775808 ≤ p.2 ∧ p.2 ≤ 9223372036854775807) {k : Nat} (hk : k < l.length) : -9223372036854775808 ≤ (l.getD k (0, 0)).2 ∧ (l.getD k (0, 0)).2 ≤ 9223372036854775807 := by
  have : l.getD k (0, 0) = l[k] := by simp [List.getD, hk]
  rw [this]
  exact h _ (List.getElem_mem hk)
/-- How the loop stands: how often it started; the job it is. -/
structure EndsAt (w wr : World) (c : Int) (J : Jb) : Prop where
  c0 : 0 ≤ c
  c1 : c ≤ 1
  on : c = 1 → 2 ≤ J.state
  may : mayJ J = true
  fit : Fit J
  box : JobBox wr w.heap.size J
  below : Below w.heap.size w wr
/-- What holds of what was turned. -/
theorem ends_next {w wr wq : World} {c : Int} {J X : Jb} {ev t : Int} (h : EndsAt w wr c J) (ht : turnL J ev t = (X, 0)) (hf : Fit X) (hb : JobBox wq w.heap.size X) (hbl : Below w.heap.size w wq) :
    ((X.state == 2) = true ∧ c = 0 ∧ EndsAt w wq 1 X) ∨ ((X.state == 2) = false ∧ EndsAt w wq c X) := by
  obtain ⟨_, _, _, h4, h5, h6, h7⟩ := turn_keeps ht
  by_cases hx : X.state = 2
  · have h8 := h6 hx
    have hc : c = 0 := by
      rcases (show c = 0 ∨ c = 1 by have := h.c0; have := h.c1; omega) with hc | hc
      · exact hc
      · have := h.on hc; omega
    exact .inl ⟨by simpa using hx, hc, by omega, by omega, fun _ => by omega, h5, hf, hb, hbl⟩
  · exact .inr ⟨by simpa using hx, h.c0, h.c1, fun hc => by have := h7 (h.on hc); omega, h5, hf, hb, hbl⟩
/-- The tests on what was turned, all of them false. -/
theorem ends_tests {J X : Jb} {ev t : Int} (ht : turnL J ev t = (X, 0)) : decide (2 < J.state) = false ∧ mayJ X = true ∧ IntKind.i64.wrap (X.fin - X.start) = X.fin - X.start ∧ decide (X.est < X.fin - X.start) = false ∧ (X.id != J.id) = false ∧ (X.width != J.width) = false := by
  obtain ⟨h1, h2, h3, h4, h5, _⟩ := turn_keeps ht
  obtain ⟨f1, f2, f3, f4, _⟩ := may_fin h5
  exact ⟨decide_eq_false (by omega), h5, by rw [IntKind.wrap_i64]; omega, decide_eq_false (by omega), by simpa using h1, by simpa using h2⟩
theorem e_ways (J : Jb) (ev t : Int) : (((turnL J ev t).2 != 0) = true) ∨ (((turnL J ev t).2 != 0) = false ∧ turnL J ev t = ((turnL J ev t).1, 0)) := by
  by_cases h : (turnL J ev t).2 = 0
  · exact .inr ⟨by simpa using h, Prod.ext rfl h⟩
  · exact .inl (by simpa using h)
theorem end_alloc {w5 wr : World} (hb : Below wr.heap.size wr w5) (X : Jb) (T : TypeId) : Hid (JobBox (w5.alloc (.cells #[.int .i64 X.id, .string X.user, .int .i64 X.width, .int .i64 X.est, .int .i64 X.prio, .int .i64 X.sub, .int .i64 X.state, .int .i64 X.start, .int .i64 X.fin] T)) w5.heap.size X ∧ Below wr.heap.size wr (w5.alloc (.cells #[.int .i64 X.id, .string X.user, .int .i64 X.width, .int .i64 X.est, .int .i64 X.prio, .int .i64 X.sub, .int .i64 X.state, .int .i64 X.start, .int .i64 X.fin] T)) ∧ wr.heap.size ≤ w5.heap.size) := ⟨JobBox.new _ _ _, hb.alloc hb.size _, hb.size⟩
theorem end_stored {w5 wr : World} {j : Jb} (h : JobBox w5 wr.heap.size j) (hb : Below wr.heap.size wr w5) (X : Jb) : Hid (JobBox (((((((((w5.setCell ⟨wr.heap.size, 0, none⟩ (.int .i64 X.id)).setCell ⟨wr.heap.size, 1, none⟩ (.string X.user)).setCell ⟨wr.heap.size, 2, none⟩ (.int .i64 X.width)).setCell ⟨wr.heap.size, 3, none⟩ (.int .i64 X.est)).setCell ⟨wr.heap.size, 4, none⟩ (.int .i64 X.prio)).setCell ⟨wr.heap.size, 5, none⟩ (.int .i64 X.sub)).setCell ⟨wr.heap.size, 6, none⟩ (.int .i64 X.state)).setCell ⟨wr.heap.size, 7, none⟩ (.int .i64 X.start)).setCell ⟨wr.heap.size, 8, none⟩ (.int .i64 X.fin)) wr.heap.size X ∧ Below wr.heap.size wr (((((((((w5.setCell ⟨wr.heap.size, 0, none⟩ (.int .i64 X.id)).setCell ⟨wr.heap.size, 1, none⟩ (.string X.user)).setCell ⟨wr.heap.size, 2, none⟩ (.int .i64 X.width)).setCell ⟨wr.heap.size, 3, none⟩ (.int .i64 X.est)).setCell ⟨wr.heap.size, 4, none⟩ (.int .i64 X.prio)).setCell ⟨wr.heap.size, 5, none⟩ (.int .i64 X.sub)).setCell ⟨wr.heap.size, 6, none⟩ (.int .i64 X.state)).setCell ⟨wr.heap.size, 7, none⟩ (.int .i64 X.start)).setCell ⟨wr.heap.size, 8, none⟩ (.int .i64 X.fin)) ∧ wr.heap.size ≤ wr.heap.size) := ⟨h.stored X, below_stored hb (Nat.le_refl _) X, Nat.le_refl _⟩
set_option maxRecDepth 100000 in
set_option maxHeartbeats 6400000 in
theorem ends_any (j : Jb) (l : List (Int × Int)) (v : Value) (w : World) (hL : Lays w) (hf : Fit j) (hv : TwosIs l w v) : Calls Tryd.prog 5 #[jobV j, v] w (TrueIs w) := by
  obtain ⟨A, cap, rfl, hA, hfit⟩ := hv
  have HA := Lib.hid hA
  have HFIT := Lib.hid hfit
  clear hA hfit
  have HX0 := Lib.hid (JobBox.new w j 23)
  have HB0 := Lib.hid ((Below.refl w.heap.size w).alloc (Nat.le_refl _) (.cells #[.int .i64 j.id, .string j.user, .int .i64 j.width, .int .i64 j.est, .int .i64 j.prio, .int .i64 j.sub, .int .i64 j.state, .int .i64 j.start, .int .i64 j.fin] 23))
  have HAW := Lib.hid (fun W (h : Below w.heap.size w W) => awake7 W (hL.below h))
  have RM := Lib.hid (fun (J : Jb) (W : World) (h : Fit J) => may7 J W h)
  have CT := Lib.hid (fun (J : Jb) (ev t : Int) (W : World) (h : Below w.heap.size w W) (hf : Fit J) (ht : -9223372036854775808 ≤ t ∧ t ≤ 9223372036854775807) => turnS J ev t W (hL.below h) hf ht)
  have HFJ := Lib.hid hf
  unfold TurnIs at CT
  unfold jobV jobA at *
  clear hL hf
  by_cases h1 : l.length ≤ 60 ∧ j.user.size ≤ 100
  · have d1 : decide ((60 : Int) < (l.length : Int)) = false := by rw [decide_eq_false_iff_not]; omega
    have d2 : decide ((100 : Int) < (j.user.size : Int)) = false := by rw [decide_eq_false_iff_not]; omega
    have RM1 := Lib.hid (fun W => RM.out j W HFJ.out)
    cases hm : mayJ j with
    | false =>
      rw [hm] at RM1
      clear hm
      go_enter Tryd.func5, Tryd.ntmps5
      go_upto_region 1 with fail
      generalize w.alloc (.cells #[.int .i64 j.id, .string j.user, .int .i64 j.width, .int .i64 j.est, .int .i64 j.prio, .int .i64 j.sub, .int .i64 j.state, .int .i64 j.start, .int .i64 j.fin] 23) = W0 at *
      obtain ⟨y, y0, y1, y2, y3, y4, y5, y6, y7, y8, _, _, _, _, _, _, _, _, _⟩ := HX0.out
      go_wp2_with fail
      refine (RM1.out _).mono ?_
      rintro e w1 ⟨rfl, hb1⟩
      have HB1 := Lib.hid (below_then HB0.out hb1)
      clear hb1 RM RM1 CT
      go_wp2_with fail
      refine (HAW.out _ HB1.out).mono ?_
      rintro e w2 ⟨rfl, hb2⟩
      have HB2 := Lib.hid (below_then HB1.out hb2)
      clear hb2
      go_wp2_with fail
      go_ret
      exact ⟨rfl, HB2.out⟩
    | true =>
      rw [hm] at RM1
      have HM := Lib.hid hm
      clear hm
      go_enter Tryd.func5, Tryd.ntmps5
      go_upto_region 1 with fail
      generalize w.alloc (.cells #[.int .i64 j.id, .string j.user, .int .i64 j.width, .int .i64 j.est, .int .i64 j.prio, .int .i64 j.sub, .int .i64 j.state, .int .i64 j.start, .int .i64 j.fin] 23) = W0 at *
      obtain ⟨y, y0, y1, y2, y3, y4, y5, y6, y7, y8, _, _, _, _, _, _, _, _, _⟩ := HX0.out
      go_wp2_with fail
      refine (RM1.out _).mono ?_
      rintro e w1 ⟨rfl, hb1⟩
      have HS1 : Hid (EndsAt w w1 0 j) := ⟨Int.le_refl _, by decide, fun h => absurd h (by decide), HM.out, HFJ.out, HX0.out.below hb1, below_then HB0.out hb1⟩
      clear hb1 RM1 HX0 HB0 y y0 y1 y2 y3 y4 y5 y6 y7 y8
      go_wp2_with fail
      go_loopw [5, 6] (fun c i wr => ∃ (k : Nat) (C : Int) (J : Jb), c = .int .i64 C ∧ i = .int .i64 k ∧ k ≤ l.length ∧ Hid (EndsAt w wr C J)) (fun _ i _ => l.length - (intOf i).toNat)
      case atStart => exact ⟨0, 0, j, rfl, rfl, Nat.zero_le _, HS1.out⟩
      case round =>
        clear HS1 HM HFJ
        obtain ⟨k, C, J, rfl, rfl, hk, HE⟩ := hrel
        have hC0 := HE.out.c0
        have hC1 := HE.out.c1
        by_cases hlt : k < l.length
        · have hlt2 : (k : Int) < (l.length : Int) := by omega
          have hkn : (0 : Int) ≤ (k : Int) := by omega
          obtain ⟨ad, rfl, had, p1, p2⟩ := (HA.out.below HE.out.below) k hlt
          have hft := twos_fit HFIT.out hlt
          dsimp only at p1 p2
          generalize (l.getD k (0, 0)).1 = ev at *
          generalize (l.getD k (0, 0)).2 = t at *
          have CTn := Lib.hid (fun (W : World) (hb : Below wr.heap.size wr W) => CT.out J ev t W (HE.out.below.trans (hb.mono HE.out.below.size)) HE.out.fit hft)
          have HTF := Lib.hid (turn_fit (j := J) (ev := ev) (t := t) HE.out.fit hft)
          have hew := e_ways J ev t
          generalize hX : (turnL J ev t).1 = X at *
          generalize (turnL J ev t).2 = N at *
          have HEW := Lib.hid hew
          obtain ⟨y, y0, y1, y2, y3, y4, y5, y6, y7, y8, _, _, _, _, _, _, _, _, _⟩ := HE.out.box
          have HZB := Lib.hid (JobBox.new wr noJb 23)
          have hne : w.heap.size ≠ wr.heap.size := by omega
          have q1 := ((below_box wr (.cells #[.int .i64 0, .string ⟨#[]⟩, .int .i64 0, .int .i64 0, .int .i64 0, .int .i64 0, .int .i64 0, .int .i64 0, .int .i64 0] 23)).cell (p := ad.add (k * 2)) (by rw [add_block]; exact had)).trans p1
          have q2 := ((below_box wr (.cells #[.int .i64 0, .string ⟨#[]⟩, .int .i64 0, .int .i64 0, .int .i64 0, .int .i64 0, .int .i64 0, .int .i64 0, .int .i64 0] 23)).cell (p := ⟨(ad.add (k * 2)).block, (ad.add (k * 2)).off + 1, none⟩) (by show (ad.add (k * 2)).block < _; rw [add_block]; exact had)).trans p2
          clear hew hX
          go_upto_region 7 with fail
          go_cut [7, 8] (fun o n wc => ∃ b : Nat, o = .pointer (some ⟨b, 0, none⟩) ∧ n = .int .i64 N ∧ Hid (JobBox wc b X ∧ Below wr.heap.size wr wc ∧ wr.heap.size ≤ b))
          case first =>
            go_region_with
              (first
                | (go_at_call 7; (refine (CTn.out _ (below_box wr (.cells #[.int .i64 0, .string ⟨#[]⟩, .int .i64 0, .int .i64 0, .int .i64 0, .int .i64 0, .int .i64 0, .int .i64 0, .int .i64 0] 23)).drew).mono ?_; rintro e w5 ⟨rfl, hbd5⟩; have HB5 := Lib.hid ((below_box wr (.cells #[.int .i64 0, .string ⟨#[]⟩, .int .i64 0, .int .i64 0, .int .i64 0, .int .i64 0, .int .i64 0, .int .i64 0, .int .i64 0] 23)).drew.trans (hbd5.mono (by simp))); have HZ5 := Lib.hid (HZB.out.below (below_of_drew hbd5)); clear hbd5 y y0 y1 y2 y3 y4 y5 y6 y7 y8 p1 p2 q1 q2; obtain ⟨r, r0, r1, r2, r3, r4, r5, r6, r7, r8, r9, r10, r11, r12, r13, r14, r15, r16, r17⟩ := HZ5.out))
                | (go_at_call 7; (refine (CTn.out _ (Below.refl _ _).drew).mono ?_; rintro e w5 ⟨rfl, hbd5⟩; have HB5 := Lib.hid (below_of_drew hbd5); clear hbd5 y y0 y1 y2 y3 y4 y5 y6 y7 y8 p1 p2 q1 q2)))
            all_goals
              go_wp2_with fail
              go_meet
              refine ⟨_, rfl, rfl, ?_⟩
              first
                | with_reducible exact end_alloc HB5.out X _
                | with_reducible exact end_stored HZ5.out HB5.out X
          case rest =>
            obtain ⟨b, rfl, rfl, HC⟩ := hcut
            have HXB := Lib.hid HC.out.1
            have HJB := Lib.hid (HE.out.box.below HC.out.2.1)
            have HBW := Lib.hid (HE.out.below.trans (HC.out.2.1.mono HE.out.below.size))
            clear HC HZB CTn y y0 y1 y2 y3 y4 y5 y6 y7 y8 p1 p2 q1 q2
            rcases HEW.out with hn | ⟨hn, hteq⟩
            · go_wp2_with fail
              exact ⟨⟨k + 1, C, J, rfl, by go_num, by omega, ⟨hC0, hC1, HE.out.on, HE.out.may, HE.out.fit, HJB.out, HBW.out⟩⟩, by simp [intOf] <;> omega⟩
            · have HTQ := Lib.hid hteq
              obtain ⟨t1, t2, t3, t4, t5, t6⟩ := ends_tests hteq
              have RMX := Lib.hid (fun W => RM.out X W HTF.out)
              rw [t2] at RMX
              clear hteq HEW t2
              obtain ⟨y, y0, y1, y2, y3, y4, y5, y6, y7, y8, _, _, _, _, _, _, _, _, _⟩ := HJB.out
              obtain ⟨x, x0, x1, x2, x3, x4, x5, x6, x7, x8, _, _, _, _, _, _, _, _, _⟩ := HXB.out
              go_wp2_with fail
              refine (RMX.out _).mono ?_
              rintro e w6 ⟨rfl, hb6⟩
              have HJ6 := Lib.hid (HJB.out.below hb6)
              have HX6 := Lib.hid (HXB.out.below hb6)
              have HB6 := Lib.hid (HBW.out.trans (hb6.mono HBW.out.size))
              have hnx := ends_next HE.out HTQ.out HTF.out (HJ6.out.stored X) (below_stored HB6.out (Nat.le_refl _) X)
              clear hb6 HJB HXB HBW RMX y y0 y1 y2 y3 y4 y5 y6 y7 y8 x x0 x1 x2 x3 x4 x5 x6 x7 x8
              obtain ⟨y, y0, y1, y2, y3, y4, y5, y6, y7, y8, y9, y10, y11, y12, y13, y14, y15, y16, y17⟩ := HJ6.out
              obtain ⟨x, x0, x1, x2, x3, x4, x5, x6, x7, x8, _, _, _, _, _, _, _, _, _⟩ := HX6.out
              rcases hnx with ⟨s2, rfl, hnx⟩ | ⟨s2, hnx⟩
              · have HNX := Lib.hid hnx
                clear hnx
                go_wp2_with fail
                exact ⟨⟨k + 1, 1, X, rfl, by go_num, by omega, HNX.out⟩, by simp [intOf] <;> omega⟩
              · have HNX := Lib.hid hnx
                clear hnx
                go_wp2_with fail
                exact ⟨⟨k + 1, C, X, rfl, by go_num, by omega, HNX.out⟩, by simp [intOf] <;> omega⟩
        · have dc : decide (C ≤ 1) = true := decide_eq_true hC1
          go_wp2_with fail
          refine (HAW.out _ HE.out.below).mono ?_
          rintro e w2 ⟨rfl, hb2⟩
          have HB2 := Lib.hid (below_then HE.out.below hb2)
          clear hb2
          go_wp2_with fail
          go_ret
          exact ⟨rfl, HB2.out⟩
  · have hd : (decide ((60 : Int) < (l.length : Int)) = true) ∨ (decide ((60 : Int) < (l.length : Int)) = false ∧ decide ((100 : Int) < (j.user.size : Int)) = true) := by
      by_cases h2 : (60 : Int) < (l.length : Int)
      · exact .inl (decide_eq_true h2)
      · exact .inr ⟨decide_eq_false h2, decide_eq_true (by omega)⟩
    clear RM CT
    rcases hd with d1 | ⟨d1, d2⟩
    all_goals
      go_enter Tryd.func5, Tryd.ntmps5
      go_upto_region 1 with fail
      generalize w.alloc (.cells #[.int .i64 j.id, .string j.user, .int .i64 j.width, .int .i64 j.est, .int .i64 j.prio, .int .i64 j.sub, .int .i64 j.state, .int .i64 j.start, .int .i64 j.fin] 23) = W0 at *
      obtain ⟨y, y0, y1, y2, y3, y4, y5, y6, y7, y8, _, _, _, _, _, _, _, _, _⟩ := HX0.out
      go_wp2_with fail
      refine (HAW.out _ HB0.out).mono ?_
      rintro e w1 ⟨rfl, hb1⟩
      have HB1 := Lib.hid (below_then HB0.out hb1)
      clear hb1
      go_wp2_with fail
      go_ret
      exact ⟨rfl, HB1.out⟩
end Go.Proofs.YtclpbmhmfddifaaDoor.JobWalk
