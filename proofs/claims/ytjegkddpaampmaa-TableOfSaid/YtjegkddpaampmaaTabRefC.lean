/-
  The walk of the document's answer for layer 11: Add. (Written by a script.)
-/
import Derived.Test.YtjegkddpaampmaaTabRefA
import Derived.Test.YtjegkddpaampmaaOrdRefB
import Derived.Test.YtjegkddpaampmaaJobRefB
namespace Go.Proofs.Ytjegkddpaampmaa.TabRef
open Go.RowKit Go.Proofs.Ytjegkddpaampmaa.JobPlain Go.Proofs.Ytjegkddpaampmaa.OrdPlain Go.Proofs.Ytjegkddpaampmaa.TabPlain Go.Proofs.Ytjegkddpaampmaa.Mem Go.Proofs.Ytjegkddpaampmaa.JobMem Go.Proofs.Ytjegkddpaampmaa.OrdMem Go.Proofs.Ytjegkddpaampmaa.OrdRef
/-- What Add, Turn, Edit answer: the list itself, or new memory. -/
def ListSays (l0 l : List Jb) (x : Int) (v : Value) (w : World) (e : Ending) (w' : World) : Prop := ∃ v', e = .returned (.tuple #[v', .int .i64 x]) ∧ JobsIs l w' v' ∧ ((v' = v ∧ l = l0) ∨ FreshJ w.heap.size v') ∧ Below w.heap.size w w'
theorem addE_ways (l : List Jb) (j : Jb) : (mayJ j = false ∧ addE l j = 1) ∨ (mayJ j = true ∧ decide (1 < j.state) = true ∧ addE l j = 1) ∨ (mayJ j = true ∧ decide (1 < j.state) = false ∧ decide (0 ≤ findL l j.id) = true ∧ addE l j = 7) ∨
    (mayJ j = true ∧ decide (1 < j.state) = false ∧ decide (0 ≤ findL l j.id) = false ∧ decide (100 ≤ liveN l) = true ∧ addE l j = 4) ∨ (mayJ j = true ∧ decide (1 < j.state) = false ∧ decide (0 ≤ findL l j.id) = false ∧ decide (100 ≤ liveN l) = false ∧ addE l j = 0) := by
  unfold addE
  cases hm : mayJ j with
  | false => exact .inl ⟨rfl, if_pos (.inl rfl)⟩
  | true =>
    by_cases h1 : 1 < j.state
    · exact .inr (.inl ⟨rfl, decide_eq_true h1, if_pos (.inr h1)⟩)
    · rw [if_neg (fun h => h.elim (fun h => absurd h (by decide)) h1)]
      by_cases h2 : 0 ≤ findL l j.id
      · exact .inr (.inr (.inl ⟨rfl, decide_eq_false h1, decide_eq_true h2, if_pos h2⟩))
      · rw [if_neg h2]
        by_cases h3 : 100 ≤ liveN l
        · exact .inr (.inr (.inr (.inl ⟨rfl, decide_eq_false h1, decide_eq_false h2, decide_eq_true h3, if_pos h3⟩)))
        · exact .inr (.inr (.inr (.inr ⟨rfl, decide_eq_false h1, decide_eq_false h2, decide_eq_false h3, if_neg h3⟩)))
theorem addR_no {l : List Jb} {j : Jb} (h : addE l j ≠ 0) : addR l j = l := by unfold addR; rw [if_neg h]
theorem addR_yes {l : List Jb} {j : Jb} (h : addE l j = 0) : addR l j = insOut l j := by unfold addR; rw [if_pos h]
theorem ins_yes {l : List Jb} {x : Jb} (h : (insTo l x l.length).2 = true) : insOut l x = (insTo l x l.length).1 := by unfold insOut; rw [if_pos h]
theorem ins_not {l : List Jb} {x : Jb} (h : (insTo l x l.length).2 = false) : insOut l x = (insTo l x l.length).1 ++ [x] := by unfold insOut; rw [if_neg (by rw [h]; decide)]
set_option maxRecDepth 100000 in
set_option maxHeartbeats 12800000 in
theorem add11 (l : List Jb) (x : Jb) (v : Value) (w : World) (hv : JobsIs l w v) (hx : Fit x) (hl : l.length ≤ 10000) : Calls Try.prog 9 #[v, jobV x] w (ListSays l (addR l x) (addE l x) v w) := by
  have HX := Lib.hid (JobBox.new w x 28)
  have HB0 := Lib.hid (below_box w (.cells #[.int .i64 x.id, .string x.user, .int .i64 x.width, .int .i64 x.est, .int .i64 x.prio, .int .i64 x.sub, .int .i64 x.state, .int .i64 x.start, .int .i64 x.fin] 28))
  have CM := Lib.hid (fun W => JobRef.may7 x W hx)
  have CF := Lib.hid (fun W (hb : Below w.heap.size w W) => find8 l x.id v W (hv.below hb) (by omega))
  have CI := Lib.hid (fun s W (hb : Below w.heap.size w W) => in11 l s v W (hv.below hb) (by omega))
  have HV := Lib.hid hv
  have hways := addE_ways l x
  have HNO := Lib.hid (fun h => addR_no (l := l) (j := x) h)
  have HYES := Lib.hid (fun h => addR_yes (l := l) (j := x) h)
  have q0 := inT_len l 0
  have q1 := inT_len l 1
  have q2 := inT_len l 2
  have HLV : Hid (liveN l = ((inT l 0).length : Int) + ((inT l 1).length : Int) + ((inT l 2).length : Int)) := rfl
  obtain ⟨A, c, rfl, hn, hA⟩ := hv.open_
  have HA := Lib.hid hA
  clear hA hv hx
  unfold jobV jobA at *
  go_enter Try.func9, Try.ntmps9
  go_upto_region 1 with fail
  generalize w.alloc (.cells #[.int .i64 x.id, .string x.user, .int .i64 x.width, .int .i64 x.est, .int .i64 x.prio, .int .i64 x.sub, .int .i64 x.state, .int .i64 x.start, .int .i64 x.fin] 28) = w0 at *
  obtain ⟨y, y0, y1, y2, y3, y4, y5, y6, y7, y8, _, _, _, _, _, _, _, _, _⟩ := HX.out
  rcases hways with ⟨h1, hE⟩ | ⟨h1, h2, hE⟩ | ⟨h1, h2, h3, hE⟩ | ⟨h1, h2, h3, h4, hE⟩ | ⟨h1, h2, h3, h4, hE⟩
  · have HE := Lib.hid hE
    have HZ := Lib.hid (HNO.out (by rw [hE]; decide))
    rw [h1] at CM
    clear h1 hE
    go_wp2_with fail
    refine (CM.out _).mono ?_
    rintro e w1 ⟨rfl, hb1⟩
    have HB1 := Lib.hid (below_then HB0.out hb1)
    clear hb1
    go_wp2_with fail
    go_ret2
    rw [HE.out, HZ.out]
    exact ⟨_, rfl, HV.out.below HB1.out, .inl ⟨rfl, rfl⟩, HB1.out⟩
  · have HE := Lib.hid hE
    have HZ := Lib.hid (HNO.out (by rw [hE]; decide))
    rw [h1] at CM
    clear h1 hE
    go_wp2_with fail
    refine (CM.out _).mono ?_
    rintro e w1 ⟨rfl, hb1⟩
    have HX1 := Lib.hid (HX.out.below hb1)
    have HB1 := Lib.hid (below_then HB0.out hb1)
    clear hb1 y y0 y1 y2 y3 y4 y5 y6 y7 y8
    obtain ⟨y, y0, y1, y2, y3, y4, y5, y6, y7, y8, _, _, _, _, _, _, _, _, _⟩ := HX1.out
    go_wp2_with fail
    go_ret2
    rw [HE.out, HZ.out]
    exact ⟨_, rfl, HV.out.below HB1.out, .inl ⟨rfl, rfl⟩, HB1.out⟩
  · have HE := Lib.hid hE
    have HZ := Lib.hid (HNO.out (by rw [hE]; decide))
    rw [h1] at CM
    generalize findL l x.id = F at *
    clear h1 hE
    go_wp2_with fail
    refine (CM.out _).mono ?_
    rintro e w1 ⟨rfl, hb1⟩
    have HX1 := Lib.hid (HX.out.below hb1)
    have HB1 := Lib.hid (below_then HB0.out hb1)
    clear hb1 y y0 y1 y2 y3 y4 y5 y6 y7 y8
    obtain ⟨y, y0, y1, y2, y3, y4, y5, y6, y7, y8, _, _, _, _, _, _, _, _, _⟩ := HX1.out
    go_wp2_with fail
    refine (CF.out _ HB1.out).mono ?_
    rintro e w2 ⟨rfl, rfl⟩
    go_wp2_with fail
    go_ret2
    rw [HE.out, HZ.out]
    exact ⟨_, rfl, HV.out.below HB1.out, .inl ⟨rfl, rfl⟩, HB1.out⟩
  all_goals
    have HE := Lib.hid hE
    rw [h1] at CM
    generalize findL l x.id = F at *
    clear h1 hE
    go_wp2_with fail
    refine (CM.out _).mono ?_
    rintro e w1 ⟨rfl, hb1⟩
    have HX1 := Lib.hid (HX.out.below hb1)
    have HB1 := Lib.hid (below_then HB0.out hb1)
    clear hb1 y y0 y1 y2 y3 y4 y5 y6 y7 y8 HX HB0 CM
    obtain ⟨y, y0, y1, y2, y3, y4, y5, y6, y7, y8, _, _, _, _, _, _, _, _, _⟩ := HX1.out
    go_wp2_with fail
    refine (CF.out _ HB1.out).mono ?_
    rintro e w2 ⟨rfl, rfl⟩
    clear y y0 y1 y2 y3 y4 y5 y6 y7 y8 CF
    have CI0 := Lib.hid (CI.out 0 w1 HB1.out)
    have CI1 := Lib.hid (fun W hb => CI.out 1 W hb)
    have CI2 := Lib.hid (fun W hb => CI.out 2 W hb)
    have HLV2 := HLV.out
    clear CI HLV
    generalize liveN l = LV at *
    generalize inT l 0 = T0 at *
    generalize inT l 1 = T1 at *
    generalize inT l 2 = T2 at *
    subst HLV2
    go_wp2_with fail
    refine CI0.out.mono ?_
    rintro e w3 ⟨v3, rfl, hj3, _, hb3⟩
    obtain ⟨A3, c3, rfl, _, _⟩ := hj3.open_
    have HX3 := Lib.hid (HX1.out.below hb3)
    have HB3 := Lib.hid (below_then HB1.out hb3)
    clear hb3 hj3 CI0 HX1 HB1
    go_wp2_with fail
    refine (CI1.out _ HB3.out).mono ?_
    rintro e w4 ⟨v4, rfl, hj4, _, hb4⟩
    obtain ⟨A4, c4, rfl, _, _⟩ := hj4.open_
    have HX4 := Lib.hid (HX3.out.below hb4)
    have HB4 := Lib.hid (below_then HB3.out hb4)
    clear hb4 hj4 CI1 HX3 HB3
    go_wp2_with fail
    refine (CI2.out _ HB4.out).mono ?_
    rintro e w5 ⟨v5, rfl, hj5, _, hb5⟩
    obtain ⟨A5, c5, rfl, _, _⟩ := hj5.open_
    have HX5 := Lib.hid (HX4.out.below hb5)
    have HB5 := Lib.hid (below_then HB4.out hb5)
    clear hb5 hj5 CI2 HX4 HB4
  · have HZ := Lib.hid (HNO.out (by rw [HE.out]; decide))
    go_wp2_with fail
    go_ret2
    rw [HE.out, HZ.out]
    exact ⟨_, rfl, HV.out.below HB5.out, .inl ⟨rfl, rfl⟩, HB5.out⟩
  · have HZ := Lib.hid (HYES.out HE.out)
    have HO0 := Lib.hid (OwnR.new w5 28 9)
    clear HNO HYES
    go_wp2_with fail
    go_loopw [6, 7, 8] (fun o d i wr => ∃ (k : Nat) (v : Value), v = o ∧ d = .bool (insTo l x k).2 ∧ i = .int .i64 k ∧ k ≤ l.length ∧ Hid (RowJ w5 wr v (insTo l x k).1)) (fun _ _ i _ => l.length - (intOf i).toNat)
    case atStart => exact ⟨0, _, rfl, rfl, rfl, Nat.zero_le _, HO0.out, (Below.refl _ _).alloc (Nat.le_refl _) _⟩
    case round =>
      obtain ⟨k, o, hov, rfl, rfl, hk, HR⟩ := hrel
      subst hov
      obtain ⟨g, cg, rfl, _⟩ := HR.out.own.form
      obtain ⟨y, y0, y1, y2, y3, y4, y5, y6, y7, y8, _, _, _, _, _, _, _, _, _⟩ := HX5.out.below HR.out.below
      have hsl := ins_len l x k hk
      by_cases hlt : k < l.length
      · obtain ⟨ad, rfl, hat⟩ := jobs_nth HA.out (HB5.out.trans (HR.out.below.mono HB5.out.size)) hlt
        have HYW : Hid (∀ W, Below w5.heap.size w5 W → JobAt W (ad.add (k * 9)) l[k]) := fun W hb => by
          obtain ⟨a2, ea, h⟩ := jobs_nth HA.out (HB5.out.trans (hb.mono HB5.out.size)) hlt
          injection ea with ea
          subst ea
          exact h
        have HN := Lib.hid (ins_next (x := x) hlt)
        have i0 : (0 : Int) ≤ (k : Int) := Int.natCast_nonneg _
        have i1 : (k : Int) < (l.length : Int) := by omega
        have hsl2 : (insTo l x k).1.length ≤ 10001 := by rw [hsl]; split <;> omega
        clear hsl
        generalize hM2 : insTo l x (k + 1) = M2 at *
        have HM2 := Lib.hid hM2
        clear hM2
        generalize insTo l x k = Q at *
        obtain ⟨M, D⟩ := Q
        dsimp only at *
        generalize l[k] = z at *
        obtain ⟨p, p0, p1, p2, p3, p4, p5, p6, p7, p8⟩ := hat
        cases D with
        | true =>
          have HV2 : Hid (M2 = ((M ++ [z]), true)) := by have h := HN.out; unfold insStep at h; exact h.trans (by simp)
          clear HN
          go_wp2_with fail
          go_quiet (fail)
          have HR1 : Hid (RowJ w5 (wr.drewN nq) (.slice (some ⟨g, 0, none⟩) M.length cg) M) := HR.out.drewN nq
          generalize wr.drewN nq = w6 at *
          clear y y0 y1 y2 y3 y4 y5 y6 y7 y8 p p0 p1 p2 p3 p4 p5 p6 p7 p8 HR
          obtain ⟨y, y0, y1, y2, y3, y4, y5, y6, y7, y8, _, _, _, _, _, _, _, _, _⟩ := HX5.out.below HR1.out.below
          obtain ⟨p, p0, p1, p2, p3, p4, p5, p6, p7, p8⟩ := HYW.out _ HR1.out.below
          have HOq1b := Lib.hid (HR1.out.own.alloc (.cells #[.int .i64 z.id, .string z.user, .int .i64 z.width, .int .i64 z.est, .int .i64 z.prio, .int .i64 z.sub, .int .i64 z.state, .int .i64 z.start, .int .i64 z.fin] 28))
          go_wp2_with (at_builtin; refine push_raw jobs_t rfl (.tmp 60) (.tmp 65) rfl w5.heap.size _ _ _ rfl HOq1b.out ⟨w6.heap.size, 0, none⟩ 1 1 (jobC z) rfl rfl ?h1q1b (jobC_cell z) ?h2q1b ?_)
          case h1q1b => exact Raw.alloc w6 (jobA z) 28
          case h2q1b => first | omega | (simp only [List.length_append, List.length_singleton]; omega)
          intro v8 w8 ho8 hb8
          have HR8 : Hid (RowJ w5 w8 v8 (M ++ [z])) := RowJ.more HR1.out _ ho8 (by first | rfl | omega) hb8
          clear ho8 hb8
          go_wp2_with fail
          exact ⟨⟨k + 1, _, rfl, by rw [HM2.out, HV2.out], by go_num, by omega, by rw [HM2.out, HV2.out]; exact HR8.out⟩, by simp [intOf] <;> omega⟩
        | false =>
          cases hL : decide (x.id < z.id) with
          | true =>
            have HV2 : Hid (M2 = (((M ++ [x]) ++ [z]), true)) := by have h := HN.out; unfold insStep at h; rw [hL] at h; exact h.trans (by simp)
            clear HN
            go_wp2_with fail
            go_quiet (fail)
            have HR1 : Hid (RowJ w5 (wr.drewN nq) (.slice (some ⟨g, 0, none⟩) M.length cg) M) := HR.out.drewN nq
            generalize wr.drewN nq = w6 at *
            clear y y0 y1 y2 y3 y4 y5 y6 y7 y8 p p0 p1 p2 p3 p4 p5 p6 p7 p8 HR
            obtain ⟨y, y0, y1, y2, y3, y4, y5, y6, y7, y8, _, _, _, _, _, _, _, _, _⟩ := HX5.out.below HR1.out.below
            obtain ⟨p, p0, p1, p2, p3, p4, p5, p6, p7, p8⟩ := HYW.out _ HR1.out.below
            have HOq2a := Lib.hid (HR1.out.own.alloc (.cells #[.int .i64 x.id, .string x.user, .int .i64 x.width, .int .i64 x.est, .int .i64 x.prio, .int .i64 x.sub, .int .i64 x.state, .int .i64 x.start, .int .i64 x.fin] 28))
            go_wp2_with (at_builtin; refine push_raw jobs_t rfl (.tmp 56) (.tmp 58) rfl w5.heap.size _ _ _ rfl HOq2a.out ⟨w6.heap.size, 0, none⟩ 1 1 (jobC x) rfl rfl ?h1q2a (jobC_cell x) ?h2q2a ?_)
            case h1q2a => exact Raw.alloc w6 (jobA x) 28
            case h2q2a => first | omega | (simp only [List.length_append, List.length_singleton]; omega)
            intro v7 w7 ho7 hb7
            have HR7 : Hid (RowJ w5 w7 v7 (M ++ [x])) := RowJ.more HR1.out _ ho7 rfl hb7
            clear ho7 hb7 HOq2a y y0 y1 y2 y3 y4 y5 y6 y7 y8 p p0 p1 p2 p3 p4 p5 p6 p7 p8
            obtain ⟨g7, cg7, rfl, _⟩ := HR7.out.own.form
            obtain ⟨p, p0, p1, p2, p3, p4, p5, p6, p7, p8⟩ := HYW.out _ HR7.out.below
            have hml : (M ++ [x]).length = M.length + 1 := by simp
            generalize M ++ [x] = M1 at *
            have HOq2b := Lib.hid (HR7.out.own.alloc (.cells #[.int .i64 z.id, .string z.user, .int .i64 z.width, .int .i64 z.est, .int .i64 z.prio, .int .i64 z.sub, .int .i64 z.state, .int .i64 z.start, .int .i64 z.fin] 28))
            go_wp2_with (at_builtin; refine push_raw jobs_t rfl (.tmp 60) (.tmp 65) rfl w5.heap.size _ _ _ rfl HOq2b.out ⟨w7.heap.size, 0, none⟩ 1 1 (jobC z) rfl rfl ?h1q2b (jobC_cell z) ?h2q2b ?_)
            case h1q2b => exact Raw.alloc w7 (jobA z) 28
            case h2q2b => first | omega | (simp only [List.length_append, List.length_singleton]; omega)
            intro v8 w8 ho8 hb8
            have HR8 : Hid (RowJ w5 w8 v8 (M1 ++ [z])) := RowJ.more HR7.out _ ho8 (by first | rfl | omega) hb8
            clear ho8 hb8
            go_wp2_with fail
            exact ⟨⟨k + 1, _, rfl, by rw [HM2.out, HV2.out], by go_num, by omega, by rw [HM2.out, HV2.out]; exact HR8.out⟩, by simp [intOf] <;> omega⟩
          | false =>
            have HV2 : Hid (M2 = ((M ++ [z]), false)) := by have h := HN.out; unfold insStep at h; rw [hL] at h; exact h.trans (by simp)
            clear HN
            go_wp2_with fail
            go_quiet (fail)
            have HR1 : Hid (RowJ w5 (wr.drewN nq) (.slice (some ⟨g, 0, none⟩) M.length cg) M) := HR.out.drewN nq
            generalize wr.drewN nq = w6 at *
            clear y y0 y1 y2 y3 y4 y5 y6 y7 y8 p p0 p1 p2 p3 p4 p5 p6 p7 p8 HR
            obtain ⟨y, y0, y1, y2, y3, y4, y5, y6, y7, y8, _, _, _, _, _, _, _, _, _⟩ := HX5.out.below HR1.out.below
            obtain ⟨p, p0, p1, p2, p3, p4, p5, p6, p7, p8⟩ := HYW.out _ HR1.out.below
            have HOq3b := Lib.hid (HR1.out.own.alloc (.cells #[.int .i64 z.id, .string z.user, .int .i64 z.width, .int .i64 z.est, .int .i64 z.prio, .int .i64 z.sub, .int .i64 z.state, .int .i64 z.start, .int .i64 z.fin] 28))
            go_wp2_with (at_builtin; refine push_raw jobs_t rfl (.tmp 60) (.tmp 65) rfl w5.heap.size _ _ _ rfl HOq3b.out ⟨w6.heap.size, 0, none⟩ 1 1 (jobC z) rfl rfl ?h1q3b (jobC_cell z) ?h2q3b ?_)
            case h1q3b => exact Raw.alloc w6 (jobA z) 28
            case h2q3b => first | omega | (simp only [List.length_append, List.length_singleton]; omega)
            intro v8 w8 ho8 hb8
            have HR8 : Hid (RowJ w5 w8 v8 (M ++ [z])) := RowJ.more HR1.out _ ho8 (by first | rfl | omega) hb8
            clear ho8 hb8
            go_wp2_with fail
            exact ⟨⟨k + 1, _, rfl, by rw [HM2.out, HV2.out], by go_num, by omega, by rw [HM2.out, HV2.out]; exact HR8.out⟩, by simp [intOf] <;> omega⟩
      · obtain rfl : k = l.length := by omega
        have HB := Lib.hid (HB5.out.trans (HR.out.below.mono HB5.out.size))
        have HOY := Lib.hid (fun h => ins_yes (l := l) (x := x) h)
        have HON := Lib.hid (fun h => ins_not (l := l) (x := x) h)
        have hsz := HB5.out.size
        have hsl2 : (insTo l x l.length).1.length ≤ 10001 := by rw [hsl]; split <;> omega
        clear hsl
        generalize insOut l x = SO at *
        generalize insTo l x l.length = Q at *
        obtain ⟨M, D⟩ := Q
        dsimp only at *
        cases D with
        | true =>
          have hM : SO = M := HOY.out rfl
          subst hM
          clear HOY HON
          go_wp2_with fail
          go_ret2
          rw [HE.out, HZ.out]
          exact ⟨_, rfl, HR.out.is, .inr (FreshJ.own HR.out.own hsz), HB.out⟩
        | false =>
          have hM : SO = M ++ [x] := HON.out rfl
          have HO := Lib.hid (HR.out.own.alloc (.cells #[.int .i64 x.id, .string x.user, .int .i64 x.width, .int .i64 x.est, .int .i64 x.prio, .int .i64 x.sub, .int .i64 x.state, .int .i64 x.start, .int .i64 x.fin] 28))
          clear HOY HON
          go_wp2_with (at_builtin; refine push_raw jobs_t rfl (.tmp 69) (.tmp 71) rfl w5.heap.size _ _ _ rfl HO.out ⟨wr.heap.size, 0, none⟩ 1 1 (jobC x) rfl rfl ?hz1 (jobC_cell x) ?hz2 ?_)
          case hz1 => exact Raw.alloc wr (jobA x) 28
          case hz2 => omega
          intro v8 w8 ho8 hb8
          have HR8 : Hid (RowJ w5 w8 v8 (M ++ [x])) := RowJ.more HR.out _ ho8 rfl hb8
          rw [← hM] at HR8
          have HB8 := Lib.hid (HB5.out.trans (HR8.out.below.mono HB5.out.size))
          clear ho8 hb8 hM
          go_wp2_with fail
          go_ret2
          rw [HE.out, HZ.out]
          exact ⟨_, rfl, HR8.out.is, .inr (FreshJ.own HR8.out.own hsz), HB8.out⟩
end Go.Proofs.Ytjegkddpaampmaa.TabRef
