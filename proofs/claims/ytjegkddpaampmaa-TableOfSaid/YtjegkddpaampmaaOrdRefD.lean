/-
  The walks of the document's answers for layer 8: Put, Sort.
-/
import Derived.Test.YtjegkddpaampmaaOrdRefA
namespace Go.Proofs.Ytjegkddpaampmaa.OrdRef
open Go.RowKit Go.Proofs.Ytjegkddpaampmaa.JobPlain Go.Proofs.Ytjegkddpaampmaa.OrdPlain Go.Proofs.Ytjegkddpaampmaa.Mem Go.Proofs.Ytjegkddpaampmaa.JobMem Go.Proofs.Ytjegkddpaampmaa.OrdMem
/-- A slice of jobs that is new from block B on. -/
def NewJobs (l : List Jb) (B : Nat) (w : World) (v : Value) : Prop := OwnR 28 9 B w v l.length (jvals l)
def PutIs (l : List Jb) (w : World) (e : Ending) (w' : World) : Prop := ∃ v, e = .returned v ∧ NewJobs l w.heap.size w' v ∧ Below w.heap.size w w'
theorem jvals_one (l : List Jb) (j : Jb) : jvals (l ++ [j]) = jvals l ++ jobC j := by simp [jvals]
/-- How the loop of Put stands. -/
structure PutAt (W0 wr : World) (v : Value) (m : List Jb) : Prop where
  own : OwnR 28 9 W0.heap.size wr v m.length (jvals m)
  below : Below W0.heap.size W0 wr
theorem PutAt.next {W0 wr w1 : World} {v : Value} {m : List Jb} (h : PutAt W0 wr v m) (hb : Below wr.heap.size wr w1) : PutAt W0 w1 v m := ⟨h.own.below hb, h.below.trans (hb.mono h.below.size)⟩
theorem own_rebase {e : TypeId} {k B B' : Nat} {w : World} {v : Value} {n : Nat} {xs : List Value} (h : OwnR e k B w v n xs) (hb : B' ≤ B) : OwnR e k B' w v n xs := ⟨(h.toN.rebase hb).1, h.2.1, (h.toN.rebase hb).2⟩
set_option maxRecDepth 100000 in
set_option maxHeartbeats 3200000 in
theorem put8 (l : List Jb) (j : Jb) (v : Value) (w : World) (hv : JobsIs l w v) (hl : l.length ≤ 100000) : Calls Try.prog 53 #[v, jobV j] w (PutIs (putL l j) w) := by
  obtain ⟨A, c, rfl, hn, hA⟩ := hv.open_
  have HX0 := Lib.hid (JobBox.new w j 28)
  have HB0 := Lib.hid (below_box w (.cells #[.int .i64 j.id, .string j.user, .int .i64 j.width, .int .i64 j.est, .int .i64 j.prio, .int .i64 j.sub, .int .i64 j.state, .int .i64 j.start, .int .i64 j.fin] 28))
  have hsz : (w.alloc (.cells #[.int .i64 j.id, .string j.user, .int .i64 j.width, .int .i64 j.est, .int .i64 j.prio, .int .i64 j.sub, .int .i64 j.state, .int .i64 j.start, .int .i64 j.fin] 28)).heap.size = w.heap.size + 1 := by simp
  have HSZ := Lib.hid hsz
  have HA : Hid (∀ i (hi : i < l.length), ∃ a, A = some a ∧ JobAt (w.alloc (.cells #[.int .i64 j.id, .string j.user, .int .i64 j.width, .int .i64 j.est, .int .i64 j.prio, .int .i64 j.sub, .int .i64 j.state, .int .i64 j.start, .int .i64 j.fin] 28)) (a.add (i * 9)) l[i]) := fun i hi => by
    obtain ⟨a, e, h⟩ := hA i hi
    exact ⟨a, e, h.below HB0.out⟩
  clear hA hv hsz
  unfold jobV jobA
  go_enter Try.func53, Try.ntmps53
  go_upto_region 1 with fail
  generalize hW0 : w.alloc (.cells #[.int .i64 j.id, .string j.user, .int .i64 j.width, .int .i64 j.est, .int .i64 j.prio, .int .i64 j.sub, .int .i64 j.state, .int .i64 j.start, .int .i64 j.fin] 28) = W0 at *
  clear hW0
  go_wp2_with fail
  go_loopw [5, 6, 7] (fun o d i wr => ∃ (k : Nat) (v : Value), v = o ∧ d = .bool (doneTo l j k) ∧ i = .int .i64 k ∧ k ≤ l.length ∧ Hid (PutAt W0 wr v (outTo l j k))) (fun _ _ i _ => l.length - (intOf i).toNat)
  case atStart => exact ⟨0, _, rfl, rfl, rfl, Nat.zero_le _, OwnR.new W0 _ 9, below_box _ _⟩
  case round =>
    obtain ⟨k, o, hov, rfl, rfl, hk, HL⟩ := hrel
    subst hov
    obtain ⟨g, cg, rfl, _⟩ := HL.out.own.form
    by_cases hlt : k < l.length
    · obtain ⟨a, rfl, hat⟩ := HA.out k hlt
      have HE0 := Lib.hid hat
      have HE := Lib.hid (hat.below HL.out.below)
      have HXr := Lib.hid (HX0.out.under HL.out.below HX0.out.lt)
      have hlt2 : (k : Int) < (l.length : Int) := by omega
      have hkn : (0 : Int) ≤ (k : Int) := by omega
      have hol := out_len l j k
      have HN := Lib.hid (out_next (j := j) hlt)
      have CA := Lib.hid (fun W => ahead8 j l[k] W)
      generalize l[k] = e at *
      have hD2 : Hid (doneTo l j (k + 1) = doneTo l j (k + 1)) := rfl
      generalize hd2 : doneTo l j (k + 1) = D2 at *
      generalize hm2 : outTo l j (k + 1) = m2 at *
      have HD2 := Lib.hid hd2
      have HM2 := Lib.hid hm2
      clear hd2 hm2 hD2
      generalize doneTo l j k = D at *
      generalize outTo l j k = m at *
      unfold jobV jobA at CA
      clear hat
      have HXr2 := HXr
      have P := Lib.hid (fun (p : Lull wr) => HXr.out.below p.h)
      have Q := Lib.hid (fun (p : Lull wr) => HE.out.below p.h)
      have x0 : ∀ p : Lull wr, _ := fun p => (P.out p).c0
      have x1 : ∀ p : Lull wr, _ := fun p => (P.out p).c1
      have x2 : ∀ p : Lull wr, _ := fun p => (P.out p).c2
      have x3 : ∀ p : Lull wr, _ := fun p => (P.out p).c3
      have x4 : ∀ p : Lull wr, _ := fun p => (P.out p).c4
      have x5 : ∀ p : Lull wr, _ := fun p => (P.out p).c5
      have x6 : ∀ p : Lull wr, _ := fun p => (P.out p).c6
      have x7 : ∀ p : Lull wr, _ := fun p => (P.out p).c7
      have x8 : ∀ p : Lull wr, _ := fun p => (P.out p).c8
      have z0 : ∀ p : Lull wr, _ := fun p => (Q.out p).c0
      have z1 : ∀ p : Lull wr, _ := fun p => (Q.out p).c1
      have z2 : ∀ p : Lull wr, _ := fun p => (Q.out p).c2
      have z3 : ∀ p : Lull wr, _ := fun p => (Q.out p).c3
      have z4 : ∀ p : Lull wr, _ := fun p => (Q.out p).c4
      have z5 : ∀ p : Lull wr, _ := fun p => (Q.out p).c5
      have z6 : ∀ p : Lull wr, _ := fun p => (Q.out p).c6
      have z7 : ∀ p : Lull wr, _ := fun p => (Q.out p).c7
      have z8 : ∀ p : Lull wr, _ := fun p => (Q.out p).c8
      rcases HN.out with ⟨rfl, rfl, rfl⟩ | ⟨rfl, ha, rfl, rfl⟩ | ⟨rfl, ha, rfl, rfl⟩
      · go_wp2_with fail
        refine wp_region_calm (by kernel_rfl) (by kernel_rfl) ?_
        repeat (first | go_big_quiet_step (fail) | quiet_step (fail))
        refine wpQuiet_nil ?_
        intro w1 hw
        have hb1 := lull_below hw
        clear hw
        have HL1 := Lib.hid (HL.out.next hb1)
        have HE1 := Lib.hid (HE.out.below hb1)
        have HX1 := Lib.hid (HXr.out.below hb1)
        clear hb1 x0 x1 x2 x3 x4 x5 x6 x7 x8 z0 z1 z2 z3 z4 z5 z6 z7 z8 P Q HE HXr HXr2 HL HN CA
        obtain ⟨p, p0, p1, p2, p3, p4, p5, p6, p7, p8⟩ := HE1.out
        have HO6 := Lib.hid (HL1.out.own.alloc (.cells #[.int .i64 e.id, .string e.user, .int .i64 e.width, .int .i64 e.est, .int .i64 e.prio, .int .i64 e.sub, .int .i64 e.state, .int .i64 e.start, .int .i64 e.fin] 28))
        go_wp2_with (at_builtin; refine push_raw jobs_t rfl (.tmp 29) (.tmp 34) rfl W0.heap.size _ _ _ rfl HO6.out ⟨w1.heap.size, 0, none⟩ 1 1 (jobC e) rfl rfl ?ha1 (jobC_cell e) ?ha2 ?_)
        case ha1 => exact Raw.alloc w1 (jobA e) 28
        case ha2 => first | omega | (simp only [List.length_append, List.length_singleton]; omega)
        intro v6 w6 ho6 hb6
        have HL6 : Hid (PutAt W0 w6 v6 (m ++ [e])) := ⟨ho6.cast (by simp only [List.length_append, List.length_singleton]) (jvals_one _ _).symm, (HL1.out.below.alloc HL1.out.below.size _).trans hb6⟩
        clear ho6 hb6
        obtain ⟨g6, c6, rfl, _⟩ := HL6.out.own.form
        go_wp2_with fail
        exact ⟨⟨k + 1, _, rfl, by rw [HD2.out], by go_num, by omega, by rw [HM2.out]; exact HL6.out⟩, by simp [intOf] <;> omega⟩
      · rw [ha] at CA
        clear ha
        go_wp2_with fail
        refine wp_region_calm (by kernel_rfl) (by kernel_rfl) ?_
        repeat (first | go_big_quiet_step ((go_at_call 70; exact calm_of (CA.out _))) | quiet_step ((go_at_call 70; exact calm_of (CA.out _))))
        refine wpQuiet_nil ?_
        intro w1 hw
        have hb1 := lull_below hw
        clear hw
        have HL1 := Lib.hid (HL.out.next hb1)
        have HE1 := Lib.hid (HE.out.below hb1)
        have HX1 := Lib.hid (HXr.out.below hb1)
        clear hb1 x0 x1 x2 x3 x4 x5 x6 x7 x8 z0 z1 z2 z3 z4 z5 z6 z7 z8 P Q HE HXr HXr2 HL HN CA
        obtain ⟨y, y0, y1, y2, y3, y4, y5, y6, y7, y8, _, _, _, _, _, _, _, _, _⟩ := HX1.out
        have HO6 := Lib.hid (HL1.out.own.alloc (.cells #[.int .i64 j.id, .string j.user, .int .i64 j.width, .int .i64 j.est, .int .i64 j.prio, .int .i64 j.sub, .int .i64 j.state, .int .i64 j.start, .int .i64 j.fin] 28))
        go_wp2_with (at_builtin; refine push_raw jobs_t rfl (.tmp 25) (.tmp 27) rfl W0.heap.size _ _ _ rfl HO6.out ⟨w1.heap.size, 0, none⟩ 1 1 (jobC j) rfl rfl ?hb1a (jobC_cell j) ?hb2a ?_)
        case hb1a => exact Raw.alloc w1 (jobA j) 28
        case hb2a => first | omega | (simp only [List.length_append, List.length_singleton]; omega)
        intro v6 w6 ho6 hb6
        have HL6 : Hid (PutAt W0 w6 v6 (m ++ [j])) := ⟨ho6.cast (by simp only [List.length_append, List.length_singleton]) (jvals_one _ _).symm, (HL1.out.below.alloc HL1.out.below.size _).trans hb6⟩
        have HE6 := Lib.hid (HE0.out.below HL6.out.below)
        clear ho6 hb6 y y0 y1 y2 y3 y4 y5 y6 y7 y8
        obtain ⟨g6, c6, rfl, _⟩ := HL6.out.own.form
        obtain ⟨p, p0, p1, p2, p3, p4, p5, p6, p7, p8⟩ := HE6.out
        have HO7 := Lib.hid (HL6.out.own.alloc (.cells #[.int .i64 e.id, .string e.user, .int .i64 e.width, .int .i64 e.est, .int .i64 e.prio, .int .i64 e.sub, .int .i64 e.state, .int .i64 e.start, .int .i64 e.fin] 28))
        go_wp2_with (at_builtin; refine push_raw jobs_t rfl (.tmp 29) (.tmp 34) rfl W0.heap.size _ _ _ rfl HO7.out ⟨w6.heap.size, 0, none⟩ 1 1 (jobC e) rfl rfl ?hb3a (jobC_cell e) ?hb4a ?_)
        case hb3a => exact Raw.alloc w6 (jobA e) 28
        case hb4a => first | omega | (simp only [List.length_append, List.length_singleton]; omega)
        intro v7 w7 ho7 hb7
        have HL7 : Hid (PutAt W0 w7 v7 (m ++ [j] ++ [e])) := ⟨ho7.cast (by simp only [List.length_append, List.length_singleton]) (jvals_one _ _).symm, (HL6.out.below.alloc HL6.out.below.size _).trans hb7⟩
        clear ho7 hb7
        obtain ⟨g7, c7, rfl, _⟩ := HL7.out.own.form
        go_wp2_with fail
        exact ⟨⟨k + 1, _, rfl, by rw [HD2.out], by go_num, by omega, by rw [HM2.out]; exact HL7.out⟩, by simp [intOf] <;> omega⟩
      · rw [ha] at CA
        clear ha
        go_wp2_with fail
        refine wp_region_calm (by kernel_rfl) (by kernel_rfl) ?_
        repeat (first | go_big_quiet_step ((go_at_call 70; exact calm_of (CA.out _))) | quiet_step ((go_at_call 70; exact calm_of (CA.out _))))
        refine wpQuiet_nil ?_
        intro w1 hw
        have hb1 := lull_below hw
        clear hw
        have HL1 := Lib.hid (HL.out.next hb1)
        have HE1 := Lib.hid (HE.out.below hb1)
        have HX1 := Lib.hid (HXr.out.below hb1)
        clear hb1 x0 x1 x2 x3 x4 x5 x6 x7 x8 z0 z1 z2 z3 z4 z5 z6 z7 z8 P Q HE HXr HXr2 HL HN CA
        obtain ⟨p, p0, p1, p2, p3, p4, p5, p6, p7, p8⟩ := HE1.out
        have HO6 := Lib.hid (HL1.out.own.alloc (.cells #[.int .i64 e.id, .string e.user, .int .i64 e.width, .int .i64 e.est, .int .i64 e.prio, .int .i64 e.sub, .int .i64 e.state, .int .i64 e.start, .int .i64 e.fin] 28))
        go_wp2_with (at_builtin; refine push_raw jobs_t rfl (.tmp 29) (.tmp 34) rfl W0.heap.size _ _ _ rfl HO6.out ⟨w1.heap.size, 0, none⟩ 1 1 (jobC e) rfl rfl ?hc1 (jobC_cell e) ?hc2 ?_)
        case hc1 => exact Raw.alloc w1 (jobA e) 28
        case hc2 => first | omega | (simp only [List.length_append, List.length_singleton]; omega)
        intro v6 w6 ho6 hb6
        have HL6 : Hid (PutAt W0 w6 v6 (m ++ [e])) := ⟨ho6.cast (by simp only [List.length_append, List.length_singleton]) (jvals_one _ _).symm, (HL1.out.below.alloc HL1.out.below.size _).trans hb6⟩
        clear ho6 hb6
        obtain ⟨g6, c6, rfl, _⟩ := HL6.out.own.form
        go_wp2_with fail
        exact ⟨⟨k + 1, _, rfl, by rw [HD2.out], by go_num, by omega, by rw [HM2.out]; exact HL6.out⟩, by simp [intOf] <;> omega⟩
    · have hol := out_len l j k
      obtain rfl : k = l.length := by omega
      have HN := Lib.hid (out_end l j)
      generalize doneTo l j l.length = D at *
      generalize outTo l j l.length = m at *
      have HXr := Lib.hid (HX0.out.under HL.out.below HX0.out.lt)
      rcases HN.out with ⟨rfl, hp⟩ | ⟨rfl, hp⟩
      · have HP := Lib.hid hp
        clear hp
        go_wp2_with fail
        go_ret
        exact ⟨_, rfl, by rw [HP.out]; exact own_rebase HL.out.own HB0.out.size, HB0.out.trans (HL.out.below.mono HB0.out.size)⟩
      · have HP := Lib.hid hp
        clear hp
        obtain ⟨y, y0, y1, y2, y3, y4, y5, y6, y7, y8, _, _, _, _, _, _, _, _, _⟩ := HXr.out
        have HO6 := Lib.hid (HL.out.own.alloc (.cells #[.int .i64 j.id, .string j.user, .int .i64 j.width, .int .i64 j.est, .int .i64 j.prio, .int .i64 j.sub, .int .i64 j.state, .int .i64 j.start, .int .i64 j.fin] 28))
        go_wp2_with (at_builtin; refine push_raw jobs_t rfl (.tmp 38) (.tmp 40) rfl W0.heap.size _ _ _ rfl HO6.out ⟨wr.heap.size, 0, none⟩ 1 1 (jobC j) rfl rfl ?hd1 (jobC_cell j) ?hd2 ?_)
        case hd1 => exact Raw.alloc wr (jobA j) 28
        case hd2 => first | omega | (simp only [List.length_append, List.length_singleton]; omega)
        intro v6 w6 ho6 hb6
        have HL6 : Hid (PutAt W0 w6 v6 (m ++ [j])) := ⟨ho6.cast (by simp only [List.length_append, List.length_singleton]) (jvals_one _ _).symm, (HL.out.below.alloc HL.out.below.size _).trans hb6⟩
        clear ho6 hb6
        obtain ⟨g6, c6, rfl, _⟩ := HL6.out.own.form
        go_wp2_with fail
        go_ret
        exact ⟨_, rfl, by rw [HP.out]; exact own_rebase HL6.out.own HB0.out.size, HB0.out.trans (HL6.out.below.mono HB0.out.size)⟩
def SortIs (l : List Jb) (w : World) (e : Ending) (w' : World) : Prop := ∃ v, e = .returned v ∧ NewJobs l w.heap.size w' v ∧ Below w.heap.size w w'
theorem sort_tk_len (l : List Jb) (k : Nat) : (sortL (l.take k)).length ≤ l.length := by rw [sort_len, List.length_take]; omega
set_option maxHeartbeats 1600000 in
theorem sort8 (l : List Jb) (v : Value) (w : World) (hv : JobsIs l w v) (hl : l.length ≤ 100000) : Calls Try.prog 40 #[v] w (SortIs (sortL l) w) := by
  obtain ⟨A, c, rfl, hn, hA⟩ := hv.open_
  have HA := Lib.hid hA
  clear hA hv
  go_enter Try.func40, Try.ntmps40
  go_wp2_with fail
  go_loopw [3, 4] (fun o i wr => ∃ (k : Nat) (v : Value), v = o ∧ i = .int .i64 k ∧ k ≤ l.length ∧ Hid (PutAt w wr v (sortL (l.take k)))) (fun _ i _ => l.length - (intOf i).toNat)
  case atStart => exact ⟨0, _, rfl, rfl, Nat.zero_le _, OwnR.new w _ 9, below_box _ _⟩
  case round =>
    obtain ⟨k, o, hov, rfl, hk, HL⟩ := hrel
    subst hov
    have hsl := sort_tk_len l k
    by_cases hlt : k < l.length
    · obtain ⟨a, rfl, hat⟩ := HA.out k hlt
      have hlt2 : (k : Int) < (l.length : Int) := by omega
      have hkn : (0 : Int) ≤ (k : Int) := by omega
      have HN := Lib.hid (sort_take hlt)
      have CP := Lib.hid (put8 (sortL (l.take k)) l[k] _ wr (jobs_own HL.out.own rfl) (by omega))
      obtain ⟨p, p0, p1, p2, p3, p4, p5, p6, p7, p8⟩ := hat.below HL.out.below
      generalize l[k] = e at *
      generalize sortL (l.take k) = m at *
      obtain ⟨g, cg, rfl, _⟩ := HL.out.own.form
      unfold jobV jobA at CP
      clear hat
      go_wp2_with fail
      refine CP.out.mono ?_
      rintro x w1 ⟨v1, rfl, hn1, hb1⟩
      obtain ⟨g1, c1, rfl, _⟩ := hn1.form
      have HL1 : Hid (PutAt w w1 (.slice (some ⟨g1, 0, none⟩) (putL m e).length c1) (putL m e)) := ⟨own_rebase hn1 HL.out.below.size, HL.out.below.trans (hb1.mono HL.out.below.size)⟩
      clear hn1 hb1 CP
      go_wp2_with fail
      exact ⟨⟨k + 1, _, rfl, by go_num, by omega, by rw [HN.out]; exact HL1.out⟩, by simp [intOf] <;> omega⟩
    · obtain rfl : k = l.length := by omega
      rw [List.take_length] at HL
      obtain ⟨g, cg, rfl, _⟩ := HL.out.own.form
      go_wp2_with fail
      go_ret
      exact ⟨_, rfl, HL.out.own, HL.out.below⟩
end Go.Proofs.Ytjegkddpaampmaa.OrdRef
