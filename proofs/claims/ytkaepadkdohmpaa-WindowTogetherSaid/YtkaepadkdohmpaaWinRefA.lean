/-
  The walks of the document's answers for layer 14: Long, Of.
-/
import Derived.Test.YtkaepadkdohmpaaWinPlain
import Derived.Test.YtkaepadkdohmpaaGapRefA
import Derived.Test.YtkaepadkdohmpaaOrdMem
namespace Go.Proofs.Ytkaepadkdohmpaa.WinRef
open Go.RowKit Go.Proofs.Ytkaepadkdohmpaa.SpanPlain Go.Proofs.Ytkaepadkdohmpaa.StepPlain Go.Proofs.Ytkaepadkdohmpaa.GapPlain Go.Proofs.Ytkaepadkdohmpaa.JobPlain Go.Proofs.Ytkaepadkdohmpaa.ApiPlain Go.Proofs.Ytkaepadkdohmpaa.TwnPlain Go.Proofs.Ytkaepadkdohmpaa.WinPlain Go.Proofs.Ytkaepadkdohmpaa.Mem Go.Proofs.Ytkaepadkdohmpaa.SpanMem Go.Proofs.Ytkaepadkdohmpaa.JobMem Go.Proofs.Ytkaepadkdohmpaa.OrdMem Go.Proofs.Ytkaepadkdohmpaa.GapRef
def LongQ (b : Bool) (w : World) (e : Ending) (w' : World) : Prop := e = .returned (.bool b) ∧ w' = w
theorem long_ways (now est r : Int) : (est < 0 ∧ ((now < 0 ∧ longW now est r = decide (r < now + 0)) ∨ (¬ now < 0 ∧ (0 : Int) ≤ 9223372036854775807 - now ∧ longW now est r = decide (r < now + 0)) ∨ (¬ now < 0 ∧ ¬ (0 : Int) ≤ 9223372036854775807 - now ∧ longW now est r = decide (r < 9223372036854775807)))) ∨
    (¬ est < 0 ∧ ((now < 0 ∧ longW now est r = decide (r < now + est)) ∨ (¬ now < 0 ∧ est ≤ 9223372036854775807 - now ∧ longW now est r = decide (r < now + est)) ∨ (¬ now < 0 ∧ ¬ est ≤ 9223372036854775807 - now ∧ longW now est r = decide (r < 9223372036854775807)))) := by
  unfold longW endW
  by_cases h1 : est < 0
  · refine .inl ⟨h1, ?_⟩
    rw [show max est 0 = 0 by omega]
    by_cases h2 : now < 0
    · exact .inl ⟨h2, by rw [if_pos (.inl h2)]⟩
    · by_cases h3 : (0 : Int) ≤ 9223372036854775807 - now
      · exact .inr (.inl ⟨h2, h3, by rw [if_pos (.inr h3)]⟩)
      · exact .inr (.inr ⟨h2, h3, by rw [if_neg (fun q => q.elim h2 h3)]⟩)
  · refine .inr ⟨h1, ?_⟩
    rw [show max est 0 = est by omega]
    by_cases h2 : now < 0
    · exact .inl ⟨h2, by rw [if_pos (.inl h2)]⟩
    · by_cases h3 : est ≤ 9223372036854775807 - now
      · exact .inr (.inl ⟨h2, h3, by rw [if_pos (.inr h3)]⟩)
      · exact .inr (.inr ⟨h2, h3, by rw [if_neg (fun q => q.elim h2 h3)]⟩)
set_option maxHeartbeats 1600000 in
theorem long14 (now est r : Int) (w : World) (hn : -9223372036854775808 ≤ now ∧ now ≤ 9223372036854775807) (he : -9223372036854775808 ≤ est ∧ est ≤ 9223372036854775807) : Calls Try.prog 9 #[.int .i64 now, .int .i64 est, .int .i64 r] w (LongQ (longW now est r) w) := by
  obtain ⟨n1, n2⟩ := hn
  obtain ⟨e1, e2⟩ := he
  rcases long_ways now est r with ⟨h1, ⟨h2, h3⟩ | ⟨h2, h3, h4⟩ | ⟨h2, h3, h4⟩⟩ | ⟨h1, ⟨h2, h3⟩ | ⟨h2, h3, h4⟩ | ⟨h2, h3, h4⟩⟩
  · rw [h3]
    clear h3
    go_enter Try.func9, Try.ntmps9
    go_wp2_with fail
    go_ret
    exact ⟨by simp, rfl⟩
  · rw [h4]
    clear h4
    go_enter Try.func9, Try.ntmps9
    go_wp2_with fail
    go_ret
    exact ⟨by simp, rfl⟩
  · exfalso; omega
  · rw [h3]
    clear h3
    go_enter Try.func9, Try.ntmps9
    go_wp2_with fail
    go_ret
    exact ⟨by simp, rfl⟩
  · rw [h4]
    clear h4
    go_enter Try.func9, Try.ntmps9
    go_wp2_with fail
    go_ret
    exact ⟨by simp, rfl⟩
  · rw [h4]
    clear h4
    go_enter Try.func9, Try.ntmps9
    go_wp2_with fail
    go_ret
    exact ⟨by simp, rfl⟩
/-- How a row of jobs of one's own stands. -/
structure JRow (W wr : World) (v : Value) (m : List Jb) : Prop where
  own : OwnR 39 9 W.heap.size wr v m.length (jvals m)
  below : Below W.heap.size W wr
theorem JRow.then {W wr w1 : World} {v : Value} {m : List Jb} (h : JRow W wr v m) (hb : Below wr.heap.size wr w1) : JRow W w1 v m := ⟨h.own.below hb, h.below.trans (hb.mono h.below.size)⟩
theorem jvals_put (l : List Jb) (j : Jb) : jvals (l ++ [j]) = jvals l ++ jobC j := by simp [jvals]
/-- A row of jobs that is new. -/
def JobsNew (l : List Jb) (w : World) (e : Ending) (w' : World) : Prop := ∃ v, e = .returned v ∧ OwnR 39 9 w.heap.size w' v l.length (jvals l) ∧ Below w.heap.size w w'
theorem fil_next (l : List Jb) (p : Jb → Bool) {k : Nat} (hk : k < l.length) : (p l[k] = true ∧ (l.take (k + 1)).filter p = (l.take k).filter p ++ [l[k]]) ∨ (p l[k] = false ∧ (l.take (k + 1)).filter p = (l.take k).filter p) := by
  rw [List.take_succ_eq_append_getElem hk, List.filter_append]
  cases hd : p l[k] with
  | true => exact .inl ⟨rfl, by simp [hd]⟩
  | false => exact .inr ⟨rfl, by simp [hd]⟩
theorem fil_len (l : List Jb) (p : Jb → Bool) (k : Nat) : ((l.take k).filter p).length ≤ l.length := by
  have := List.length_filter_le p (l.take k)
  rw [List.length_take] at this
  omega
theorem win_done {s : List Sp} {now k : Int} {l : List Jb} {i : Nat} (hi : i ≤ l.length) (hm : ((l.take i).filter (meantW s now)).length ≤ k.toNat) (h : i = l.length ∨ ¬ (((l.take i).filter (meantW s now)).length : Int) < k) : winL s now k l = (l.take i).filter (meantW s now) := by
  unfold winL
  by_cases hf : ((l.take i).filter (meantW s now)).length = k.toNat
  · have e : l.filter (meantW s now) = (l.take i).filter (meantW s now) ++ (l.drop i).filter (meantW s now) := by rw [← List.filter_append, List.take_append_drop]
    rw [e, ← hf, List.take_left]
  · rcases h with rfl | h
    · rw [List.take_length] at hm ⊢
      exact List.take_of_length_le hm
    · omega
theorem meant_ways (s : List Sp) (now : Int) (j : Jb) : (mayG s j.width j.est = false ∧ meantW s now j = false) ∨ (mayG s j.width j.est = true ∧ (1 ≤ j.est ∧ j.est ≤ 1099511627776) ∧ meantW s now j = roomB s now j.width j.est) := by
  unfold meantW okG
  cases h : mayG s j.width j.est with
  | false => exact .inl ⟨rfl, rfl⟩
  | true => exact .inr ⟨rfl, (mayG_iff.1 h).2.2, rfl⟩
set_option maxRecDepth 100000 in
set_option maxHeartbeats 6400000 in
theorem of14 (s : List Sp) (now k : Int) (l : List Jb) (vs vj : Value) (w : World) (hs : SpansIs s w vs) (hsl : s.length ≤ 9000) (hc : Chk s) (hv : JobsIs l w vj) (hl : l.length ≤ 100000) :
    Calls Try.prog 8 #[vs, .int .i64 now, vj, .int .i64 k] w (JobsNew (winL s now k l) w) := by
  have HSP := Lib.hid hs
  have HCH := Lib.hid hc
  obtain ⟨A, c, rfl, hn, hA⟩ := hv.open_
  have HA := Lib.hid hA
  obtain ⟨As, cs, rfl, _⟩ := hs.open_
  clear hA hv hs hc
  go_enter Try.func8, Try.ntmps8
  go_wp2_with fail
  go_loopw [9, 10] (fun o i wr => ∃ (q : Nat) (v : Value), v = o ∧ i = .int .i64 q ∧ q ≤ l.length ∧ Hid (((l.take q).filter (meantW s now)).length ≤ k.toNat) ∧ Hid (JRow w wr v ((l.take q).filter (meantW s now)))) (fun _ i _ => l.length - (intOf i).toNat)
  case atStart => exact ⟨0, _, rfl, rfl, Nat.zero_le _, Nat.zero_le _, OwnR.new w _ 9, below_box _ _⟩
  case round =>
    obtain ⟨q, o, hov, rfl, hq, HM, HL⟩ := hrel
    subst hov
    obtain ⟨g, cg, rfl, _⟩ := HL.out.own.form
    have hfl := fil_len l (meantW s now) q
    by_cases hgo : q < l.length ∧ (((l.take q).filter (meantW s now)).length : Int) < k
    · obtain ⟨hlt, hlm⟩ := hgo
      obtain ⟨a, rfl, hat⟩ := HA.out q hlt
      have hlt2 : (q : Int) < (l.length : Int) := by omega
      have hqn : (0 : Int) ≤ (q : Int) := by omega
      have HN := Lib.hid (fil_next l (meantW s now) hlt)
      have HLM := Lib.hid hlm
      have HE := Lib.hid (hat.below HL.out.below)
      have HSr := Lib.hid (HSP.out.below HL.out.below)
      have HMW := Lib.hid (meant_ways s now l[q])
      generalize hm2 : (l.take (q + 1)).filter (meantW s now) = m2 at *
      have HM2 := Lib.hid hm2
      clear hm2 hat
      generalize (l.take q).filter (meantW s now) = m at *
      generalize l[q] = j at *
      have e2 : decide ((m.length : Int) < k) = true := decide_eq_true hlm
      have e3 : (m.length : Int) < k := hlm
      have CMY := Lib.hid (fun (p : Lull wr) => may6 s j.width j.est _ p.u (HSr.out.below p.h) hsl)
      have P := Lib.hid (fun (p : Lull wr) => HE.out.below p.h)
      have x2 : ∀ p : Lull wr, _ := fun p => (P.out p).c2
      have x3 : ∀ p : Lull wr, _ := fun p => (P.out p).c3
      go_upto_region 5 with fail
      rcases HMW.out with ⟨hmay, hmw⟩ | ⟨hmay, hest, hmw⟩
      · have hmm : m2 = m := by
          rcases HN.out with ⟨h1, _⟩ | ⟨_, h2⟩
          · rw [hmw] at h1; cases h1
          · exact h2
        have HMM := Lib.hid hmm
        rw [hmay] at CMY
        clear hmm hmw hmay HN HMW
        refine wp_region_calm (by kernel_rfl) (by kernel_rfl) ?_
        repeat (first | go_big_quiet_step ((go_at_call 20; exact calm_of (CMY.out _))) | quiet_step ((go_at_call 20; exact calm_of (CMY.out _))))
        refine wpQuiet_nil ?_
        intro w1 hw
        have hb1 := lull_below hw
        clear hw
        have HL1 := Lib.hid (HL.out.then hb1)
        clear hb1 x2 x3 P CMY HE HSr HL
        go_wp2_with fail
        exact ⟨⟨q + 1, _, rfl, by go_num, by omega, by rw [HM2.out, HMM.out]; exact HM, by rw [HM2.out, HMM.out]; exact HL1⟩, by simp [intOf] <;> omega⟩
      · have COK := Lib.hid (fun (p : Lull wr) => ok6 s now j.width j.est _ p.u (HSr.out.below p.h) hsl HCH.out hest.1 hest.2)
        rw [hmay] at CMY
        rw [← hmw] at COK
        clear hmay hest hmw HMW
        rcases HN.out with ⟨hmt, hmm⟩ | ⟨hmt, hmm⟩
        · have HMM := Lib.hid hmm
          rw [hmt] at COK
          clear hmm hmt HN
          refine wp_region_calm (by kernel_rfl) (by kernel_rfl) ?_
          repeat (first | go_big_quiet_step ((first | (go_at_call 20; exact calm_of (CMY.out _)) | (go_at_call 21; exact calm_of (COK.out _)))) | quiet_step ((first | (go_at_call 20; exact calm_of (CMY.out _)) | (go_at_call 21; exact calm_of (COK.out _)))))
          refine wpQuiet_nil ?_
          intro w1 hw
          have hb1 := lull_below hw
          clear hw
          have HL1 := Lib.hid (HL.out.then hb1)
          have HE1 := Lib.hid (HE.out.below hb1)
          clear hb1 x2 x3 P CMY COK HE HSr HL
          obtain ⟨p, p0, p1, p2, p3, p4, p5, p6, p7, p8⟩ := HE1.out
          have HO6 := Lib.hid (HL1.out.own.alloc (.cells #[.int .i64 j.id, .string j.user, .int .i64 j.width, .int .i64 j.est, .int .i64 j.prio, .int .i64 j.sub, .int .i64 j.state, .int .i64 j.start, .int .i64 j.fin] 39))
          go_wp2_with (at_builtin; refine push_raw jobs_t rfl (.tmp 51) (.tmp 56) rfl w.heap.size _ _ _ rfl HO6.out ⟨w1.heap.size, 0, none⟩ 1 1 (jobC j) rfl rfl ?ha1 (jobC_cell j) ?ha2 ?_)
          case ha1 => exact Raw.alloc w1 (jobA j) 39
          case ha2 => omega
          intro v6 w6 ho6 hb6
          have HL6 : Hid (JRow w w6 v6 (m ++ [j])) := ⟨ho6.cast (by simp only [List.length_append, List.length_singleton]) (jvals_put _ _).symm, (HL1.out.below.alloc HL1.out.below.size _).trans hb6⟩
          have HM6 : Hid ((m ++ [j]).length ≤ k.toNat) := by
            have := HLM.out
            show (m ++ [j]).length ≤ k.toNat
            simp only [List.length_append, List.length_singleton]
            omega
          clear ho6 hb6
          obtain ⟨g6, c6, rfl, _⟩ := HL6.out.own.form
          go_wp2_with fail
          exact ⟨⟨q + 1, _, rfl, by go_num, by omega, by rw [HM2.out, HMM.out]; exact HM6, by rw [HM2.out, HMM.out]; exact HL6⟩, by simp [intOf] <;> omega⟩
        · have HMM := Lib.hid hmm
          rw [hmt] at COK
          clear hmm hmt HN
          refine wp_region_calm (by kernel_rfl) (by kernel_rfl) ?_
          repeat (first | go_big_quiet_step ((first | (go_at_call 20; exact calm_of (CMY.out _)) | (go_at_call 21; exact calm_of (COK.out _)))) | quiet_step ((first | (go_at_call 20; exact calm_of (CMY.out _)) | (go_at_call 21; exact calm_of (COK.out _)))))
          refine wpQuiet_nil ?_
          intro w1 hw
          have hb1 := lull_below hw
          clear hw
          have HL1 := Lib.hid (HL.out.then hb1)
          clear hb1 x2 x3 P CMY COK HE HSr HL
          go_wp2_with fail
          exact ⟨⟨q + 1, _, rfl, by go_num, by omega, by rw [HM2.out, HMM.out]; exact HM, by rw [HM2.out, HMM.out]; exact HL1⟩, by simp [intOf] <;> omega⟩
    · have hex : (¬ q < l.length ∧ decide ((q : Int) < (l.length : Int)) = false) ∨ (q < l.length ∧ decide ((q : Int) < (l.length : Int)) = true ∧ decide ((((l.take q).filter (meantW s now)).length : Int) < k) = false) := by
        by_cases h2 : q < l.length
        · exact .inr ⟨h2, decide_eq_true (by omega), decide_eq_false (fun h3 => hgo ⟨h2, h3⟩)⟩
        · exact .inl ⟨h2, decide_eq_false (by omega)⟩
      have hfe := win_done (now := now) (s := s) hq HM.out (by
        by_cases h2 : q < l.length
        · exact .inr (fun h3 => hgo ⟨h2, h3⟩)
        · exact .inl (by omega))
      have HFE := Lib.hid hfe
      have HLF : Hid (JRow w wr (.slice (some ⟨g, 0, none⟩) ((l.take q).filter (meantW s now)).length cg) (winL s now k l)) := by rw [hfe]; exact HL
      clear hgo hfe HM HL
      generalize (l.take q).filter (meantW s now) = m at *
      rcases hex with ⟨e0, e1⟩ | ⟨e0, e1, e2⟩
      · go_wp2_with fail
        go_ret
        exact ⟨_, rfl, HLF.out.own, HLF.out.below⟩
      · have e3 : ¬ (m.length : Int) < k := of_decide_eq_false e2
        have e4 : (q : Int) < (l.length : Int) := by omega
        go_wp2_with fail
        go_ret
        exact ⟨_, rfl, HLF.out.own, HLF.out.below⟩
end Go.Proofs.Ytkaepadkdohmpaa.WinRef
