/-
  The walks of the statements of layer 11: what all of them use (like) and end with (awake).
-/
import Derived.Test.YtjegkddpaampmaaTabWalk
import Derived.Test.YtjegkddpaampmaaOrdRefC
namespace Go.Proofs.Ytjegkddpaampmaa.TabWalk
open Go.RowKit Go.Proofs.Ytjegkddpaampmaa.JobPlain Go.Proofs.Ytjegkddpaampmaa.OrdPlain Go.Proofs.Ytjegkddpaampmaa.TabPlain Go.Proofs.Ytjegkddpaampmaa.Mem Go.Proofs.Ytjegkddpaampmaa.JobMem Go.Proofs.Ytjegkddpaampmaa.OrdMem Go.Proofs.Ytjegkddpaampmaa.OrdRef Go.Proofs.Ytjegkddpaampmaa.TabRef
theorem tab_below {O : List Nat} {l : List Jb} {w w' : World} {v : Value} (h : Tab O l w v) (hb : Below w.heap.size w w') : Tab O l w' v := h.keep hb.size (fun i hi => hb.block i (h.lt i hi))
/-- A table behind some acts, and a list that it doesn't own. -/
structure Here (O0 : List Nat) (w0 : World) (l : List Jb) (v : Value) (L : List Jb) (u : Value) (O : List Nat) (w : World) : Prop where
  tab : Tab O l w v
  owns : Owns O0 O w0
  spare : Spare O0 w0 w
  off : JobsOff O L w u
section
variable {O0 O O' : List Nat} {w0 w w' : World} {l l' L : List Jb} {v u : Value}
theorem Here.below (h : Here O0 w0 l v L u O w) (hb : Below w.heap.size w w') : Here O0 w0 l v L u O w' :=
  ⟨tab_below h.tab hb, h.owns, h.spare.then_ h.owns (Spare.of_below hb), h.off.below hb⟩
theorem Here.acts (h : Here O0 w0 l v L u O w) (ht : Tab O' l' w' v) (ho : Owns O O' w) (hs : Spare O w w') : Here O0 w0 l' v L u O' w' :=
  ⟨ht, h.owns.then_ ho h.spare.size, h.spare.then_ h.owns hs, h.off.next hs ho⟩
end
theorem get_ways (l : List Jb) (id : Int) : (findL l id = -1 ∧ decide (0 ≤ findL l id) = false ∧ getJ l id = noJb) ∨ (∃ k : Nat, k < l.length ∧ findL l id = k ∧ decide (0 ≤ findL l id) = true ∧ ∃ hk : k < l.length, getJ l id = l[k]) := by
  unfold getJ
  rcases find_range l id with h | ⟨k, hk, h⟩
  · exact .inl ⟨h, decide_eq_false (by omega), if_neg (by omega)⟩
  · exact .inr ⟨k, hk, h, decide_eq_true (by omega), hk, by rw [if_pos (by omega), h, atI_nat hk]⟩
theorem inT_out {l : List Jb} (h : ∀ j ∈ l, mayJ j = true) {s : Int} (hs : s < 0 ∨ 5 < s) : inT l s = [] := by
  have : inL l s = [] := by
    unfold inL
    rw [List.filter_eq_nil_iff]
    intro j hj he
    have h1 := may_fin (h j hj)
    have h2 : j.state = s := by simpa using he
    omega
  unfold inT
  rw [this]
  rfl
def stateIn (l : List Jb) (s : Int) : Prop := (decide (s < 0) = true ∧ (inT l s).length = 0) ∨ (decide (s < 0) = false ∧ decide (5 < s) = true ∧ (inT l s).length = 0) ∨ (decide (s < 0) = false ∧ decide (5 < s) = false)
theorem state_in {l : List Jb} (h : ∀ j ∈ l, mayJ j = true) (s : Int) : stateIn l s := by
  by_cases h1 : s < 0
  · exact .inl ⟨decide_eq_true h1, by rw [inT_out h (.inl h1)]; rfl⟩
  · by_cases h2 : 5 < s
    · exact .inr (.inl ⟨decide_eq_false h1, decide_eq_true h2, by rw [inT_out h (.inr h2)]; rfl⟩)
    · exact .inr (.inr ⟨decide_eq_false h1, decide_eq_false h2⟩)
def LikeIs (O : List Nat) (l : List Jb) (v u : Value) (w : World) (e : Ending) (w' : World) : Prop := ∃ O', e = .returned (.bool true) ∧ Here O w l v l u O' w'
set_option maxRecDepth 100000 in
set_option maxHeartbeats 12800000 in
theorem like11 {O : List Nat} {l : List Jb} {v u : Value} {w : World} (ht : Tab O l w v) (hu : JobsOff O l w u) (hl : l.length ≤ 200) (id s : Int) : Calls Try.prog 14 #[v, u, .int .i64 id, .int .i64 s] w (LikeIs O l v u w) := by
  have hst := state_in ht.is.may s
  have hways := get_ways l id
  have CG := Lib.hid (getS ht hl id)
  have H0 : Hid (Here O w l v l u O w) := ⟨ht, Owns.refl _ _, Spare.of_below (Below.refl _ _), hu⟩
  have CF := Lib.hid (fun W (h : JobsIs l W u) => find8 l id u W h (by omega))
  have CIs := Lib.hid (fun W (h : JobsIs l W u) => in11 l s u W h (by omega))
  have CI0 := Lib.hid (fun W (h : JobsIs l W u) => in11 l 0 u W h (by omega))
  have CI1 := Lib.hid (fun W (h : JobsIs l W u) => in11 l 1 u W h (by omega))
  have CI2 := Lib.hid (fun W (h : JobsIs l W u) => in11 l 2 u W h (by omega))
  have CS := Lib.hid (fun W a (h1 : JobsIs l W a) (h2 : JobsIs l W u) => same8 l a u W h1 h2 (by omega))
  have CT := Lib.hid (fun W a b (h1 : JobsIs (inT l s) W a) (h2 : JobsIs (inT l s) W b) => same8 (inT l s) a b W h1 h2 (by have := inT_len l s; omega))
  have CA := Lib.hid (fun (O : List Nat) W (h : Tab O l W v) => allS h hl)
  have CN := Lib.hid (fun (O : List Nat) W (h : Tab O l W v) => inS h hl s)
  have CC := Lib.hid (fun (O : List Nat) W (h : Tab O l W v) => countS h hl s)
  have CL := Lib.hid (fun (O : List Nat) W (h : Tab O l W v) => liveS h hl)
  have q0 := inT_len l 0
  have q1 := inT_len l 1
  have q2 := inT_len l 2
  have qs := inT_len l s
  have HLV : Hid (liveN l = ((inT l 0).length : Int) + ((inT l 1).length : Int) + ((inT l 2).length : Int)) := rfl
  obtain ⟨A, c, rfl, hn, hA⟩ := hu.1.open_
  unfold Acts at CG
  unfold stateIn at hst
  rcases hways with ⟨hf, hd, hg⟩ | ⟨k, hk, hf, hd, hk2, hg⟩
  · rw [hg, hd] at CG
    unfold jobV jobA at CG
    have E1 := fun W => ne_job W noJb
    unfold jobV jobA noJb at E1
    unfold noJb at CG
    dsimp only at CG E1
    rw [hf] at CF
    clear hA ht hu hf hd hg
    have d0 : decide ((0 : Int) ≤ -1) = false := by decide
    have HLV2 := HLV.out
    clear HLV
    unfold Acts at CC CL
    unfold ActsList at CA CN
    generalize liveN l = LV at *
    generalize inT l s = T at *
    generalize inT l 0 = T0 at *
    generalize inT l 1 = T1 at *
    generalize inT l 2 = T2 at *
    subst HLV2
    go_enter Try.func14, Try.ntmps14
    go_wp2_with fail
    refine CG.out.mono ?_
    rintro e w1 ⟨O1, rfl, ht1, ho1, hs1⟩
    have H1 := Lib.hid (H0.out.acts ht1 ho1 hs1)
    clear CG H0 ht1 ho1 hs1
    have HX : Hid (JobBox (w1.alloc (.cells #[.int .i64 0, .string ⟨#[]⟩, .int .i64 0, .int .i64 0, .int .i64 0, .int .i64 0, .int .i64 0, .int .i64 0, .int .i64 0] 28)) w1.heap.size noJb) := JobBox.new w1 noJb 28
    have H2 := Lib.hid (H1.out.below (below_box w1 (.cells #[.int .i64 0, .string ⟨#[]⟩, .int .i64 0, .int .i64 0, .int .i64 0, .int .i64 0, .int .i64 0, .int .i64 0, .int .i64 0] 28)))
    clear H1
    go_upto_region 2 with fail
    generalize w1.alloc (.cells #[.int .i64 0, .string ⟨#[]⟩, .int .i64 0, .int .i64 0, .int .i64 0, .int .i64 0, .int .i64 0, .int .i64 0, .int .i64 0] 28) = w2 at *
    have CF2 := Lib.hid (CF.out w2 H2.out.off.1)
    clear CF
    go_wp2_with fail
    refine CF2.out.mono ?_
    rintro e w3 ⟨rfl, rfl⟩
    obtain ⟨y, y0, y1, y2, y3, y4, y5, y6, y7, y8, _, _, _, _, _, _, _, _, _⟩ := HX.out
    unfold noJb at y0 y1 y2 y3 y4 y5 y6 y7 y8
    dsimp only at y0 y1 y2 y3 y4 y5 y6 y7 y8
    go_wp2_with fail
    go_quiet (fail)
    have H3 := Lib.hid (H2.out.below (below_drewN (Below.refl _ _) nq))
    generalize w2.drewN nq = w4 at *
    clear y y0 y1 y2 y3 y4 y5 y6 y7 y8 H2 HX E1
    go_wp2_with fail
    refine (CIs.out w4 H3.out.off.1).mono ?_
    rintro e w5 ⟨vi, rfl, hj, hfr, hb⟩
    have HI5 := Lib.hid (JobsOff.fresh (O := O1) hj hfr (fun i hi => H3.out.tab.lt i hi))
    have H5 := Lib.hid (H3.out.below hb)
    obtain ⟨Ai, ci, rfl, _, _⟩ := hj.open_
    clear hj hfr hb H3 CIs
    go_wp2_with fail
    refine (CI0.out w5 H5.out.off.1).mono ?_
    rintro e w6 ⟨v6, rfl, hj, _, hb⟩
    have HI6 := Lib.hid (HI5.out.below hb)
    have H6 := Lib.hid (H5.out.below hb)
    obtain ⟨A6, c6, rfl, _, _⟩ := hj.open_
    clear hj hb H5 HI5 CI0
    go_wp2_with fail
    refine (CI1.out w6 H6.out.off.1).mono ?_
    rintro e w7 ⟨v7, rfl, hj, _, hb⟩
    have HI7 := Lib.hid (HI6.out.below hb)
    have H7 := Lib.hid (H6.out.below hb)
    obtain ⟨A7, c7, rfl, _, _⟩ := hj.open_
    clear hj hb H6 HI6 CI1
    go_wp2_with fail
    refine (CI2.out w7 H7.out.off.1).mono ?_
    rintro e w8 ⟨v8, rfl, hj, _, hb⟩
    have HI8 := Lib.hid (HI7.out.below hb)
    have H8 := Lib.hid (H7.out.below hb)
    obtain ⟨A8, c8, rfl, _, _⟩ := hj.open_
    clear hj hb H7 HI7 CI2
    have CAO := Lib.hid (CA.out O1 w8 H8.out.tab)
    clear CA
    rcases hst with ⟨g1, g2⟩ | ⟨g1, g3, g2⟩ | ⟨g1, g3⟩
    all_goals
      have eN : ((T.length : Int) == (T.length : Int)) = true := by simp
      have eS : (((T0.length : Int) + (T1.length : Int) + (T2.length : Int)) == ((T0.length : Int) + (T1.length : Int) + (T2.length : Int))) = true := by simp
      try (have eZ : ((T.length : Int) == 0) = true := by simp [g2])
      try clear g2
      go_wp2_with fail
      refine CAO.out.mono ?_
      rintro e w9 ⟨O2, u2, rfl, hj, _, ht, ho, hs⟩
      have HI9 := Lib.hid (HI8.out.next hs ho)
      have H9 := Lib.hid (H8.out.acts ht ho hs)
      have CS9 := Lib.hid (CS.out w9 u2 hj H9.out.off.1)
      clear hj ht ho hs HI8 H8 CAO CS
      go_wp2_with fail
      refine CS9.out.mono ?_
      rintro e w10 ⟨rfl, n10, rfl⟩
      have HI10 := Lib.hid (HI9.out.below (below_drewN (Below.refl _ _) n10))
      have H10 := Lib.hid (H9.out.below (below_drewN (Below.refl _ _) n10))
      generalize w9.drewN n10 = w10 at *
      have CN10 := Lib.hid (CN.out O2 w10 H10.out.tab)
      clear HI9 H9 CS9 CN
      go_wp2_with fail
      refine CN10.out.mono ?_
      rintro e w11 ⟨O3, u3, rfl, hj, _, ht, ho, hs⟩
      have HI11 := Lib.hid (HI10.out.next hs ho)
      have H11 := Lib.hid (H10.out.acts ht ho hs)
      have CT11 := Lib.hid (CT.out w11 u3 _ hj HI11.out.1)
      clear hj ht ho hs HI10 H10 CN10 CT
      go_wp2_with fail
      refine CT11.out.mono ?_
      rintro e w12 ⟨rfl, n12, rfl⟩
      have H12 := Lib.hid (H11.out.below (below_drewN (Below.refl _ _) n12))
      generalize w11.drewN n12 = w12 at *
      have CC12 := Lib.hid (CC.out O3 w12 H12.out.tab)
      clear HI11 H11 CT11 CC
      go_wp2_with fail
      refine CC12.out.mono ?_
      rintro e w13 ⟨O4, rfl, ht, ho, hs⟩
      have H13 := Lib.hid (H12.out.acts ht ho hs)
      have CL13 := Lib.hid (CL.out O4 w13 H13.out.tab)
      clear ht ho hs H12 CC12 CL
      go_wp2_with fail
      refine CL13.out.mono ?_
      rintro e w14 ⟨O5, rfl, ht, ho, hs⟩
      have H14 := Lib.hid (H13.out.acts ht ho hs)
      clear ht ho hs H13 CL13
      go_wp2_with fail
      go_ret
      exact ⟨O5, rfl, H14.out⟩
  · rw [hg, hd] at CG
    unfold jobV jobA at CG
    have HAT := Lib.hid (fun W (h : JobsIs l W (.slice A l.length c)) => by
      have h := h
      obtain ⟨A3, c3, e3, _, hA3⟩ := h.open_
      injection e3 with e31 e32 e33
      subst e31
      exact hA3 k hk : ∀ W, JobsIs l W (.slice A l.length c) → ∃ a, A = some a ∧ JobAt W (a.add (k * 9)) l[k])
    have E1 := fun W => ne_job W l[k]
    unfold jobV jobA at E1
    rw [hf] at CF
    have i0 : (0 : Int) ≤ (k : Int) := Int.natCast_nonneg _
    have i1 : (k : Int) < (l.length : Int) := by omega
    have d0 : decide ((0 : Int) ≤ (k : Int)) = true := decide_eq_true i0
    generalize l[k] = g at *
    clear hA ht hu hf hd hg
    have HLV2 := HLV.out
    clear HLV
    unfold Acts at CC CL
    unfold ActsList at CA CN
    generalize liveN l = LV at *
    generalize inT l s = T at *
    generalize inT l 0 = T0 at *
    generalize inT l 1 = T1 at *
    generalize inT l 2 = T2 at *
    subst HLV2
    go_enter Try.func14, Try.ntmps14
    go_wp2_with fail
    refine CG.out.mono ?_
    rintro e w1 ⟨O1, rfl, ht1, ho1, hs1⟩
    have H1 := Lib.hid (H0.out.acts ht1 ho1 hs1)
    clear CG H0 ht1 ho1 hs1
    have HX := Lib.hid (JobBox.new w1 g 28)
    have H2 := Lib.hid (H1.out.below (below_box w1 (.cells #[.int .i64 g.id, .string g.user, .int .i64 g.width, .int .i64 g.est, .int .i64 g.prio, .int .i64 g.sub, .int .i64 g.state, .int .i64 g.start, .int .i64 g.fin] 28)))
    clear H1
    go_upto_region 2 with fail
    generalize w1.alloc (.cells #[.int .i64 g.id, .string g.user, .int .i64 g.width, .int .i64 g.est, .int .i64 g.prio, .int .i64 g.sub, .int .i64 g.state, .int .i64 g.start, .int .i64 g.fin] 28) = w2 at *
    have CF2 := Lib.hid (CF.out w2 H2.out.off.1)
    clear CF
    go_wp2_with fail
    refine CF2.out.mono ?_
    rintro e w3 ⟨rfl, rfl⟩
    obtain ⟨y, y0, y1, y2, y3, y4, y5, y6, y7, y8, _, _, _, _, _, _, _, _, _⟩ := HX.out
    obtain ⟨ad, rfl, ⟨p, p0, p1, p2, p3, p4, p5, p6, p7, p8⟩⟩ := HAT.out w2 H2.out.off.1
    go_wp2_with fail
    go_quiet (fail)
    have H3 := Lib.hid (H2.out.below (below_drewN (Below.refl _ _) nq))
    generalize w2.drewN nq = w4 at *
    clear y y0 y1 y2 y3 y4 y5 y6 y7 y8 p p0 p1 p2 p3 p4 p5 p6 p7 p8 H2 HX E1 HAT
    go_wp2_with fail
    refine (CIs.out w4 H3.out.off.1).mono ?_
    rintro e w5 ⟨vi, rfl, hj, hfr, hb⟩
    have HI5 := Lib.hid (JobsOff.fresh (O := O1) hj hfr (fun i hi => H3.out.tab.lt i hi))
    have H5 := Lib.hid (H3.out.below hb)
    obtain ⟨Ai, ci, rfl, _, _⟩ := hj.open_
    clear hj hfr hb H3 CIs
    go_wp2_with fail
    refine (CI0.out w5 H5.out.off.1).mono ?_
    rintro e w6 ⟨v6, rfl, hj, _, hb⟩
    have HI6 := Lib.hid (HI5.out.below hb)
    have H6 := Lib.hid (H5.out.below hb)
    obtain ⟨A6, c6, rfl, _, _⟩ := hj.open_
    clear hj hb H5 HI5 CI0
    go_wp2_with fail
    refine (CI1.out w6 H6.out.off.1).mono ?_
    rintro e w7 ⟨v7, rfl, hj, _, hb⟩
    have HI7 := Lib.hid (HI6.out.below hb)
    have H7 := Lib.hid (H6.out.below hb)
    obtain ⟨A7, c7, rfl, _, _⟩ := hj.open_
    clear hj hb H6 HI6 CI1
    go_wp2_with fail
    refine (CI2.out w7 H7.out.off.1).mono ?_
    rintro e w8 ⟨v8, rfl, hj, _, hb⟩
    have HI8 := Lib.hid (HI7.out.below hb)
    have H8 := Lib.hid (H7.out.below hb)
    obtain ⟨A8, c8, rfl, _, _⟩ := hj.open_
    clear hj hb H7 HI7 CI2
    have CAO := Lib.hid (CA.out O1 w8 H8.out.tab)
    clear CA
    rcases hst with ⟨g1, g2⟩ | ⟨g1, g3, g2⟩ | ⟨g1, g3⟩
    all_goals
      have eN : ((T.length : Int) == (T.length : Int)) = true := by simp
      have eS : (((T0.length : Int) + (T1.length : Int) + (T2.length : Int)) == ((T0.length : Int) + (T1.length : Int) + (T2.length : Int))) = true := by simp
      try (have eZ : ((T.length : Int) == 0) = true := by simp [g2])
      try clear g2
      go_wp2_with fail
      refine CAO.out.mono ?_
      rintro e w9 ⟨O2, u2, rfl, hj, _, ht, ho, hs⟩
      have HI9 := Lib.hid (HI8.out.next hs ho)
      have H9 := Lib.hid (H8.out.acts ht ho hs)
      have CS9 := Lib.hid (CS.out w9 u2 hj H9.out.off.1)
      clear hj ht ho hs HI8 H8 CAO CS
      go_wp2_with fail
      refine CS9.out.mono ?_
      rintro e w10 ⟨rfl, n10, rfl⟩
      have HI10 := Lib.hid (HI9.out.below (below_drewN (Below.refl _ _) n10))
      have H10 := Lib.hid (H9.out.below (below_drewN (Below.refl _ _) n10))
      generalize w9.drewN n10 = w10 at *
      have CN10 := Lib.hid (CN.out O2 w10 H10.out.tab)
      clear HI9 H9 CS9 CN
      go_wp2_with fail
      refine CN10.out.mono ?_
      rintro e w11 ⟨O3, u3, rfl, hj, _, ht, ho, hs⟩
      have HI11 := Lib.hid (HI10.out.next hs ho)
      have H11 := Lib.hid (H10.out.acts ht ho hs)
      have CT11 := Lib.hid (CT.out w11 u3 _ hj HI11.out.1)
      clear hj ht ho hs HI10 H10 CN10 CT
      go_wp2_with fail
      refine CT11.out.mono ?_
      rintro e w12 ⟨rfl, n12, rfl⟩
      have H12 := Lib.hid (H11.out.below (below_drewN (Below.refl _ _) n12))
      generalize w11.drewN n12 = w12 at *
      have CC12 := Lib.hid (CC.out O3 w12 H12.out.tab)
      clear HI11 H11 CT11 CC
      go_wp2_with fail
      refine CC12.out.mono ?_
      rintro e w13 ⟨O4, rfl, ht, ho, hs⟩
      have H13 := Lib.hid (H12.out.acts ht ho hs)
      have CL13 := Lib.hid (CL.out O4 w13 H13.out.tab)
      clear ht ho hs H12 CC12 CL
      go_wp2_with fail
      refine CL13.out.mono ?_
      rintro e w14 ⟨O5, rfl, ht, ho, hs⟩
      have H14 := Lib.hid (H13.out.acts ht ho hs)
      clear ht ho hs H13 CL13
      go_wp2_with fail
      go_ret
      exact ⟨O5, rfl, H14.out⟩
end Go.Proofs.Ytjegkddpaampmaa.TabWalk
