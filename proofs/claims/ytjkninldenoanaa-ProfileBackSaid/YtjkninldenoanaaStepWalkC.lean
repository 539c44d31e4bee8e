/-
  The walks of layer 4's code: At, Min, Trim.
-/
import Derived.Test.YtjkninldenoanaaStepWalkB
import Derived.Test.YtjkninldenoanaaBase
namespace Go.Proofs.Ytjkninldenoanaa.StepWalk
open Go.RowKit Go.Proofs.Ytjkninldenoanaa.SpanPlain Go.Proofs.Ytjkninldenoanaa.StepPlain Go.Proofs.Ytjkninldenoanaa.Mem Go.Proofs.Ytjkninldenoanaa.SpanMem Go.Proofs.Ytjkninldenoanaa.StepMem Go.Proofs.Ytjkninldenoanaa.SpanRef Go.Proofs.Ytjkninldenoanaa.StepRef

theorem atb_ways (s : List Sp) (t : Int) : (chkB s = false ∧ Hid (atB s t = false)) ∨ (chkB s = true ∧ decide (t < head s) = true ∧ Hid (atB s t = false)) ∨ (chkB s = true ∧ decide (t < head s) = false ∧ decide (4503599627370496 ≤ t) = true ∧ Hid (atB s t = false)) ∨
    (chkB s = true ∧ decide (t < head s) = false ∧ decide (4503599627370496 ≤ t) = false ∧ Hid (atB s t = true)) := by
  unfold atB
  cases chkB s with
  | false => exact .inl ⟨rfl, rfl⟩
  | true =>
    by_cases h1 : t < head s
    · exact .inr (.inl ⟨rfl, decide_eq_true h1, by rw [decide_eq_false (by omega : ¬ head s ≤ t)]; rfl⟩)
    · by_cases h2 : 4503599627370496 ≤ t
      · exact .inr (.inr (.inl ⟨rfl, decide_eq_false h1, decide_eq_true h2, by rw [decide_eq_false (by omega : ¬ t < 4503599627370496), Bool.and_false]; rfl⟩))
      · exact .inr (.inr (.inr ⟨rfl, decide_eq_false h1, decide_eq_false h2, by rw [decide_eq_true (by omega : head s ≤ t), decide_eq_true (by omega : t < 4503599627370496)]; rfl⟩))
theorem at_no {s : List Sp} {t : Int} (h : atB s t = false) {w w' : World} (hb : Below w.heap.size w w') : PairIs (atN s t) (atB s t) w (.returned (.tuple #[.int .i64 0, .bool false])) w' := by
  unfold atN
  rw [h]
  exact ⟨rfl, hb⟩
theorem at_yes {s : List Sp} {t : Int} (h : atB s t = true) {n : Int} (hn : val s t = n) {w w' : World} (hb : Below w.heap.size w w') : PairIs (atN s t) (atB s t) w (.returned (.tuple #[.int .i64 n, .bool true])) w' := by
  unfold atN
  rw [h, hn]
  exact ⟨rfl, hb⟩
set_option maxHeartbeats 1600000 in
theorem atS (s : List Sp) (t : Int) (v : Value) (w : World) (hv : SpansIs s w v) (hl : s.length ≤ 1000) : Calls Try.prog 34 #[v, .int .i64 t] w (PairIs (atN s t) (atB s t) w) := by
  have CC := Lib.hid (checkS s v w hv hl)
  have CL : Hid (∀ (w' : World), Below w.heap.size w w' → Chk s → head s ≤ t → Calls Try.prog 43 #[v, .int .i64 t] w' (LastSays s t w')) := fun w' hb hc hh => lastS s t v w' (hv.below hb) hc.up hc.pos hh (by omega)
  obtain ⟨A, c, rfl, hn, hA⟩ := hv.open2
  have HA := Lib.hid hA
  clear hA hv
  rcases atb_ways s t with ⟨hc, HR⟩ | ⟨hc, h1, HR⟩ | ⟨hc, h1, h2, HR⟩ | ⟨hc, h1, h2, HR⟩
  · rw [hc] at CC
    clear hc
    go_enter Try.func34, Try.ntmps34
    go_wp2_with fail
    refine CC.out.mono ?_
    rintro e w1 ⟨rfl, hb1⟩
    have HB1 := Lib.hid hb1
    clear hb1
    go_wp2_with fail
    go_ret2
    exact at_no HR.out HB1.out
  all_goals
    have HC := Lib.hid ((chk_iff s).1 hc)
    have hp : 0 < s.length := HC.out.pos
    rw [hc] at CC
    obtain ⟨ad, rfl, had, _, _⟩ := pair_zero HA.out hp
    clear hc
    go_enter Try.func34, Try.ntmps34
    go_wp2_with fail
    refine CC.out.mono ?_
    rintro e w1 ⟨rfl, hb1⟩
    obtain ⟨ad1, ead, had1, c1, c2⟩ := pair_zero (HA.out.below hb1) hp
    injection ead with ead
    subst ead
    have hh : (spCell s 0).1 = .int .i64 (head s) := rfl
    have hlz : (0 : Int) < (s.length : Int) := by omega
    rw [hh] at c1
    have HB1 := Lib.hid hb1
    clear hb1 c2 hh CC
  · generalize head s = h at *
    go_wp2_with fail
    go_ret2
    exact at_no HR.out HB1.out
  · generalize head s = h at *
    go_wp2_with fail
    go_ret2
    exact at_no HR.out HB1.out
  · have CL2 := Lib.hid (CL.out w1 HB1.out HC.out (by have := of_decide_eq_false h1; omega))
    generalize head s = h at *
    clear CL
    go_wp2_with fail
    refine CL2.out.mono ?_
    rintro e w2 ⟨k, rfl, hk, hb2⟩
    obtain ⟨ad2, ead, had2, c3, c4⟩ := nth_cells (HA.out.below (below_then HB1.out hb2)) hk.lt
    injection ead with ead
    subst ead
    have HV := Lib.hid hk.val
    have hk2 : (k : Int) < (s.length : Int) := by have := hk.lt; omega
    have HB2 := Lib.hid (below_then HB1.out hb2)
    clear hk hb2 CL2 c1 c3
    generalize nth s k = y at *
    go_wp2_with fail
    go_ret2
    exact at_yes HR.out HV.out HB2.out

theorem raw_of {l : List Sp} {w : World} {ad : Addr} {n c : Nat} (h : SpansIs l w (.slice (some ad) n c)) : Raw w ad (svals l) := by
  rcases h with ⟨h1, _⟩ | ⟨a, c2, h1, h2, _⟩
  · cases h1
  · injection h1 with h1
    injection h1 with h1
    subst h1
    exact h2
theorem svals_drop (l : List Sp) : ∀ k, (svals l).drop (k * 2) = svals (l.drop k) := by
  induction l with
  | nil => intro k; simp [svals]
  | cons s l ih =>
    intro k
    cases k with
    | zero => rfl
    | succ k =>
      have e : svals (s :: l) = .int .i64 s.1 :: .int .i64 s.2 :: svals l := rfl
      rw [e, show (k + 1) * 2 = k * 2 + 1 + 1 by omega, List.drop_succ_cons, List.drop_succ_cons, List.drop_succ_cons]
      exact ih k
theorem svals_take (l : List Sp) : ∀ k, (svals l).take (k * 2) = svals (l.take k) := by
  induction l with
  | nil => intro k; simp [svals]
  | cons s l ih =>
    intro k
    cases k with
    | zero => simp [svals]
    | succ k =>
      have e : svals (s :: l) = .int .i64 s.1 :: .int .i64 s.2 :: svals l := rfl
      have e2 : svals (s :: l.take k) = .int .i64 s.1 :: .int .i64 s.2 :: svals (l.take k) := rfl
      rw [e, show (k + 1) * 2 = k * 2 + 1 + 1 by omega, List.take_succ_cons, List.take_succ_cons, List.take_succ_cons, ih k, e2]
theorem drop_nth {s : List Sp} {k : Nat} (h : k < s.length) : s.drop k = nth s k :: s.drop (k + 1) := by unfold nth; rw [getSp h, List.drop_eq_getElem_cons h]
theorem trim_ways (s : List Sp) (t : Int) : (chkB s = false ∧ Hid (TrimIs s t [])) ∨ (chkB s = true ∧ decide ((1125899906842624 : Int) < t) = true ∧ Hid (TrimIs s t [])) ∨ (chkB s = true ∧ decide ((1125899906842624 : Int) < t) = false ∧ decide (t ≤ head s) = true ∧ Hid (TrimIs s t s)) ∨
    (chkB s = true ∧ decide ((1125899906842624 : Int) < t) = false ∧ decide (t ≤ head s) = false ∧ Hid (∀ k, LastIs s t k → TrimIs s t ((t, (nth s k).2) :: s.drop (k + 1)))) := by
  cases hc : chkB s with
  | false => exact .inl ⟨rfl, .inl ⟨.inl hc, rfl⟩⟩
  | true =>
    by_cases h1 : 1125899906842624 < t
    · exact .inr (.inl ⟨rfl, decide_eq_true h1, .inl ⟨.inr h1, rfl⟩⟩)
    · by_cases h2 : t ≤ head s
      · exact .inr (.inr (.inl ⟨rfl, decide_eq_false h1, decide_eq_true h2, .inr (.inl ⟨hc, by omega, h2, rfl⟩)⟩))
      · exact .inr (.inr (.inr ⟨rfl, decide_eq_false h1, decide_eq_false h2, fun k hk => .inr (.inr ⟨hc, by omega, by omega, trim_done ((chk_iff s).1 hc) hk (by omega)⟩)⟩))
theorem trim_nil {s : List Sp} {t : Int} (h : TrimIs s t []) {w w' : World} (hb : Below w.heap.size w w') : TrimSays s t w (.returned (.slice none 0 0)) w' := ⟨_, [], rfl, .inl ⟨rfl, rfl⟩, h, hb, NewAt.nil⟩
theorem trim_own {s r : List Sp} {t : Int} (h : TrimIs s t r) {w w1 w' : World} {v : Value} {n : Nat} (hb1 : Below w.heap.size w w1) (ho : OwnR 62 2 w1.heap.size w' v n (svals r)) (hn : n = r.length) (hb : Below w1.heap.size w1 w') : TrimSays s t w (.returned v) w' :=
  ⟨_, r, rfl, OwnR.spans ho hn, h, below_then hb1 hb, NewAt.own ho.toN hb1.size⟩
set_option maxHeartbeats 1600000 in
theorem trimS (s : List Sp) (t : Int) (v : Value) (w : World) (hv : SpansIs s w v) (hl : s.length ≤ 1000) : Calls Try.prog 31 #[v, .int .i64 t] w (TrimSays s t w) := by
  have CC := Lib.hid (checkS s v w hv hl)
  have CL : Hid (∀ (w' : World), Below w.heap.size w w' → Chk s → head s ≤ t → Calls Try.prog 43 #[v, .int .i64 t] w' (LastSays s t w')) := fun w' hb hc hh => lastS s t v w' (hv.below hb) hc.up hc.pos hh (by omega)
  have HV := Lib.hid hv
  obtain ⟨A, c, rfl, hn, hA⟩ := hv.open2
  have HA := Lib.hid hA
  clear hA hv
  rcases trim_ways s t with ⟨hc, HR⟩ | ⟨hc, h1, HR⟩ | ⟨hc, h1, h2, HR⟩ | ⟨hc, h1, h2, HR⟩
  · rw [hc] at CC
    clear hc
    go_enter Try.func31, Try.ntmps31
    go_wp2_with fail
    refine CC.out.mono ?_
    rintro e w1 ⟨rfl, hb1⟩
    have HB1 := Lib.hid hb1
    clear hb1
    go_wp2_with fail
    go_ret
    exact trim_nil HR.out HB1.out
  all_goals
    have HC := Lib.hid ((chk_iff s).1 hc)
    have hp : 0 < s.length := HC.out.pos
    rw [hc] at CC
    obtain ⟨ad, rfl, had, _, _⟩ := pair_zero HA.out hp
    clear hc
    go_enter Try.func31, Try.ntmps31
    go_wp2_with fail
    refine CC.out.mono ?_
    rintro e w1 ⟨rfl, hb1⟩
    obtain ⟨ad1, ead, had1, c1, c2⟩ := pair_zero (HA.out.below hb1) hp
    injection ead with ead
    subst ead
    have hh : (spCell s 0).1 = .int .i64 (head s) := rfl
    have hlz : (0 : Int) < (s.length : Int) := by omega
    rw [hh] at c1
    have HB1 := Lib.hid hb1
    clear hb1 c2 hh CC
  · go_wp2_with fail
    go_ret
    exact trim_nil HR.out HB1.out
  · have CK := Lib.hid (cloneS ad s.length c (svals s) w1 (svals_len s) (by omega) (raw_of (HV.out.below HB1.out)) (svals_cell s))
    generalize head s = h at *
    clear CL
    go_wp2_with fail
    refine CK.out.mono ?_
    rintro e w2 ⟨v2, rfl, ho2, hb2⟩
    have HO2 := Lib.hid ho2
    have HB2 := Lib.hid hb2
    clear ho2 hb2 CK
    go_wp2_with fail
    go_ret
    exact trim_own HR.out HB1.out HO2.out rfl HB2.out
  · have CL2 := Lib.hid (CL.out w1 HB1.out HC.out (by have := of_decide_eq_false h2; omega))
    generalize head s = h at *
    clear CL
    go_wp2_with fail
    refine CL2.out.mono ?_
    rintro e w2 ⟨k, rfl, hk, hb2⟩
    have hkl := hk.lt
    have HT := Lib.hid (HR.out k hk)
    have HB2 := Lib.hid (below_then HB1.out hb2)
    have hk2 : (k : Int) < (s.length : Int) := by omega
    have hk3 : (k : Int) ≤ (s.length : Int) := by omega
    have hk4 : ¬ c = k := by omega
    have i0 : (0 : Int) ≤ (k : Int) := Int.natCast_nonneg _
    have CK := Lib.hid (cloneS (ad.add (k * 2)) (s.length - k) (c - k) (svals (s.drop k)) w2 (by rw [svals_len, List.length_drop]) (by omega) (by rw [← svals_drop]; exact (raw_of (HV.out.below HB2.out)).drop _) (svals_cell _))
    clear hk hb2 CL2 c1 HR
    go_wp2_with fail
    refine CK.out.mono ?_
    rintro e w3 ⟨v3, rfl, ho3, hb3⟩
    rw [drop_nth hkl] at ho3
    obtain ⟨g, c3, rfl, hg1, hg2, hg3, hg4, hg5, hg6⟩ := ho3.form
    have d1 := (hg5 0 _ rfl).2
    have d2 := hg6 0
    rw [add_flat] at d1
    have hz3 : (0 : Int) < ((s.length - k : Nat) : Int) := by omega
    have HO3 := Lib.hid (ho3.set 0 (.int .i64 t))
    have HB3 := Lib.hid (hb3.setCell (p := ⟨g, 0, none⟩) hg1 (.int .i64 t))
    clear ho3 hb3 CK hg3 hg4 hg5 hg6
    go_wp2_with fail
    go_ret
    exact trim_own HT.out HB2.out HO3.out (by rw [List.length_cons, List.length_drop]; omega) HB3.out
end Go.Proofs.Ytjkninldenoanaa.StepWalk
