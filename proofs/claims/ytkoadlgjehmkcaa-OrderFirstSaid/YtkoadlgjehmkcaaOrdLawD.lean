/-
  The walks of the statements of layer 8: OrderFirst.
-/
import Derived.Test.YtkoadlgjehmkcaaOrdLawA
import Derived.Test.YtkoadlgjehmkcaaOrdRefC
namespace Go.Proofs.Ytkoadlgjehmkcaa.OrdWalk
open Go.RowKit Go.Proofs.Ytkoadlgjehmkcaa.JobPlain Go.Proofs.Ytkoadlgjehmkcaa.OrdPlain Go.Proofs.Ytkoadlgjehmkcaa.Mem Go.Proofs.Ytkoadlgjehmkcaa.JobMem Go.Proofs.Ytkoadlgjehmkcaa.OrdMem Go.Proofs.Ytkoadlgjehmkcaa.OrdRef
def fil (l : List Jb) (width : Int) (k : Nat) : List Jb := (l.take k).filter fun j => decide (j.width ≤ width)
theorem fil_next {l : List Jb} {width : Int} {k : Nat} (hk : k < l.length) : (decide (l[k].width ≤ width) = true ∧ fil l width (k + 1) = fil l width k ++ [l[k]]) ∨ (decide (l[k].width ≤ width) = false ∧ fil l width (k + 1) = fil l width k) := by
  unfold fil
  rw [List.take_succ_eq_append_getElem hk, List.filter_append]
  cases hd : decide (l[k].width ≤ width) with
  | true => exact .inl ⟨rfl, by simp [hd]⟩
  | false => exact .inr ⟨rfl, by simp [hd]⟩
theorem fil_len (l : List Jb) (width : Int) (k : Nat) : (fil l width k).length ≤ l.length := by
  unfold fil
  have := List.length_filter_le (fun j : Jb => decide (j.width ≤ width)) (l.take k)
  rw [List.length_take] at this
  omega
theorem fil_first {l : List Jb} {most width : Int} {k : Nat} (hk : k ≤ l.length) (hm : (fil l width k).length ≤ most.toNat) (h : k = l.length ∨ ¬ ((fil l width k).length : Int) < most) : firstL l most (fun j => decide (j.width ≤ width)) = fil l width k := by
  by_cases hf : (fil l width k).length = most.toNat
  · exact first_full hf
  · rcases h with rfl | h
    · have e : fil l width l.length = l.filter fun j => decide (j.width ≤ width) := by unfold fil; rw [List.take_length]
      rw [e] at hm ⊢
      exact first_all hm
    · omega
structure FirstAt (W wr : World) (v : Value) (m : List Jb) : Prop where
  own : OwnR 24 9 W.heap.size wr v m.length (jvals m)
  below : Below W.heap.size W wr
theorem jvals_two (l : List Jb) (j : Jb) : jvals (l ++ [j]) = jvals l ++ jobC j := by simp [jvals]
set_option maxRecDepth 100000 in
set_option maxHeartbeats 3200000 in
theorem first_any (l : List Jb) (most width : Int) (v : Value) (w : World) (hv : JobsIs l w v) : Calls Try.prog 5 #[v, .int .i64 most, .int .i64 width] w (TrueIs w) := by
  have HB0 := Lib.hid (below_box w (.cells #[.int .i64 width] 3))
  have hbx := (Raw.alloc w #[.int .i64 width] 3) 0 (.int .i64 width) rfl
  rw [add_flat] at hbx
  have HX0 := Lib.hid hbx
  have HV0 := Lib.hid (hv.below HB0.out)
  have HAW := Lib.hid (fun W => awake8 W)
  clear hbx
  by_cases h1 : l.length ≤ 120
  · have d1 : decide ((120 : Int) < (l.length : Int)) = false := by rw [decide_eq_false_iff_not]; omega
    have CF := Lib.hid (firstS l most width w.heap.size v _ HV0.out (by omega) HX0.out.1 HX0.out.2)
    have CN := Lib.hid (fun W v (h : JobsIs l W v) => noFirst l most v W h (by omega))
    obtain ⟨A, c, rfl, hc, hat⟩ := hv.open_
    have HAT := Lib.hid hat
    clear hv hat
    go_enter Try.func5, Try.ntmps5
    go_upto_region 1 with fail
    have HA0 : Hid (∀ i (hi : i < l.length), ∃ a, A = some a ∧ JobAt (w.alloc (.cells #[.int .i64 width] 3)) (a.add (i * 9)) l[i]) := fun i hi => by
      obtain ⟨a, e, h⟩ := HAT.out i hi
      exact ⟨a, e, h.below HB0.out⟩
    generalize w.alloc (.cells #[.int .i64 width] 3) = W0 at *
    clear HAT
    go_wp2_with fail
    refine CF.out.mono ?_
    rintro e w1 ⟨v1, rfl, hj1, hb1⟩
    have HJ1 := Lib.hid hj1
    have HB1 := Lib.hid (below_then HB0.out hb1)
    have HX1 : Hid (w.heap.size < w1.heap.size ∧ w1.cell? ⟨w.heap.size, 0, none⟩ = some (.int .i64 width)) := ⟨Nat.lt_of_lt_of_le HX0.out.1 hb1.size, (hb1.cell (p := ⟨w.heap.size, 0, none⟩) HX0.out.1).trans HX0.out.2⟩
    have HV1 := Lib.hid (HV0.out.below hb1)
    have HA1 : Hid (∀ i (hi : i < l.length), ∃ a, A = some a ∧ JobAt w1 (a.add (i * 9)) l[i]) := fun i hi => by
      obtain ⟨a, e, h⟩ := HA0.out i hi
      exact ⟨a, e, h.below hb1⟩
    have HFF := Lib.hid (fun k hk hm h => fil_first (l := l) (most := most) (width := width) (k := k) hk hm h)
    obtain ⟨A1, c1, rfl, _⟩ := hj1.open_
    generalize firstL l most (fun j => decide (j.width ≤ width)) = F at *
    clear hb1 hj1 CF HB0 HX0 HV0 HA0
    go_wp2_with fail
    go_loopw [8, 9] (fun o i wr => ∃ (k : Nat) (v : Value), v = o ∧ i = .int .i64 k ∧ k ≤ l.length ∧ Hid ((fil l width k).length ≤ most.toNat) ∧ Hid (FirstAt w1 wr v (fil l width k))) (fun _ i _ => l.length - (intOf i).toNat)
    case atStart => exact ⟨0, _, rfl, rfl, Nat.zero_le _, Nat.zero_le _, OwnR.new w1 _ 9, below_box _ _⟩
    case round =>
      obtain ⟨k, o, hov, rfl, hk, HM, HL⟩ := hrel
      subst hov
      obtain ⟨g, cg, rfl, _⟩ := HL.out.own.form
      have hfl := fil_len l width k
      by_cases hgo : k < l.length ∧ ((fil l width k).length : Int) < most
      · obtain ⟨hlt, hlm⟩ := hgo
        obtain ⟨a, rfl, hat⟩ := HA1.out k hlt
        have hlt2 : (k : Int) < (l.length : Int) := by omega
        have hkn : (0 : Int) ≤ (k : Int) := by omega
        have e1 : decide ((k : Int) < (l.length : Int)) = true := decide_eq_true hlt2
        have e2 : decide (((fil l width k).length : Int) < most) = true := decide_eq_true hlm
        have HN := Lib.hid (fil_next (width := width) hlt)
        have HLM := Lib.hid hlm
        have HE := Lib.hid (hat.below (by exact ⟨HL.out.below.os, HL.out.below.tape, HL.out.below.output, HL.out.below.size, HL.out.below.block⟩))
        have HXr : Hid (wr.cell? ⟨w.heap.size, 0, none⟩ = some (.int .i64 width)) := (HL.out.below.cell (p := ⟨w.heap.size, 0, none⟩) HX1.out.1).trans HX1.out.2
        generalize hm2 : fil l width (k + 1) = m2 at *
        have HM2 := Lib.hid hm2
        clear hm2 hat hlm
        generalize fil l width k = m at *
        generalize l[k] = e at *
        obtain ⟨p, p0, p1, p2, p3, p4, p5, p6, p7, p8⟩ := HE.out
        have hxr := HXr.out
        rcases HN.out with ⟨hd, rfl⟩ | ⟨hd, rfl⟩
        · go_wp2_with fail
          go_quiet (fail)
          have HLq : Hid (FirstAt w1 (wr.drewN nq) (.slice (some ⟨g, 0, none⟩) m.length cg) m) := ⟨HL.out.own.drewN nq, below_drewN HL.out.below nq⟩
          have HEq : Hid (JobAt (wr.drewN nq) (a.add (k * 9)) e) := HE.out.below (below_drewN (Below.refl _ _) nq)
          generalize wr.drewN nq = wq at *
          clear p p0 p1 p2 p3 p4 p5 p6 p7 p8 hxr HE HL HXr
          obtain ⟨p, p0, p1, p2, p3, p4, p5, p6, p7, p8⟩ := HEq.out
          have HO := Lib.hid (HLq.out.own.alloc (.cells #[.int .i64 e.id, .string e.user, .int .i64 e.width, .int .i64 e.est, .int .i64 e.prio, .int .i64 e.sub, .int .i64 e.state, .int .i64 e.start, .int .i64 e.fin] 24))
          go_wp2_with (at_builtin; refine push_raw jobs_t rfl (.tmp 38) (.tmp 43) rfl w1.heap.size _ _ _ rfl HO.out ⟨wq.heap.size, 0, none⟩ 1 1 (jobC e) rfl rfl ?ha1 (jobC_cell e) ?ha2 ?_)
          case ha1 => exact Raw.alloc wq (jobA e) 24
          case ha2 => omega
          intro v6 w6 ho6 hb6
          have HL6 : Hid (FirstAt w1 w6 v6 (m ++ [e])) := ⟨ho6.cast (by simp only [List.length_append, List.length_singleton]) (jvals_two _ _).symm, (HLq.out.below.alloc HLq.out.below.size _).trans hb6⟩
          have HM6 : Hid ((m ++ [e]).length ≤ most.toNat) := by
            have := HLM.out
            show (m ++ [e]).length ≤ most.toNat
            simp only [List.length_append, List.length_singleton]
            omega
          clear ho6 hb6
          obtain ⟨g6, c6, rfl, _⟩ := HL6.out.own.form
          go_wp2_with fail
          exact ⟨⟨k + 1, _, rfl, by go_num, by omega, by rw [HM2.out]; exact HM6, by rw [HM2.out]; exact HL6⟩, by simp [intOf] <;> omega⟩
        · go_wp2_with fail
          go_quiet (fail)
          go_wp2_with fail
          exact ⟨⟨k + 1, _, rfl, by go_num, by omega, by rw [HM2.out]; exact HM, by rw [HM2.out]; exact ⟨HL.out.own.drewN nq, below_drewN HL.out.below nq⟩⟩, by simp [intOf] <;> omega⟩
      · have hex : (¬ k < l.length ∧ decide ((k : Int) < (l.length : Int)) = false) ∨ (k < l.length ∧ decide ((k : Int) < (l.length : Int)) = true ∧ decide (((fil l width k).length : Int) < most) = false) := by
          by_cases h2 : k < l.length
          · exact .inr ⟨h2, decide_eq_true (by omega), decide_eq_false (fun h3 => hgo ⟨h2, h3⟩)⟩
          · exact .inl ⟨h2, decide_eq_false (by omega)⟩
        have hfe := HFF.out k hk HM.out (by
          by_cases h2 : k < l.length
          · exact .inr (by first | exact Int.not_lt.1 (fun h3 => hgo ⟨h2, h3⟩) | exact fun h3 => hgo ⟨h2, h3⟩)
          · exact .inl (by omega))
        subst hfe
        have SS := Lib.hid (same8 (fil l width k) _ _ wr (HJ1.out.below (by exact ⟨HL.out.below.os, HL.out.below.tape, HL.out.below.output, HL.out.below.size, HL.out.below.block⟩)) (jobs_own HL.out.own rfl) (by omega))
        have HBr := Lib.hid (HB1.out.trans (HL.out.below.mono HB1.out.size))
        have HVr := Lib.hid (HV1.out.below (by exact ⟨HL.out.below.os, HL.out.below.tape, HL.out.below.output, HL.out.below.size, HL.out.below.block⟩ : Below w1.heap.size w1 wr))
        clear hgo HFF HM HJ1 HX1 HV1 HA1
        generalize fil l width k = m at *
        rcases hex with ⟨e0, e1⟩ | ⟨e0, e1, e2⟩
        all_goals
          try (have e3 : most ≤ (m.length : Int) := Int.not_lt.1 (of_decide_eq_false e2))
          go_wp2_with fail
          all_goals first
            | (exfalso; omega)
            | (refine SS.out.mono ?_
               rintro e w2 ⟨rfl, n2, rfl⟩
               have HB2 := Lib.hid (below_drewN HBr.out n2)
               have HV2 : Hid (JobsIs l (wr.drewN n2) (.slice A l.length c)) := HVr.out.below (below_drewN (Below.refl _ _) n2)
               generalize wr.drewN n2 = w2 at *
               go_wp2_with fail
               refine (CN.out _ _ HV2.out).mono ?_
               rintro e w3 ⟨v3, rfl, hj3, hb3⟩
               have HB3 := Lib.hid (below_then HB2.out hb3)
               obtain ⟨A3, c3, rfl, _⟩ := hj3.open_
               clear hj3 hb3
               go_wp2_with fail
               refine (HAW.out _).mono ?_
               rintro e w4 ⟨rfl, hb4⟩
               have HB4 := Lib.hid (below_then HB3.out hb4)
               clear hb4
               go_wp2_with fail
               go_ret
               exact ⟨rfl, HB4.out⟩)
  · have d1 : decide ((120 : Int) < (l.length : Int)) = true := decide_eq_true (by omega)
    obtain ⟨A, c, rfl, hc, hat⟩ := hv.open_
    go_enter Try.func5, Try.ntmps5
    go_upto_region 1 with fail
    generalize w.alloc (.cells #[.int .i64 width] 3) = W0 at *
    go_wp2_with fail
    refine (HAW.out _).mono ?_
    rintro e w1 ⟨rfl, hb1⟩
    have HB1 := Lib.hid (below_then HB0.out hb1)
    clear hb1
    go_wp2_with fail
    go_ret
    exact ⟨rfl, HB1.out⟩
end Go.Proofs.Ytkoadlgjehmkcaa.OrdWalk
