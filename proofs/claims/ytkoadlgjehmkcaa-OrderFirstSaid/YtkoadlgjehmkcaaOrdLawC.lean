/-
  The walks of the statements of layer 8: OrderSorts.
-/
import Derived.Test.YtkoadlgjehmkcaaOrdLawA
import Derived.Test.YtkoadlgjehmkcaaOrdRefB
import Derived.Test.YtkoadlgjehmkcaaOrdRefC
import Derived.Test.YtkoadlgjehmkcaaOrdRefD
namespace Go.Proofs.Ytkoadlgjehmkcaa.OrdWalk
open Go.RowKit Go.Proofs.Ytkoadlgjehmkcaa.JobPlain Go.Proofs.Ytkoadlgjehmkcaa.OrdPlain Go.Proofs.Ytkoadlgjehmkcaa.Mem Go.Proofs.Ytkoadlgjehmkcaa.JobMem Go.Proofs.Ytkoadlgjehmkcaa.OrdMem Go.Proofs.Ytkoadlgjehmkcaa.OrdRef
theorem sorted_at {l : List Jb} (h : Sorted l) {k : Nat} (hk : 0 < k) (hl : k < l.length) : aheadB l[k] (l[k - 1]'(by omega)) = false := List.pairwise_iff_getElem.1 h (k - 1) k (by omega) hl (by omega)
theorem jobs_drewN {l : List Jb} {w : World} {v : Value} (h : JobsIs l w v) (n : Nat) : JobsIs l (w.drewN n) v := h.below (below_drewN (Below.refl _ _) n)
set_option maxRecDepth 100000 in
set_option maxHeartbeats 3200000 in
theorem sorts_any (l : List Jb) (j : Jb) (id : Int) (v : Value) (w : World) (hv : JobsIs l w v) : Calls Try.prog 3 #[v, jobV j, .int .i64 id] w (TrueIs w) := by
  have HX0 := Lib.hid (JobBox.new w j 24)
  have HB0 := Lib.hid (below_box w (.cells #[.int .i64 j.id, .string j.user, .int .i64 j.width, .int .i64 j.est, .int .i64 j.prio, .int .i64 j.sub, .int .i64 j.state, .int .i64 j.start, .int .i64 j.fin] 24))
  have HV0 := Lib.hid (hv.below HB0.out)
  have HAW := Lib.hid (fun W => awake8 W)
  have hql : (putL (sortL l) j).length = l.length + 1 := by rw [put_len, sort_len]
  have HSO := Lib.hid (put_sorted (sort_sorted l) j)
  have hsl := sort_len l
  have hpl := put_len l j
  by_cases h1 : l.length ≤ 120
  · have d1 : decide ((120 : Int) < (l.length : Int)) = false := by rw [decide_eq_false_iff_not]; omega
    have CS := Lib.hid (fun W v (h : JobsIs l W v) => sortS l v W h (by omega))
    have CP := Lib.hid (fun W v (h : JobsIs l W v) => putS l j v W h (by omega))
    have CQ := Lib.hid (fun W v (h : JobsIs (sortL l) W v) => putS (sortL l) j v W h (by omega))
    have CF := Lib.hid (fun W v (h : JobsIs l W v) => placeS l id v W h (by omega))
    have RS := Lib.hid (fun W v (h : JobsIs l W v) => sort8 l v W h (by omega))
    have RP := Lib.hid (fun W v (h : JobsIs l W v) => put8 l j v W h (by omega))
    have RF := Lib.hid (fun W v (h : JobsIs l W v) => find8 l id v W h (by omega))
    have SS := Lib.hid (fun W v u (h : JobsIs (sortL l) W v) (k : JobsIs (sortL l) W u) => same8 (sortL l) v u W h k (by omega))
    have SP := Lib.hid (fun W v u (h : JobsIs (putL l j) W v) (k : JobsIs (putL l j) W u) => same8 (putL l j) v u W h k (by omega))
    have hne : (findL l id != findL l id) = false := by simp
    have HQL := Lib.hid hql
    clear hsl hpl hql
    generalize hQQ : putL (sortL l) j = Q at *
    generalize hSS : sortL l = S at *
    generalize hPP : putL l j = P at *
    clear hQQ hSS hPP
    generalize findL l id = F at *
    obtain ⟨A0, c0, rfl, _⟩ := hv.open_
    clear hv
    unfold jobV jobA at *
    go_enter Try.func3, Try.ntmps3
    go_upto_region 1 with fail
    generalize w.alloc (.cells #[.int .i64 j.id, .string j.user, .int .i64 j.width, .int .i64 j.est, .int .i64 j.prio, .int .i64 j.sub, .int .i64 j.state, .int .i64 j.start, .int .i64 j.fin] 24) = W0 at *
    obtain ⟨y, y0, y1, y2, y3, y4, y5, y6, y7, y8, _, _, _, _, _, _, _, _, _⟩ := HX0.out
    go_wp2_with fail
    refine (CS.out _ _ HV0.out).mono ?_
    rintro e w1 ⟨v1, rfl, hj1, hb1⟩
    have HV1 := Lib.hid (HV0.out.below hb1)
    have HX1 := Lib.hid (HX0.out.below hb1)
    have HB1 := Lib.hid (below_then HB0.out hb1)
    have HS1 := Lib.hid hj1
    obtain ⟨A1, c1, rfl, _⟩ := hj1.open_
    clear hb1 hj1 CS HV0 HX0 HB0 y y0 y1 y2 y3 y4 y5 y6 y7 y8
    obtain ⟨y, y0, y1, y2, y3, y4, y5, y6, y7, y8, _, _, _, _, _, _, _, _, _⟩ := HX1.out
    go_wp2_with fail
    refine (CP.out _ _ HV1.out).mono ?_
    rintro e w2 ⟨v2, rfl, hj2, hb2⟩
    have HV2 := Lib.hid (HV1.out.below hb2)
    have HX2 := Lib.hid (HX1.out.below hb2)
    have HB2 := Lib.hid (below_then HB1.out hb2)
    have HS2 := Lib.hid (HS1.out.below hb2)
    have HP2 := Lib.hid hj2
    obtain ⟨A2, c2, rfl, _⟩ := hj2.open_
    clear hb2 hj2 CP HV1 HX1 HB1 HS1 y y0 y1 y2 y3 y4 y5 y6 y7 y8
    obtain ⟨y, y0, y1, y2, y3, y4, y5, y6, y7, y8, _, _, _, _, _, _, _, _, _⟩ := HX2.out
    go_wp2_with fail
    refine (CQ.out _ _ HS2.out).mono ?_
    rintro e w3 ⟨v3, rfl, hj3, hb3⟩
    have HV3 := Lib.hid (HV2.out.below hb3)
    have HX3 := Lib.hid (HX2.out.below hb3)
    have HB3 := Lib.hid (below_then HB2.out hb3)
    have HS3 := Lib.hid (HS2.out.below hb3)
    have HP3 := Lib.hid (HP2.out.below hb3)
    have HQ3 := Lib.hid hj3
    obtain ⟨A3, c3, rfl, _⟩ := hj3.open_
    clear hb3 hj3 CQ HV2 HX2 HB2 HS2 HP2 y y0 y1 y2 y3 y4 y5 y6 y7 y8
    obtain ⟨y, y0, y1, y2, y3, y4, y5, y6, y7, y8, _, _, _, _, _, _, _, _, _⟩ := HX3.out
    go_wp2_with fail
    refine (RS.out _ _ HV3.out).mono ?_
    rintro e w4 ⟨v4, rfl, hj4, hb4⟩
    have HV4 := Lib.hid (HV3.out.below hb4)
    have HX4 := Lib.hid (HX3.out.below hb4)
    have HB4 := Lib.hid (below_then HB3.out hb4)
    have HS4 := Lib.hid (HS3.out.below hb4)
    have HP4 := Lib.hid (HP3.out.below hb4)
    have HQ4 := Lib.hid (HQ3.out.below hb4)
    have SS4 := Lib.hid (SS.out _ _ _ HS4.out (jobs_own hj4 rfl))
    obtain ⟨g4, c4, rfl, _⟩ := hj4.form
    clear hb4 hj4 RS HV3 HX3 HB3 HS3 HP3 HQ3 SS y y0 y1 y2 y3 y4 y5 y6 y7 y8
    obtain ⟨y, y0, y1, y2, y3, y4, y5, y6, y7, y8, _, _, _, _, _, _, _, _, _⟩ := HX4.out
    go_wp2_with fail
    refine SS4.out.mono ?_
    rintro e w5 ⟨rfl, n5, rfl⟩
    have HX5 := Lib.hid (HX4.out.drewN n5)
    have HB5 := Lib.hid (below_drewN HB4.out n5)
    have HV5 := Lib.hid (jobs_drewN HV4.out n5)
    have HP5 := Lib.hid (jobs_drewN HP4.out n5)
    have HQ5 := Lib.hid (jobs_drewN HQ4.out n5)
    clear SS4 HV4 HX4 HB4 HS4 HP4 HQ4 y y0 y1 y2 y3 y4 y5 y6 y7 y8
    generalize w4.drewN n5 = w5 at *
    obtain ⟨y, y0, y1, y2, y3, y4, y5, y6, y7, y8, _, _, _, _, _, _, _, _, _⟩ := HX5.out
    go_wp2_with fail
    refine (RP.out _ _ HV5.out).mono ?_
    rintro e w6 ⟨v6, rfl, hj6, hb6⟩
    have HV6 := Lib.hid (HV5.out.below hb6)
    have HB6 := Lib.hid (below_then HB5.out hb6)
    have HQ6 := Lib.hid (HQ5.out.below hb6)
    have SP6 := Lib.hid (SP.out _ _ _ (HP5.out.below hb6) (jobs_own hj6 rfl))
    obtain ⟨g6, c6, rfl, _⟩ := hj6.form
    clear hb6 hj6 RP HV5 HX5 HB5 HP5 HQ5 SP y y0 y1 y2 y3 y4 y5 y6 y7 y8
    go_wp2_with fail
    refine SP6.out.mono ?_
    rintro e w7 ⟨rfl, n7, rfl⟩
    have HB7 := Lib.hid (below_drewN HB6.out n7)
    have HV7 := Lib.hid (jobs_drewN HV6.out n7)
    have HQ7 := Lib.hid (jobs_drewN HQ6.out n7)
    clear SP6 HV6 HB6 HQ6
    generalize w6.drewN n7 = w7 at *
    go_wp2_with fail
    refine (CF.out _ _ HV7.out).mono ?_
    rintro e w8 ⟨rfl, hb8⟩
    have HB8 := Lib.hid (below_then HB7.out hb8)
    have HV8 := Lib.hid (HV7.out.below hb8)
    have HQ8 := Lib.hid (HQ7.out.below hb8)
    clear hb8 CF HB7 HV7 HQ7
    go_wp2_with fail
    refine (RF.out _ _ HV8.out).mono ?_
    rintro e w9 ⟨rfl, rfl⟩
    clear RF HV8
    obtain ⟨A9, c9, ev9, hc9, hat⟩ := HQ8.out.open_
    injection ev9 with ea9 _ ec9
    subst ea9 ec9
    have HAT := Lib.hid hat
    clear hat
    rw [HQL.out]
    go_wp2_with fail
    go_loopw [10] (fun i wr => ∃ k : Nat, i = .int .i64 k ∧ 1 ≤ k ∧ k ≤ l.length + 1 ∧ Hid (Below w8.heap.size w8 wr)) (fun i _ => l.length + 1 - (intOf i).toNat)
    case atStart => exact ⟨1, rfl, Nat.le_refl _, by omega, Below.refl _ _⟩
    case round =>
      obtain ⟨k, rfl, hk1, hk, HL⟩ := hrel
      by_cases hlt : k < l.length + 1
      · have hltq : k < Q.length := by rw [HQL.out]; exact hlt
        have hso := sorted_at HSO.out (show 0 < k by omega) hltq
        obtain ⟨a, rfl, hp⟩ := HAT.out k hltq
        obtain ⟨a', ea, hq⟩ := HAT.out (k - 1) (Nat.lt_of_le_of_lt (Nat.sub_le k 1) hltq)
        injection ea with ea
        subst ea
        have CA := Lib.hid (fun W => ahead8 Q[k] (Q[k - 1]'(Nat.lt_of_le_of_lt (Nat.sub_le k 1) hltq)) W)
        rw [hso] at CA
        have PP := Lib.hid (fun p : Lull wr => (hp.below HL.out).below p.h)
        have QQ := Lib.hid (fun p : Lull wr => (hq.below HL.out).below p.h)
        clear hso hp hq
        generalize Q[k] = x at *
        generalize Q[k - 1]'(Nat.lt_of_le_of_lt (Nat.sub_le k 1) hltq) = z at *
        have hlt2 : (k : Int) < ((l.length + 1 : Nat) : Int) := by omega
        have hkn : (0 : Int) ≤ (k : Int) := by omega
        have q0 : (0 : Int) ≤ ((k - 1 : Nat) : Int) := Int.natCast_nonneg _
        have q1 : ((k - 1 : Nat) : Int) < ((l.length + 1 : Nat) : Int) := by omega
        have q2 : IntKind.i64.wrap ((k : Int) - 1) = ((k - 1 : Nat) : Int) := by rw [IntKind.wrap_i64]; omega
        unfold jobV jobA at CA
        have x0 := fun p : Lull wr => (PP.out p).c0
        have x1 := fun p : Lull wr => (PP.out p).c1
        have x2 := fun p : Lull wr => (PP.out p).c2
        have x3 := fun p : Lull wr => (PP.out p).c3
        have x4 := fun p : Lull wr => (PP.out p).c4
        have x5 := fun p : Lull wr => (PP.out p).c5
        have x6 := fun p : Lull wr => (PP.out p).c6
        have x7 := fun p : Lull wr => (PP.out p).c7
        have x8 := fun p : Lull wr => (PP.out p).c8
        have z0 := fun p : Lull wr => (QQ.out p).c0
        have z1 := fun p : Lull wr => (QQ.out p).c1
        have z2 := fun p : Lull wr => (QQ.out p).c2
        have z3 := fun p : Lull wr => (QQ.out p).c3
        have z4 := fun p : Lull wr => (QQ.out p).c4
        have z5 := fun p : Lull wr => (QQ.out p).c5
        have z6 := fun p : Lull wr => (QQ.out p).c6
        have z7 := fun p : Lull wr => (QQ.out p).c7
        have z8 := fun p : Lull wr => (QQ.out p).c8
        go_wp2_with fail
        refine wp_region_calm (by kernel_rfl) (by kernel_rfl) ?_
        repeat (first | go_big_quiet_step ((go_at_call 14; exact calm_of (CA.out _))) | quiet_step ((go_at_call 14; exact calm_of (CA.out _))))
        refine wpQuiet_nil ?_
        intro wa hw
        have hba := lull_below hw
        clear hw
        have HLA := Lib.hid (below_then HL.out hba)
        clear hba PP QQ CA x0 z0 x1 z1 x2 z2 x3 z3 x4 z4 x5 z5 x6 z6 x7 z7 x8 z8
        go_wp2_with fail
        exact ⟨⟨k + 1, by go_num, by omega, by omega, HLA.out⟩, by simp [intOf] <;> omega⟩
      · obtain rfl : k = l.length + 1 := by omega
        have he : (((l.length + 1 : Nat) : Int) == (l.length : Int) + 1) = true := by simp
        go_wp2_with fail
        refine (HAW.out _).mono ?_
        rintro e wa ⟨rfl, hba⟩
        have HBA := Lib.hid (below_then HB8.out (below_then HL.out hba))
        clear hba
        go_wp2_with fail
        go_ret
        exact ⟨rfl, HBA.out⟩
  · have d1 : decide ((120 : Int) < (l.length : Int)) = true := decide_eq_true (by omega)
    obtain ⟨A0, c0, rfl, _⟩ := hv.open_
    unfold jobV jobA at *
    go_enter Try.func3, Try.ntmps3
    go_upto_region 1 with fail
    generalize w.alloc (.cells #[.int .i64 j.id, .string j.user, .int .i64 j.width, .int .i64 j.est, .int .i64 j.prio, .int .i64 j.sub, .int .i64 j.state, .int .i64 j.start, .int .i64 j.fin] 24) = W0 at *
    go_wp2_with fail
    refine (HAW.out _).mono ?_
    rintro e w1 ⟨rfl, hb1⟩
    have HB1 := Lib.hid (below_then HB0.out hb1)
    clear hb1
    go_wp2_with fail
    go_ret
    exact ⟨rfl, HB1.out⟩
end Go.Proofs.Ytkoadlgjehmkcaa.OrdWalk
