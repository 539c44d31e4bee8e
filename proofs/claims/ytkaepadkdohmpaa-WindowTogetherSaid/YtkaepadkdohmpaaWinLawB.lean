/-
  The walks of the statements of layer 14: WindowChooses.
-/
import Derived.Test.YtkaepadkdohmpaaWinLawA
import Derived.Deep.RegionHeld3
import Derived.Deep.RegionWith
import Derived.Deep.RegionLaw
import Derived.StillTailTactics
namespace Go.Proofs.Ytkaepadkdohmpaa.WinWalk
open Go.RowKit Go.Proofs.Ytkaepadkdohmpaa.SpanPlain Go.Proofs.Ytkaepadkdohmpaa.StepPlain Go.Proofs.Ytkaepadkdohmpaa.GapPlain Go.Proofs.Ytkaepadkdohmpaa.JobPlain Go.Proofs.Ytkaepadkdohmpaa.OrdPlain Go.Proofs.Ytkaepadkdohmpaa.SubPlain Go.Proofs.Ytkaepadkdohmpaa.ApiPlain Go.Proofs.Ytkaepadkdohmpaa.TwnPlain Go.Proofs.Ytkaepadkdohmpaa.WinPlain Go.Proofs.Ytkaepadkdohmpaa.Mem Go.Proofs.Ytkaepadkdohmpaa.SpanMem Go.Proofs.Ytkaepadkdohmpaa.JobMem Go.Proofs.Ytkaepadkdohmpaa.OrdMem Go.Proofs.Ytkaepadkdohmpaa.ApiMem Go.Proofs.Ytkaepadkdohmpaa.StepRef Go.Proofs.Ytkaepadkdohmpaa.WinRef Go.Proofs.Ytkaepadkdohmpaa.SubRef Go.Proofs.Ytkaepadkdohmpaa.TwnRef
def atV (now : Int) (x : Lok) : Value := .agg #[.int .i64 now, .int .i64 x.k, .int .i64 x.reserved, .int .i64 x.long]
theorem badW_ways (s : List Sp) (now : Int) (x : Lok) : (chkB s = false ∧ badW s now x = true) ∨ (chkB s = true ∧ decide (now < head s) = true ∧ badW s now x = true) ∨ (chkB s = true ∧ decide (now < head s) = false ∧ decide (1125899906842624 < now) = true ∧ badW s now x = true) ∨
    (chkB s = true ∧ decide (now < head s) = false ∧ decide (1125899906842624 < now) = false ∧ decide (x.k < 1) = true ∧ badW s now x = true) ∨ (chkB s = true ∧ decide (now < head s) = false ∧ decide (1125899906842624 < now) = false ∧ decide (x.k < 1) = false ∧ decide (32 < x.k) = true ∧ badW s now x = true) ∨
    (chkB s = true ∧ decide (now < head s) = false ∧ decide (1125899906842624 < now) = false ∧ decide (x.k < 1) = false ∧ decide (32 < x.k) = false ∧ decide (x.long < 0) = true ∧ badW s now x = true) ∨
    (chkB s = true ∧ decide (now < head s) = false ∧ decide (1125899906842624 < now) = false ∧ decide (x.k < 1) = false ∧ decide (32 < x.k) = false ∧ decide (x.long < 0) = false ∧ decide (256 < x.long) = true ∧ badW s now x = true) ∨
    (chkB s = true ∧ decide (now < head s) = false ∧ decide (1125899906842624 < now) = false ∧ decide (x.k < 1) = false ∧ decide (32 < x.k) = false ∧ decide (x.long < 0) = false ∧ decide (256 < x.long) = false ∧ badW s now x = false) := by
  unfold badW
  cases chkB s <;> cases decide (now < head s) <;> cases decide (1125899906842624 < now) <;> cases decide (x.k < 1) <;> cases decide (32 < x.k) <;> cases decide (x.long < 0) <;> cases decide (256 < x.long) <;> simp
set_option maxRecDepth 100000 in
set_option maxHeartbeats 3200000 in
theorem chooses_any (s : List Sp) (jobs : List Jb) (now : Int) (x : Lok) (vs vj : Value) (w : World) (hs : SpansIs s w vs) (hj : JobsIs jobs w vj) (hn : -9223372036854775808 ≤ now ∧ now ≤ 9223372036854775807) :
    Calls Try.prog 3 #[vs, vj, atV now x] w (TrueW w) := by
  have HAW := Lib.hid (fun W => awake14 W)
  have HBX := Lib.hid (Boxed.new w #[.int .i64 now, .int .i64 x.k, .int .i64 x.reserved, .int .i64 x.long] 27)
  have HB0 := Lib.hid (below_box w (.cells #[.int .i64 now, .int .i64 x.k, .int .i64 x.reserved, .int .i64 x.long] 27))
  have HS0 := Lib.hid (hs.below HB0.out)
  have HJ0 := Lib.hid (hj.below HB0.out)
  obtain ⟨As, cs, rfl, _⟩ := hs.open_
  obtain ⟨Aj, cj, rfl, _, _⟩ := hj.open_
  clear hs hj
  unfold atV
  go_enter Try.func3, Try.ntmps3
  go_upto_region 1 with fail
  generalize w.alloc (.cells #[.int .i64 now, .int .i64 x.k, .int .i64 x.reserved, .int .i64 x.long] 27) = W0 at *
  have y0 := HBX.out.c 0 _ rfl
  have y1 := HBX.out.c 1 _ rfl
  have y2 := HBX.out.c 2 _ rfl
  have y3 := HBX.out.c 3 _ rfl
  have hlt := HBX.out.lt
  go_cut [7, 8] from 17 to 20 (fun o q wc => o = .int .i64 now ∧ ∃ b : Nat, q = .pointer (some ⟨b, 0, none⟩) ∧ Hid (LokBox wc b x ∧ Below W0.heap.size W0 wc))
  case first =>
    have HN1 : Hid (LokBox (W0.alloc (.cells #[.int .i64 x.k, .int .i64 x.reserved, .int .i64 x.long] 25)).drew W0.heap.size x ∧ Below W0.heap.size W0 (W0.alloc (.cells #[.int .i64 x.k, .int .i64 x.reserved, .int .i64 x.long] 25)).drew) :=
      ⟨(LokBox.new W0 x 25).below (Below.refl _ _).drew, (below_box W0 _).drew⟩
    go_region_with (fail)
    all_goals
      clear y0 y1 y2 y3 hlt
      go_wp2_with fail
      go_meet
      exact ⟨rfl, _, rfl, HN1⟩
  case rest =>
    obtain ⟨rfl, b, rfl, HC⟩ := hcut
    have HLK := Lib.hid HC.out.1
    have HBc := Lib.hid (below_then HB0.out HC.out.2)
    have HSc := Lib.hid (HS0.out.below HC.out.2)
    have HJc := Lib.hid (HJ0.out.below HC.out.2)
    clear HC HB0 HS0 HJ0 HBX y0 y1 y2 y3 hlt
    by_cases hlen : s.length ≤ 100 ∧ jobs.length ≤ 60
    · obtain ⟨hl1, hl2⟩ := hlen
      have d1 : decide ((100 : Int) < (s.length : Int)) = false := by rw [decide_eq_false_iff_not]; omega
      have d2 : decide ((60 : Int) < (jobs.length : Int)) = false := by rw [decide_eq_false_iff_not]; omega
      have C1 := Lib.hid (chooseS s now jobs x _ _ wc HSc.out (by omega) HJc.out (by omega) hn)
      unfold lokV at C1
      obtain ⟨k, k0, k1, k2, _, _, _⟩ := HLK.out
      go_wp2_with fail
      refine C1.out.mono ?_
      rintro e w2 ⟨u, rfl, hi, hb⟩
      have HLK2 := Lib.hid (HLK.out.below hb)
      have HB2 := Lib.hid (below_then HBc.out hb)
      have HS2 := Lib.hid (HSc.out.below hb)
      have HJ2 := Lib.hid (HJc.out.below hb)
      have HI := Lib.hid hi
      have HBAD : Hid (badW s now x = true → errW s now x = 1 ∧ idsW (chosenW s now jobs x) = []) := fun h => by unfold errW chosenW; rw [if_pos h, if_pos h]; exact ⟨rfl, rfl⟩
      have HGOOD : Hid (badW s now x = false → errW s now x = 0 ∧ idsW (chosenW s now jobs x) = idsW (pickW (winL s now x.k jobs) (bestW s now jobs x))) := fun h => by unfold errW chosenW; rw [if_neg (by rw [h]; decide), if_neg (by rw [h]; decide)]; exact ⟨rfl, rfl⟩
      obtain ⟨Au, cu, rfl, hcu, hAu⟩ := hi
      generalize errW s now x = E at *
      generalize idsW (chosenW s now jobs x) = I at *
      clear hb C1 HLK HBc HSc HJc k k0 k1 k2 hAu
      have C2 := Lib.hid (check4 s _ w2 HS2.out (by omega))
      have d3 := HLK2.out.c0
      have hw := badW_ways s now x
      have HCK := Lib.hid (fun h => (chk_iff s).1 h)
      rcases hw with ⟨c0, hbd⟩ | ⟨c0, c1, hbd⟩ | ⟨c0, c1, c2, hbd⟩ | ⟨c0, c1, c2, c3, hbd⟩ | ⟨c0, c1, c2, c3, c4, hbd⟩ | ⟨c0, c1, c2, c3, c4, c5, hbd⟩ | ⟨c0, c1, c2, c3, c4, c5, c6, hbd⟩ | ⟨c0, c1, c2, c3, c4, c5, c6, hbd⟩
      · obtain ⟨hE, hI⟩ := HBAD.out hbd
        subst hE hI
        rw [c0] at C2
        go_wp2_with fail
        refine C2.out.mono ?_
        rintro e w3 ⟨rfl, n3, rfl⟩
        have HB3 := Lib.hid (below_drewN HB2.out n3)
        obtain ⟨k, k0, k1, k2, _, _, _⟩ := HLK2.out.drewN n3
        generalize w2.drewN n3 = w3 at *
        go_wp2_with fail
        refine (HAW.out _).mono ?_
        rintro e w4 ⟨rfl, hb4⟩
        have HB4 := Lib.hid (below_then HB3.out hb4)
        clear hb4
        go_wp2_with fail
        go_ret
        exact ⟨rfl, HB4.out⟩
      · obtain ⟨hE, hI⟩ := HBAD.out hbd
        subst hE hI
        rw [c0] at C2
        go_wp2_with fail
        refine C2.out.mono ?_
        rintro e w3 ⟨rfl, n3, rfl⟩
        have HB3 := Lib.hid (below_drewN HB2.out n3)
        have hq3 := (HS2.out.below (below_drewN (Below.refl _ _) n3 : Below w2.heap.size w2 (w2.drewN n3)))
        have HS3 := Lib.hid hq3
        obtain ⟨Ah, ch, hvh, hph⟩ := hq3.open_
        injection hvh with hA1 _ hA3
        subst hA1 hA3
        obtain ⟨ad, hAd, had, hc1, _⟩ := pair_zero hph (HCK.out c0).pos
        subst hAd
        have hh : (spCell s 0).1 = .int .i64 (head s) := rfl
        rw [hh] at hc1
        have hlz : (0 : Int) < (s.length : Int) := by have := (HCK.out c0).pos; omega
        clear hph hh hq3
        obtain ⟨k, k0, k1, k2, _, _, _⟩ := HLK2.out.drewN n3
        generalize w2.drewN n3 = w3 at *
        go_wp2_with fail
        refine (HAW.out _).mono ?_
        rintro e w4 ⟨rfl, hb4⟩
        have HB4 := Lib.hid (below_then HB3.out hb4)
        clear hb4
        go_wp2_with fail
        go_ret
        exact ⟨rfl, HB4.out⟩
      · obtain ⟨hE, hI⟩ := HBAD.out hbd
        subst hE hI
        rw [c0] at C2
        go_wp2_with fail
        refine C2.out.mono ?_
        rintro e w3 ⟨rfl, n3, rfl⟩
        have HB3 := Lib.hid (below_drewN HB2.out n3)
        have hq3 := (HS2.out.below (below_drewN (Below.refl _ _) n3 : Below w2.heap.size w2 (w2.drewN n3)))
        have HS3 := Lib.hid hq3
        obtain ⟨Ah, ch, hvh, hph⟩ := hq3.open_
        injection hvh with hA1 _ hA3
        subst hA1 hA3
        obtain ⟨ad, hAd, had, hc1, _⟩ := pair_zero hph (HCK.out c0).pos
        subst hAd
        have hh : (spCell s 0).1 = .int .i64 (head s) := rfl
        rw [hh] at hc1
        have hlz : (0 : Int) < (s.length : Int) := by have := (HCK.out c0).pos; omega
        clear hph hh hq3
        obtain ⟨k, k0, k1, k2, _, _, _⟩ := HLK2.out.drewN n3
        generalize w2.drewN n3 = w3 at *
        go_wp2_with fail
        refine (HAW.out _).mono ?_
        rintro e w4 ⟨rfl, hb4⟩
        have HB4 := Lib.hid (below_then HB3.out hb4)
        clear hb4
        go_wp2_with fail
        go_ret
        exact ⟨rfl, HB4.out⟩
      · obtain ⟨hE, hI⟩ := HBAD.out hbd
        subst hE hI
        rw [c0] at C2
        go_wp2_with fail
        refine C2.out.mono ?_
        rintro e w3 ⟨rfl, n3, rfl⟩
        have HB3 := Lib.hid (below_drewN HB2.out n3)
        have hq3 := (HS2.out.below (below_drewN (Below.refl _ _) n3 : Below w2.heap.size w2 (w2.drewN n3)))
        have HS3 := Lib.hid hq3
        obtain ⟨Ah, ch, hvh, hph⟩ := hq3.open_
        injection hvh with hA1 _ hA3
        subst hA1 hA3
        obtain ⟨ad, hAd, had, hc1, _⟩ := pair_zero hph (HCK.out c0).pos
        subst hAd
        have hh : (spCell s 0).1 = .int .i64 (head s) := rfl
        rw [hh] at hc1
        have hlz : (0 : Int) < (s.length : Int) := by have := (HCK.out c0).pos; omega
        clear hph hh hq3
        obtain ⟨k, k0, k1, k2, _, _, _⟩ := HLK2.out.drewN n3
        generalize w2.drewN n3 = w3 at *
        go_wp2_with fail
        refine (HAW.out _).mono ?_
        rintro e w4 ⟨rfl, hb4⟩
        have HB4 := Lib.hid (below_then HB3.out hb4)
        clear hb4
        go_wp2_with fail
        go_ret
        exact ⟨rfl, HB4.out⟩
      · obtain ⟨hE, hI⟩ := HBAD.out hbd
        subst hE hI
        rw [c0] at C2
        go_wp2_with fail
        refine C2.out.mono ?_
        rintro e w3 ⟨rfl, n3, rfl⟩
        have HB3 := Lib.hid (below_drewN HB2.out n3)
        have hq3 := (HS2.out.below (below_drewN (Below.refl _ _) n3 : Below w2.heap.size w2 (w2.drewN n3)))
        have HS3 := Lib.hid hq3
        obtain ⟨Ah, ch, hvh, hph⟩ := hq3.open_
        injection hvh with hA1 _ hA3
        subst hA1 hA3
        obtain ⟨ad, hAd, had, hc1, _⟩ := pair_zero hph (HCK.out c0).pos
        subst hAd
        have hh : (spCell s 0).1 = .int .i64 (head s) := rfl
        rw [hh] at hc1
        have hlz : (0 : Int) < (s.length : Int) := by have := (HCK.out c0).pos; omega
        clear hph hh hq3
        obtain ⟨k, k0, k1, k2, _, _, _⟩ := HLK2.out.drewN n3
        generalize w2.drewN n3 = w3 at *
        go_wp2_with fail
        refine (HAW.out _).mono ?_
        rintro e w4 ⟨rfl, hb4⟩
        have HB4 := Lib.hid (below_then HB3.out hb4)
        clear hb4
        go_wp2_with fail
        go_ret
        exact ⟨rfl, HB4.out⟩
      · obtain ⟨hE, hI⟩ := HBAD.out hbd
        subst hE hI
        rw [c0] at C2
        go_wp2_with fail
        refine C2.out.mono ?_
        rintro e w3 ⟨rfl, n3, rfl⟩
        have HB3 := Lib.hid (below_drewN HB2.out n3)
        have hq3 := (HS2.out.below (below_drewN (Below.refl _ _) n3 : Below w2.heap.size w2 (w2.drewN n3)))
        have HS3 := Lib.hid hq3
        obtain ⟨Ah, ch, hvh, hph⟩ := hq3.open_
        injection hvh with hA1 _ hA3
        subst hA1 hA3
        obtain ⟨ad, hAd, had, hc1, _⟩ := pair_zero hph (HCK.out c0).pos
        subst hAd
        have hh : (spCell s 0).1 = .int .i64 (head s) := rfl
        rw [hh] at hc1
        have hlz : (0 : Int) < (s.length : Int) := by have := (HCK.out c0).pos; omega
        clear hph hh hq3
        obtain ⟨k, k0, k1, k2, _, _, _⟩ := HLK2.out.drewN n3
        generalize w2.drewN n3 = w3 at *
        go_wp2_with fail
        refine (HAW.out _).mono ?_
        rintro e w4 ⟨rfl, hb4⟩
        have HB4 := Lib.hid (below_then HB3.out hb4)
        clear hb4
        go_wp2_with fail
        go_ret
        exact ⟨rfl, HB4.out⟩
      · obtain ⟨hE, hI⟩ := HBAD.out hbd
        subst hE hI
        rw [c0] at C2
        go_wp2_with fail
        refine C2.out.mono ?_
        rintro e w3 ⟨rfl, n3, rfl⟩
        have HB3 := Lib.hid (below_drewN HB2.out n3)
        have hq3 := (HS2.out.below (below_drewN (Below.refl _ _) n3 : Below w2.heap.size w2 (w2.drewN n3)))
        have HS3 := Lib.hid hq3
        obtain ⟨Ah, ch, hvh, hph⟩ := hq3.open_
        injection hvh with hA1 _ hA3
        subst hA1 hA3
        obtain ⟨ad, hAd, had, hc1, _⟩ := pair_zero hph (HCK.out c0).pos
        subst hAd
        have hh : (spCell s 0).1 = .int .i64 (head s) := rfl
        rw [hh] at hc1
        have hlz : (0 : Int) < (s.length : Int) := by have := (HCK.out c0).pos; omega
        clear hph hh hq3
        obtain ⟨k, k0, k1, k2, _, _, _⟩ := HLK2.out.drewN n3
        generalize w2.drewN n3 = w3 at *
        go_wp2_with fail
        refine (HAW.out _).mono ?_
        rintro e w4 ⟨rfl, hb4⟩
        have HB4 := Lib.hid (below_then HB3.out hb4)
        clear hb4
        go_wp2_with fail
        go_ret
        exact ⟨rfl, HB4.out⟩
      · obtain ⟨hE, hI⟩ := HGOOD.out hbd
        have hrng : 0 ≤ val s now ∧ val s now ≤ 256 := (HCK.out c0).val_free (by have := of_decide_eq_false c1; omega)
        have hkk : 1 ≤ x.k ∧ x.k ≤ 32 := ⟨by have := of_decide_eq_false c3; omega, by have := of_decide_eq_false c4; omega⟩
        have hll : 0 ≤ x.long ∧ x.long ≤ 256 := ⟨by have := of_decide_eq_false c5; omega, by have := of_decide_eq_false c6; omega⟩
        have HR := Lib.hid (And.intro hrng (And.intro hkk hll))
        subst hE
        have HII := Lib.hid hI
        clear hI hrng hkk hll
        rw [c0] at C2
        go_wp2_with fail
        refine C2.out.mono ?_
        rintro e w3 ⟨rfl, n3, rfl⟩
        have HB3 := Lib.hid (below_drewN HB2.out n3)
        have hq3 := (HS2.out.below (below_drewN (Below.refl _ _) n3 : Below w2.heap.size w2 (w2.drewN n3)))
        have HS3 := Lib.hid hq3
        obtain ⟨Ah, ch, hvh, hph⟩ := hq3.open_
        injection hvh with hA1 _ hA3
        subst hA1 hA3
        obtain ⟨ad, hAd, had, hc1, _⟩ := pair_zero hph (HCK.out c0).pos
        subst hAd
        have hh : (spCell s 0).1 = .int .i64 (head s) := rfl
        rw [hh] at hc1
        have hlz : (0 : Int) < (s.length : Int) := by have := (HCK.out c0).pos; omega
        clear hph hh hq3
        have HLK3 := Lib.hid (HLK2.out.drewN n3)
        have HJ3 := Lib.hid (HJ2.out.below (below_drewN (Below.refl _ _) n3 : Below w2.heap.size w2 (w2.drewN n3)))
        have HI3 := Lib.hid (HI.out.below (below_drewN (Below.refl _ _) n3 : Below w2.heap.size w2 (w2.drewN n3)))
        obtain ⟨k, k0, k1, k2, _, _, _⟩ := HLK3.out
        generalize w2.drewN n3 = w3 at *
        have C3 := Lib.hid (of14 s now x.k jobs _ _ w3 HS3.out (by omega) (HCK.out c0) HJ3.out (by omega))
        have HWM : Hid (∀ j ∈ winL s now x.k jobs, okG s now j.width j.est = true) := fun j hj => (win_mem hj).2
        have HWL : Hid ((winL s now x.k jobs).length ≤ 60) := Lib.hid (by have := (win_len s now x.k jobs).2; omega)
        have HBW : Hid (bestW s now jobs x = bestI (itemsW (winL s now x.k jobs) now x.reserved) (val s now) x.long) := rfl
        generalize winL s now x.k jobs = W at *
        generalize bestW s now jobs x = B at *
        go_wp2_with fail
        refine C3.out.mono ?_
        rintro e w4 ⟨v4, rfl, ho4, hb4⟩
        have HW4 := Lib.hid (jobs_own ho4 rfl)
        have HB4 := Lib.hid (below_then HB3.out hb4)
        have HS4 := Lib.hid (HS3.out.below hb4)
        have HI4 := Lib.hid (HI3.out.below hb4)
        have HLK4 := Lib.hid (HLK3.out.below hb4)
        clear hb4 ho4 C2 C3 HS3 HI3 HLK3 HB3 HB2 HS2 HJ2 HI HLK2 HBAD HGOOD HJ3 c1 c2 c3 c4 c5 c6 k k0 k1 k2 hc1
        obtain ⟨A4, cc4, rfl, hcc4, hat4⟩ := HW4.out.open_
        have HA4 := Lib.hid hat4
        clear hat4
        by_cases h9 : W.length ≤ 9
        · have d4 : decide ((9 : Int) < (W.length : Int)) = false := by rw [decide_eq_false_iff_not]; omega
          have HWID : Hid ((wsOf (itemsW W now x.reserved)).all wideB = true) := Lib.hid (List.all_eq_true.2 fun y hy => by
            obtain ⟨z, hz, rfl⟩ := List.mem_map.1 hy
            obtain ⟨j, hj, rfl⟩ := List.mem_map.1 hz
            have hm := mayG_iff.1 (okG_iff.1 (HWM.out j hj)).1
            show wideB j.width = true
            unfold wideB
            rw [Bool.and_eq_true]
            exact ⟨decide_eq_true hm.2.1.1, decide_eq_true hm.2.1.2⟩)
          go_wp2_with fail
          go_loopw [12, 13] (fun o i wr => ∃ (q : Nat) (v : Value), v = o ∧ i = .int .i64 q ∧ q ≤ W.length ∧ Hid (OwnR 42 2 w4.heap.size wr v q (itmL.vals (itemsW (W.take q) now x.reserved))) ∧ Hid (Below w4.heap.size w4 wr)) (fun _ i _ => W.length - (intOf i).toNat)
          case atStart => exact ⟨0, _, rfl, rfl, Nat.zero_le _, OwnR.new w4 _ 2, below_box _ _⟩
          case round =>
            obtain ⟨q, o, hov, rfl, hq, HO, HB⟩ := hrel
            subst hov
            obtain ⟨g, cg, rfl, _⟩ := HO.out.form
            by_cases hlt : q < W.length
            · obtain ⟨a, rfl, hat⟩ := HA4.out q hlt
              have hest := (mayG_iff.1 (okG_iff.1 (HWM.out W[q] (List.getElem_mem hlt))).1).2.2
              have HNX : Hid (itmL.vals (itemsW (W.take (q + 1)) now x.reserved) = itmL.vals (itemsW (W.take q) now x.reserved) ++ itmC (itemW now x.reserved W[q])) := Lib.hid (by
                rw [List.take_succ_eq_append_getElem hlt]
                unfold itemsW
                rw [List.map_append, Lay.append]
                rfl)
              have CL : Hid (∀ W', Calls Try.prog 9 #[.int .i64 now, .int .i64 W[q].est, .int .i64 x.reserved] W' fun e w2 => e = .returned (.bool (longW now W[q].est x.reserved)) ∧ w2 = W') := fun W' => long14 now W[q].est x.reserved W' hn ⟨by omega, by omega⟩
              have HPE := Lib.hid (hat.below HB.out)
              have hlj : (a.add (q * 9)).block < w4.heap.size := hat.lt
              have hlb : b < w4.heap.size := HLK4.out.lt
              have HLr := Lib.hid (HLK4.out.below HB.out)
              have hlt2 : (q : Int) < (W.length : Int) := by omega
              have hqn : (0 : Int) ≤ (q : Int) := by omega
              unfold itemW at HNX
              clear hat hest
              generalize W[q] = j at *
              generalize longW now j.est x.reserved = lg at *
              obtain ⟨p, p0, p1, p2, p3, p4, p5, p6, p7, p8⟩ := HPE.out
              obtain ⟨k, k0, k1, k2, _, _, _⟩ := HLr.out
              go_upto_region 14 with fail
              have HO5 := Lib.hid ((HO.out.alloc (.cells #[.int .i64 j.width, .bool lg] 42)).drew)
              have HB5 := Lib.hid ((HB.out.alloc HB.out.size (.cells #[.int .i64 j.width, .bool lg] 42)).drew)
              have HR5 : Hid (Raw (wr.alloc (.cells #[.int .i64 j.width, .bool lg] 42)).drew ⟨wr.heap.size, 0, none⟩ (itmC ⟨j.width, lg⟩)) := (Raw.alloc wr #[.int .i64 j.width, .bool lg] 42).below (Below.refl _ _).drew
              go_region_held3 (fun w' => w'.cell? ⟨(a.add (q * 9)).block, (a.add (q * 9)).off + 2, none⟩ = some (.int .i64 j.width) ∧ w'.cell? ⟨(a.add (q * 9)).block, (a.add (q * 9)).off + 3, none⟩ = some (.int .i64 j.est) ∧ w'.cell? ⟨b, 1, none⟩ = some (.int .i64 x.reserved))
                (first | go_keep | (go_split_ands; exact ⟨(hb6.cell (p := ⟨(a.add (q * 9)).block, (a.add (q * 9)).off + 2, none⟩) hlj).trans (by assumption), (hb6.cell (p := ⟨(a.add (q * 9)).block, (a.add (q * 9)).off + 3, none⟩) hlj).trans (by assumption), (hb6.cell (p := ⟨b, 1, none⟩) hlb).trans (by assumption)⟩))
                (first
                  | (go_at_call_of 9 (Value.int IntKind.i64 now); refine (CL.out _).mono ?_; rintro e w2 ⟨rfl, rfl⟩)
                  | (refine step_push itm_t (by rfl) (.tmp 100) (.tmp 116) (by rfl) w4.heap.size _ _ _ (by rfl) HO5.out _ 1 1 (itmC ⟨j.width, lg⟩) (by rfl) (by rfl) HR5.out (itmC_cell _) (by omega) ?_; intro v6 w6 ho6 hb6))
              all_goals
                have HO6 : Hid (OwnR 42 2 w4.heap.size w6 v6 (q + 1) (itmL.vals (itemsW (W.take (q + 1)) now x.reserved))) := Lib.hid (by rw [HNX.out]; exact ho6)
                have HB6 : Hid (Below w4.heap.size w4 w6) := Lib.hid (HB5.out.trans hb6)
                clear ho6 hb6 p p0 p1 p2 p3 p4 p5 p6 p7 p8 k k0 k1 k2 HPE HLr CL HO5 HB5 HR5 HO HB
                obtain ⟨g6, c6, h6, _⟩ := HO6.out.form
                subst h6
                go_wp2_with fail
                exact ⟨⟨q + 1, _, rfl, by go_num, by omega, HO6, HB6⟩, by simp [intOf] <;> omega⟩
            · have eq : q = W.length := by omega
              subst eq
              have hit : ItmsAt (itemsW W now x.reserved) wr (.slice (some ⟨g, 0, none⟩) W.length cg) := by
                have h1 := HO.out
                rw [List.take_length] at h1
                exact ItmsAt.of (Lay.Is.own h1.toN (by rw [items_len]))
              have HIT := Lib.hid hit
              have hil : (itemsW W now x.reserved).length = W.length := items_len _ _ _
              have HSr := Lib.hid (HS4.out.below HB.out)
              have HLr := Lib.hid (HLK4.out.below HB.out)
              have CW : Hid (Calls Try.prog 12 #[.slice (some ad) s.length cs, .int .i64 now] wr.drew fun e w2 => e = .returned (.int .i64 (val s now)) ∧ w2 = wr.drew) := (within4 s _ now wr.drew (HSr.out.below (Below.refl _ _).drew) (by omega)).mono fun e w2 h => ⟨h.1, h.2.symm⟩
              have CB : Hid (Calls Try.prog 11 #[.slice (some ⟨g, 0, none⟩) W.length cg, .int .i64 (val s now), .int .i64 x.long] wr.drew fun e w2 => e = .returned (.int .i64 (B : Nat)) ∧ w2 = wr.drew) := by
                rw [HBW.out]
                exact (best13 (itemsW W now x.reserved) (val s now) x.long _ wr.drew (hit.below (Below.refl _ _).drew) HWID.out (by omega)).mono fun e w2 h => ⟨h.1, h.2.symm⟩
              have CP := Lib.hid (fun W' => places12 W.length B W' (by omega))
              obtain ⟨k, k0, k1, k2, _, _, _⟩ := HLr.out
              generalize val s now = room at *
              clear hit
              go_upto_region 15 with fail
              go_still_tail 9, (by kernel_rfl)
              still_call (CW.out)
              repeat still_step
              still_call (CB.out)
              refine wpStill_nil ?_
              change wpList _ _ _ _ _ wr.drew
              have HBd := Lib.hid (below_then HB4.out (HB.out.drew))
              have HWd := Lib.hid (HW4.out.below HB.out.drew)
              have HId := Lib.hid (HI4.out.below HB.out.drew)
              clear CW CB k k0 k1 k2 HO HB HIT HSr HLr HS4 HI4 HLK4 HB4
              generalize wr.drew = w5 at *
              go_wp2_with fail
              refine (CP.out _).mono ?_
              rintro e w6 ⟨v6, rfl, hi6, _, hb6⟩
              have HB6 := Lib.hid (below_then HBd.out hb6)
              have HW6 := Lib.hid (HWd.out.below hb6)
              have HI6 := Lib.hid (HId.out.below hb6)
              have HP6 := Lib.hid hi6
              obtain ⟨A6, cc6, rfl, hcc6, hA6⟩ := hi6
              have HA6 := Lib.hid hA6
              clear hb6 hA6 HBd HWd HId CP
              have HPL : Hid (∀ i (hi : i < (placesB W.length B).length), ∃ p : Nat, (placesB W.length B)[i] = (p : Int) ∧ p < W.length) := fun i hi => by
                have h1 := places_in (List.getElem_mem hi)
                exact ⟨(placesB W.length B)[i].toNat, by omega, h1.2.1⟩
              have HPK : Hid ((placesB W.length B).map (idAt W) = I) := Lib.hid ((pick_places W B).trans HII.out.symm)
              have HPN : Hid ((placesB W.length B).length ≤ 60) := Lib.hid (by have := placesTo_len W.length B W.length; show (placesTo W.length B W.length).length ≤ 60; omega)
              generalize placesB W.length B = P at *
              obtain ⟨A7, cc7, h7, _, hat7⟩ := HW6.out.open_
              injection h7 with h7a _ h7c
              subst h7a h7c
              have HA7 := Lib.hid hat7
              clear hat7
              go_wp2_with fail
              go_loopw [15, 16] (fun o i wr => ∃ (q : Nat) (v : Value), v = o ∧ i = .int .i64 q ∧ q ≤ P.length ∧ Hid (RowI w6 wr v ((P.take q).map (idAt W)))) (fun _ i _ => P.length - (intOf i).toNat)
              case atStart => exact ⟨0, _, rfl, rfl, Nat.zero_le _, OwnR.new w6 _ 1, below_box _ _⟩
              case round =>
                obtain ⟨q, o, hov, rfl, hq, HO⟩ := hrel
                subst hov
                obtain ⟨g7, cg7, h7, _⟩ := HO.out.own.form
                subst h7
                have HQL : Hid (((P.take q).map (idAt W)).length = q) := Lib.hid (by rw [List.length_map, List.length_take]; omega)
                by_cases hlt : q < P.length
                · obtain ⟨pp, hpp, hpW⟩ := HPL.out q hlt
                  obtain ⟨aP, hAP, hPlt, hPc⟩ := HA6.out.at hlt
                  subst hAP
                  have hic : icell P q = .int .i64 (pp : Int) := by unfold icell; rw [getD_at hlt, hpp]
                  rw [hic] at hPc
                  have hPc2 : wr.cell? (aP.add q) = some (.int .i64 (pp : Int)) := (HO.out.below.cell (by rw [add_block]; exact hPlt)).trans hPc
                  obtain ⟨aJ, hAJ, hat⟩ := HA7.out pp hpW
                  subst hAJ
                  have HJr := Lib.hid (hat.below HO.out.below)
                  have HNX : Hid ((P.take (q + 1)).map (idAt W) = (P.take q).map (idAt W) ++ [W[pp].id]) := Lib.hid (by
                    rw [List.take_succ_eq_append_getElem hlt, List.map_append, hpp]
                    show _ ++ [idAt W (pp : Int)] = _
                    unfold idAt
                    rw [Int.toNat_natCast, List.getD_eq_getElem?_getD, List.getElem?_eq_getElem hpW]
                    rfl)
                  have HPN2 := HPN.out
                  have b1 : (q : Int) < (P.length : Int) := by omega
                  have b2 : (0 : Int) ≤ (q : Int) := by omega
                  have b3 : (pp : Int) < (W.length : Int) := by omega
                  have b4 : (0 : Int) ≤ (pp : Int) := by omega
                  clear hat hpp hic hPc
                  generalize W[pp] = j at *
                  generalize (P.take q).map (idAt W) = m at *
                  have hmq : m.length ≤ 60 := by have := HQL.out; omega
                  have HOA := Lib.hid (HO.out.own.alloc (.cells #[.int .i64 j.id] 3))
                  have HRA := Lib.hid (Raw.alloc wr #[.int .i64 j.id] 3)
                  obtain ⟨z, z0, z1, z2, z3, z4, z5, z6, z7, z8⟩ := HJr.out
                  go_wp2_with (at_builtin; refine push_raw SubRef.ints_t rfl (.tmp 135) (.tmp 144) rfl w6.heap.size _ _ _ rfl HOA.out _ 1 1 [.int .i64 j.id] rfl rfl ?ha1 ?ha2 ?ha3 ?_)
                  case ha1 => exact HRA.out
                  case ha2 => first | rfl | (intro u hu; simp at hu; subst hu; rfl)
                  case ha3 => omega
                  intro v8 w8 ho8 hb8
                  have HO8 := Lib.hid (HO.out.more (.cells #[.int .i64 j.id] 3) ho8 rfl hb8)
                  clear ho8 hb8 z z0 z1 z2 z3 z4 z5 z6 z7 z8
                  obtain ⟨g8, c8, h8, _⟩ := HO8.out.own.form
                  subst h8
                  go_wp2_with fail
                  exact ⟨⟨q + 1, _, rfl, by go_num, by omega, by rw [HNX.out]; exact HO8⟩, by simp [intOf] <;> omega⟩
                · have eqq : q = P.length := by omega
                  subst eqq
                  have hfin : (P.take P.length).map (idAt W) = I := by rw [List.take_length]; exact HPK.out
                  have HOF : Hid (RowI w6 wr (.slice (some ⟨g7, 0, none⟩) I.length cg7) I) := by rw [← hfin]; exact HO
                  rw [hfin]
                  have SS := Lib.hid (same1 I _ _ wr (HI6.out.below HOF.out.below) HOF.out.is (by have h1 := HPN.out; have h2 := HQL.out; rw [hfin] at h2; omega))
                  have HBF := Lib.hid (below_then HB6.out HOF.out.below)
                  clear HO hfin HQL HPL HPK HA6 HA7 HP6 HW6 HI6 HB6
                  go_wp2_with fail
                  refine SS.out.mono ?_
                  rintro e w7 ⟨rfl, n7, rfl⟩
                  have HB7 := Lib.hid (below_drewN HBF.out n7)
                  generalize wr.drewN n7 = w7 at *
                  go_wp2_with fail
                  refine (HAW.out _).mono ?_
                  rintro e w8 ⟨rfl, hb8⟩
                  have HB8 := Lib.hid (below_then HB7.out hb8)
                  clear hb8
                  go_wp2_with fail
                  go_ret
                  exact ⟨rfl, HB8.out⟩
        · have d4 : decide ((9 : Int) < (W.length : Int)) = true := decide_eq_true (by omega)
          go_wp2_with fail
          refine (HAW.out _).mono ?_
          rintro e w5 ⟨rfl, hb5⟩
          have HB5 := Lib.hid (below_then HB4.out hb5)
          clear hb5
          go_wp2_with fail
          go_ret
          exact ⟨rfl, HB5.out⟩
    · have hex : (decide ((100 : Int) < (s.length : Int)) = true) ∨ (decide ((100 : Int) < (s.length : Int)) = false ∧ decide ((60 : Int) < (jobs.length : Int)) = true) := by
        by_cases h1 : s.length ≤ 100
        · exact .inr ⟨decide_eq_false (by omega), decide_eq_true (by omega)⟩
        · exact .inl (decide_eq_true (by omega))
      rcases hex with d1 | ⟨d1, d2⟩
      all_goals
        go_wp2_with fail
        refine (HAW.out _).mono ?_
        rintro e w4 ⟨rfl, hb4⟩
        have HB4 := Lib.hid (below_then HBc.out hb4)
        clear hb4
        go_wp2_with fail
        go_ret
        exact ⟨rfl, HB4.out⟩
end Go.Proofs.Ytkaepadkdohmpaa.WinWalk
