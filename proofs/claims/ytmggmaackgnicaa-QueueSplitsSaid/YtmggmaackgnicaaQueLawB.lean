/-
  The walks of the statements of layer 9: QueueChecks.
-/
import Derived.Test.YtmggmaackgnicaaQueLawA
namespace Go.Proofs.Ytmggmaackgnicaa.QueWalk
open Go.RowKit Go.Proofs.Ytmggmaackgnicaa.JobPlain Go.Proofs.Ytmggmaackgnicaa.ApiPlain Go.Proofs.Ytmggmaackgnicaa.QuePlain Go.Proofs.Ytmggmaackgnicaa.Mem Go.Proofs.Ytmggmaackgnicaa.ApiMem Go.Proofs.Ytmggmaackgnicaa.OrdMem Go.Proofs.Ytmggmaackgnicaa.QueRef
theorem find_ways (l : List Cl) (wd e : Int) : ((checkC l == 0) = false ∧ (checkC l != 0) = true ∧ findB l wd e = false ∧ findN l wd e = 0) ∨ ((checkC l == 0) = true ∧ (checkC l != 0) = false ∧ decide (0 ≤ ofC l wd e) = false ∧ findB l wd e = false ∧ findN l wd e = 0) ∨
    ((checkC l == 0) = true ∧ (checkC l != 0) = false ∧ decide (0 ≤ ofC l wd e) = true ∧ findB l wd e = true ∧ findN l wd e = ofC l wd e) := by
  by_cases h1 : checkC l = 0
  · have a1 : (checkC l == 0) = true := by simp [h1]
    have a2 : (checkC l != 0) = false := by simp [h1]
    by_cases h2 : 0 ≤ ofC l wd e
    · have h : findB l wd e = true := by unfold findB; rw [decide_eq_true h1, decide_eq_true h2]; rfl
      exact .inr (.inr ⟨a1, a2, decide_eq_true h2, h, by unfold findN; rw [if_pos h]⟩)
    · have h : findB l wd e = false := by unfold findB; rw [decide_eq_false h2, Bool.and_false]
      exact .inr (.inl ⟨a1, a2, decide_eq_false h2, h, by unfold findN; rw [h]; rfl⟩)
  · have h : findB l wd e = false := by unfold findB; rw [decide_eq_false h1]; rfl
    exact .inl ⟨by simp [h1], by simp [h1], h, by unfold findN; rw [h]; rfl⟩
set_option maxRecDepth 100000 in
set_option maxHeartbeats 6400000 in
theorem checks_any (l : List Cl) (wd e : Int) (v : Value) (w : World) (hv : clL.Is l w v) (hs : Short l) : Calls Try.prog 3 #[v, .int .i64 wd, .int .i64 e] w (TrueIs w) := by
  have HAW := Lib.hid (fun W => awake9 W)
  have CLT := Lib.hid (light9 l v w hv)
  have HV := Lib.hid hv
  have HS := Lib.hid hs
  cases hlb : lightB l with
  | false =>
    rw [hlb] at CLT
    clear hlb hv hs
    go_enter Try.func3, Try.ntmps3
    go_wp2_with (go_at_call 5; refine CLT.out.mono ?_; rintro e w1 ⟨rfl, rfl⟩)
    refine (HAW.out _).mono ?_
    rintro e1 w1 ⟨rfl, hb1⟩
    have HB1 := Lib.hid hb1
    clear hb1
    go_wp2_with fail
    go_ret
    exact ⟨rfl, HB1.out⟩
  | true =>
    rw [hlb] at CLT
    have hl := light_len hlb
    have CF := Lib.hid (findS l wd e v w hv hs (by omega))
    have CR := Lib.hid (fun W (hb : Below w.heap.size w W) => check9 l v W (HV.out.below hb) HS.out (by omega))
    have CO := Lib.hid (fun W (hb : Below w.heap.size w W) => of9 l wd e v W (HV.out.below hb) HS.out (by omega))
    have CC := Lib.hid (fun W (hb : Below w.heap.size w W) => checkS l v W (HV.out.below hb) HS.out (by omega))
    have hways := find_ways l wd e
    have HC0 := Lib.hid (fun h => cnt_one (l := l) h wd e l.length (Nat.le_refl _))
    unfold FindSays at CF
    obtain ⟨A, c, rfl, hn, hA⟩ := cls_open hv
    have HA := Lib.hid hA
    have eC : (checkC l != checkC l) = false := by simp
    have eO : (ofC l wd e != ofC l wd e) = false := by simp
    have e00 : ((0 : Int) != 0) = false := by decide
    clear hlb hv hs hA
    generalize checkC l = C at *
    generalize ofC l wd e = O at *
    generalize findB l wd e = FB at *
    generalize findN l wd e = FN at *
    go_enter Try.func3, Try.ntmps3
    go_wp2_with (go_at_call 5; refine CLT.out.mono ?_; rintro e w1 ⟨rfl, rfl⟩)
    refine CF.out.mono ?_
    rintro e1 w1 ⟨rfl, hb1⟩
    have HB1 := Lib.hid hb1
    clear hb1 CF CLT
    go_wp2_with fail
    refine (CR.out _ HB1.out).mono ?_
    rintro e1 w2 ⟨rfl, hb2⟩
    have HB2 := Lib.hid (below_then HB1.out hb2)
    clear hb2 CR HB1
    go_wp2_with fail
    refine (CO.out _ HB2.out).mono ?_
    rintro e1 w3 ⟨rfl, hb3⟩
    have HB3 := Lib.hid (below_then HB2.out hb3)
    clear hb3 CO HB2
    go_wp2_with fail
    refine (CC.out _ HB3.out).mono ?_
    rintro e1 w4 ⟨rfl, hb4⟩
    have HB4 := Lib.hid (below_then HB3.out hb4)
    clear hb4 CC HB3
    have HZ : Hid ((C == 0) = true → cntC l wd e l.length ≤ 1) := fun h => HC0.out (by simpa using h)
    clear HC0
    rcases hways with ⟨h1, h2, rfl, rfl⟩ | ⟨h1, h2, h3, rfl, rfl⟩ | ⟨h1, h2, h3, rfl, rfl⟩
    all_goals
      have HZ1 := Lib.hid (fun h => HZ.out (h1.trans h))
      clear HZ
      go_wp2_with fail
      go_loopw [11, 12] (fun n i wr => ∃ k : Nat, n = .int .i64 (cntC l wd e k : Int) ∧ i = .int .i64 k ∧ k ≤ l.length ∧ Hid (Below w.heap.size w wr)) (fun _ i _ => l.length - (intOf i).toNat)
      case atStart => exact ⟨0, rfl, rfl, Nat.zero_le _, HB4.out⟩
      case round =>
        obtain ⟨k, rfl, rfl, hk, HB⟩ := hrel
        by_cases hlt : k < l.length
        · obtain ⟨ad, rfl, ⟨p, p0, p1, p2, p3, p4⟩⟩ := cls_nth HA.out HB.out hlt
          obtain ⟨ad2, ead, hz⟩ := cls_nth HA.out HB.out (show 0 < l.length by omega)
          injection ead with ead
          subst ead
          have HQ := Lib.hid hz
          have CH := Lib.hid (fun W => hasS (nthC l k) wd e W (HS.out.fit hlt))
          have CH9 := Lib.hid (fun W => has9 (nthC l k) wd e W (HS.out.at hlt))
          have CM := Lib.hid (fun W => meetS (nthC l k) (nthC l 0) W (HS.out.fit hlt) (HS.out.fit (show 0 < l.length by omega)))
          have CM9 := Lib.hid (fun W => meet9 (nthC l k) (nthC l 0) W (HS.out.at hlt) (HS.out.at (show 0 < l.length by omega)))
          have HCN := Lib.hid (cnt_next l wd e k)
          have hcl := cnt_le l wd e k
          have i0 : (0 : Int) ≤ (k : Int) := Int.natCast_nonneg _
          have i1 : (k : Int) < (l.length : Int) := by omega
          have i2 : (0 : Int) < (l.length : Int) := by omega
          have hP : Hid (ClAt wr (ad.add (k * 5)) (nthC l k)) := ⟨p, p0, p1, p2, p3, p4⟩
          clear hz
          unfold clV at CH CH9 CM CM9
          generalize hB : hasC (nthC l k) wd e = B at *
          generalize meetC (nthC l k) (nthC l 0) = M at *
          clear hB
          generalize nthC l k = x at *
          generalize nthC l 0 = y at *
          generalize cntC l wd e k = N at *
          have bB : (B != B) = false := by simp
          have bM : (M != M) = false := by simp
          go_wp2_with fail
          refine (CH.out _).mono ?_
          rintro e1 w5 ⟨rfl, hb5⟩
          have HB5 := Lib.hid (HB.out.trans (hb5.mono HB.out.size))
          have hP5 := hP.out.below hb5
          have hQ5 := HQ.out.below hb5
          clear hb5 p p0 p1 p2 p3 p4
          obtain ⟨p, p0, p1, p2, p3, p4⟩ := hP5
          obtain ⟨q, q0, q1, q2, q3, q4⟩ := hQ5
          rw [Nat.zero_mul] at q0 q1 q2 q3 q4 q
          have P0 := calm_cell p p0
          have P1 := calm_cell (a := ⟨_, _, none⟩) p p1
          have P2 := calm_cell (a := ⟨_, _, none⟩) p p2
          have P3 := calm_cell (a := ⟨_, _, none⟩) p p3
          have P4 := calm_cell (a := ⟨_, _, none⟩) p p4
          have Q0 := calm_cell q q0
          have Q1 := calm_cell (a := ⟨_, _, none⟩) q q1
          have Q2 := calm_cell (a := ⟨_, _, none⟩) q q2
          have Q3 := calm_cell (a := ⟨_, _, none⟩) q q3
          have Q4 := calm_cell (a := ⟨_, _, none⟩) q q4
          simp only [Addr.add_zero'] at Q0 Q1 Q2 Q3 Q4
          clear p p0 p1 p2 p3 p4 q q0 q1 q2 q3 q4 hP HQ
          go_upto_region 13 with fail
          refine wp_region_calm (by kernel_rfl) (by kernel_rfl) ?_
          repeat (first | go_big_quiet_step (((first | (go_at_call 12; exact calm_of (v := .bool B) (CH9.out _)) | (go_at_call 13; exact calm_of (v := .bool M) (CM.out _)) | (go_at_call 14; exact calm_of (v := .bool M) (CM9.out _))))) | quiet_step (((first | (go_at_call 12; exact calm_of (v := .bool B) (CH9.out _)) | (go_at_call 13; exact calm_of (v := .bool M) (CM.out _)) | (go_at_call 14; exact calm_of (v := .bool M) (CM9.out _))))))
          refine wpQuiet_nil ?_
          intro w6 hw
          have hb6 := lull_below hw
          clear hw
          have HB6 := Lib.hid (HB5.out.trans (hb6.mono HB5.out.size))
          clear hb6 P0 P1 P2 P3 P4 Q0 Q1 Q2 Q3 Q4
          cases B
          all_goals
            go_wp2_with fail
            exact ⟨⟨k + 1, by rw [HCN.out]; simp, by go_num, by omega, HB6.out⟩, by simp [intOf] <;> omega⟩
        · obtain rfl : k = l.length := by omega
          have hcl := cnt_le l wd e l.length
          generalize cntC l wd e l.length = N at *
          have hN : (C == 0) = false ∨ decide ((N : Int) ≤ 1) = true := by
            cases hc : (C == 0) with
            | false => exact .inl rfl
            | true => exact .inr (decide_eq_true (by have := HZ1.out (by first | trivial | exact h1.symm.trans hc | exact absurd (h1.symm.trans hc) (by decide)); omega))
          first
            | (rcases hN with hN | hN
               · exact absurd (hN.symm.trans h1) (by decide)
               go_wp2_with fail
               refine (HAW.out _).mono ?_
               rintro e1 w5 ⟨rfl, hb5⟩
               have HB5 := Lib.hid (HB.out.trans (hb5.mono HB.out.size))
               clear hb5
               go_wp2_with fail
               go_ret
               exact ⟨rfl, HB5.out⟩)
            | (go_wp2_with fail
               refine (HAW.out _).mono ?_
               rintro e1 w5 ⟨rfl, hb5⟩
               have HB5 := Lib.hid (HB.out.trans (hb5.mono HB.out.size))
               clear hb5
               go_wp2_with fail
               go_ret
               exact ⟨rfl, HB5.out⟩)
end Go.Proofs.Ytmggmaackgnicaa.QueWalk
