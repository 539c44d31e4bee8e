/-
  The walks of the statements of layer 11: TableFull. (The zero struct's cells, '#[.map none]', are the stand-in's: as the landed struct has them.)
-/
import Derived.Test.YtjegkddpaampmaaTabLawB
import Derived.Test.YtjegkddpaampmaaTabFull
namespace Go.Proofs.Ytjegkddpaampmaa.TabWalk
open Go.RowKit Go.Proofs.Ytjegkddpaampmaa.JobPlain Go.Proofs.Ytjegkddpaampmaa.OrdPlain Go.Proofs.Ytjegkddpaampmaa.TabPlain Go.Proofs.Ytjegkddpaampmaa.Mem Go.Proofs.Ytjegkddpaampmaa.JobMem Go.Proofs.Ytjegkddpaampmaa.OrdMem Go.Proofs.Ytjegkddpaampmaa.OrdRef Go.Proofs.Ytjegkddpaampmaa.TabRef Go.Proofs.Ytjegkddpaampmaa.JobRef
/-- How the first loop stands: the job's box, and nothing else that is elder is touched. -/
structure NoneAt (j : Jb) (w wr : World) : Prop where
  box : JobBox wr w.heap.size j
  below : Below w.heap.size w wr
theorem NoneAt.on {j : Jb} {w w1 w2 : World} (h : NoneAt j w w1) (hb : Below w1.heap.size w1 w2) : NoneAt j w w2 := ⟨h.box.below hb, below_then h.below hb⟩
theorem box_id {w : World} {n : Nat} {j : Jb} (h : JobBox w n j) (d : Int) : JobBox (w.setCell ⟨n, 0, none⟩ (.int .i64 d)) n (withId j d) := JobBox.of ((JobBox.boxed h).set 0 (.int .i64 d))
theorem with_with (j : Jb) (a b : Int) : withId (withId j a) b = withId j b := rfl
theorem with_own (j : Jb) : withId j j.id = j := rfl
/-- How the second loop stands: m of the jobs are in the table. -/
structure FullAt (j : Jb) (w w1 : World) (v : Value) (m : Nat) (wr : World) (O : List Nat) (d : Int) : Prop where
  tab : Tab O (fullL j m) wr v
  box : JobBox wr w.heap.size (withId j d)
  below : Below w.heap.size w wr
  own : ∀ i ∈ O, w1.heap.size ≤ i
  size : w1.heap.size ≤ wr.heap.size
theorem FullAt.id {j : Jb} {w w1 wr : World} {v : Value} {m : Nat} {O : List Nat} {d : Int} (h : FullAt j w w1 v m wr O d) (hw : w.heap.size < w1.heap.size) (d2 : Int) : FullAt j w w1 v m (wr.setCell ⟨w.heap.size, 0, none⟩ (.int .i64 d2)) O d2 :=
  ⟨h.tab.keep (by simp [World.setCell]) (fun i hi => Below.heap_setCell wr ⟨w.heap.size, 0, none⟩ _ i (fun e => by have := h.own i hi; simp at e; omega)), box_id h.box d2, h.below.setCell (Nat.le_refl _) _, h.own, by simp [World.setCell]; exact h.size⟩
theorem FullAt.acts {j : Jb} {w w1 wr w2 : World} {v : Value} {m m2 : Nat} {O O2 : List Nat} {d : Int} {l : List Jb} (h : FullAt j w w1 v m wr O d) (hw : w.heap.size < w1.heap.size) (ht : Tab O2 l w2 v) (ho : Owns O O2 wr) (hs : Spare O wr w2) (hl : l = fullL j m2) : FullAt j w w1 v m2 w2 O2 d := by
  subst hl
  have hn : w.heap.size ∉ O := fun e => by have := h.own _ e; omega
  refine ⟨ht, job_spare h.box hs hn, Spare.below h.below hs (fun i hi => by have := h.own i hi; omega) h.below.size, fun i hi => ?_, Nat.le_trans h.size hs.size⟩
  rcases ho i hi with h2 | h2
  · exact h.own i h2
  · have := h.size; omega
theorem state_wait {j : Jb} (hm : mayJ j = true) (h : decide (1 < j.state) = false) : j.state = 0 ∨ j.state = 1 := by
  have h1 := may_fin hm
  rw [decide_eq_false_iff_not] at h
  omega
set_option maxRecDepth 100000 in
set_option maxHeartbeats 12800000 in
theorem full_any (n : Nat) (j : Jb) (w : World) (hn : n ≤ 255) (hf : Fit j) : Calls Try.prog 4 #[.int .u8 n, jobV j] w (TrueIs w) := by
  have HAW := Lib.hid (fun W => awake11 W)
  have H0 : Hid (NoneAt j w (w.alloc (.cells #[.int .i64 j.id, .string j.user, .int .i64 j.width, .int .i64 j.est, .int .i64 j.prio, .int .i64 j.sub, .int .i64 j.state, .int .i64 j.start, .int .i64 j.fin] 28))) := ⟨JobBox.new w j 28, below_box w _⟩
  have HF := Lib.hid hf
  have CA := Lib.hid (fun W v (h : NoTab W v) => noAdd h j hf)
  have CM := Lib.hid (fun W => may7 j W hf)
  have CG := Lib.hid (fun W v (h : NoTab W v) => noGet h 1)
  have CT := Lib.hid (fun W v (h : NoTab W v) => noTurn h 1 1 1)
  have CE := Lib.hid (fun W v (h : NoTab W v) => noEdit h 1 1 1 1)
  have CL := Lib.hid (fun W v (h : NoTab W v) => noAll h)
  have CI := Lib.hid (fun W v (h : NoTab W v) => noIn h 1)
  have CC := Lib.hid (fun W v (h : NoTab W v) => noCount h 1)
  have CV := Lib.hid (fun W v (h : NoTab W v) => noLive h)
  have CP := Lib.hid (fun (O : List Nat) W v (m : Nat) (h : Tab O (fullL j m) W v) (hl : m ≤ 200) d => addS h (by rw [full_len]; exact hl) (withId j d) hf)
  clear hf
  unfold ValT at CG
  unfold jobV jobA at *
  unfold noJb at CG
  dsimp only at CG
  go_enter Try.func4, Try.ntmps4
  go_upto_region 1 with fail
  generalize w.alloc (.cells #[.int .i64 j.id, .string j.user, .int .i64 j.width, .int .i64 j.est, .int .i64 j.prio, .int .i64 j.sub, .int .i64 j.state, .int .i64 j.start, .int .i64 j.fin] 28) = w0 at *
  go_wp2_with fail
  go_loopw [5] (fun i wr => ∃ k : Nat, i = .int .i64 k ∧ k ≤ 2 ∧ Hid (NoneAt j w wr)) (fun i _ => 2 - (intOf i).toNat)
  case atStart => exact ⟨0, rfl, by omega, H0.out⟩
  case round =>
    clear H0
    obtain ⟨k, rfl, hk, HN⟩ := hrel
    by_cases hk2 : k < 2
    · have hz : ∃ (wz : World) (z : Value), Hid (NoTab wz z) ∧ Hid (NoneAt j w wz) ∧ ((((k : Int) == 1) = false ∧ wz = wr ∧ z = .pointer none) ∨ (((k : Int) == 1) = true ∧ wz = wr.alloc (.cells #[.map none] 44) ∧ z = .pointer (some ⟨wr.heap.size, 0, none⟩))) := by
        have hk3 : k = 0 ∨ k = 1 := by omega
        rcases hk3 with rfl | rfl
        · exact ⟨wr, .pointer none, noTab_nil wr, HN.out, .inl ⟨rfl, rfl, rfl⟩⟩
        · exact ⟨_, _, noTab_zero wr, HN.out.on (below_box wr _), .inr ⟨rfl, rfl, rfl⟩⟩
      obtain ⟨wz, z, HZ, HNZ, hcase⟩ := hz
      have CG1 := Lib.hid (CG.out wz z HZ.out)
      have k0 : (0 : Int) ≤ (k : Int) := Int.natCast_nonneg _
      have k1 : (k : Int) < 2 := by omega
      clear CM CP HAW HN
      rcases hcase with ⟨c1, rfl, rfl⟩ | ⟨c1, rfl, rfl⟩
      all_goals
        go_upto_region 7 with fail
        try generalize wr.alloc (.cells #[.map none] 44) = wz at *
        clear c1
        go_wp2_with fail
        refine CG1.out.mono ?_
        rintro e w1 ⟨rfl, hb1⟩
        have HZ2 := Lib.hid (NoTab.below HZ.out (below_then hb1 (below_box w1 (.cells #[.int .i64 0, .string ⟨#[]⟩, .int .i64 0, .int .i64 0, .int .i64 0, .int .i64 0, .int .i64 0, .int .i64 0, .int .i64 0] 28))))
        have HN2 := Lib.hid (HNZ.out.on (below_then hb1 (below_box w1 (.cells #[.int .i64 0, .string ⟨#[]⟩, .int .i64 0, .int .i64 0, .int .i64 0, .int .i64 0, .int .i64 0, .int .i64 0, .int .i64 0] 28))))
        clear hb1 HZ HNZ CG1
        go_upto_region 8 with fail
        generalize w1.alloc (.cells #[.int .i64 0, .string ⟨#[]⟩, .int .i64 0, .int .i64 0, .int .i64 0, .int .i64 0, .int .i64 0, .int .i64 0, .int .i64 0] 28) = w2 at *
        obtain ⟨y, y0, y1, y2, y3, y4, y5, y6, y7, y8, _, _, _, _, _, _, _, _, _⟩ := HN2.out.box
        go_wp2_with fail
        refine (CA.out w2 _ HZ2.out).mono ?_
        rintro e w3 ⟨rfl, hb⟩
        have HZ3 := Lib.hid (NoTab.below HZ2.out hb)
        have HN3 := Lib.hid (HN2.out.on hb)
        clear hb HZ2 HN2 y y0 y1 y2 y3 y4 y5 y6 y7 y8
        go_wp2_with fail
        refine (CT.out w3 _ HZ3.out).mono ?_
        rintro e w4 ⟨rfl, hb⟩
        have HZ4 := Lib.hid (NoTab.below HZ3.out hb)
        have HN4 := Lib.hid (HN3.out.on hb)
        clear hb HZ3 HN3
        go_wp2_with fail
        refine (CE.out w4 _ HZ4.out).mono ?_
        rintro e w5 ⟨rfl, hb⟩
        have HZ5 := Lib.hid (NoTab.below HZ4.out hb)
        have HN5 := Lib.hid (HN4.out.on hb)
        clear hb HZ4 HN4
        go_wp2_with fail
        refine (CL.out w5 _ HZ5.out).mono ?_
        rintro e w6 ⟨A6, c6, rfl, hb⟩
        have HZ6 := Lib.hid (NoTab.below HZ5.out hb)
        have HN6 := Lib.hid (HN5.out.on hb)
        clear hb HZ5 HN5
        go_wp2_with fail
        refine (CI.out w6 _ HZ6.out).mono ?_
        rintro e w7 ⟨A7, c7, rfl, hb⟩
        have HZ7 := Lib.hid (NoTab.below HZ6.out hb)
        have HN7 := Lib.hid (HN6.out.on hb)
        clear hb HZ6 HN6
        go_wp2_with fail
        refine (CC.out w7 _ HZ7.out).mono ?_
        rintro e w8 ⟨rfl, hb⟩
        have HZ8 := Lib.hid (NoTab.below HZ7.out hb)
        have HN8 := Lib.hid (HN7.out.on hb)
        clear hb HZ7 HN7
        go_wp2_with fail
        refine (CV.out w8 _ HZ8.out).mono ?_
        rintro e w9 ⟨rfl, hb⟩
        have HN9 := Lib.hid (HN8.out.on hb)
        clear hb HZ8 HN8
        go_wp2_with fail
        exact ⟨⟨k + 1, by go_num, by omega, HN9.out⟩, by simp [intOf] <;> omega⟩
    · have k1 : decide ((k : Int) < 2) = false := decide_eq_false (by omega)
      obtain ⟨y, y0, y1, y2, y3, y4, y5, y6, y7, y8, _, _, _, _, _, _, _, _, _⟩ := HN.out.box
      clear CA CG CT CE CL CI CC CV
      have hw : (mayJ j = false) ∨ (mayJ j = true ∧ decide (1 < j.state) = true) ∨ (mayJ j = true ∧ decide (1 < j.state) = false) := by cases mayJ j <;> cases decide (1 < j.state) <;> simp
      rcases hw with m | ⟨m, s1⟩ | ⟨m, s1⟩
      iterate 2
        · rw [m] at CM
          clear m
          go_wp2_with fail
          refine (CM.out _).mono ?_
          rintro e w1 ⟨rfl, hb⟩
          have HN1 := Lib.hid (HN.out.on hb)
          clear hb HN y y0 y1 y2 y3 y4 y5 y6 y7 y8
          obtain ⟨y, y0, y1, y2, y3, y4, y5, y6, y7, y8, _, _, _, _, _, _, _, _, _⟩ := HN1.out.box
          go_wp2_with fail
          refine (HAW.out _).mono ?_
          rintro e w2 ⟨rfl, hb⟩
          have HB2 := Lib.hid (below_then HN1.out.below hb)
          clear hb
          go_wp2_with fail
          go_ret
          exact ⟨rfl, HB2.out⟩
      · have HM := Lib.hid m
        have HS := Lib.hid (state_wait m s1)
        rw [m] at CM
        clear m
        go_wp2_with fail
        refine (CM.out _).mono ?_
        rintro e w1 ⟨rfl, hb⟩
        have HN1 := Lib.hid (HN.out.on hb)
        clear hb HN CM y y0 y1 y2 y3 y4 y5 y6 y7 y8
        obtain ⟨y, y0, y1, y2, y3, y4, y5, y6, y7, y8, _, _, _, _, _, _, _, _, _⟩ := HN1.out.box
        go_wp2_with fail
        refine (newS w1).mono ?_
        rintro e w2 ⟨v, O, rfl, ht, hO, hb⟩
        have HL : Hid (w.heap.size < w1.heap.size) := HN1.out.box.lt
        have H2 : Hid (FullAt j w w1 v 0 w2 O j.id) := ⟨ht, by rw [with_own]; exact HN1.out.box.below hb, below_then HN1.out.below hb, hO, hb.size⟩
        clear ht hO hb HN1 y y0 y1 y2 y3 y4 y5 y6 y7 y8 s1
        go_wp2_with fail
        go_loopw [10] (fun i wr => ∃ k : Nat, i = .int .i64 k ∧ k ≤ n + 1 ∧ Hid (∃ O d, FullAt j w w1 v (min k 100) wr O d)) (fun i _ => n + 1 - (intOf i).toNat)
        case atStart => exact ⟨0, rfl, by omega, O, _, H2.out⟩
        case round =>
          clear H2 k1 hk hk2
          obtain ⟨q, rfl, hq, HQ⟩ := hrel
          obtain ⟨O2, d, hq2⟩ := HQ.out
          have HQ2 := Lib.hid hq2
          clear hq2 HQ
          have q0 : (0 : Int) ≤ (q : Int) := Int.natCast_nonneg _
          by_cases hlt : q ≤ n
          · have q1 : (q : Int) ≤ (n : Int) := by omega
            obtain ⟨y, y0, y1, y2, y3, y4, y5, y6, y7, y8, y9, _, _, _, _, _, _, _, _⟩ := HQ2.out.box
            have HQ3 := Lib.hid (HQ2.out.id HL.out ((q : Int) + 1))
            go_upto_region 17 with fail
            clear y y0 y1 y2 y3 y4 y5 y6 y7 y8 y9
            generalize wr.setCell ⟨w.heap.size, 0, none⟩ (.int .i64 ((q : Int) + 1)) = w3 at *
            have HCP := Lib.hid (CP.out O2 w3 v (min q 100) HQ3.out.tab (by omega) ((q : Int) + 1))
            have hway : (((100 : Int) ≤ (q : Int)) ∧ addE (fullL j (min q 100)) (withId j ((q : Int) + 1)) = 4 ∧ addR (fullL j (min q 100)) (withId j ((q : Int) + 1)) = fullL j (min (q + 1) 100)) ∨ (¬ ((100 : Int) ≤ (q : Int)) ∧ addE (fullL j (min q 100)) (withId j ((q : Int) + 1)) = 0 ∧ addR (fullL j (min q 100)) (withId j ((q : Int) + 1)) = fullL j (min (q + 1) 100)) := by
              by_cases h : 100 ≤ q
              · have e : min q 100 = 100 := by omega
                have e2 : min (q + 1) 100 = 100 := by omega
                have h1 : addE (fullL j 100) (withId j ((q : Int) + 1)) = 4 := by rw [full_addE HM.out HS.out (by omega) (by omega) (by omega)]; rfl
                rw [e, e2]
                exact .inl ⟨by omega, h1, addR_no (by rw [h1]; decide)⟩
              · have e : min q 100 = q := by omega
                have e2 : min (q + 1) 100 = q + 1 := by omega
                rw [e, e2]
                exact .inr ⟨by omega, by rw [full_addE HM.out HS.out (by omega) (by omega) (by omega), if_neg (by omega)], full_addR HM.out HS.out (by omega)⟩
            clear HQ2
            obtain ⟨y, y0, y1, y2, y3, y4, y5, y6, y7, y8, _, _, _, _, _, _, _, _, _⟩ := HQ3.out.box
            unfold withId at y0 y1 y2 y3 y4 y5 y6 y7 y8
            dsimp only at y0 y1 y2 y3 y4 y5 y6 y7 y8
            rcases hway with ⟨g1, g2, g3⟩ | ⟨g1, g2, g3⟩
            all_goals
              rw [g2] at HCP
              have HR := Lib.hid g3
              clear g2 g3
              unfold Acts withId at HCP
              dsimp only at HCP
              go_wp2_with fail
              refine HCP.out.mono ?_
              rintro e w4 ⟨O4, rfl, ht, ho, hs⟩
              have HQ4 : Hid (FullAt j w w1 v (min (q + 1) 100) w4 O4 ((q : Int) + 1)) := Lib.hid (HQ3.out.acts HL.out ht ho hs HR.out)
              clear ht ho hs HQ3 HCP HR y y0 y1 y2 y3 y4 y5 y6 y7 y8
              go_wp2_with fail
              exact ⟨⟨q + 1, by go_num, by omega, O4, _, HQ4.out⟩, by simp [intOf] <;> omega⟩
          · have q1 : decide ((q : Int) ≤ (n : Int)) = false := decide_eq_false (by omega)
            have hM : ∃ M : Nat, min q 100 = M ∧ 0 < M ∧ M ≤ 100 := ⟨_, rfl, by omega, by omega⟩
            obtain ⟨M, hM, hM1, hM2⟩ := hM
            rw [hM] at HQ2
            clear hM
            have HT := Lib.hid (turnS HQ2.out.tab (by rw [full_len]; omega) 1 6 j.sub (by have := (may_base HM.out).s1; have := (may_base HM.out).s2; omega))
            rw [full_turnE HM.out HS.out hM1, full_turnR HM.out HS.out hM1] at HT
            have HLA := Lib.hid (last_addE HM.out HS.out hM1 hM2)
            unfold Acts at HT
            obtain ⟨y, y0, y1, y2, y3, y4, y5, y6, y7, y8, _, _, _, _, _, _, _, _, _⟩ := HQ2.out.box
            unfold withId at y0 y1 y2 y3 y4 y5 y6 y7 y8
            dsimp only at y0 y1 y2 y3 y4 y5 y6 y7 y8
            go_wp2_with fail
            refine HT.out.mono ?_
            rintro e w3 ⟨O3, rfl, ht, ho, hs⟩
            have HNO : Hid (w.heap.size ∉ O2) := fun e => by have := HQ2.out.own _ e; have := HL.out; omega
            have HB3 := Lib.hid (job_spare HQ2.out.box hs HNO.out)
            have HW3 : Hid (Below w.heap.size w w3) := Spare.below HQ2.out.below hs (fun i hi => by have := HQ2.out.own i hi; have := HL.out; omega) HQ2.out.below.size
            have HO3 : Hid (∀ i ∈ O3, w.heap.size < i) := fun i hi => by
              rcases ho i hi with h2 | h2
              · have := HQ2.out.own i h2; have := HL.out; omega
              · have := HQ2.out.size; have := HL.out; omega
            have HT3 := Lib.hid ht
            clear ht ho hs HT HQ2 HNO CP y y0 y1 y2 y3 y4 y5 y6 y7 y8
            obtain ⟨y, y0, y1, y2, y3, y4, y5, y6, y7, y8, y9, _, _, _, _, _, _, _, _⟩ := HB3.out
            unfold withId at y0 y1 y2 y3 y4 y5 y6 y7 y8
            dsimp only at y0 y1 y2 y3 y4 y5 y6 y7 y8
            have HB4 := Lib.hid (box_id HB3.out 1000)
            have HW4 := Lib.hid (HW3.out.setCell (p := ⟨w.heap.size, 0, none⟩) (Nat.le_refl _) (.int .i64 1000))
            have HT4 : Hid (Tab O3 ((fullL j M).set 0 (goneJ j)) (w3.setCell ⟨w.heap.size, 0, none⟩ (.int .i64 1000)) v) := HT3.out.keep (by simp [World.setCell]) (fun i hi => Below.heap_setCell w3 ⟨w.heap.size, 0, none⟩ _ i (fun e => by have := HO3.out i hi; simp at e; omega))
            go_upto_region 25 with fail
            generalize w3.setCell ⟨w.heap.size, 0, none⟩ (.int .i64 1000) = w4 at *
            clear y y0 y1 y2 y3 y4 y5 y6 y7 y8 y9 HB3 HW3 HT3
            have HA4 := Lib.hid (addS HT4.out (by rw [List.length_set, full_len]; omega) (withId j 1000) HF.out)
            rw [HLA.out] at HA4
            unfold Acts withId at HA4
            unfold jobV jobA at HA4
            dsimp only at HA4
            rw [with_with] at HB4
            obtain ⟨y, y0, y1, y2, y3, y4, y5, y6, y7, y8, _, _, _, _, _, _, _, _, _⟩ := HB4.out
            unfold withId at y0 y1 y2 y3 y4 y5 y6 y7 y8
            dsimp only at y0 y1 y2 y3 y4 y5 y6 y7 y8
            go_wp2_with fail
            refine HA4.out.mono ?_
            rintro e w5 ⟨O5, rfl, ht, ho, hs⟩
            have HW5 := Lib.hid (Spare.below HW4.out hs (fun i hi => Nat.le_of_lt (HO3.out i hi)) HW4.out.size)
            clear ht ho hs HA4 HW4 HB4 HT4 y y0 y1 y2 y3 y4 y5 y6 y7 y8
            go_wp2_with fail
            refine (HAW.out _).mono ?_
            rintro e w6 ⟨rfl, hb⟩
            have HB6 := Lib.hid (below_then HW5.out hb)
            clear hb
            go_wp2_with fail
            go_ret
            exact ⟨rfl, HB6.out⟩
end Go.Proofs.Ytjegkddpaampmaa.TabWalk
