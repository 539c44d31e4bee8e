/-
  The walks of the statements of layer 5: is a profile as it must be (like).
-/
import Derived.Test.YtjkninldenoanaaProfWalk
namespace Go.Proofs.Ytjkninldenoanaa.ProfWalk
open Go.RowKit Go.Proofs.Ytjkninldenoanaa.SpanPlain Go.Proofs.Ytjkninldenoanaa.StepPlain Go.Proofs.Ytjkninldenoanaa.ProfPlain Go.Proofs.Ytjkninldenoanaa.Mem Go.Proofs.Ytjkninldenoanaa.SpanMem Go.Proofs.Ytjkninldenoanaa.StepMem Go.Proofs.Ytjkninldenoanaa.SpanRef Go.Proofs.Ytjkninldenoanaa.StepRef Go.Proofs.Ytjkninldenoanaa.ProfRef

theorem Is.below {G : List Nat} {x : Prof} {w w' : World} {g : Nat} (h : Is G x w g) (hb : Below w.heap.size w w') : Is G x w' g := h.keep (Still.of_below hb) (hb.block g h.lt)
theorem free_ways (x : Prof) (t : Int) : (decide (t < x.t) = true ∧ freeB x t = false ∧ freeN x t = 0) ∨ (decide (t < x.t) = false ∧ decide (4503599627370496 ≤ t) = true ∧ freeB x t = false ∧ freeN x t = 0) ∨
    (decide (t < x.t) = false ∧ decide (4503599627370496 ≤ t) = false ∧ freeB x t = true ∧ freeN x t = freeL x.p x.l t) := by
  unfold freeN freeB
  by_cases h1 : t < x.t
  · exact .inl ⟨decide_eq_true h1, by simp; omega, by rw [if_neg]; simp; omega⟩
  by_cases h2 : 4503599627370496 ≤ t
  · exact .inr (.inl ⟨decide_eq_false h1, decide_eq_true h2, by simp; omega, by rw [if_neg]; simp; omega⟩)
  · exact .inr (.inr ⟨decide_eq_false h1, decide_eq_false h2, by simp; omega, by rw [if_pos]; simp; omega⟩)
theorem least_ways (x : Prof) (s : Sp) : (mayB s = false ∧ leastB x s = false ∧ leastN x s = 0) ∨ (mayB s = true ∧ decide (s.1 < x.t) = true ∧ leastB x s = false ∧ leastN x s = 0) ∨
    (mayB s = true ∧ decide (s.1 < x.t) = false ∧ leastB x s = true ∧ leastN x s = lowTo (freeL x.p x.l) s (within x.l s) (within x.l s).length) := by
  unfold leastN leastB
  cases mayB s with
  | false => exact .inl ⟨rfl, rfl, rfl⟩
  | true =>
    by_cases h1 : s.1 < x.t
    · exact .inr (.inl ⟨rfl, decide_eq_true h1, by simp; omega, by rw [if_neg]; simp; omega⟩)
    · exact .inr (.inr ⟨rfl, decide_eq_false h1, by simp; omega, by rw [if_pos]; simp; omega⟩)

set_option maxRecDepth 100000 in
set_option maxHeartbeats 6400000 in
theorem like_is {G : List Nat} {x : Prof} {g : Nat} {w : World} (h : Is G x w g) (hG : ∀ i ∈ G, i < w.heap.size) (u : Value) (hu : BusyIs x.l w u) (hl : x.l.length ≤ 60) (t : Int) (s : Sp) :
    Calls Try.prog 12 #[ptr g, profV x u, .int .i64 t, spV s] w (TrueIs w) := by
  have hok := Prof.Fair.ok h.fair (show x.l.length ≤ 300 by omega)
  have C1 := Lib.hid (fun (w' : World) (hb : Below w.heap.size w w') => freeS (h.below hb) hl t)
  have C2 := Lib.hid (fun (w' : World) (hb : Below w.heap.size w w') => leastS (h.below hb) hl s)
  have C3 := Lib.hid (fun (w' : World) (hb : Below w.heap.size w w') => stepsS (h.below hb) (fun i hi => Nat.lt_of_lt_of_le (hG i hi) hb.size) hl)
  have C4 := Lib.hid (fun (w' : World) (hb : Below w.heap.size w w') => procsS (h.below hb) hl)
  have R1 := Lib.hid (fun (w' : World) (hb : Below w.heap.size w w') => free5 x u t w' (hu.below hb) hok)
  have R2 := Lib.hid (fun (w' : World) (hb : Below w.heap.size w w') => least5 x s u w' (hu.below hb) hok)
  have R3 := Lib.hid (fun (w' : World) (hb : Below w.heap.size w w') => steps5 x u w' (hu.below hb) hok)
  have R4 := Lib.hid (fun (w' : World) => may_any s w')
  have R5 := Lib.hid (fun v6 v7 (w' : World) h6 h7 => same4 (stepsL x) (stepsL x) v6 v7 w' h6 h7 (by have := steps_len hl; omega) (by have := steps_len hl; omega))
  rw [decide_eq_true (rfl : stepsL x = stepsL x)] at R5
  have hw1 := free_ways x t
  have hw2 := least_ways x s
  obtain ⟨A, c, rfl, _⟩ := hu.open_
  have HP := Lib.hid ((Trio.new w (.int .i64 x.p) (.int .i64 x.t) (.slice A x.l.length c) 33).alloc (.cells #[.int .i64 s.1, .int .i64 s.2] 25))
  have hbx := Box2.new (w.alloc (.cells #[.int .i64 x.p, .int .i64 x.t, .slice A x.l.length c] 33)) (.int .i64 s.1) (.int .i64 s.2) 25
  have hsz : (w.alloc (.cells #[.int .i64 x.p, .int .i64 x.t, .slice A x.l.length c] 33)).heap.size = w.heap.size + 1 := by simp
  rw [hsz] at hbx
  have HS := Lib.hid hbx
  have HB := Lib.hid ((below_alloc w (.cells #[.int .i64 x.p, .int .i64 x.t, .slice A x.l.length c] 33)).alloc (by simp) (.cells #[.int .i64 s.1, .int .i64 s.2] 25))
  clear hbx hsz hok h hu hl hG
  unfold profV spV ptr at *
  go_enter Try.func12, Try.ntmps12
  go_upto_region 1 with fail
  generalize ((w.alloc (.cells #[.int .i64 x.p, .int .i64 x.t, .slice A x.l.length c] 33)).alloc (.cells #[.int .i64 s.1, .int .i64 s.2] 25)) = W at *
  go_wp2_with fail
  refine (C1.out _ HB.out).mono ?_
  rintro e w1 ⟨rfl, hb1⟩
  have HP1 := Lib.hid (HP.out.below hb1)
  have HS1 := Lib.hid (HS.out.below hb1)
  have HB1 := Lib.hid (below_then HB.out hb1)
  clear hb1 HP HS HB C1
  obtain ⟨s0, s1, s2, s3, s4⟩ := HS1.out
  go_wp2_with fail
  refine (C2.out _ HB1.out).mono ?_
  rintro e w2 ⟨rfl, hb2⟩
  have HP2 := Lib.hid (HP1.out.below hb2)
  have HS2 := Lib.hid (HS1.out.below hb2)
  have HB2 := Lib.hid (below_then HB1.out hb2)
  clear hb2 HP1 HS1 HB1 C2 s0 s1 s2 s3 s4
  obtain ⟨y0, y1, y2, y3, y4, y5, y6⟩ := HP2.out
  generalize freeB x t = FB at *
  generalize freeN x t = FN at *
  generalize leastB x s = LB at *
  generalize leastN x s = LN at *
  generalize freeL x.p x.l t = FT at *
  generalize lowTo (freeL x.p x.l) s (within x.l s) (within x.l s).length = LT at *
  rcases hw1 with ⟨a1, rfl, rfl⟩ | ⟨a1, a2, rfl, rfl⟩ | ⟨a1, a2, rfl, rfl⟩
  · have HP3 := HP2
    have HS3 := HS2
    have HB3 := HB2
    obtain ⟨w3, hw3⟩ : ∃ w3 : World, w3 = w2 := ⟨_, rfl⟩
    subst hw3
    clear HP2 HS2 HB2 y0 y1 y2 y3 y4 y5 y6 R1
    obtain ⟨y0, y1, y2, y3, y4, y5, y6⟩ := HP3.out
    obtain ⟨s0, s1, s2, s3, s4⟩ := HS3.out
    go_upto_region 8 with fail
    go_wp2_with fail
    refine (R4.out _).mono ?_
    rintro e w4 ⟨rfl, hb4⟩
    have HP4 := Lib.hid (HP3.out.below hb4)
    have HS4 := Lib.hid (HS3.out.below hb4)
    have HB4 := Lib.hid (below_then HB3.out hb4)
    clear hb4 HP3 HS3 HB3 y0 y1 y2 y3 y4 y5 y6 s0 s1 s2 s3 s4 R4
    obtain ⟨y0, y1, y2, y3, y4, y5, y6⟩ := HP4.out
    obtain ⟨s0, s1, s2, s3, s4⟩ := HS4.out
    rcases hw2 with ⟨m1, rfl, rfl⟩ | ⟨m1, b1, rfl, rfl⟩ | ⟨m1, b1, rfl, rfl⟩
    · rw [m1]
      have HBW := HB4
      clear HB4
      go_wp2_with fail
      go_region_held3 (fun w' => w'.cell? ⟨w.heap.size, 0, none⟩ = some (.int .i64 x.p) ∧ w'.cell? ⟨w.heap.size, 1, none⟩ = some (.int .i64 x.t) ∧ w'.cell? ⟨w.heap.size, 2, none⟩ = some (.slice A x.l.length c))
        (first | go_keep | (go_split_ands; exact ⟨(HBk.out.cell (p := ⟨w.heap.size, 0, none⟩) y0).trans y1, (HBk.out.cell (p := ⟨w.heap.size, 1, none⟩) y0).trans y2, (HBk.out.cell (p := ⟨w.heap.size, 2, none⟩) y0).trans y3⟩))
        (first
          | (go_at_call 16; (refine (C4.out _ HBW.out.drew).mono ?_; rintro e w5 ⟨rfl, hb5⟩; have HBk := Lib.hid (below_of_drew hb5); have HB5 := Lib.hid (below_then HBW.out HBk.out); clear hb5))
          | (go_at_call 15; (refine (C3.out _ HB5.out).mono ?_; rintro e w6 ⟨v6, rfl, hs6, _, hb6⟩; have HB6 := Lib.hid (below_then HB5.out hb6); have HB5k := HBk; clear HBk; have HBk := Lib.hid (below_then HB5k.out hb6); obtain ⟨A6, c6, rfl, _⟩ := hs6.open_; have HS6 := Lib.hid hs6; clear hs6 hb6))
          | (go_at_call 33; (refine (R3.out _ HB6.out).mono ?_; rintro e w7 ⟨v7, rfl, hs7, _, hb7⟩; have HB7 := Lib.hid (below_then HB6.out hb7); have HB6k := HBk; clear HBk; have HBk := Lib.hid (below_then HB6k.out hb7); have HS7 := Lib.hid (HS6.out.below hb7); obtain ⟨A7, c7, rfl, _⟩ := hs7.open_; have HT7 := Lib.hid hs7; clear hs7 hb7))
          | (go_at_call 17; (refine (R5.out _ _ _ HS7.out HT7.out).mono ?_; rintro e w8 ⟨rfl, n8, rfl⟩; have HB8 := Lib.hid (below_drewN HB7.out n8); have HB7k := HBk; clear HBk; have HBk := Lib.hid (below_drewN HB7k.out n8))))
      go_wp2_with fail
      go_ret
      exact ⟨rfl, HB8.out⟩
    · rw [m1]
      have HBW := HB4
      clear HB4
      go_wp2_with fail
      go_region_held3 (fun w' => w'.cell? ⟨w.heap.size, 0, none⟩ = some (.int .i64 x.p) ∧ w'.cell? ⟨w.heap.size, 1, none⟩ = some (.int .i64 x.t) ∧ w'.cell? ⟨w.heap.size, 2, none⟩ = some (.slice A x.l.length c))
        (first | go_keep | (go_split_ands; exact ⟨(HBk.out.cell (p := ⟨w.heap.size, 0, none⟩) y0).trans y1, (HBk.out.cell (p := ⟨w.heap.size, 1, none⟩) y0).trans y2, (HBk.out.cell (p := ⟨w.heap.size, 2, none⟩) y0).trans y3⟩))
        (first
          | (go_at_call 16; (refine (C4.out _ HBW.out.drew).mono ?_; rintro e w5 ⟨rfl, hb5⟩; have HBk := Lib.hid (below_of_drew hb5); have HB5 := Lib.hid (below_then HBW.out HBk.out); clear hb5))
          | (go_at_call 15; (refine (C3.out _ HB5.out).mono ?_; rintro e w6 ⟨v6, rfl, hs6, _, hb6⟩; have HB6 := Lib.hid (below_then HB5.out hb6); have HB5k := HBk; clear HBk; have HBk := Lib.hid (below_then HB5k.out hb6); obtain ⟨A6, c6, rfl, _⟩ := hs6.open_; have HS6 := Lib.hid hs6; clear hs6 hb6))
          | (go_at_call 33; (refine (R3.out _ HB6.out).mono ?_; rintro e w7 ⟨v7, rfl, hs7, _, hb7⟩; have HB7 := Lib.hid (below_then HB6.out hb7); have HB6k := HBk; clear HBk; have HBk := Lib.hid (below_then HB6k.out hb7); have HS7 := Lib.hid (HS6.out.below hb7); obtain ⟨A7, c7, rfl, _⟩ := hs7.open_; have HT7 := Lib.hid hs7; clear hs7 hb7))
          | (go_at_call 17; (refine (R5.out _ _ _ HS7.out HT7.out).mono ?_; rintro e w8 ⟨rfl, n8, rfl⟩; have HB8 := Lib.hid (below_drewN HB7.out n8); have HB7k := HBk; clear HBk; have HBk := Lib.hid (below_drewN HB7k.out n8))))
      go_wp2_with fail
      go_ret
      exact ⟨rfl, HB8.out⟩
    · rw [m1]
      go_upto_region 11 with fail
      go_wp2_with fail
      refine (R2.out _ HB4.out).mono ?_
      rintro e wk ⟨rfl, hbk⟩
      have HPk := Lib.hid (HP4.out.below hbk)
      have HBW := Lib.hid (below_then HB4.out hbk)
      clear hbk HP4 HS4 HB4 y0 y1 y2 y3 y4 y5 y6 s0 s1 s2 s3 s4 R2
      obtain ⟨y0, y1, y2, y3, y4, y5, y6⟩ := HPk.out
      go_wp2_with fail
      go_region_held3 (fun w' => w'.cell? ⟨w.heap.size, 0, none⟩ = some (.int .i64 x.p) ∧ w'.cell? ⟨w.heap.size, 1, none⟩ = some (.int .i64 x.t) ∧ w'.cell? ⟨w.heap.size, 2, none⟩ = some (.slice A x.l.length c))
        (first | go_keep | (go_split_ands; exact ⟨(HBk.out.cell (p := ⟨w.heap.size, 0, none⟩) y0).trans y1, (HBk.out.cell (p := ⟨w.heap.size, 1, none⟩) y0).trans y2, (HBk.out.cell (p := ⟨w.heap.size, 2, none⟩) y0).trans y3⟩))
        (first
          | (go_at_call 16; (refine (C4.out _ HBW.out.drew).mono ?_; rintro e w5 ⟨rfl, hb5⟩; have HBk := Lib.hid (below_of_drew hb5); have HB5 := Lib.hid (below_then HBW.out HBk.out); clear hb5))
          | (go_at_call 15; (refine (C3.out _ HB5.out).mono ?_; rintro e w6 ⟨v6, rfl, hs6, _, hb6⟩; have HB6 := Lib.hid (below_then HB5.out hb6); have HB5k := HBk; clear HBk; have HBk := Lib.hid (below_then HB5k.out hb6); obtain ⟨A6, c6, rfl, _⟩ := hs6.open_; have HS6 := Lib.hid hs6; clear hs6 hb6))
          | (go_at_call 33; (refine (R3.out _ HB6.out).mono ?_; rintro e w7 ⟨v7, rfl, hs7, _, hb7⟩; have HB7 := Lib.hid (below_then HB6.out hb7); have HB6k := HBk; clear HBk; have HBk := Lib.hid (below_then HB6k.out hb7); have HS7 := Lib.hid (HS6.out.below hb7); obtain ⟨A7, c7, rfl, _⟩ := hs7.open_; have HT7 := Lib.hid hs7; clear hs7 hb7))
          | (go_at_call 17; (refine (R5.out _ _ _ HS7.out HT7.out).mono ?_; rintro e w8 ⟨rfl, n8, rfl⟩; have HB8 := Lib.hid (below_drewN HB7.out n8); have HB7k := HBk; clear HBk; have HBk := Lib.hid (below_drewN HB7k.out n8))))
      go_wp2_with fail
      go_ret
      exact ⟨rfl, HB8.out⟩
  · have HP3 := HP2
    have HS3 := HS2
    have HB3 := HB2
    obtain ⟨w3, hw3⟩ : ∃ w3 : World, w3 = w2 := ⟨_, rfl⟩
    subst hw3
    clear HP2 HS2 HB2 y0 y1 y2 y3 y4 y5 y6 R1
    obtain ⟨y0, y1, y2, y3, y4, y5, y6⟩ := HP3.out
    obtain ⟨s0, s1, s2, s3, s4⟩ := HS3.out
    go_upto_region 8 with fail
    go_wp2_with fail
    refine (R4.out _).mono ?_
    rintro e w4 ⟨rfl, hb4⟩
    have HP4 := Lib.hid (HP3.out.below hb4)
    have HS4 := Lib.hid (HS3.out.below hb4)
    have HB4 := Lib.hid (below_then HB3.out hb4)
    clear hb4 HP3 HS3 HB3 y0 y1 y2 y3 y4 y5 y6 s0 s1 s2 s3 s4 R4
    obtain ⟨y0, y1, y2, y3, y4, y5, y6⟩ := HP4.out
    obtain ⟨s0, s1, s2, s3, s4⟩ := HS4.out
    rcases hw2 with ⟨m1, rfl, rfl⟩ | ⟨m1, b1, rfl, rfl⟩ | ⟨m1, b1, rfl, rfl⟩
    · rw [m1]
      have HBW := HB4
      clear HB4
      go_wp2_with fail
      go_region_held3 (fun w' => w'.cell? ⟨w.heap.size, 0, none⟩ = some (.int .i64 x.p) ∧ w'.cell? ⟨w.heap.size, 1, none⟩ = some (.int .i64 x.t) ∧ w'.cell? ⟨w.heap.size, 2, none⟩ = some (.slice A x.l.length c))
        (first | go_keep | (go_split_ands; exact ⟨(HBk.out.cell (p := ⟨w.heap.size, 0, none⟩) y0).trans y1, (HBk.out.cell (p := ⟨w.heap.size, 1, none⟩) y0).trans y2, (HBk.out.cell (p := ⟨w.heap.size, 2, none⟩) y0).trans y3⟩))
        (first
          | (go_at_call 16; (refine (C4.out _ HBW.out.drew).mono ?_; rintro e w5 ⟨rfl, hb5⟩; have HBk := Lib.hid (below_of_drew hb5); have HB5 := Lib.hid (below_then HBW.out HBk.out); clear hb5))
          | (go_at_call 15; (refine (C3.out _ HB5.out).mono ?_; rintro e w6 ⟨v6, rfl, hs6, _, hb6⟩; have HB6 := Lib.hid (below_then HB5.out hb6); have HB5k := HBk; clear HBk; have HBk := Lib.hid (below_then HB5k.out hb6); obtain ⟨A6, c6, rfl, _⟩ := hs6.open_; have HS6 := Lib.hid hs6; clear hs6 hb6))
          | (go_at_call 33; (refine (R3.out _ HB6.out).mono ?_; rintro e w7 ⟨v7, rfl, hs7, _, hb7⟩; have HB7 := Lib.hid (below_then HB6.out hb7); have HB6k := HBk; clear HBk; have HBk := Lib.hid (below_then HB6k.out hb7); have HS7 := Lib.hid (HS6.out.below hb7); obtain ⟨A7, c7, rfl, _⟩ := hs7.open_; have HT7 := Lib.hid hs7; clear hs7 hb7))
          | (go_at_call 17; (refine (R5.out _ _ _ HS7.out HT7.out).mono ?_; rintro e w8 ⟨rfl, n8, rfl⟩; have HB8 := Lib.hid (below_drewN HB7.out n8); have HB7k := HBk; clear HBk; have HBk := Lib.hid (below_drewN HB7k.out n8))))
      go_wp2_with fail
      go_ret
      exact ⟨rfl, HB8.out⟩
    · rw [m1]
      have HBW := HB4
      clear HB4
      go_wp2_with fail
      go_region_held3 (fun w' => w'.cell? ⟨w.heap.size, 0, none⟩ = some (.int .i64 x.p) ∧ w'.cell? ⟨w.heap.size, 1, none⟩ = some (.int .i64 x.t) ∧ w'.cell? ⟨w.heap.size, 2, none⟩ = some (.slice A x.l.length c))
        (first | go_keep | (go_split_ands; exact ⟨(HBk.out.cell (p := ⟨w.heap.size, 0, none⟩) y0).trans y1, (HBk.out.cell (p := ⟨w.heap.size, 1, none⟩) y0).trans y2, (HBk.out.cell (p := ⟨w.heap.size, 2, none⟩) y0).trans y3⟩))
        (first
          | (go_at_call 16; (refine (C4.out _ HBW.out.drew).mono ?_; rintro e w5 ⟨rfl, hb5⟩; have HBk := Lib.hid (below_of_drew hb5); have HB5 := Lib.hid (below_then HBW.out HBk.out); clear hb5))
          | (go_at_call 15; (refine (C3.out _ HB5.out).mono ?_; rintro e w6 ⟨v6, rfl, hs6, _, hb6⟩; have HB6 := Lib.hid (below_then HB5.out hb6); have HB5k := HBk; clear HBk; have HBk := Lib.hid (below_then HB5k.out hb6); obtain ⟨A6, c6, rfl, _⟩ := hs6.open_; have HS6 := Lib.hid hs6; clear hs6 hb6))
          | (go_at_call 33; (refine (R3.out _ HB6.out).mono ?_; rintro e w7 ⟨v7, rfl, hs7, _, hb7⟩; have HB7 := Lib.hid (below_then HB6.out hb7); have HB6k := HBk; clear HBk; have HBk := Lib.hid (below_then HB6k.out hb7); have HS7 := Lib.hid (HS6.out.below hb7); obtain ⟨A7, c7, rfl, _⟩ := hs7.open_; have HT7 := Lib.hid hs7; clear hs7 hb7))
          | (go_at_call 17; (refine (R5.out _ _ _ HS7.out HT7.out).mono ?_; rintro e w8 ⟨rfl, n8, rfl⟩; have HB8 := Lib.hid (below_drewN HB7.out n8); have HB7k := HBk; clear HBk; have HBk := Lib.hid (below_drewN HB7k.out n8))))
      go_wp2_with fail
      go_ret
      exact ⟨rfl, HB8.out⟩
    · rw [m1]
      go_upto_region 11 with fail
      go_wp2_with fail
      refine (R2.out _ HB4.out).mono ?_
      rintro e wk ⟨rfl, hbk⟩
      have HPk := Lib.hid (HP4.out.below hbk)
      have HBW := Lib.hid (below_then HB4.out hbk)
      clear hbk HP4 HS4 HB4 y0 y1 y2 y3 y4 y5 y6 s0 s1 s2 s3 s4 R2
      obtain ⟨y0, y1, y2, y3, y4, y5, y6⟩ := HPk.out
      go_wp2_with fail
      go_region_held3 (fun w' => w'.cell? ⟨w.heap.size, 0, none⟩ = some (.int .i64 x.p) ∧ w'.cell? ⟨w.heap.size, 1, none⟩ = some (.int .i64 x.t) ∧ w'.cell? ⟨w.heap.size, 2, none⟩ = some (.slice A x.l.length c))
        (first | go_keep | (go_split_ands; exact ⟨(HBk.out.cell (p := ⟨w.heap.size, 0, none⟩) y0).trans y1, (HBk.out.cell (p := ⟨w.heap.size, 1, none⟩) y0).trans y2, (HBk.out.cell (p := ⟨w.heap.size, 2, none⟩) y0).trans y3⟩))
        (first
          | (go_at_call 16; (refine (C4.out _ HBW.out.drew).mono ?_; rintro e w5 ⟨rfl, hb5⟩; have HBk := Lib.hid (below_of_drew hb5); have HB5 := Lib.hid (below_then HBW.out HBk.out); clear hb5))
          | (go_at_call 15; (refine (C3.out _ HB5.out).mono ?_; rintro e w6 ⟨v6, rfl, hs6, _, hb6⟩; have HB6 := Lib.hid (below_then HB5.out hb6); have HB5k := HBk; clear HBk; have HBk := Lib.hid (below_then HB5k.out hb6); obtain ⟨A6, c6, rfl, _⟩ := hs6.open_; have HS6 := Lib.hid hs6; clear hs6 hb6))
          | (go_at_call 33; (refine (R3.out _ HB6.out).mono ?_; rintro e w7 ⟨v7, rfl, hs7, _, hb7⟩; have HB7 := Lib.hid (below_then HB6.out hb7); have HB6k := HBk; clear HBk; have HBk := Lib.hid (below_then HB6k.out hb7); have HS7 := Lib.hid (HS6.out.below hb7); obtain ⟨A7, c7, rfl, _⟩ := hs7.open_; have HT7 := Lib.hid hs7; clear hs7 hb7))
          | (go_at_call 17; (refine (R5.out _ _ _ HS7.out HT7.out).mono ?_; rintro e w8 ⟨rfl, n8, rfl⟩; have HB8 := Lib.hid (below_drewN HB7.out n8); have HB7k := HBk; clear HBk; have HBk := Lib.hid (below_drewN HB7k.out n8))))
      go_wp2_with fail
      go_ret
      exact ⟨rfl, HB8.out⟩
  · go_upto_region 6 with fail
    go_wp2_with fail
    refine (R1.out _ HB2.out).mono ?_
    rintro e w3 ⟨rfl, hb3⟩
    have HP3 := Lib.hid (HP2.out.below hb3)
    have HS3 := Lib.hid (HS2.out.below hb3)
    have HB3 := Lib.hid (below_then HB2.out hb3)
    clear hb3 HP2 HS2 HB2 y0 y1 y2 y3 y4 y5 y6 R1
    obtain ⟨y0, y1, y2, y3, y4, y5, y6⟩ := HP3.out
    obtain ⟨s0, s1, s2, s3, s4⟩ := HS3.out
    go_upto_region 8 with fail
    go_wp2_with fail
    refine (R4.out _).mono ?_
    rintro e w4 ⟨rfl, hb4⟩
    have HP4 := Lib.hid (HP3.out.below hb4)
    have HS4 := Lib.hid (HS3.out.below hb4)
    have HB4 := Lib.hid (below_then HB3.out hb4)
    clear hb4 HP3 HS3 HB3 y0 y1 y2 y3 y4 y5 y6 s0 s1 s2 s3 s4 R4
    obtain ⟨y0, y1, y2, y3, y4, y5, y6⟩ := HP4.out
    obtain ⟨s0, s1, s2, s3, s4⟩ := HS4.out
    rcases hw2 with ⟨m1, rfl, rfl⟩ | ⟨m1, b1, rfl, rfl⟩ | ⟨m1, b1, rfl, rfl⟩
    · rw [m1]
      have HBW := HB4
      clear HB4
      go_wp2_with fail
      go_region_held3 (fun w' => w'.cell? ⟨w.heap.size, 0, none⟩ = some (.int .i64 x.p) ∧ w'.cell? ⟨w.heap.size, 1, none⟩ = some (.int .i64 x.t) ∧ w'.cell? ⟨w.heap.size, 2, none⟩ = some (.slice A x.l.length c))
        (first | go_keep | (go_split_ands; exact ⟨(HBk.out.cell (p := ⟨w.heap.size, 0, none⟩) y0).trans y1, (HBk.out.cell (p := ⟨w.heap.size, 1, none⟩) y0).trans y2, (HBk.out.cell (p := ⟨w.heap.size, 2, none⟩) y0).trans y3⟩))
        (first
          | (go_at_call 16; (refine (C4.out _ HBW.out.drew).mono ?_; rintro e w5 ⟨rfl, hb5⟩; have HBk := Lib.hid (below_of_drew hb5); have HB5 := Lib.hid (below_then HBW.out HBk.out); clear hb5))
          | (go_at_call 15; (refine (C3.out _ HB5.out).mono ?_; rintro e w6 ⟨v6, rfl, hs6, _, hb6⟩; have HB6 := Lib.hid (below_then HB5.out hb6); have HB5k := HBk; clear HBk; have HBk := Lib.hid (below_then HB5k.out hb6); obtain ⟨A6, c6, rfl, _⟩ := hs6.open_; have HS6 := Lib.hid hs6; clear hs6 hb6))
          | (go_at_call 33; (refine (R3.out _ HB6.out).mono ?_; rintro e w7 ⟨v7, rfl, hs7, _, hb7⟩; have HB7 := Lib.hid (below_then HB6.out hb7); have HB6k := HBk; clear HBk; have HBk := Lib.hid (below_then HB6k.out hb7); have HS7 := Lib.hid (HS6.out.below hb7); obtain ⟨A7, c7, rfl, _⟩ := hs7.open_; have HT7 := Lib.hid hs7; clear hs7 hb7))
          | (go_at_call 17; (refine (R5.out _ _ _ HS7.out HT7.out).mono ?_; rintro e w8 ⟨rfl, n8, rfl⟩; have HB8 := Lib.hid (below_drewN HB7.out n8); have HB7k := HBk; clear HBk; have HBk := Lib.hid (below_drewN HB7k.out n8))))
      go_wp2_with fail
      go_ret
      exact ⟨rfl, HB8.out⟩
    · rw [m1]
      have HBW := HB4
      clear HB4
      go_wp2_with fail
      go_region_held3 (fun w' => w'.cell? ⟨w.heap.size, 0, none⟩ = some (.int .i64 x.p) ∧ w'.cell? ⟨w.heap.size, 1, none⟩ = some (.int .i64 x.t) ∧ w'.cell? ⟨w.heap.size, 2, none⟩ = some (.slice A x.l.length c))
        (first | go_keep | (go_split_ands; exact ⟨(HBk.out.cell (p := ⟨w.heap.size, 0, none⟩) y0).trans y1, (HBk.out.cell (p := ⟨w.heap.size, 1, none⟩) y0).trans y2, (HBk.out.cell (p := ⟨w.heap.size, 2, none⟩) y0).trans y3⟩))
        (first
          | (go_at_call 16; (refine (C4.out _ HBW.out.drew).mono ?_; rintro e w5 ⟨rfl, hb5⟩; have HBk := Lib.hid (below_of_drew hb5); have HB5 := Lib.hid (below_then HBW.out HBk.out); clear hb5))
          | (go_at_call 15; (refine (C3.out _ HB5.out).mono ?_; rintro e w6 ⟨v6, rfl, hs6, _, hb6⟩; have HB6 := Lib.hid (below_then HB5.out hb6); have HB5k := HBk; clear HBk; have HBk := Lib.hid (below_then HB5k.out hb6); obtain ⟨A6, c6, rfl, _⟩ := hs6.open_; have HS6 := Lib.hid hs6; clear hs6 hb6))
          | (go_at_call 33; (refine (R3.out _ HB6.out).mono ?_; rintro e w7 ⟨v7, rfl, hs7, _, hb7⟩; have HB7 := Lib.hid (below_then HB6.out hb7); have HB6k := HBk; clear HBk; have HBk := Lib.hid (below_then HB6k.out hb7); have HS7 := Lib.hid (HS6.out.below hb7); obtain ⟨A7, c7, rfl, _⟩ := hs7.open_; have HT7 := Lib.hid hs7; clear hs7 hb7))
          | (go_at_call 17; (refine (R5.out _ _ _ HS7.out HT7.out).mono ?_; rintro e w8 ⟨rfl, n8, rfl⟩; have HB8 := Lib.hid (below_drewN HB7.out n8); have HB7k := HBk; clear HBk; have HBk := Lib.hid (below_drewN HB7k.out n8))))
      go_wp2_with fail
      go_ret
      exact ⟨rfl, HB8.out⟩
    · rw [m1]
      go_upto_region 11 with fail
      go_wp2_with fail
      refine (R2.out _ HB4.out).mono ?_
      rintro e wk ⟨rfl, hbk⟩
      have HPk := Lib.hid (HP4.out.below hbk)
      have HBW := Lib.hid (below_then HB4.out hbk)
      clear hbk HP4 HS4 HB4 y0 y1 y2 y3 y4 y5 y6 s0 s1 s2 s3 s4 R2
      obtain ⟨y0, y1, y2, y3, y4, y5, y6⟩ := HPk.out
      go_wp2_with fail
      go_region_held3 (fun w' => w'.cell? ⟨w.heap.size, 0, none⟩ = some (.int .i64 x.p) ∧ w'.cell? ⟨w.heap.size, 1, none⟩ = some (.int .i64 x.t) ∧ w'.cell? ⟨w.heap.size, 2, none⟩ = some (.slice A x.l.length c))
        (first | go_keep | (go_split_ands; exact ⟨(HBk.out.cell (p := ⟨w.heap.size, 0, none⟩) y0).trans y1, (HBk.out.cell (p := ⟨w.heap.size, 1, none⟩) y0).trans y2, (HBk.out.cell (p := ⟨w.heap.size, 2, none⟩) y0).trans y3⟩))
        (first
          | (go_at_call 16; (refine (C4.out _ HBW.out.drew).mono ?_; rintro e w5 ⟨rfl, hb5⟩; have HBk := Lib.hid (below_of_drew hb5); have HB5 := Lib.hid (below_then HBW.out HBk.out); clear hb5))
          | (go_at_call 15; (refine (C3.out _ HB5.out).mono ?_; rintro e w6 ⟨v6, rfl, hs6, _, hb6⟩; have HB6 := Lib.hid (below_then HB5.out hb6); have HB5k := HBk; clear HBk; have HBk := Lib.hid (below_then HB5k.out hb6); obtain ⟨A6, c6, rfl, _⟩ := hs6.open_; have HS6 := Lib.hid hs6; clear hs6 hb6))
          | (go_at_call 33; (refine (R3.out _ HB6.out).mono ?_; rintro e w7 ⟨v7, rfl, hs7, _, hb7⟩; have HB7 := Lib.hid (below_then HB6.out hb7); have HB6k := HBk; clear HBk; have HBk := Lib.hid (below_then HB6k.out hb7); have HS7 := Lib.hid (HS6.out.below hb7); obtain ⟨A7, c7, rfl, _⟩ := hs7.open_; have HT7 := Lib.hid hs7; clear hs7 hb7))
          | (go_at_call 17; (refine (R5.out _ _ _ HS7.out HT7.out).mono ?_; rintro e w8 ⟨rfl, n8, rfl⟩; have HB8 := Lib.hid (below_drewN HB7.out n8); have HB7k := HBk; clear HBk; have HBk := Lib.hid (below_drewN HB7k.out n8))))
      go_wp2_with fail
      go_ret
      exact ⟨rfl, HB8.out⟩
end Go.Proofs.Ytjkninldenoanaa.ProfWalk
