/-
  The walks of the statements of layer 4: awake, StepOf.
-/
import Derived.Test.YtnjhboanhjjldaaStepWalk
namespace Go.Proofs.Ytnjhboanhjjldaa.StepWalk
open Go.RowKit Go.Proofs.Ytnjhboanhjjldaa.SpanPlain Go.Proofs.Ytnjhboanhjjldaa.StepPlain Go.Proofs.Ytnjhboanhjjldaa.Mem Go.Proofs.Ytnjhboanhjjldaa.SpanMem Go.Proofs.Ytnjhboanhjjldaa.StepMem Go.Proofs.Ytnjhboanhjjldaa.SpanRef Go.Proofs.Ytnjhboanhjjldaa.StepRef

theorem ex_busy (w : World) (T : TypeId) : BusyIs exB (w.alloc (.cells #[.int .i64 2, .int .i64 4, .int .i64 3] T)) (.slice (some ⟨w.heap.size, 0, none⟩) 1 1) := .inr ⟨_, _, rfl, Raw.alloc w #[.int .i64 2, .int .i64 4, .int .i64 3] T⟩
theorem min_is {w : World} (v : Value) (h : SpansIs exS w v) : Calls Try.prog 13 #[v, .agg #[.int .i64 1, .int .i64 3]] w (PairIs 2 true w) :=
  (minS exS (1, 3) v w h (by decide)).mono fun e w' ⟨n, he, hn, hb⟩ => by
    rw [ex_minB] at he hn
    rcases hn with ⟨_, hn⟩ | ⟨hn, _⟩
    · rw [hn.unique ex_min] at he
      exact ⟨he, hb⟩
    · cases hn
theorem add_at2 (a : Addr) : a.add (1 * 2) = ⟨a.block, a.off + 2, none⟩ := by unfold Addr.add; simp

set_option maxHeartbeats 1600000 in
theorem awake_any (w : World) : Calls Try.prog 6 #[] w (TrueIs w) := by
  have C1 := Lib.hid (fun v w h => ofS 5 0 exB v w h (by decide))
  have C2 := Lib.hid (fun v (w : World) (h : SpansIs exS w v) => min_is v h)
  have C3 := Lib.hid (fun v w h => checkS exS v w h (by decide))
  have HO := Lib.hid (fun w T => ex_busy w T)
  rw [ex_chk] at C3
  go_enter Try.func6, Try.ntmps6
  go_wp2_with fail
  refine (C1.out _ _ (HO.out _ _)).mono ?_
  rintro e w1 ⟨v, s, c, rfl, hs, hv, hb⟩
  obtain ⟨rfl, rfl⟩ := hs.unique ex_of
  obtain ⟨A, cap, rfl, hp⟩ : ∃ A cap, v = .slice A 3 cap ∧ Pairs w1 A 3 (spCell exS) := hv.open_
  obtain ⟨ad, rfl, had, c1, c2⟩ := hp 1 (by decide)
  have HV := Lib.hid hv
  have HB := Lib.hid (below_then (below_alloc w _) hb)
  have e1 : (spCell exS 1).1 = .int .i64 2 := rfl
  have e2 : (spCell exS 1).2 = .int .i64 2 := rfl
  rw [e1] at c1
  rw [e2] at c2
  clear hp hv hb hs C1 HO e1 e2
  go_wp2_with fail
  refine (C2.out _ _ HV.out).mono ?_
  rintro e w2 ⟨rfl, hb2⟩
  obtain ⟨had2, d1, d2⟩ := pair_below hb2 had c1 c2
  rw [add_at2] at d1 d2
  have HV2 := Lib.hid (HV.out.below hb2)
  have HB2 := Lib.hid (below_then HB.out hb2)
  clear hb2 c1 c2 had HV HB C2
  go_wp2_with fail
  refine (C3.out _ _ HV2.out).mono ?_
  rintro e w3 ⟨rfl, hb3⟩
  have HB3 := Lib.hid (below_then HB2.out hb3)
  clear hb3
  go_wp2_with fail
  go_ret
  exact ⟨rfl, HB3.out⟩

def P3 (a b c : Int) : Value := .agg #[.int .i64 a, .int .i64 b, .int .i64 c]
theorem cells3 {w w1 : World} {x y z : Value} {T : TypeId} (hb : Below (w.alloc (.cells #[x, y, z] T)).heap.size (w.alloc (.cells #[x, y, z] T)) w1) :
    w1.cell? ⟨w.heap.size, 0, none⟩ = some x ∧ w1.cell? ⟨w.heap.size, 1, none⟩ = some y ∧ w1.cell? ⟨w.heap.size, 2, none⟩ = some z ∧ w.heap.size < w1.heap.size :=
  ⟨box_cell hb (j := 0) rfl, box_cell hb (j := 1) rfl, box_cell hb (j := 2) rfl, by have := hb.size; simp at this; omega⟩
theorem at_ways {s : List Sp} {a b c : Int} {l : List By} (h : Rep s b (freeL a l)) : (decide (c < b) = true ∧ Hid (atB s c = false) ∧ Hid (atN s c = 0)) ∨ (decide (c < b) = false ∧ decide ((4503599627370496 : Int) ≤ c) = true ∧ Hid (atB s c = false) ∧ Hid (atN s c = 0)) ∨
    (decide (c < b) = false ∧ decide ((4503599627370496 : Int) ≤ c) = false ∧ Hid (atB s c = true) ∧ Hid (atN s c = freeL a l c)) := by
  have hc : chkB s = true := (chk_iff s).2 h.1
  have hh := h.2.1
  have key : atB s c = (decide (b ≤ c) && decide (c < 4503599627370496)) := by unfold atB; rw [hc, hh]; rfl
  unfold atN
  by_cases h1 : c < b
  · have e : atB s c = false := by rw [key, decide_eq_false (by omega : ¬ b ≤ c)]; rfl
    exact .inl ⟨decide_eq_true h1, e, by rw [e]; rfl⟩
  · by_cases h2 : 4503599627370496 ≤ c
    · have e : atB s c = false := by rw [key, decide_eq_false (by omega : ¬ c < 4503599627370496), Bool.and_false]
      exact .inr (.inl ⟨decide_eq_false h1, decide_eq_true h2, e, by rw [e]; rfl⟩)
    · have e : atB s c = true := by rw [key, decide_eq_true (by omega : b ≤ c), decide_eq_true (by omega : c < 4503599627370496)]; rfl
      exact .inr (.inr ⟨decide_eq_false h1, decide_eq_false h2, e, by rw [e, if_pos rfl]; exact h.2.2 c (by omega)⟩)

set_option maxHeartbeats 3200000 in
theorem stepOf_any (a b c : Int) (l : List By) (v : Value) (w : World) (hv : BusyIs l w v) : Calls Try.prog 3 #[P3 a b c, v] w (TrueIs w) := by
  obtain ⟨A, cap, rfl, _⟩ := hv.open_
  have HV := Lib.hid hv
  clear hv
  unfold P3
  have HAW := Lib.hid (fun w => awake_any w)
  by_cases h1 : l.length ≤ 310
  · have d1 : decide ((310 : Int) < (l.length : Int)) = false := by rw [decide_eq_false_iff_not]; omega
    have CO := Lib.hid (fun (w' : World) (hb : Below w.heap.size w w') => ofS a b l (.slice A l.length cap) w' (HV.out.below hb) h1)
    have CR := Lib.hid (fun (w' : World) (hb : Below w.heap.size w w') => of4 a b l (.slice A l.length cap) w' (HV.out.below hb) h1)
    have HB0 := Lib.hid (below_alloc w (.cells #[.int .i64 a, .int .i64 b, .int .i64 c] 22))
    go_enter Try.func3, Try.ntmps3
    go_wp2_with fail
    refine (CO.out _ HB0.out).mono ?_
    rintro e w1 ⟨v1, s, c1, rfl, ho, hs, hb1⟩
    obtain ⟨x0, x1, x2, x3⟩ := cells3 hb1
    have HB1 := Lib.hid hb1
    have HS := Lib.hid hs
    have hlen := of_len ho
    clear hs hb1 CO
    go_wp2_with fail
    refine (CR.out _ (below_then HB0.out HB1.out)).mono ?_
    rintro e w2 ⟨v2, s2, c2, rfl, ho2, hs2, _, hb2⟩
    obtain ⟨e1, e2⟩ := ho.unique ho2
    subst e1
    subst e2
    have HB2 := Lib.hid (below_then HB1.out hb2)
    have CS := Lib.hid (same4 s s v1 v2 w2 (HS.out.below hb2) hs2 (by omega) (by omega))
    rw [decide_eq_true rfl] at CS
    have HS2 := Lib.hid (HS.out.below hb2)
    clear hb2 hs2 ho2 CR x0 x1 x2 x3 HB1 HS
    go_wp2_with fail
    refine CS.out.mono ?_
    rintro e w3 ⟨rfl, q, rfl⟩
    have HB3 := Lib.hid (below_drewN HB2.out q)
    have HS3 := Lib.hid (show SpansIs s (w2.drewN q) v1 from HS2.out)
    clear CS HB2 HS2
    generalize w2.drewN q = w3 at *
    rcases ho with ⟨_, rfl, rfl⟩ | ⟨_, _, rfl, rfl⟩ | ⟨hnb, rfl, hrep⟩
    · go_wp2_with fail
      refine (HAW.out _).mono ?_
      rintro e w4 ⟨rfl, hb4⟩
      have HB4 := Lib.hid (below_then HB0.out (below_then HB3.out hb4))
      clear hb4
      go_wp2_with fail
      go_ret
      exact ⟨rfl, HB4.out⟩
    · go_wp2_with fail
      refine (HAW.out _).mono ?_
      rintro e w4 ⟨rfl, hb4⟩
      have HB4 := Lib.hid (below_then HB0.out (below_then HB3.out hb4))
      clear hb4
      go_wp2_with fail
      go_ret
      exact ⟨rfl, HB4.out⟩
    · have hways := at_ways (c := c) hrep
      have hck : chkB s = true := (chk_iff s).2 hrep.1
      have CA := Lib.hid (atS s c v1 w3 HS3.out (by omega))
      obtain ⟨hby, hp1, hp2, _, _, _⟩ := not_bad hnb
      have HBY := Lib.hid hby
      obtain ⟨x0, x1, x2, x3⟩ := cells3 HB3.out
      clear hby hnb hrep
      rcases hways with ⟨k1, E1, E2⟩ | ⟨k1, k2, E1, E2⟩ | ⟨k1, k2, E1, E2⟩
      · rw [E1.out, E2.out] at CA
        clear hck
        go_wp2_with fail
        refine CA.out.mono ?_
        rintro e w4 ⟨rfl, hb4⟩
        have HB4 := Lib.hid (below_then HB3.out hb4)
        obtain ⟨y0, y1, y2, y3⟩ := cells3 HB4.out
        clear hb4 x0 x1 x2 x3
        go_wp2_with fail
        refine (HAW.out _).mono ?_
        rintro e w5 ⟨rfl, hb5⟩
        have HB5 := Lib.hid (below_then HB0.out (below_then HB4.out hb5))
        clear hb5
        go_wp2_with fail
        go_ret
        exact ⟨rfl, HB5.out⟩
      · rw [E1.out, E2.out] at CA
        clear hck
        go_wp2_with fail
        refine CA.out.mono ?_
        rintro e w4 ⟨rfl, hb4⟩
        have HB4 := Lib.hid (below_then HB3.out hb4)
        obtain ⟨y0, y1, y2, y3⟩ := cells3 HB4.out
        clear hb4 x0 x1 x2 x3
        go_wp2_with fail
        refine (HAW.out _).mono ?_
        rintro e w5 ⟨rfl, hb5⟩
        have HB5 := Lib.hid (below_then HB0.out (below_then HB4.out hb5))
        clear hb5
        go_wp2_with fail
        go_ret
        exact ⟨rfl, HB5.out⟩
      · rw [E1.out, E2.out] at CA
        have CK := Lib.hid (fun (w' : World) (hb : Below w3.heap.size w3 w') => checkS s v1 w' (HS3.out.below hb) (by omega))
        have CF := Lib.hid (fun (w' : World) (hb : Below w.heap.size w w') => free4 a l (.slice A l.length cap) c w' (HV.out.below hb) HBY.out (by omega) hp2 (by omega))
        rw [hck] at CK
        clear hck
        generalize freeL a l c = n at *
        go_wp2_with fail
        refine CA.out.mono ?_
        rintro e w4 ⟨rfl, hb4⟩
        have HB4 := Lib.hid (below_then HB3.out hb4)
        have HC4 := Lib.hid (CK.out _ hb4)
        obtain ⟨y0, y1, y2, y3⟩ := cells3 HB4.out
        clear hb4 x0 x1 x2 x3
        go_wp2_with fail
        refine HC4.out.mono ?_
        rintro e w5 ⟨rfl, hb5⟩
        have HB5 := Lib.hid (below_then HB4.out hb5)
        obtain ⟨z0, z1, z2, z3⟩ := cells3 HB5.out
        clear hb5 y0 y1 y2 y3 HC4
        go_wp2_with fail
        refine (CF.out _ (below_then HB0.out HB5.out)).mono ?_
        rintro e w6 ⟨rfl, rfl⟩
        go_wp2_with fail
        refine (HAW.out _).mono ?_
        rintro e w7 ⟨rfl, hb7⟩
        have HB7 := Lib.hid (below_then HB0.out (below_then HB5.out hb7))
        clear hb7
        go_wp2_with fail
        go_ret
        exact ⟨rfl, HB7.out⟩
  · have d1 : decide ((310 : Int) < (l.length : Int)) = true := by rw [decide_eq_true_eq]; omega
    go_enter Try.func3, Try.ntmps3
    go_wp2_with fail
    refine (HAW.out _).mono ?_
    rintro e w1 ⟨rfl, hb1⟩
    have HB1 := Lib.hid (below_then (below_alloc _ _) hb1)
    clear hb1
    go_wp2_with fail
    go_ret
    exact ⟨rfl, HB1.out⟩
end Go.Proofs.Ytnjhboanhjjldaa.StepWalk
