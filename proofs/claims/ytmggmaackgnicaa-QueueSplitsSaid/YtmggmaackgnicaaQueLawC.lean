/-
  The walks of the statements of layer 9: QueueSplits.
-/
import Derived.Test.YtmggmaackgnicaaQueLawB
import Derived.Test.YtmggmaackgnicaaOrdRefC
namespace Go.Proofs.Ytmggmaackgnicaa.QueWalk
open Go.RowKit Go.Proofs.Ytmggmaackgnicaa.JobPlain Go.Proofs.Ytmggmaackgnicaa.ApiPlain Go.Proofs.Ytmggmaackgnicaa.QuePlain Go.Proofs.Ytmggmaackgnicaa.OrdPlain Go.Proofs.Ytmggmaackgnicaa.Mem Go.Proofs.Ytmggmaackgnicaa.ApiMem Go.Proofs.Ytmggmaackgnicaa.JobMem Go.Proofs.Ytmggmaackgnicaa.OrdMem Go.Proofs.Ytmggmaackgnicaa.OrdRef Go.Proofs.Ytmggmaackgnicaa.QueRef
/-- Which jobs are wanted at place i. -/
def isAt (l : List Cl) (i : Nat) (j : Jb) : Bool := (ofC l j.width j.est == (i : Int)) || (decide (ofC l j.width j.est < 0) && ((i : Int) == (l.length : Int)))
def wantTo (l : List Cl) (i : Nat) (js : List Jb) (k : Nat) : List Jb := (js.take k).filter (isAt l i)
theorem want_next (l : List Cl) (i : Nat) {js : List Jb} {k : Nat} (hk : k < js.length) : wantTo l i js (k + 1) = wantTo l i js k ++ if isAt l i js[k] = true then [js[k]] else [] := by
  unfold wantTo
  rw [List.take_succ_eq_append_getElem hk, List.filter_append]
  congr 1
  cases h : isAt l i js[k] <;> simp [h]
theorem want_len (l : List Cl) (i : Nat) (js : List Jb) (k : Nat) : (wantTo l i js k).length ≤ js.length := by
  unfold wantTo
  have := List.length_filter_le (isAt l i) (js.take k)
  rw [List.length_take] at this
  omega
theorem is_at {l : List Cl} {i : Nat} (hi : i < l.length) (j : Jb) : isAt l i j = decide (ofC l j.width j.est = (i : Int)) := by
  unfold isAt
  have h : ((i : Int) == (l.length : Int)) = false := by simp; omega
  rw [h, Bool.and_false, Bool.or_false]
  by_cases h2 : ofC l j.width j.est = (i : Int) <;> simp [h2]
theorem is_end (l : List Cl) (j : Jb) : isAt l l.length j = decide (ofC l j.width j.est = -1) := by
  unfold isAt
  have h : ((l.length : Int) == (l.length : Int)) = true := by simp
  rw [h, Bool.and_true]
  rcases ofC_cases l j.width j.est with h1 | ⟨i, h2, h1, _⟩
  · rw [h1]; simp
  · rw [h1]
    have a1 : ((i : Int) == (l.length : Int)) = false := by simp; omega
    have a2 : decide ((i : Int) < 0) = false := decide_eq_false (by omega)
    have a3 : decide ((i : Int) = -1) = false := decide_eq_false (by omega)
    rw [a1, a2, a3]; rfl
theorem want_at {l : List Cl} {i : Nat} (hi : i < l.length) (js : List Jb) : wantTo l i js js.length = pickJ l i js := by
  unfold wantTo pickJ
  rw [List.take_length]
  congr 1
  funext j
  exact is_at hi j
theorem want_end (l : List Cl) (js : List Jb) : wantTo l l.length js js.length = pickJ l (-1) js := by
  unfold wantTo pickJ
  rw [List.take_length]
  congr 1
  funext j
  exact is_end l j
theorem is_ways (l : List Cl) (i : Nat) (j : Jb) : ((ofC l j.width j.est == (i : Int)) = true ∧ Hid (isAt l i j = true)) ∨ ((ofC l j.width j.est == (i : Int)) = false ∧ decide (ofC l j.width j.est < 0) = false ∧ Hid (isAt l i j = false)) ∨
    ((ofC l j.width j.est == (i : Int)) = false ∧ decide (ofC l j.width j.est < 0) = true ∧ ((i : Int) == (l.length : Int)) = true ∧ Hid (isAt l i j = true)) ∨ ((ofC l j.width j.est == (i : Int)) = false ∧ decide (ofC l j.width j.est < 0) = true ∧ ((i : Int) == (l.length : Int)) = false ∧ Hid (isAt l i j = false)) := by
  unfold isAt
  cases (ofC l j.width j.est == (i : Int)) <;> cases decide (ofC l j.width j.est < 0) <;> cases ((i : Int) == (l.length : Int)) <;> simp [Hid]
structure WantAt (W wr : World) (v : Value) (m : List Jb) : Prop where
  own : OwnR 40 9 W.heap.size wr v m.length (jvals m)
  below : Below W.heap.size W wr
theorem jvals_one (l : List Jb) (j : Jb) : jvals (l ++ [j]) = jvals l ++ jobC j := by simp [jvals]
theorem job_at {js : List Jb} {w w' : World} {A : Option Addr} (h : ∀ i (hi : i < js.length), ∃ a, A = some a ∧ JobAt w (a.add (i * 9)) js[i]) (hb : Below w.heap.size w w') {k : Nat} (hk : k < js.length) : ∃ a, A = some a ∧ JobAt w' (a.add (k * 9)) js[k] := by
  obtain ⟨a, ea, h1⟩ := h k hk
  exact ⟨a, ea, h1.below hb⟩
set_option maxRecDepth 100000 in
set_option maxHeartbeats 12800000 in
theorem splits_any (l : List Cl) (js : List Jb) (v u : Value) (w : World) (hv : clL.Is l w v) (hu : JobsIs js w u) (hs : Short l) : Calls Try.prog 4 #[v, u] w (TrueIs w) := by
  have HAW := Lib.hid (fun W => awake9 W)
  have CLT := Lib.hid (light9 l v w hv)
  have HV := Lib.hid hv
  have HU := Lib.hid hu
  have HS := Lib.hid hs
  obtain ⟨B, d, rfl, hm, hB⟩ := hu.open_
  have HJ := Lib.hid hB
  clear hB hu
  cases hlb : lightB l with
  | false =>
    rw [hlb] at CLT
    clear hlb hv hs
    go_enter Try.func4, Try.ntmps4
    go_wp2_with (go_at_call 5; refine CLT.out.mono ?_; rintro e w1 ⟨rfl, rfl⟩)
    refine (HAW.out _).mono ?_
    rintro e1 w1 ⟨rfl, hb1⟩
    have HB1 := Lib.hid hb1
    clear hb1
    go_wp2_with fail
    go_ret
    exact ⟨rfl, HB1.out⟩
  | true =>
    rw [hlb] at CLT
    have hl := light_len hlb
    by_cases hj : js.length ≤ 120
    · have d1 : decide ((120 : Int) < (js.length : Int)) = false := decide_eq_false (by omega)
      have CS := Lib.hid (splitS l js v (.slice B js.length d) w hv HU.out hs (by omega) (by omega))
      have CR := Lib.hid (fun W (hb : Below w.heap.size w W) => check9 l v W (HV.out.below hb) HS.out (by omega))
      have CO := Lib.hid (fun W wd e (hb : Below w.heap.size w W) => of9 l wd e v W (HV.out.below hb) HS.out (by omega))
      have HSP := Lib.hid (fun (i : Nat) (hi : i < l.length) => split_at l js hi)
      have hsl := split_len l js
      have HWA := Lib.hid (fun (i : Nat) (hi : i < l.length) => want_at hi js)
      have HWE := Lib.hid (want_end l js)
      obtain ⟨A, c, rfl, hn, _⟩ := cls_open hv
      have eC : (checkC l == checkC l) = true := by simp
      have eL : ((l.length : Int) != (l.length : Int)) = false := by simp
      clear hlb hv hs
      go_enter Try.func4, Try.ntmps4
      go_wp2_with (go_at_call 5; refine CLT.out.mono ?_; rintro e w1 ⟨rfl, rfl⟩)
      refine CS.out.mono ?_
      rintro e1 w1 ⟨v1, u1, ll, r, rfl, hll, hr, hcase, hb1⟩
      have HLL := Lib.hid hll
      have HRR := Lib.hid hr
      have HB1 := Lib.hid hb1
      obtain ⟨A1, c1, rfl, hn1, hL1⟩ := hll.open_
      obtain ⟨A2, c2, rfl, hn2, _⟩ := hr.open_
      have HL1 := Lib.hid hL1
      clear hb1 CS CLT hll hr hL1
      go_wp2_with fail
      refine (CR.out _ HB1.out).mono ?_
      rintro e1 w2 ⟨rfl, hb2⟩
      have HB2 := Lib.hid (below_then HB1.out hb2)
      have HB12 := Lib.hid hb2
      clear hb2
      rcases hcase with ⟨hc0, rfl, rfl⟩ | ⟨hc0, rfl, rfl⟩
      · have e1 : (checkC l != 0) = false := by simp [hc0]
        have hlen : (splitC l js).length = l.length := hsl
        generalize checkC l = C at *
        subst hc0
        rw [hlen]
        clear e1 CR hlen hsl
        generalize pickJ l (-1) js = R at *
        have e0 : ((0 : Int) != 0) = false := by decide
        go_wp2_with fail
        go_loopw [8] (fun i wr => ∃ k : Nat, i = .int .i64 k ∧ k ≤ l.length + 1 ∧ Hid (Below w2.heap.size w2 wr)) (fun i _ => l.length + 1 - (intOf i).toNat)
        case atStart => exact ⟨0, rfl, Nat.zero_le _, Below.refl _ _⟩
        case round =>
          obtain ⟨k, rfl, hk, HB⟩ := hrel
          by_cases hlt : k ≤ l.length
          · have d2 : decide ((k : Int) ≤ (l.length : Int)) = true := decide_eq_true (by omega)
            have HBW := Lib.hid (below_then HB2.out HB.out)
            have HLr := Lib.hid (HLL.out.below (HB12.out.trans (HB.out.mono HB12.out.size)))
            have HRr := Lib.hid (HRR.out.below (HB12.out.trans (HB.out.mono HB12.out.size)))
            obtain ⟨wo, rfl⟩ : ∃ wo : World, wo = wr := ⟨_, rfl⟩
            have HO0 := Lib.hid (OwnR.new wo 40 9)
            go_wp2_with fail
            go_loopw [9, 10] (fun o j wr => ∃ (m : Nat) (v : Value), v = o ∧ j = .int .i64 m ∧ m ≤ js.length ∧ Hid (WantAt wo wr v (wantTo l k js m))) (fun _ j _ => js.length - (intOf j).toNat)
            case atStart => exact ⟨0, _, rfl, rfl, Nat.zero_le _, HO0.out, box_below _ _⟩
            case round =>
              obtain ⟨m, o, hov, rfl, hm, HW⟩ := hrel
              subst hov
              obtain ⟨g, cg, rfl, _⟩ := HW.out.own.form
              have hwl := want_len l k js m
              by_cases hml : m < js.length
              · obtain ⟨ad, rfl, hat⟩ := job_at HJ.out (HBW.out.trans (HW.out.below.mono HBW.out.size)) hml
                have HAT := Lib.hid hat
                have COk : Hid (∀ p : Lull wr, Calls Try.prog 9 #[.slice A l.length c, .int .i64 js[m].width, .int .i64 js[m].est] p.u (IntC (ofC l js[m].width js[m].est) p.u)) := fun p => CO.out p.u _ _ ((HBW.out.trans (HW.out.below.mono HBW.out.size)).trans (p.h.mono (HBW.out.trans (HW.out.below.mono HBW.out.size)).size))
                have hways := is_ways l k js[m]
                have HN := Lib.hid (want_next l k hml)
                have i0 : (0 : Int) ≤ (m : Int) := Int.natCast_nonneg _
                have i1 : (m : Int) < (js.length : Int) := by omega
                have i2 : (0 : Int) ≤ (k : Int) := Int.natCast_nonneg _
                have P2 := calm_cell (a := ⟨_, _, none⟩) hat.lt hat.c2
                have P3 := calm_cell (a := ⟨_, _, none⟩) hat.lt hat.c3
                clear hat
                generalize js[m] = e at *
                generalize hO : ofC l e.width e.est = O at *
                clear hO
                generalize isAt l k e = T at *
                generalize hM : wantTo l k js m = M at *
                generalize hM2 : wantTo l k js (m + 1) = M2 at *
                have HM2 := Lib.hid hM2
                clear hM hM2
                go_upto_region 15 with fail
                refine wp_region_calm (by kernel_rfl) (by kernel_rfl) ?_
                repeat (first | go_big_quiet_step ((go_at_call 9; exact calm_of (v := .int .i64 O) (COk.out _))) | quiet_step ((go_at_call 9; exact calm_of (v := .int .i64 O) (COk.out _))))
                refine wpQuiet_nil ?_
                intro w6 hw
                have hb6 := lull_below hw
                clear hw
                have HW6 : Hid (WantAt wo w6 (.slice (some ⟨g, 0, none⟩) M.length cg) M) := ⟨HW.out.own.below hb6, HW.out.below.trans (hb6.mono HW.out.below.size)⟩
                have HE := Lib.hid (HAT.out.below hb6)
                clear hb6 P2 P3 HW HAT COk
                rcases hways with ⟨h1, HT⟩ | ⟨h1, h2, HT⟩ | ⟨h1, h2, h3, HT⟩ | ⟨h1, h2, h3, HT⟩
                case inl | inr.inr.inl =>
                  have HNX : Hid (M2 = M ++ [e]) := by have := HN.out; rw [HT.out] at this; exact this
                  obtain ⟨p, p0, p1, p2, p3, p4, p5, p6, p7, p8⟩ := HE.out
                  have HO := Lib.hid (HW6.out.own.alloc (.cells #[.int .i64 e.id, .string e.user, .int .i64 e.width, .int .i64 e.est, .int .i64 e.prio, .int .i64 e.sub, .int .i64 e.state, .int .i64 e.start, .int .i64 e.fin] 40))
                  clear HN HT
                  go_wp2_with (at_builtin; refine push_raw jobs_t rfl (.tmp 95) (.tmp 100) rfl wo.heap.size _ _ _ rfl HO.out ⟨w6.heap.size, 0, none⟩ 1 1 (jobC e) rfl rfl ?ha1 (jobC_cell e) ?ha2 ?_)
                  case ha1 => exact Raw.alloc w6 (jobA e) 40
                  case ha2 => omega
                  intro v7 w7 ho7 hb7
                  have HW7 : Hid (WantAt wo w7 v7 (M ++ [e])) := ⟨ho7.cast (by simp only [List.length_append, List.length_singleton]) (jvals_one _ _).symm, (HW6.out.below.alloc HW6.out.below.size _).trans hb7⟩
                  clear ho7 hb7
                  go_wp2_with fail
                  exact ⟨⟨m + 1, _, rfl, by go_num, by omega, by rw [HM2.out, HNX.out]; exact HW7.out⟩, by simp [intOf] <;> omega⟩
                all_goals
                  have HNX : Hid (M2 = M) := by have := HN.out; rw [HT.out] at this; simpa [Hid] using this
                  clear HN HT
                  go_wp2_with fail
                  exact ⟨⟨m + 1, _, rfl, by go_num, by omega, by rw [HM2.out, HNX.out]; exact HW6.out⟩, by simp [intOf] <;> omega⟩
              · obtain rfl : m = js.length := by omega
                have HLi := Lib.hid (HLr.out.below HW.out.below)
                have HRi := Lib.hid (HRr.out.below HW.out.below)
                have HBi := Lib.hid (HB.out.trans (HW.out.below.mono HB.out.size))
                have hWJ := Lib.hid (jobs_own HW.out.own rfl)
                have hx := Lib.hid hwl
                clear hwl HW
                by_cases hkl : k < l.length
                · have d3 : decide ((k : Int) < (l.length : Int)) = true := decide_eq_true (by omega)
                  have d4 : ((k : Int) == (l.length : Int)) = false := by simp; omega
                  have hL : ∃ a y, A1 = some a ∧ a.block < wr.heap.size ∧ wr.cell? (a.add k) = some y ∧ JobsIs (pickJ l k js) wr y := by
                    obtain ⟨A3, c3, e3, _, hL3⟩ := HLi.out.open_
                    injection e3 with e31 e32 e33
                    subst e31
                    exact hL3 k _ (HSP.out k hkl)
                  obtain ⟨a, y, rfl, ha, hc, hy⟩ := hL
                  have hWA := HWA.out k hkl
                  have HWJ := hWJ.out
                  have hlen2 := hx.out
                  rw [hWA] at HWJ hlen2
                  rw [hWA]
                  have SS := Lib.hid (same8 (pickJ l k js) y _ wr hy HWJ (by omega))
                  have i2 : (0 : Int) ≤ (k : Int) := Int.natCast_nonneg _
                  have i3 : (k : Int) < (l.length : Int) := by omega
                  clear hWJ HWA hWA hy HWJ hlen2 hx
                  generalize pickJ l k js = M at *
                  go_wp2_with fail
                  refine SS.out.mono ?_
                  rintro e1 w7 ⟨rfl, n7, rfl⟩
                  have HB7 := Lib.hid (below_drewN HBi.out n7)
                  generalize wr.drewN n7 = w7 at *
                  go_wp2_with fail
                  exact ⟨⟨k + 1, by go_num, by omega, HB7.out⟩, by simp [intOf] <;> omega⟩
                · have HWK : Hid (wantTo l k js js.length = R) := by
                    have hke : k = l.length := by omega
                    rw [hke]
                    exact HWE.out
                  have d3 : decide ((k : Int) < (l.length : Int)) = false := decide_eq_false (by omega)
                  have d4 : ((k : Int) == (l.length : Int)) = true := by
                    have hke : k = l.length := by omega
                    rw [hke]; simp
                  have HWJ := hWJ.out
                  have hlen2 := hx.out
                  rw [HWK.out] at HWJ hlen2
                  rw [HWK.out]
                  have SS := Lib.hid (same8 (R) _ _ wr HRi.out HWJ (by omega))
                  clear hWJ HWA HWE HWK HWJ hlen2 hx
                  go_wp2_with fail
                  refine SS.out.mono ?_
                  rintro e1 w7 ⟨rfl, n7, rfl⟩
                  have HB7 := Lib.hid (below_drewN HBi.out n7)
                  generalize wr.drewN n7 = w7 at *
                  go_wp2_with fail
                  exact ⟨⟨k + 1, by go_num, by omega, HB7.out⟩, by simp [intOf] <;> omega⟩
          · have d2 : decide ((k : Int) ≤ (l.length : Int)) = false := decide_eq_false (by omega)
            go_wp2_with fail
            refine (HAW.out _).mono ?_
            rintro e1 w4 ⟨rfl, hb4⟩
            have HB4 := Lib.hid (below_then (below_then HB2.out HB.out) hb4)
            clear hb4
            go_wp2_with fail
            go_ret
            exact ⟨rfl, HB4.out⟩
      · have e1 : (checkC l != 0) = true := by simpa using hc0
        generalize checkC l = C at *
        go_wp2_with fail
        refine (CR.out _ HB2.out).mono ?_
        rintro e1 w3 ⟨rfl, hb3⟩
        have HB3 := Lib.hid (below_then HB2.out hb3)
        clear hb3
        go_wp2_with fail
        refine (HAW.out _).mono ?_
        rintro e1 w4 ⟨rfl, hb4⟩
        have HB4 := Lib.hid (below_then HB3.out hb4)
        clear hb4
        go_wp2_with fail
        go_ret
        exact ⟨rfl, HB4.out⟩
    · have d1 : decide ((120 : Int) < (js.length : Int)) = true := decide_eq_true (by omega)
      clear hlb hv hs
      go_enter Try.func4, Try.ntmps4
      go_wp2_with (go_at_call 5; refine CLT.out.mono ?_; rintro e w1 ⟨rfl, rfl⟩)
      refine (HAW.out _).mono ?_
      rintro e1 w1 ⟨rfl, hb1⟩
      have HB1 := Lib.hid hb1
      clear hb1
      go_wp2_with fail
      go_ret
      exact ⟨rfl, HB1.out⟩
end Go.Proofs.Ytmggmaackgnicaa.QueWalk
