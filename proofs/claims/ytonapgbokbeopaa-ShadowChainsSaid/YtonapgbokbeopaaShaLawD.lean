/-
  The walk of the statements of layer 15: ShadowChains.
-/
import Derived.Test.YtonapgbokbeopaaShaLawB
import Derived.Test.YtonapgbokbeopaaStepRef0
import Derived.Test.YtonapgbokbeopaaSame1
import Derived.StillTailTactics
import Derived.Deep.QuietTactic
import Derived.BigQuiet
namespace Go.Proofs.Ytonapgbokbeopaa.ShaWalk
open Go.RowKit Go.Proofs.Ytonapgbokbeopaa.SpanPlain Go.Proofs.Ytonapgbokbeopaa.StepPlain Go.Proofs.Ytonapgbokbeopaa.GapPlain Go.Proofs.Ytonapgbokbeopaa.JobPlain Go.Proofs.Ytonapgbokbeopaa.ShaPlain Go.Proofs.Ytonapgbokbeopaa.Mem Go.Proofs.Ytonapgbokbeopaa.SpanMem Go.Proofs.Ytonapgbokbeopaa.StepMem Go.Proofs.Ytonapgbokbeopaa.JobMem Go.Proofs.Ytonapgbokbeopaa.OrdMem Go.Proofs.Ytonapgbokbeopaa.SpanRef Go.Proofs.Ytonapgbokbeopaa.StepRef Go.Proofs.Ytonapgbokbeopaa.GapRef Go.Proofs.Ytonapgbokbeopaa.ShaRef
/-- How far the statement's own laying is. -/
def ShLoop (s : List Sp) (now : Int) (js : List Jb) (l : List Int) (t : List Sp) (i : Nat) (ti : List Sp) : Prop := ChainIs ti now (js.drop i) (l.drop i) t ∧ Chk ti ∧ ti.length ≤ s.length + 3 * i
theorem chain_len : ∀ {js : List Jb} {s : List Sp} {now : Int} {l : List Int} {t : List Sp}, ChainIs s now js l t → l.length = js.length
  | [], _, _, _, _, ⟨h, _⟩ => by rw [h]; rfl
  | _ :: js, _, _, _, _, ⟨_, _, _, _, e, _, _, h⟩ => by rw [e, List.length_cons, List.length_cons, chain_len h]
theorem ShLoop.step {s : List Sp} {now : Int} {js : List Jb} {l : List Int} {t : List Sp} {i : Nat} {ti : List Sp} (h : ShLoop s now js l t i ti) (hi : i < js.length) (hl : l.length = js.length) :
    (l.getD i 0 = -1 ∧ ShLoop s now js l t (i + 1) ti) ∨ ∃ a : Int, l.getD i 0 = a ∧ 0 ≤ a ∧ a ≤ 1125899906842624 ∧ FitIs ti now js[i].width js[i].est a true ∧ okG ti a js[i].width js[i].est = true ∧ ∀ r, AddIs ti (runS a js[i]) (-js[i].width) r → ShLoop s now js l t (i + 1) r := by
  obtain ⟨h1, h2, h3⟩ := h
  have hli : i < l.length := by omega
  rw [List.drop_eq_getElem_cons hi, List.drop_eq_getElem_cons hli] at h1
  obtain ⟨a, b, l', s', e, f, u, c⟩ := h1
  injection e with e1 e2
  have hg : l.getD i 0 = l[i] := by simp [List.getD, hli]
  rw [hg, e1]
  rw [← e2] at c
  rcases u with ⟨rfl, u⟩ | ⟨rfl, rfl⟩
  · have hok := fit_ok f
    obtain ⟨_, _, _, _, h0, hm, _⟩ := room_may hok
    refine .inr ⟨a, rfl, h0, hm, f, hok, fun r hr => ?_⟩
    obtain rfl := AddIs.unique hr u
    exact ⟨c, (lay_rep hok hr).1, by have := add_len hr; omega⟩
  · exact .inl ⟨rfl, c, h2, by omega⟩
/-- Whether the statement looks one time earlier. -/
def lookB (hd now a : Int) (k : Nat) : Bool := decide ((k : Int) ≤ 3) && (decide (hd ≤ a - k) && (decide (now < 0) || decide (now ≤ a - k)))
theorem look_ways (hd now a : Int) (k : Nat) : (decide ((k : Int) ≤ 3) = false ∧ lookB hd now a k = false) ∨ (decide ((k : Int) ≤ 3) = true ∧ decide (hd ≤ a - k) = false ∧ lookB hd now a k = false) ∨ (decide ((k : Int) ≤ 3) = true ∧ decide (hd ≤ a - k) = true ∧ decide (now < 0) = true ∧ lookB hd now a k = true) ∨
    (decide ((k : Int) ≤ 3) = true ∧ decide (hd ≤ a - k) = true ∧ decide (now < 0) = false ∧ decide (now ≤ a - k) = false ∧ lookB hd now a k = false) ∨ (decide ((k : Int) ≤ 3) = true ∧ decide (hd ≤ a - k) = true ∧ decide (now < 0) = false ∧ decide (now ≤ a - k) = true ∧ lookB hd now a k = true) := by
  unfold lookB
  cases decide ((k : Int) ≤ 3) <;> cases decide (hd ≤ a - k) <;> cases decide (now < 0) <;> cases decide (now ≤ a - k) <;> simp
theorem look_is {hd now a : Int} {k : Nat} (h : lookB hd now a k = true) : (k : Int) ≤ 3 ∧ hd ≤ a - k ∧ (now < 0 ∨ now ≤ a - k) := by
  unfold lookB at h
  simpa using h
theorem IntsAt.cells {l : List Int} {w : World} {A : Option Addr} {c : Nat} (h : IntsAt l w (.slice A l.length c)) : Cells w A l.length (icell l) := by
  obtain ⟨A2, c2, e, _, h⟩ := h
  injection e with e
  subst e
  exact h
set_option maxRecDepth 100000 in
set_option maxHeartbeats 1200000 in
theorem chains_any (s : List Sp) (now : Int) (js : List Jb) (v u : Value) (w : World) (hv : SpansIs s w v) (hu : JobsIs js w u) : Calls Try.prog 5 #[v, .int .i64 now, u] w (TrueIs w) := by
  have HV := Lib.hid hv
  have HU := Lib.hid hu
  obtain ⟨A, cap, rfl, _⟩ := hv.open_
  obtain ⟨B, d, rfl, hnd, hB⟩ := hu.open_
  have HJ := Lib.hid hB
  clear hv hu hB
  have HAW := Lib.hid (fun w => awake_any w)
  have hbig : (decide ((100 : Int) < (s.length : Int)) = true) ∨ (decide ((100 : Int) < (s.length : Int)) = false ∧ decide ((20 : Int) < (js.length : Int)) = true) ∨ (decide ((100 : Int) < (s.length : Int)) = false ∧ decide ((20 : Int) < (js.length : Int)) = false ∧ s.length ≤ 100 ∧ js.length ≤ 20) := by
    by_cases h1 : (100 : Int) < (s.length : Int)
    · exact .inl (decide_eq_true h1)
    · by_cases h2 : (20 : Int) < (js.length : Int)
      · exact .inr (.inl ⟨decide_eq_false h1, decide_eq_true h2⟩)
      · exact .inr (.inr ⟨decide_eq_false h1, decide_eq_false h2, by omega, by omega⟩)
  rcases hbig with g1 | ⟨g1, g2⟩ | ⟨g1, g2, h1, h2⟩
  · go_enter Try.func5, Try.ntmps5
    go_wp2_with fail
    refine (HAW.out _).mono ?_
    rintro e w2 ⟨rfl, hb2⟩
    go_wp2_with fail
    go_ret
    exact ⟨rfl, hb2⟩
  · go_enter Try.func5, Try.ntmps5
    go_wp2_with fail
    refine (HAW.out _).mono ?_
    rintro e w2 ⟨rfl, hb2⟩
    go_wp2_with fail
    go_ret
    exact ⟨rfl, hb2⟩
  · have CC := Lib.hid (chainS s now js _ _ w HV.out (by omega) HU.out (by omega))
    have CK : Hid (∀ W, Below w.heap.size w W → Calls Try.prog 8 #[.slice A s.length cap] W (BoolD (chkB s) W)) := fun W hW => check4 s _ W (HV.out.below hW) (by omega)
    have CD : Hid (∀ W, Below w.heap.size w W → Calls Try.prog 18 #[.slice A s.length cap, .int .i64 now, .slice B js.length d] W (ChainTells s now js W)) := fun W hW => chain15 s now js _ _ W (HV.out.below hW) (by omega) (HU.out.below hW) (by omega)
    go_enter Try.func5, Try.ntmps5
    go_wp2_with fail
    refine CC.out.mono ?_
    rintro e w2 ⟨u2, v2, l, t, rfl, hu2, hv2, hcase, hb2⟩
    have HB2 := Lib.hid hb2
    have HV2 := Lib.hid hv2
    have HU2 := Lib.hid hu2
    have HCS := Lib.hid hcase
    obtain ⟨A2, c2, hu2e, _, _⟩ := hu2
    subst hu2e
    obtain ⟨A3, c3, hv2e, _⟩ := hv2.open_
    subst hv2e
    clear hb2 hv2 hcase CC
    go_wp2_with fail
    refine (CK.out _ HB2.out).mono ?_
    rintro e w3 ⟨rfl, n3, rfl⟩
    have HB3 := Lib.hid (drew_s HB2.out n3)
    have HV3 := Lib.hid (HV2.out.below (below_drewN (Below.refl w2.heap.size w2) n3))
    have HU3 := Lib.hid (HU2.out.below (below_drewN (Below.refl w2.heap.size w2) n3))
    generalize w2.drewN n3 = W3 at *
    clear HB2 HV2 HU2 CK
    cases hc : chkB s with
    | false =>
      obtain ⟨rfl, rfl⟩ : l = [] ∧ t = [] := by
        rcases HCS.out with ⟨h, _⟩ | ⟨_, h⟩
        · rw [hc] at h; cases h
        · exact h
      clear HCS CD
      go_wp2_with fail
      refine (HAW.out _).mono ?_
      rintro e w4 ⟨rfl, hb4⟩
      have HB4 := Lib.hid (thenS HB3.out hb4)
      clear hb4
      go_wp2_with fail
      go_ret
      exact ⟨rfl, HB4.out⟩
    | true =>
      have HC : Hid (ChainIs s now js l t) := by
        rcases HCS.out with ⟨_, h⟩ | ⟨h, _⟩
        · exact h
        · rw [hc] at h; cases h
      have HK := Lib.hid ((chk_iff s).1 hc)
      have HLN := Lib.hid (chain_len HC.out)
      clear HCS hc
      go_wp2_with fail
      refine (CD.out _ HB3.out).mono ?_
      rintro e w4 ⟨u4, v4, l4, t4, rfl, hu4, hv4, htl, hll, hc4, hb4⟩
      obtain ⟨rfl, rfl⟩ := ChainIs.unique hc4 HC.out
      have HB4 := Lib.hid (thenS HB3.out hb4)
      have HU4 := Lib.hid (HU3.out.below hb4)
      have C1 := Lib.hid (same1 l4 _ _ w4 HU4.out hu4 (by omega))
      have C2 : Hid (∀ n, Calls Try.prog 14 #[.slice A3 t4.length c3, v4] (w4.drewN n) (BoolD (decide (t4 = t4)) (w4.drewN n))) := fun n => same4 t4 t4 _ _ _ ((HV3.out.below hb4).below (below_drewN (Below.refl _ _) n)) (hv4.below (below_drewN (Below.refl _ _) n)) (by omega) (by omega)
      rw [decide_eq_true rfl] at C2
      obtain ⟨A4, c4, hu4e, _, _⟩ := hu4
      subst hu4e
      obtain ⟨A5, c5, hv4e, _⟩ := hv4.open_
      subst hv4e
      clear hv4 hc4 hb4 hll htl CD HB3 HU3 HV3
      go_wp2_with fail
      refine C1.out.mono ?_
      rintro e w5 ⟨rfl, n5, rfl⟩
      go_wp2_with fail
      refine (C2.out _).mono ?_
      rintro e w6 ⟨rfl, n6, rfl⟩
      have HB6 := Lib.hid (drew_s HB4.out (n5 + n6))
      have HU6 := Lib.hid (IntsAt.cells (HU4.out.below (below_drewN (Below.refl w4.heap.size w4) (n5 + n6))))
      have HST : Hid (ShLoop s now js l4 t4 0 s) := ⟨HC.out, HK.out, Nat.le_refl _⟩
      clear C1 C2 HB4 HU4 HC HK
      go_wp2_with fail
      generalize w4.drewN (n5 + n6) = W6 at *
      go_loopw [0, 11] (fun sv i wr => ∃ (k : Nat) (ti : List Sp), i = .int .i64 k ∧ k ≤ l4.length ∧ Hid (ShLoop s now js l4 t4 k ti ∧ SpansIs ti wr sv ∧ Below W6.heap.size W6 wr)) (fun _ i _ => l4.length - (intOf i).toNat)
      case atStart => exact ⟨0, s, rfl, Nat.zero_le _, HST.out, HV.out.below HB6.out, Below.refl _ _⟩
      case round =>
        obtain ⟨k, ti, rfl, hk, HL⟩ := hrel
        obtain ⟨hsl, hst, hbl⟩ := HL.out
        have HBL := Lib.hid hbl
        have HBW := Lib.hid (thenS HB6.out hbl)
        by_cases hlt : k < l4.length
        · have hjk : k < js.length := by have := HLN.out; omega
          obtain ⟨al, rfl, hal, xl⟩ := (HU6.out.below hbl).at hlt
          have xl2 : wr.cell? (al.add k) = some (.int .i64 (l4.getD k 0)) := xl
          have hlt2 : (k : Int) < (l4.length : Int) := by omega
          have hjk2 : (k : Int) < (js.length : Int) := by omega
          have i0 : (0 : Int) ≤ (k : Int) := Int.natCast_nonneg _
          have hsteps := hsl.step hjk HLN.out
          clear xl HL
          rcases hsteps with ⟨e1, hnext⟩ | ⟨a, e1, ha0, ha1, hfit, hok, hnext⟩
          · rw [e1] at xl2
            have HN : Hid (ShLoop s now js l4 t4 (k + 1) ti ∧ SpansIs ti wr _ ∧ Below W6.heap.size W6 wr) := ⟨hnext, hst, hbl⟩
            clear hsl hst hbl hnext e1
            go_wp2_with fail
            exact ⟨⟨k + 1, ti, by go_num, by omega, HN.out⟩, by simp [intOf] <;> omega⟩
          · rw [e1] at xl2
            obtain ⟨aj, rfl, hat⟩ := HJ.out k hjk
            have HAT := Lib.hid (hat.below HBW.out)
            have HNX := Lib.hid hnext
            have HOK := Lib.hid hok
            have HFT := Lib.hid hfit
            have HTL := Lib.hid hsl.2.2
            have hpos := hsl.2.1.pos
            have HST2 := Lib.hid hst
            obtain ⟨At, ct, hste, hpr⟩ := hst.open_
            subst hste
            obtain ⟨at0, rfl, hat0, xs0, _⟩ := pair_zero hpr hpos
            have hh : (spCell ti 0).1 = .int .i64 (head ti) := rfl
            rw [hh] at xs0
            have hpos2 : (0 : Int) < (ti.length : Int) := by omega
            have a0 : decide (a < 0) = false := decide_eq_false (by omega)
            generalize hj : js[k] = j at *
            clear hat hnext hok hfit hsl hst hbl hpr hh e1
            obtain ⟨wo, hwo⟩ : ∃ wo : World, wo = wr := ⟨_, rfl⟩
            go_wp2_with fail
            subst hwo
            go_loopw [12] (fun m wi => ∃ q : Nat, m = .int .i64 q ∧ 1 ≤ q ∧ q ≤ 4 ∧ Hid (Below wo.heap.size wo wi)) (fun m _ => 4 - (intOf m).toNat)
            case atStart => exact ⟨1, rfl, by omega, by omega, Below.refl _ _⟩
            case round =>
              obtain ⟨q, rfl, hq1, hq4, HI⟩ := hrel
              have HBI := Lib.hid (thenS HBW.out HI.out)
              have y1 : wr.cell? (al.add k) = some (.int .i64 a) := (HI.out.cell (p := al.add k) (by rw [add_block]; exact hal)).trans xl2
              have y2 : wr.cell? at0 = some (.int .i64 (head ti)) := (HI.out.cell (p := at0) hat0).trans xs0
              have hw : IntKind.i64.wrap (a - (q : Int)) = a - (q : Int) := by rw [IntKind.wrap_i64]; omega
              have hways := look_ways (head ti) now a q
              have HLB := Lib.hid (fun h => look_is (hd := head ti) (now := now) (a := a) (k := q) h)
              generalize lookB (head ti) now a q = X at *
              go_upto_region 14 with fail
              go_cut [99] (fun c wc => c = .bool X ∧ Below wr.heap.size wr wc)
              case first =>
                rcases hways with ⟨f1, rfl⟩ | ⟨f1, f2, rfl⟩ | ⟨f1, f2, f3, rfl⟩ | ⟨f1, f2, f3, f4, rfl⟩ | ⟨f1, f2, f3, f4, rfl⟩
                all_goals
                  go_quiet (fail)
                  have HQ : Hid (Below wr.heap.size wr (wr.drewN nq)) := below_drewN (Below.refl _ _) nq
                  go_wp2_with fail
                  go_meet
                  exact ⟨rfl, HQ.out⟩
              case rest =>
                obtain ⟨rfl, hcb⟩ := hcut
                have HBO := Lib.hid (thenS HI.out hcb)
                have HBC := Lib.hid (thenS HBW.out HBO.out)
                clear hcb y1 y2 hways HBI
                cases X with
                | true =>
                  obtain ⟨l1, l2, l3⟩ := HLB.out rfl
                  have hno := no_earlier HFT.out (show (1 : Int) ≤ (q : Int) by omega) l2 l3
                  have CO := Lib.hid (fun (z : Lull wc) => ok15 ti (a - (q : Int)) j _ z.u (HST2.out.below (thenS HBO.out z.h)) (by have := HTL.out; omega))
                  rw [hno] at CO
                  have P := Lib.hid (fun (z : Lull wc) => HAT.out.below (thenS HBO.out z.h))
                  have p0 : ∀ z : Lull wc, _ := fun z => (P.out z).c0
                  have p1 : ∀ z : Lull wc, _ := fun z => (P.out z).c1
                  have p2 : ∀ z : Lull wc, _ := fun z => (P.out z).c2
                  have p3 : ∀ z : Lull wc, _ := fun z => (P.out z).c3
                  have p4 : ∀ z : Lull wc, _ := fun z => (P.out z).c4
                  have p5 : ∀ z : Lull wc, _ := fun z => (P.out z).c5
                  have p6 : ∀ z : Lull wc, _ := fun z => (P.out z).c6
                  have p7 : ∀ z : Lull wc, _ := fun z => (P.out z).c7
                  have p8 : ∀ z : Lull wc, _ := fun z => (P.out z).c8
                  have x1 : ∀ z : Lull wc, z.u.cell? (al.add k) = some (.int .i64 a) := fun z => ((thenS HBO.out z.h).cell (p := al.add k) (by rw [add_block]; exact hal)).trans xl2
                  unfold jobV jobA at CO
                  have hq3 : q ≤ 3 := by omega
                  clear hno l1 l2 l3 HLB HNX HOK HFT
                  go_upto_region 16 with fail
                  refine wp_region_calm (by kernel_rfl) (by kernel_rfl) ?_
                  repeat (first | go_big_quiet_step ((go_at_call 12; exact calm_of (CO.out _))) | quiet_step ((go_at_call 12; exact calm_of (CO.out _))))
                  refine wpQuiet_nil ?_
                  intro w9 hw9
                  have hb9 := lull_below hw9
                  have HB9 := Lib.hid (thenS HBO.out hb9)
                  clear hw9 hb9 p0 p1 p2 p3 p4 p5 p6 p7 p8 x1 hw
                  go_wp2_with fail
                  exact ⟨⟨q + 1, by go_num, by omega, by omega, HB9.out⟩, by simp [intOf] <;> omega⟩
                | false =>
                  have hx := (HBO.out.cell (p := al.add k) (by rw [add_block]; exact hal)).trans xl2
                  obtain ⟨z, z0, z1, z2, z3, z4, z5, z6, z7, z8⟩ := HAT.out.below HBO.out
                  clear hw HLB
                  go_upto_region 18 with fail
                  go_still_tail 9, (by kernel_rfl)
                  have HB10 : Hid (Below wo.heap.size wo wc.drew) := HBO.out.drew
                  change wpList _ _ _ _ _ wc.drew
                  generalize wc.drew = w10 at *
                  have CLY := Lib.hid (lay15 ti a j _ w10 (HST2.out.below HB10.out) (by have := HTL.out; omega) HOK.out)
                  unfold jobV jobA at CLY
                  clear hx z z0 z1 z2 z3 z4 z5 z6 z7 z8
                  go_wp2_with fail
                  refine CLY.out.mono ?_
                  rintro e w11 ⟨v11, r11, rfl, hs11, hr11, hb11, _⟩
                  have HN : Hid (ShLoop s now js l4 t4 (k + 1) r11 ∧ SpansIs r11 w11 v11 ∧ Below W6.heap.size W6 w11) := ⟨HNX.out r11 hr11, hs11, thenS (thenS HBL.out HB10.out) hb11⟩
                  clear hs11 hr11 hb11 CLY
                  go_wp2_with fail
                  exact ⟨⟨k + 1, r11, by go_num, by omega, HN.out⟩, by simp [intOf] <;> omega⟩
        · obtain rfl : k = l4.length := by omega
          clear HL hsl hst hbl
          go_wp2_with fail
          refine (HAW.out _).mono ?_
          rintro e w8 ⟨rfl, hb8⟩
          have HB8 := Lib.hid (thenS HBW.out hb8)
          clear hb8
          go_wp2_with fail
          go_ret
          exact ⟨rfl, HB8.out⟩
end Go.Proofs.Ytonapgbokbeopaa.ShaWalk
