/-
  The walks of the statements of layer 11: TableOf.
-/
import Derived.Test.YtjegkddpaampmaaTabLawC
import Derived.Test.YtjegkddpaampmaaTabFull
namespace Go.Proofs.Ytjegkddpaampmaa.TabWalk
open Go.RowKit Go.Proofs.Ytjegkddpaampmaa.JobPlain Go.Proofs.Ytjegkddpaampmaa.OrdPlain Go.Proofs.Ytjegkddpaampmaa.TabPlain Go.Proofs.Ytjegkddpaampmaa.Mem Go.Proofs.Ytjegkddpaampmaa.JobMem Go.Proofs.Ytjegkddpaampmaa.OrdMem Go.Proofs.Ytjegkddpaampmaa.OrdRef Go.Proofs.Ytjegkddpaampmaa.TabRef Go.Proofs.Ytjegkddpaampmaa.JobRef
/-- The first k jobs may be, and their Ids rise. -/
def upTo (l : List Jb) : Nat → Bool
  | 0 => true
  | k + 1 => upTo l k && (mayJ (l.getD k noJb) && (decide (k = 0) || decide ((l.getD (k - 1) noJb).id < (l.getD k noJb).id)))
theorem getJ_at {l : List Jb} {k : Nat} (h : k < l.length) : l.getD k noJb = l[k] := by simp [List.getD, h]
theorem up_iff (l : List Jb) : ∀ k, k ≤ l.length → (upTo l k = true ↔ (∀ i (h : i < l.length), i < k → mayJ l[i] = true) ∧ ∀ i (h : i + 1 < l.length), i + 1 < k → l[i].id < l[i + 1].id)
  | 0, _ => ⟨fun _ => ⟨fun i _ h => absurd h (by omega), fun i _ h => absurd h (by omega)⟩, fun _ => rfl⟩
  | k + 1, hk => by
    have hlt : k < l.length := hk
    unfold upTo
    rw [Bool.and_eq_true, up_iff l k (by omega), getJ_at hlt, Bool.and_eq_true, Bool.or_eq_true, decide_eq_true_eq, decide_eq_true_eq]
    constructor
    · rintro ⟨⟨h1, h2⟩, h3, h4⟩
      refine ⟨fun i hi hik => ?_, fun i hi hik => ?_⟩
      · by_cases e : i = k
        · subst e; exact h3
        · exact h1 i hi (by omega)
      · by_cases e : i + 1 = k
        · subst e
          rcases h4 with h4 | h4
          · omega
          · rw [Nat.add_sub_cancel, getJ_at (by omega)] at h4; exact h4
        · exact h2 i hi (by omega)
    · rintro ⟨h1, h2⟩
      refine ⟨⟨fun i hi hik => h1 i hi (by omega), fun i hi hik => h2 i hi (by omega)⟩, h1 k hlt (by omega), ?_⟩
      by_cases e : k = 0
      · exact .inl e
      · right
        obtain ⟨m, rfl⟩ : ∃ m, k = m + 1 := ⟨k - 1, by omega⟩
        rw [Nat.add_sub_cancel, getJ_at (by omega)]
        exact h2 m hlt (by omega)
theorem rise_all {l : List Jb} (h : ∀ i (h : i + 1 < l.length), l[i].id < l[i + 1].id) : ∀ j i (hi : i < l.length) (hj : j < l.length), i < j → l[i].id < l[j].id
  | 0, i, _, _, hij => absurd hij (by omega)
  | j + 1, i, hi, hj, hij => by
    have h1 := h j hj
    by_cases e : i = j
    · subst e; exact h1
    · have h2 := rise_all h j i hi (by omega) (by omega)
      omega
theorem up_all (l : List Jb) : upTo l l.length = (l.all mayJ && decide (l.Pairwise fun a b => a.id < b.id)) := by
  rw [Bool.eq_iff_iff, up_iff l l.length (Nat.le_refl _), Bool.and_eq_true, List.all_eq_true, decide_eq_true_eq, List.pairwise_iff_getElem]
  constructor
  · rintro ⟨h1, h2⟩
    refine ⟨fun x hx => ?_, fun i j hi hj hij => rise_all (fun i h => h2 i h h) j i hi hj hij⟩
    obtain ⟨i, hi, rfl⟩ := List.mem_iff_getElem.1 hx
    exact h1 i hi hi
  · rintro ⟨h1, h2⟩
    exact ⟨fun i hi _ => h1 _ (List.getElem_mem _), fun i hi _ => h2 i (i + 1) (by omega) hi (by omega)⟩
theorem of_ways (l : List Jb) (q : Bool) (hq : q = upTo l l.length) : (q = false ∧ ofErr l = 1) ∨ (q = true ∧ decide (100 < liveN l) = true ∧ ofErr l = 4) ∨ (q = true ∧ decide (100 < liveN l) = false ∧ ofErr l = 0) := by
  unfold ofErr
  rw [← up_all, ← hq]
  cases q
  · exact .inl ⟨rfl, by simp⟩
  · by_cases h : 100 < liveN l
    · exact .inr (.inl ⟨rfl, decide_eq_true h, by rw [if_pos rfl, if_pos h]⟩)
    · exact .inr (.inr ⟨rfl, decide_eq_false h, by rw [if_pos rfl, if_neg h]⟩)
theorem two_ways (n m : Nat) : (decide ((110 : Int) < (n : Int)) = true) ∨ (decide ((110 : Int) < (n : Int)) = false ∧ decide ((30 : Int) < (m : Int)) = true) ∨ (decide ((110 : Int) < (n : Int)) = false ∧ decide ((30 : Int) < (m : Int)) = false ∧ n ≤ 110 ∧ m ≤ 30) := by
  by_cases h1 : n ≤ 110
  · by_cases h2 : m ≤ 30
    · exact .inr (.inr ⟨decide_eq_false (by omega), decide_eq_false (by omega), h1, h2⟩)
    · exact .inr (.inl ⟨decide_eq_false (by omega), decide_eq_true (by omega)⟩)
  · exact .inl (decide_eq_true (by omega))
set_option maxRecDepth 100000 in
set_option maxHeartbeats 25600000 in
theorem of_any (js : List Jb) (l : List Ac) (u v : Value) (w : World) (hu : JobsIs js w u) (hf : JobsFit js) (hv : acL.Is l w v) (hg : ∀ x ∈ l, AcFit x) : Calls Try.prog 5 #[u, v] w (TrueIs w) := by
  have HAW := Lib.hid (fun W => awake11 W)
  have HU := Lib.hid hu
  have HJF := Lib.hid hf
  have CO := Lib.hid (fun W (h : JobsIs js W u) h2 => ofS js u W h hf h2)
  have hway := two_ways js.length l.length
  obtain ⟨A, c, rfl, hn, hA⟩ := acs_open hv
  obtain ⟨B, d, rfl, hm, hB⟩ := hu.open_
  have HA := Lib.hid hA
  have HJ := Lib.hid hB
  have HF := Lib.hid hg
  clear hu hf hv hg hA hB
  unfold OfSays at CO
  rcases hway with a1 | ⟨a1, a2⟩ | ⟨a1, a2, n1, n2⟩
  iterate 2
    · go_enter Try.func5, Try.ntmps5
      go_wp2_with fail
      refine (HAW.out _).mono ?_
      rintro e w1 ⟨rfl, hb1⟩
      have HB1 := Lib.hid hb1
      clear hb1
      go_wp2_with fail
      go_ret
      exact ⟨rfl, HB1.out⟩
  · go_enter Try.func5, Try.ntmps5
    go_wp2_with fail
    go_loopw [5, 6] (fun b i wr => ∃ (k : Nat) (q : Bool), b = .bool q ∧ i = .int .i64 k ∧ k ≤ js.length ∧ Hid (q = upTo js k) ∧ Hid (Below w.heap.size w wr)) (fun _ i _ => js.length - (intOf i).toNat)
    case atStart => exact ⟨0, true, rfl, rfl, Nat.zero_le _, rfl, Below.refl _ _⟩
    case round =>
      obtain ⟨k, q, rfl, rfl, hk, HQ, HB⟩ := hrel
      have i0 : (0 : Int) ≤ (k : Int) := Int.natCast_nonneg _
      by_cases hlt : k < js.length
      · obtain ⟨ad, rfl, hat⟩ := jobs_nth HJ.out HB.out hlt
        have HNX : Hid (upTo js (k + 1) = (upTo js k && (mayJ js[k] && (decide (k = 0) || decide ((js.getD (k - 1) noJb).id < js[k].id))))) := Lib.hid (by rw [← getJ_at hlt]; rfl)
        have HPV : Hid (∀ m (hm : m < js.length), JobAt wr (ad.add (m * 9)) js[m]) := Lib.hid (fun m hm => by
          obtain ⟨a2, ea, h⟩ := jobs_nth HJ.out HB.out hm
          injection ea with ea
          subst ea
          exact h)
        have CM := Lib.hid (fun W => may7 js[k] W (HJF.out _ (List.getElem_mem _)))
        have i1 : (k : Int) < (js.length : Int) := by omega
        unfold jobV jobA at CM
        generalize js[k] = x at *
        obtain ⟨p, p0, p1, p2, p3, p4, p5, p6, p7, p8⟩ := hat
        by_cases hus : x.user.size ≤ 100
        · have d2 : decide ((100 : Int) < (x.user.size : Int)) = false := decide_eq_false (by omega)
          go_upto_region 9 with fail
          have P0 := calm_cell p p0
          have P1 := calm_cell (a := ⟨_, _, none⟩) p p1
          have P2 := calm_cell (a := ⟨_, _, none⟩) p p2
          have P3 := calm_cell (a := ⟨_, _, none⟩) p p3
          have P4 := calm_cell (a := ⟨_, _, none⟩) p p4
          have P5 := calm_cell (a := ⟨_, _, none⟩) p p5
          have P6 := calm_cell (a := ⟨_, _, none⟩) p p6
          have P7 := calm_cell (a := ⟨_, _, none⟩) p p7
          have P8 := calm_cell (a := ⟨_, _, none⟩) p p8
          clear p p0 p1 p2 p3 p4 p5 p6 p7 p8
          cases q
          · have HX : Hid (false = upTo js (k + 1)) := Lib.hid (by rw [HNX.out, ← HQ.out]; rfl)
            clear CM HNX HPV HQ
            refine wp_region_calm (by kernel_rfl) (by kernel_rfl) ?_
            repeat (first | go_big_quiet_step ((go_at_call 20; exact calm_of (v := .bool true) (CM.out _))) | quiet_step ((go_at_call 20; exact calm_of (v := .bool true) (CM.out _))))
            refine wpQuiet_nil ?_
            intro w1 hw
            have hb1 := lull_below hw
            clear hw
            have HB1 := Lib.hid (below_then HB.out hb1)
            clear hb1 P0 P1 P2 P3 P4 P5 P6 P7 P8
            go_wp2_with fail
            exact ⟨⟨k + 1, false, rfl, by go_num, by omega, HX.out, HB1.out⟩, by simp [intOf] <;> omega⟩
          · cases hmx : mayJ x
            · have HX : Hid (false = upTo js (k + 1)) := Lib.hid (by rw [HNX.out, ← HQ.out, hmx]; rfl)
              rw [hmx] at CM
              clear HNX HPV HQ hmx
              refine wp_region_calm (by kernel_rfl) (by kernel_rfl) ?_
              repeat (first | go_big_quiet_step ((go_at_call 20; exact calm_of (v := .bool false) (CM.out _))) | quiet_step ((go_at_call 20; exact calm_of (v := .bool false) (CM.out _))))
              refine wpQuiet_nil ?_
              intro w1 hw
              have hb1 := lull_below hw
              clear hw
              have HB1 := Lib.hid (below_then HB.out hb1)
              clear hb1 P0 P1 P2 P3 P4 P5 P6 P7 P8
              go_wp2_with fail
              exact ⟨⟨k + 1, false, rfl, by go_num, by omega, HX.out, HB1.out⟩, by simp [intOf] <;> omega⟩
            · rw [hmx] at CM
              by_cases hk0 : k = 0
              · have HX : Hid (true = upTo js (k + 1)) := Lib.hid (by rw [HNX.out, ← HQ.out, hmx, decide_eq_true hk0]; rfl)
                have e0 : ((k : Int) == 0) = true := by rw [beq_iff_eq]; omega
                clear HNX HPV HQ hmx hk0
                refine wp_region_calm (by kernel_rfl) (by kernel_rfl) ?_
                repeat (first | go_big_quiet_step ((go_at_call 20; exact calm_of (v := .bool true) (CM.out _))) | quiet_step ((go_at_call 20; exact calm_of (v := .bool true) (CM.out _))))
                refine wpQuiet_nil ?_
                intro w1 hw
                have hb1 := lull_below hw
                clear hw
                have HB1 := Lib.hid (below_then HB.out hb1)
                clear hb1 P0 P1 P2 P3 P4 P5 P6 P7 P8
                go_wp2_with fail
                exact ⟨⟨k + 1, true, rfl, by go_num, by omega, HX.out, HB1.out⟩, by simp [intOf] <;> omega⟩
              · have HX : Hid (decide ((js[k - 1]'(by omega)).id < x.id) = upTo js (k + 1)) := Lib.hid (by rw [HNX.out, ← HQ.out, hmx, getJ_at (show k - 1 < js.length by omega), decide_eq_false hk0]; rfl)
                have e0 : ((k : Int) == 0) = false := by rw [beq_eq_false_iff_ne]; omega
                have hpv := HPV.out (k - 1) (by omega)
                have R0 := calm_cell hpv.lt hpv.c0
                have i2 : (0 : Int) < (k : Int) := by omega
                have i3 : IntKind.i64.wrap ((k : Int) - 1) = ((k - 1 : Nat) : Int) := by rw [IntKind.wrap_i64]; omega
                have i4 : (0 : Int) ≤ ((k - 1 : Nat) : Int) := Int.natCast_nonneg _
                have i5 : ((k - 1 : Nat) : Int) < (js.length : Int) := by omega
                clear HNX HPV HQ hmx hpv hk0
                generalize js[k - 1]'(by omega) = y at *
                cases hd : decide (y.id < x.id)
                all_goals
                  rw [hd] at HX
                  refine wp_region_calm (by kernel_rfl) (by kernel_rfl) ?_
                  repeat (first | go_big_quiet_step ((go_at_call 20; exact calm_of (v := .bool true) (CM.out _))) | quiet_step ((go_at_call 20; exact calm_of (v := .bool true) (CM.out _))))
                  refine wpQuiet_nil ?_
                  intro w1 hw
                  have hb1 := lull_below hw
                  clear hw
                  have HB1 := Lib.hid (below_then HB.out hb1)
                  clear hb1 P0 P1 P2 P3 P4 P5 P6 P7 P8 R0
                  go_wp2_with fail
                  exact ⟨⟨k + 1, _, rfl, by go_num, by omega, HX.out, HB1.out⟩, by simp [intOf] <;> omega⟩
        · have d2 : decide ((100 : Int) < (x.user.size : Int)) = true := decide_eq_true (by omega)
          go_wp2_with fail
          refine (HAW.out _).mono ?_
          rintro e w3 ⟨rfl, hb3⟩
          have HB3 := Lib.hid (below_then HB.out hb3)
          clear hb3
          go_wp2_with fail
          go_ret
          exact ⟨rfl, HB3.out⟩
      · have d1 : decide ((k : Int) < (js.length : Int)) = false := decide_eq_false (by omega)
        have hke : k = js.length := by omega
        have HQ2 : Hid (q = upTo js js.length) := Lib.hid (by rw [← hke]; exact HQ.out)
        have CO1 := Lib.hid (CO.out wr (HU.out.below HB.out) (by omega))
        have CI := Lib.hid (fun s W (h : JobsIs js W (.slice B js.length d)) => in11 js s _ W h (by omega))
        have hw3 := of_ways js q HQ2.out
        have q0 := inT_len js 0
        have q1 := inT_len js 1
        have q2 := inT_len js 2
        have HLV : Hid (liveN js = ((inT js 0).length : Int) + ((inT js 1).length : Int) + ((inT js 2).length : Int)) := rfl
        clear HQ HQ2 hke CO
        rcases hw3 with ⟨rfl, he⟩ | ⟨rfl, hlv, he⟩ | ⟨rfl, hlv, he⟩
        · rw [he] at CO1
          clear he CI HLV q0 q1 q2
          go_wp2_with fail
          refine CO1.out.mono ?_
          rintro e w1 ⟨t, O, rfl, hcase, hO, hb1⟩
          have ht : t = .pointer none := by
            rcases hcase with ⟨h, _⟩ | ⟨_, h⟩
            · exact absurd h (by decide)
            · exact h
          subst ht
          have HB1 := Lib.hid (below_then HB.out hb1)
          clear hb1 hO hcase CO1
          go_wp2_with fail
          refine (HAW.out _).mono ?_
          rintro e w2 ⟨rfl, hb⟩
          have HB2 := Lib.hid (below_then HB1.out hb)
          clear hb
          go_wp2_with fail
          go_ret
          exact ⟨rfl, HB2.out⟩
        · rw [he] at CO1
          have hlv2 : decide ((100 : Int) < ((inT js 0).length : Int) + ((inT js 1).length : Int) + ((inT js 2).length : Int)) = true := by rw [← HLV.out]; exact hlv
          clear he HLV hlv
          have CI0 := Lib.hid (CI.out 0)
          have CI1 := Lib.hid (CI.out 1)
          have CI2 := Lib.hid (CI.out 2)
          clear CI
          generalize inT js 0 = T0 at *
          generalize inT js 1 = T1 at *
          generalize inT js 2 = T2 at *
          go_wp2_with fail
          refine CO1.out.mono ?_
          rintro e w1 ⟨t, O, rfl, hcase, hO, hb1⟩
          have ht : t = .pointer none := by
            rcases hcase with ⟨h, _⟩ | ⟨_, h⟩
            · exact absurd h (by decide)
            · exact h
          subst ht
          have HB1 := Lib.hid (below_then HB.out hb1)
          have HU1 := Lib.hid (HU.out.below HB1.out)
          clear hb1 hO hcase CO1
          go_wp2_with fail
          refine (CI0.out w1 HU1.out).mono ?_
          rintro e w2 ⟨v2, rfl, hj, _, hb⟩
          have HB2 := Lib.hid (below_then HB1.out hb)
          have HU2 := Lib.hid (HU1.out.below hb)
          obtain ⟨A2, c2, rfl, _, _⟩ := hj.open_
          clear hj hb HU1
          go_wp2_with fail
          refine (CI1.out w2 HU2.out).mono ?_
          rintro e w3 ⟨v3, rfl, hj, _, hb⟩
          have HB3 := Lib.hid (below_then HB2.out hb)
          have HU3 := Lib.hid (HU2.out.below hb)
          obtain ⟨A3, c3, rfl, _, _⟩ := hj.open_
          clear hj hb HU2 HB2
          go_wp2_with fail
          refine (CI2.out w3 HU3.out).mono ?_
          rintro e w4 ⟨v4, rfl, hj, _, hb⟩
          have HB4 := Lib.hid (below_then HB3.out hb)
          have HU4 := Lib.hid (HU3.out.below hb)
          obtain ⟨A4, c4, rfl, _, _⟩ := hj.open_
          clear hj hb HU3 HB3 CI0 CI1 CI2
          go_wp2_with fail
          refine (HAW.out _).mono ?_
          rintro e w5 ⟨rfl, hb⟩
          have HB5 := Lib.hid (below_then HB4.out hb)
          clear hb
          go_wp2_with fail
          go_ret
          exact ⟨rfl, HB5.out⟩
        · rw [he] at CO1
          have hlv2 : decide ((100 : Int) < ((inT js 0).length : Int) + ((inT js 1).length : Int) + ((inT js 2).length : Int)) = false := by rw [← HLV.out]; exact hlv
          clear he HLV hlv
          have CI0 := Lib.hid (CI.out 0)
          have CI1 := Lib.hid (CI.out 1)
          have CI2 := Lib.hid (CI.out 2)
          clear CI
          generalize inT js 0 = T0 at *
          generalize inT js 1 = T1 at *
          generalize inT js 2 = T2 at *
          go_wp2_with fail
          refine CO1.out.mono ?_
          rintro e w1 ⟨t, O, rfl, hcase, hO, hb1⟩
          obtain ⟨htab, g, htg⟩ : Tab O js w1 t ∧ ∃ g, t = .pointer (some g) := by
            rcases hcase with ⟨_, ⟨g, hg⟩, h⟩ | ⟨h, _⟩
            · exact ⟨h, g, hg⟩
            · exact absurd rfl h
          subst htg
          have HB1 := Lib.hid (below_then HB.out hb1)
          have HU1 := Lib.hid (HU.out.below HB1.out)
          have HO : Hid (∀ i ∈ O, w.heap.size ≤ i) := Lib.hid (fun i hi => Nat.le_trans HB.out.size (hO i hi))
          have H1 : Hid (Here O w1 js (.pointer (some g)) js (.slice B js.length d) O w1) := ⟨htab, Owns.refl _ _, Spare.of_below (Below.refl _ _), JobsOff.elder HU.out HB1.out HO.out⟩
          clear htab
          clear hb1 hO hcase CO1
          go_wp2_with fail
          refine (CI0.out w1 HU1.out).mono ?_
          rintro e w2 ⟨v2, rfl, hj, _, hb⟩
          have HB2 := Lib.hid (below_then HB1.out hb)
          have HU2 := Lib.hid (HU1.out.below hb)
          have H2 := Lib.hid (H1.out.below hb)
          clear H1
          obtain ⟨A2, c2, rfl, _, _⟩ := hj.open_
          clear hj hb HU1
          go_wp2_with fail
          refine (CI1.out w2 HU2.out).mono ?_
          rintro e w3 ⟨v3, rfl, hj, _, hb⟩
          have HB3 := Lib.hid (below_then HB2.out hb)
          have HU3 := Lib.hid (HU2.out.below hb)
          have H3 := Lib.hid (H2.out.below hb)
          clear H2
          obtain ⟨A3, c3, rfl, _, _⟩ := hj.open_
          clear hj hb HU2 HB2
          go_wp2_with fail
          refine (CI2.out w3 HU3.out).mono ?_
          rintro e w4 ⟨v4, rfl, hj, _, hb⟩
          have HB4 := Lib.hid (below_then HB3.out hb)
          have HU4 := Lib.hid (HU3.out.below hb)
          have H4 := Lib.hid (H3.out.below hb)
          clear H3
          obtain ⟨A4, c4, rfl, _, _⟩ := hj.open_
          clear hj hb HU3 HB3 CI0 CI1 CI2
          have CK := Lib.hid (like11 (w := w4) H4.out.tab H4.out.off (by omega) 1 1)
          clear HU4
          go_wp2_with fail
          refine CK.out.mono ?_
          rintro e w5 ⟨O5, rfl, h5⟩
          have H5 := Lib.hid (H4.out.then_ h5)
          clear h5 CK H4 hlv2
          have HOW := Lib.hid (OwnR.new w5 28 9)
          have H5a := Lib.hid (H5.out.below (below_box w5 (.cells #[] 28)))
          have HSR := Lib.hid (H5a.out.off.1.src)
          have HLT5 := Lib.hid (H5.out.tab.lt)
          go_wp2_with (at_builtin; refine push_src jobs_t rfl (.tmp 111) (.tmp 112) rfl w5.heap.size _ _ _ rfl HOW.out _ js.length (jvals js) rfl ?hl1 HSR.out ?hl2 ?hl3 ?_)
          case hl1 => exact jvals_len js
          case hl2 => exact jvals_cell js
          case hl3 => omega
          intro y6 w6 ho6 hb6
          have hbx := (below_box w5 (.cells #[] 28)).trans hb6
          have hown := ho6.cast (m := js.length) (ys := jvals js) (by simp) (by simp)
          have H6 : Hid (Here O w1 js (.pointer (some g)) js y6 O5 w6) := ⟨(H5.out.below hbx).tab, (H5.out.below hbx).owns, (H5.out.below hbx).spare, JobsOff.fresh (jobs_own hown rfl) (FreshJ.own hown (Nat.le_refl _)) HLT5.out⟩
          clear ho6 hb6 hbx hown H5 H5a HSR HLT5 HOW HU
          go_wp2_with fail
          go_loopw [9, 10] (fun y i wr => ∃ (k : Nat) (z : Value), z = y ∧ i = .int .i64 k ∧ k ≤ l.length ∧ Hid (∃ L O2, Here O w1 L (.pointer (some g)) L z O2 wr ∧ L.length ≤ 110 + k)) (fun _ i _ => l.length - (intOf i).toNat)
          case atStart => exact ⟨0, _, rfl, rfl, Nat.zero_le _, js, O5, H6.out, by omega⟩
          case round =>
            clear H6 i0 hk hlt d1
            obtain ⟨k2, u2, huv, rfl, hk2, HR⟩ := hrel
            subst huv
            obtain ⟨L, O2, hh, hLk⟩ := HR.out
            have HH := Lib.hid hh
            have HBr := Lib.hid (Spare.below HB1.out hh.spare HO.out HB1.out.size)
            clear hh HR
            by_cases hlt : k2 < l.length
            · obtain ⟨ad, rfl, ⟨p, p0, p1, p2, p3, p4, p5, p6, p7, p8, p9, p10, p11, p12⟩⟩ := HA.out wr HBr.out k2 hlt
              have HXA : Hid (∀ W, Below w.heap.size w W → AcAt W (ad.add (k2 * 13)) (nthA l k2)) := fun W hb => by
                obtain ⟨a2, ea, h⟩ := HA.out W hb k2 hlt
                injection ea with ea
                subst ea
                exact h
              have HFIT : Hid (AcFit (nthA l k2)) := HF.out _ (by rw [nthA_at hlt]; exact List.getElem_mem hlt)
              have i0 : (0 : Int) ≤ (k2 : Int) := Int.natCast_nonneg _
              have i1 : (k2 : Int) < (l.length : Int) := by omega
              have HM := Lib.hid HH.out.tab.is.may
              generalize nthA l k2 = x at *
              by_cases hw0 : x.what = 0
              · have d3 : (x.what == 0) = true := by simp [hw0]
                have CA := Lib.hid (addS HH.out.tab (by omega) x.j HFIT.out.j)
                unfold Acts jobV jobA at CA
                go_wp2_with fail
                refine CA.out.mono ?_
                rintro e w3 ⟨O3, rfl, ht, ho, hs⟩
                have H3 := Lib.hid (HH.out.acts ht ho hs)
                have HB3 := Lib.hid (Spare.below HBr.out hs (HH.out.owns.above HO.out HB1.out.size) HBr.out.size)
                have CR := Lib.hid (add11 L x.j u2 w3 H3.out.off.1 HFIT.out.j (by omega))
                unfold jobV jobA at CR
                clear ht ho hs CA HH p p0 p1 p2 p3 p4 p5 p6 p7 p8 p9 p10 p11 p12
                obtain ⟨p, p0, p1, p2, p3, p4, p5, p6, p7, p8, p9, p10, p11, p12⟩ := HXA.out w3 HB3.out
                go_wp2_with fail
                refine CR.out.mono ?_
                rintro e w4 hls
                obtain ⟨u4, rfl, h4, hb4⟩ := H3.out.list hls
                have H4 := Lib.hid h4
                have HB4 := Lib.hid (below_then HB3.out hb4)
                have hlen := addR_len L x.j
                have CK := Lib.hid (like11 (w := w4) H4.out.tab H4.out.off (by omega) x.j.id 2)
                have eE : (addE L x.j != addE L x.j) = false := by simp
                have HLEN : Hid ((addR L x.j).length ≤ 110 + (k2 + 1)) := by show _ ≤ _; omega
                clear hls h4 hb4 CR H3 HB3 hlen p p0 p1 p2 p3 p4 p5 p6 p7 p8 p9 p10 p11 p12
                obtain ⟨p, p0, p1, p2, p3, p4, p5, p6, p7, p8, p9, p10, p11, p12⟩ := HXA.out w4 HB4.out
                generalize addR L x.j = R at *
                generalize addE L x.j = E at *
                go_wp2_with fail
                refine CK.out.mono ?_
                rintro e w5 ⟨O5, rfl, h5⟩
                have H5 := Lib.hid (H4.out.then_ h5)
                clear h5
                go_wp2_with fail
                exact ⟨⟨k2 + 1, _, rfl, by go_num, by omega, R, O5, H5.out, HLEN.out⟩, by simp [intOf] <;> omega⟩
              · have d3 : (x.what == 0) = false := by simp [hw0]
                have CA := Lib.hid (turnS (HH.out.below ((Below.refl _ _).drew)).tab (by omega) x.j.id x.a x.b HFIT.out.b)
                have HH3 := Lib.hid (HH.out.below ((Below.refl _ _).drew))
                have HB3 := Lib.hid (below_then HBr.out ((Below.refl _ _).drew))
                unfold Acts at CA
                go_upto_region 25 with fail
                go_still_tail 19, (by kernel_rfl)
                change wpList _ _ _ _ _ wr.drew
                generalize wr.drew = w3 at *
                clear p p0 p1 p2 p3 p4 p5 p6 p7 p8 p9 p10 p11 p12 HH
                go_wp2_with fail
                refine CA.out.mono ?_
                rintro e w4 ⟨O3, rfl, ht, ho, hs⟩
                have H4 := Lib.hid (HH3.out.acts ht ho hs)
                have HB4 := Lib.hid (Spare.below HB3.out hs (HH3.out.owns.above HO.out HB1.out.size) HB3.out.size)
                have HH5 := Lib.hid (H4.out.below ((Below.refl _ _).drew))
                have HB5 := Lib.hid (below_then HB4.out ((Below.refl _ _).drew))
                have CR := Lib.hid (turn11 L x.j.id x.a x.b u2 w4.drew (H4.out.below ((Below.refl _ _).drew)).off.1 (jobs_fit HM.out) (by omega) HFIT.out.b)
                clear ht ho hs CA HH3 HB3
                obtain ⟨p, p0, p1, p2, p3, p4, p5, p6, p7, p8, p9, p10, p11, p12⟩ := HXA.out w4 HB4.out
                go_upto_region 26 with fail
                have HP5 := Lib.hid (show (ad.add (k2 * 13)).block < w4.drew.heap.size from p)
                go_region_held3 (fun w' => w'.cell? ⟨(ad.add (k2 * 13)).block, (ad.add (k2 * 13)).off + 1, none⟩ = some (.int .i64 x.j.id) ∧ w'.cell? ⟨(ad.add (k2 * 13)).block, (ad.add (k2 * 13)).off + 10, none⟩ = some (.int .i64 x.a) ∧ w'.cell? ⟨(ad.add (k2 * 13)).block, (ad.add (k2 * 13)).off + 11, none⟩ = some (.int .i64 x.b))
                  (first | go_keep | (go_split_ands; exact ⟨(hb6.cell (p := ⟨(ad.add (k2 * 13)).block, (ad.add (k2 * 13)).off + 1, none⟩) HP5.out).trans (by assumption), (hb6.cell (p := ⟨(ad.add (k2 * 13)).block, (ad.add (k2 * 13)).off + 10, none⟩) HP5.out).trans (by assumption), (hb6.cell (p := ⟨(ad.add (k2 * 13)).block, (ad.add (k2 * 13)).off + 11, none⟩) HP5.out).trans (by assumption)⟩))
                  (first | (go_at_call_of 11 u2; refine CR.out.mono ?_; rintro e w6 hls; obtain ⟨u4, rfl, h6, hb6⟩ := HH5.out.list hls))
                have H6 := Lib.hid h6
                have HB6 := Lib.hid (below_then HB5.out hb6)
                have hlen : (turnR L x.j.id x.a x.b).length = L.length := turnR_len _ _ _ _
                have CK := Lib.hid (like11 (w := w6) H6.out.tab H6.out.off (by omega) x.j.id 2)
                have eE : (turnE L x.j.id x.a x.b != turnE L x.j.id x.a x.b) = false := by simp
                have HLEN : Hid ((turnR L x.j.id x.a x.b).length ≤ 110 + (k2 + 1)) := by show _ ≤ _; omega
                clear CR HH5 HB5 hlen
                obtain ⟨p, p0, p1, p2, p3, p4, p5, p6, p7, p8, p9, p10, p11, p12⟩ := HXA.out w6 HB6.out
                generalize turnR L x.j.id x.a x.b = R at *
                generalize turnE L x.j.id x.a x.b = E at *
                go_wp2_with fail
                refine CK.out.mono ?_
                rintro e w7 ⟨O5, rfl, h7⟩
                have H7 := Lib.hid (H6.out.then_ h7)
                clear h7
                go_wp2_with fail
                exact ⟨⟨k2 + 1, _, rfl, by go_num, by omega, R, O5, H7.out, HLEN.out⟩, by simp [intOf] <;> omega⟩
            · have d4 : decide ((k2 : Int) < (l.length : Int)) = false := decide_eq_false (by omega)
              go_wp2_with fail
              refine (HAW.out _).mono ?_
              rintro e w7 ⟨rfl, hb7⟩
              have HB7 := Lib.hid (below_then HBr.out hb7)
              clear hb7
              go_wp2_with fail
              go_ret
              exact ⟨rfl, HB7.out⟩
end Go.Proofs.Ytjegkddpaampmaa.TabWalk
