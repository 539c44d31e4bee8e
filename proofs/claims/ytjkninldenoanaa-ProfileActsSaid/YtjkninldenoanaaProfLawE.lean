/-
  The walks of the statements of layer 5: ProfileActs.
-/
import Derived.Test.YtjkninldenoanaaProfLawD
namespace Go.Proofs.Ytjkninldenoanaa.ProfWalk
open Go.RowKit Go.Proofs.Ytjkninldenoanaa.SpanPlain Go.Proofs.Ytjkninldenoanaa.StepPlain Go.Proofs.Ytjkninldenoanaa.ProfPlain Go.Proofs.Ytjkninldenoanaa.Mem Go.Proofs.Ytjkninldenoanaa.SpanMem Go.Proofs.Ytjkninldenoanaa.StepMem Go.Proofs.Ytjkninldenoanaa.SpanRef Go.Proofs.Ytjkninldenoanaa.StepRef Go.Proofs.Ytjkninldenoanaa.ProfRef

theorem new_ways (p t : Int) : (decide (p < 1) = true ∧ newB p t = false) ∨ (decide (p < 1) = false ∧ decide (256 < p) = true ∧ newB p t = false) ∨ (decide (p < 1) = false ∧ decide (256 < p) = false ∧ decide (t < 0) = true ∧ newB p t = false) ∨
    (decide (p < 1) = false ∧ decide (256 < p) = false ∧ decide (t < 0) = false ∧ decide (1125899906842624 < t) = true ∧ newB p t = false) ∨
    (decide (p < 1) = false ∧ decide (256 < p) = false ∧ decide (t < 0) = false ∧ decide (1125899906842624 < t) = false ∧ newB p t = true) := by
  unfold newB
  by_cases h1 : p < 1
  · exact .inl ⟨decide_eq_true h1, by simp; omega⟩
  by_cases h2 : 256 < p
  · exact .inr (.inl ⟨decide_eq_false h1, decide_eq_true h2, by simp; omega⟩)
  by_cases h3 : t < 0
  · exact .inr (.inr (.inl ⟨decide_eq_false h1, decide_eq_false h2, decide_eq_true h3, by simp; omega⟩))
  by_cases h4 : 1125899906842624 < t
  · exact .inr (.inr (.inr (.inl ⟨decide_eq_false h1, decide_eq_false h2, decide_eq_false h3, decide_eq_true h4, by simp; omega⟩)))
  · exact .inr (.inr (.inr (.inr ⟨decide_eq_false h1, decide_eq_false h2, decide_eq_false h3, decide_eq_false h4, by simp; omega⟩)))
theorem give_len {x y : Prof} {b : By} {c : Int} (h : GiveIs x b y c) : y.l.length ≤ x.l.length + 1 := by
  rcases h with ⟨_, rfl, _⟩ | ⟨_, _, rfl, _⟩ | ⟨_, _, rfl, _⟩
  · omega
  · omega
  · simp
theorem take_len2 {x y : Prof} {b : By} {c : Int} (h : TakeIs x b y c) : y.l.length ≤ x.l.length + 1 := by
  rcases h with ⟨_, rfl, _⟩ | ⟨_, _, rfl, _⟩ | ⟨_, _, rfl, _⟩
  · omega
  · omega
  · simp
theorem moved_ways {x y : Prof} {t c : Int} (h : MoveIs x t y c) : (decide (t < x.t) = true ∧ y = x ∧ c = 1) ∨ (decide (t < x.t) = false ∧ decide (1125899906842624 < t) = true ∧ y = x ∧ c = 1) ∨
    (decide (t < x.t) = false ∧ decide (1125899906842624 < t) = false ∧ y = ⟨x.p, t, x.l⟩ ∧ c = 0) := by
  rcases h with ⟨h, rfl, rfl⟩ | ⟨h, rfl, rfl⟩
  · by_cases h1 : t < y.t
    · exact .inl ⟨decide_eq_true h1, rfl, rfl⟩
    · exact .inr (.inl ⟨decide_eq_false h1, decide_eq_true (by omega), rfl, rfl⟩)
  · exact .inr (.inr ⟨decide_eq_false (by omega), decide_eq_false (by omega), rfl, rfl⟩)

theorem gb_alloc {G : List Nat} {w : World} {o : Obj} (h : ∀ i ∈ G, i < w.heap.size) : ∀ i ∈ w.heap.size :: G, i < (w.alloc o).drew.heap.size := fun i hi => by
  show i < (w.heap.push o).size
  rw [Array.size_push]
  rcases List.mem_cons.1 hi with rfl | hi
  · omega
  · have := h i hi; omega
theorem busy_alloc {G : List Nat} {l : List By} {w : World} {v : Value} {o : Obj} (h : BusyAt G l w v) : BusyAt (w.heap.size :: G) l (w.alloc o).drew v :=
  (h.more (Nat.le_refl _)).still (S := []) (Still.of_below (below_alloc w o).drew) (fun _ h => by cases h)
/-- The memory where the rounds begin. -/
theorem sol_start {g : Nat} {W0 w1 : World} {p0 p1 : Int} (hg : W0.heap.size ≤ g) (hI : Is [g] ⟨p0, p1, []⟩ w1 g) (hb : Below W0.heap.size W0 w1) (T : TypeId) :
    Sol [w1.heap.size, g] ⟨p0, p1, []⟩ (.slice none 0 0) w1.heap.size g W0 (w1.alloc (.cells #[.int .i64 p0, .int .i64 p1, .slice none 0 0] T)) := by
  have hgl := hI.lt
  have hal := below_alloc w1 (.cells #[.int .i64 p0, .int .i64 p1, .slice none 0 0] T)
  refine ⟨(hI.more (Nat.le_refl _)).below hal, fun i hi => ?_, fun i hi => ?_, by simp, by omega, Trio.new w1 _ _ _ T, BusyAt.nil, hb.trans (hal.mono hb.size)⟩
  · simp at hi
    rcases hi with rfl | rfl
    · simp
    · simp; omega
  · simp at hi
    rcases hi with rfl | rfl
    · exact hb.size
    · exact hg
set_option maxRecDepth 100000 in
set_option maxHeartbeats 12800000 in
theorem acts_any (p0 p1 p2 : Int) (l : List Ac) (s : Sp) (A : Option Addr) (cap : Nat) (w : World) (hA : Fives w A l) :
    Calls Try.prog 3 #[.agg #[.int .i64 p0, .int .i64 p1, .int .i64 p2], .slice A l.length cap, spV s] w (TrueIs w) := by
  have HA := Lib.hid hA
  clear hA
  have HAW := Lib.hid (fun w => awake5 w)
  have HX0 := Lib.hid ((Trio.new w (.int .i64 p0) (.int .i64 p1) (.int .i64 p2) 22).alloc (.cells #[.int .i64 s.1, .int .i64 s.2] 25))
  have hbx := Box2.new (w.alloc (.cells #[.int .i64 p0, .int .i64 p1, .int .i64 p2] 22)) (.int .i64 s.1) (.int .i64 s.2) 25
  have hsz : (w.alloc (.cells #[.int .i64 p0, .int .i64 p1, .int .i64 p2] 22)).heap.size = w.heap.size + 1 := by simp
  rw [hsz] at hbx
  have HS0 := Lib.hid hbx
  have HB0 := Lib.hid ((below_alloc w (.cells #[.int .i64 p0, .int .i64 p1, .int .i64 p2] 22)).alloc (by simp) (.cells #[.int .i64 s.1, .int .i64 s.2] 25))
  clear hbx hsz
  unfold spV
  go_enter Try.func3, Try.ntmps3
  go_upto_region 1 with fail
  generalize (w.alloc (.cells #[.int .i64 p0, .int .i64 p1, .int .i64 p2] 22)).alloc (.cells #[.int .i64 s.1, .int .i64 s.2] 25) = W0 at *
  by_cases h1 : l.length ≤ 40
  · have d1 : decide ((40 : Int) < (l.length : Int)) = false := by rw [decide_eq_false_iff_not]; omega
    have CN := Lib.hid (newS [] p0 p1 W0 (fun i hi => by cases hi))
    have hways := new_ways p0 p1
    obtain ⟨x0, x1, x2, x3, x4, x5, x6⟩ := HX0.out
    go_wp2_with fail
    refine CN.out.mono ?_
    rintro e w1 ⟨hn, hb1⟩
    have HB1 := Lib.hid hb1
    have HX1 := Lib.hid (HX0.out.below hb1)
    clear x0 x1 x2 x3 x4 x5 x6 CN
    obtain ⟨x0, x1, x2, x3, x4, x5, x6⟩ := HX1.out
    rcases hn with ⟨hn, rfl⟩ | ⟨hn, g, hg, rfl, hI⟩
    · rw [hn] at hways
      clear hb1
      rcases hways with ⟨a1, _⟩ | ⟨a1, a2, _⟩ | ⟨a1, a2, a3, _⟩ | ⟨a1, a2, a3, a4, _⟩ | ⟨_, _, _, _, h⟩
      rotate_left 4
      · cases h
      all_goals
        go_wp2_with fail
        refine (HAW.out _).mono ?_
        rintro e wz ⟨rfl, hbz⟩
        have HBZ := Lib.hid (HB0.out.trans ((HB1.out.trans (hbz.mono HB1.out.size)).mono HB0.out.size))
        clear hbz
        go_wp2_with fail
        go_ret
        exact ⟨rfl, HBZ.out⟩
    · rw [hn] at hways
      rcases hways with ⟨_, h⟩ | ⟨_, _, h⟩ | ⟨_, _, _, h⟩ | ⟨_, _, _, _, h⟩ | ⟨a1, a2, a3, a4, _⟩
      · cases h
      · cases h
      · cases h
      · cases h
      have HSOL := Lib.hid (sol_start hg hI HB1.out 33)
      clear hI hn hb1
      unfold ptr
      go_upto_region 9 with fail
      generalize w1.heap.size = n9 at *
      generalize w1.alloc (.cells #[.int .i64 p0, .int .i64 p1, .slice none 0 0] 33) = w2 at *
      clear x0 x1 x2 x3 x4 x5 x6 a1 a2 a3 a4
      go_wp2_with fail
      go_loopw [10] (fun i wr => ∃ (k : Nat) (X : Prof) (u : Value) (G : List Nat), i = .int .i64 k ∧ k ≤ l.length ∧ Hid (X.l.length ≤ k) ∧ Hid (Sol G X u n9 g W0 wr)) (fun i _ => l.length - (intOf i).toNat)
      case atStart => exact ⟨0, _, _, _, rfl, Nat.zero_le _, (show Hid (([] : List By).length ≤ 0) from Nat.le_refl 0), HSOL.out⟩
      case round =>
        obtain ⟨k, X, u, G, rfl, hk, HLEN, HS⟩ := hrel
        obtain ⟨Au, cu, hu, _⟩ := HS.out.busy.1.open_
        subst hu
        by_cases hlt : k < l.length
        · obtain ⟨ad, rfl, hac⟩ := HA.out.cells hlt
          have HAC := Lib.hid hac
          clear hac
          have i0 : (k : Int) < (l.length : Int) := by omega
          have i1 : (0 : Int) ≤ (k : Int) := Int.natCast_nonneg _
          generalize acCell l k = ac at *
          obtain ⟨d, b, t⟩ := ac
          have hX : X.l.length ≤ 40 := by have := HLEN.out; omega
          have CC := Lib.hid (copyS HS.out.isX HS.out.gb (by omega))
          unfold ptr at CC
          go_wp2_with fail
          refine CC.out.mono ?_
          rintro e w3 ⟨h, hh, rfl, hI, hb3⟩
          have HBUN := Lib.hid (HS.out.copy hh hI hb3 33)
          obtain ⟨y0, y1, y2, y3, y4, y5, y6⟩ := (HS.out.next hb3).box
          clear CC hI hb3 hh
          unfold ptr
          go_upto_region 14 with fail
          generalize w3.heap.size = m at *
          generalize w3.alloc (.cells #[.int .i64 X.p, .int .i64 X.t, .slice Au X.l.length cu] 33) = w4 at *
          clear y0 y1 y2 y3 y4 y5 y6 HS
          obtain ⟨y0, y1, y2, y3, y4, y5, y6⟩ := HBUN.out.box
          obtain ⟨c0, c1, c2, c3, c4⟩ := HAC.out w4 (HB0.out.trans (HBUN.out.below.mono HB0.out.size))
          try dsimp only at c0 c1 c2 c3 c4
          have hd : d = 0 ∨ d = 1 ∨ ((d == 0) = false ∧ (d == 1) = false) := by
            by_cases h0 : d = 0
            · exact .inl h0
            · by_cases h1 : d = 1
              · exact .inr (.inl h1)
              · exact .inr (.inr ⟨by simpa using h0, by simpa using h1⟩)
          rcases hd with rfl | rfl | ⟨d2, d3⟩
          · have CTn := Lib.hid (fun (W : World) (hb : Below w4.heap.size w4 W) => turn5 X b false (.slice Au X.l.length cu) W (HBUN.out.busy.1.below hb) (Prof.Fair.ok HBUN.out.isX.fair (by omega)) (by omega))
            unfold profV byV at CTn
            have HK : Hid (∀ w', Below w4.heap.size w4 w' → w'.cell? ⟨n9, 0, none⟩ = some (.int .i64 X.p) ∧ w'.cell? ⟨n9, 1, none⟩ = some (.int .i64 X.t) ∧ w'.cell? ⟨n9, 2, none⟩ = some (.slice Au X.l.length cu) ∧ w'.cell? (ad.add (k * 5)) = some (.int .i64 0) ∧ w'.cell? ⟨(ad.add (k * 5)).block, (ad.add (k * 5)).off + 1, none⟩ = some (.int .i64 b.1) ∧ w'.cell? ⟨(ad.add (k * 5)).block, (ad.add (k * 5)).off + 2, none⟩ = some (.int .i64 b.2.1) ∧ w'.cell? ⟨(ad.add (k * 5)).block, (ad.add (k * 5)).off + 3, none⟩ = some (.int .i64 b.2.2)) := fun w' hb => by
              obtain ⟨q0, q1, q2, q3, q4⟩ := HAC.out w' (HB0.out.trans ((HBUN.out.below.trans (hb.mono HBUN.out.below.size)).mono HB0.out.size))
              exact ⟨(hb.cell (p := ⟨n9, 0, none⟩) y0).trans y1, (hb.cell (p := ⟨n9, 1, none⟩) y0).trans y2, (hb.cell (p := ⟨n9, 2, none⟩) y0).trans y3, q0, q1, q2, q3⟩
            have HZB := Lib.hid (Trio.new w4 (.int .i64 0) (.int .i64 0) (.slice none 0 0) 33)
            go_upto_region 23 with fail
            go_cut [13, 14] (fun pn pc wc => ∃ Y c B5 k5 n13, pn = .pointer (some ⟨n13, 0, none⟩) ∧ pc = .int .i64 c ∧ Hid (TakeIs X b Y c) ∧ Hid (Trio wc n13 (.int .i64 Y.p) (.int .i64 Y.t) (.slice B5 Y.l.length k5)) ∧ Hid (BusyAt (h :: G) Y.l wc (.slice B5 Y.l.length k5)) ∧ Hid (Below w4.heap.size w4 wc))
            case first =>
              go_region_held3 (fun w' => w'.cell? ⟨n9, 0, none⟩ = some (.int .i64 X.p) ∧ w'.cell? ⟨n9, 1, none⟩ = some (.int .i64 X.t) ∧ w'.cell? ⟨n9, 2, none⟩ = some (.slice Au X.l.length cu) ∧ w'.cell? (ad.add (k * 5)) = some (.int .i64 0) ∧ w'.cell? ⟨(ad.add (k * 5)).block, (ad.add (k * 5)).off + 1, none⟩ = some (.int .i64 b.1) ∧ w'.cell? ⟨(ad.add (k * 5)).block, (ad.add (k * 5)).off + 2, none⟩ = some (.int .i64 b.2.1) ∧ w'.cell? ⟨(ad.add (k * 5)).block, (ad.add (k * 5)).off + 3, none⟩ = some (.int .i64 b.2.2))
                (first | exact HK.out _ (Below.refl _ _).drew | exact HK.out _ (below_alloc _ _).drew | exact HK.out _ (below_alloc _ _) | exact HK.out _ hb5 | exact HK.out _ (hb5.alloc hb5.size _) | exact HK.out _ (((hb5.setCell (p := ⟨w4.heap.size, 0, none⟩) (Nat.le_refl _) (.int .i64 Y.p)).setCell (p := ⟨w4.heap.size, 1, none⟩) (Nat.le_refl _) (.int .i64 Y.t)).setCell (p := ⟨w4.heap.size, 2, none⟩) (Nat.le_refl _) (.slice Au5 Y.l.length cu5)) | go_keep)
                (first
                  | (go_at_call 8; (refine (CTn.out _ (Below.refl _ _).drew).mono ?_; rintro e w5 ⟨Y, c, u5, rfl, hT, hz5, hf5, hbd5⟩; obtain ⟨Au5, cu5, rfl, _⟩ := hz5.open_; have hb5 := below_of_drew hbd5; dsimp only [profV]; have hbz5 := turned_busy hz5 hf5 HBUN.out.gb HBUN.out.busy))
                  | (go_at_call 8; (refine (CTn.out _ (below_alloc w4 (.cells #[.int .i64 0, .int .i64 0, .slice none 0 0] 33)).drew).mono ?_; rintro e w5 ⟨Y, c, u5, rfl, hT, hz5, hf5, hbd5⟩; obtain ⟨Au5, cu5, rfl, _⟩ := hz5.open_; have hb5 := (below_alloc w4 (.cells #[.int .i64 0, .int .i64 0, .slice none 0 0] 33)).drew.trans (hbd5.mono (by simp)); dsimp only [profV]; have hbz5 := turned_busy (G := w4.heap.size :: h :: G) hz5 hf5 (gb_alloc HBUN.out.gb) (busy_alloc HBUN.out.busy); obtain ⟨r0, r1, r2, r3, r4, r5, r6⟩ := HZB.out.below (below_of_drew hbd5))))
              all_goals
                go_wp2_with fail
                go_meet
                first
                  | exact ⟨Y, c, Au5, cu5, _, rfl, rfl, hT, Trio.new _ _ _ _ _, hbz5.still (S := []) (Still.of_below (below_alloc _ _)) (fun _ h => by cases h), hb5.alloc hb5.size _⟩
                  | exact ⟨Y, c, Au5, cu5, _, rfl, rfl, hT, (((HZB.out.below (below_of_drew hbd5)).set0 _).set1 _).set2 _, busy_set3 hbz5 _ _ _, ((hb5.setCell (p := ⟨w4.heap.size, 0, none⟩) (Nat.le_refl _) (.int .i64 Y.p)).setCell (p := ⟨w4.heap.size, 1, none⟩) (Nat.le_refl _) (.int .i64 Y.t)).setCell (p := ⟨w4.heap.size, 2, none⟩) (Nat.le_refl _) (.slice Au5 Y.l.length cu5)⟩
            case rest =>
              obtain ⟨Y, c, B5, k5, n13, rfl, rfl, hT, hz, hzb, hb5⟩ := hcut
              have HB5 := Lib.hid (HBUN.out.next hb5.out)
              have HB6 := Lib.hid (HB5.out.put hzb.out)
              have hYl := take_len2 hT.out
              clear y0 y1 y2 y3 y4 y5 y6 c0 c1 c2 c3 c4 CTn HK HZB HBUN hzb hb5
              obtain ⟨y0, y1, y2, y3, y4, y5, y6⟩ := HB5.out.box
              obtain ⟨z0, z1, z2, z3, z4, z5, z6⟩ := hz.out
              go_upto_region 26 with fail
              generalize ((wc.setCell ⟨n9, 0, none⟩ (.int .i64 Y.p)).setCell ⟨n9, 1, none⟩ (.int .i64 Y.t)).setCell ⟨n9, 2, none⟩ (.slice B5 Y.l.length k5) = w6 at *
              clear y0 y1 y2 y3 y4 y5 y6 z0 z1 z2 z3 z4 z5 z6 hz HB5
              obtain ⟨c0, c1, c2, c3, c4⟩ := HAC.out w6 (HB0.out.trans (HB6.out.below.mono HB0.out.size))
              have CTk := Lib.hid (takeS HB6.out.isX HB6.out.gb (by omega) b)
              unfold ptr byV at CTk
              go_wp2_with fail
              refine CTk.out.mono ?_
              rintro e w7 ⟨Y7, q7, rfl, hT7, hi7, hr7⟩
              obtain ⟨rfl, rfl⟩ := hT7.unique hT.out
              have HB7 := Lib.hid (HB6.out.turn hi7 hr7)
              have hcc : (q7 != q7) = false := by simp
              clear hT7 hi7 hr7 HB6 CTk c0 c1 c2 c3 c4
              obtain ⟨x0, x1, x2, x3, x4, x5, x6⟩ := HX0.out.below HB7.out.below
              obtain ⟨s0, s1, s2, s3, s4⟩ := HS0.out.below HB7.out.below
              obtain ⟨y0, y1, y2, y3, y4, y5, y6⟩ := HB7.out.box
              have L91 := Lib.hid (like_is HB7.out.isX HB7.out.gb _ HB7.out.busy.1 (by first | omega | (dsimp only; omega)) p2 s)
              unfold ptr profV spV at L91
              go_wp2_with fail
              refine L91.out.mono ?_
              rintro e v91 ⟨rfl, hb91⟩
              have HL91 := Lib.hid (HB7.out.next hb91)
              clear hb91 HB7 L91 x0 x1 x2 x3 x4 x5 x6 s0 s1 s2 s3 s4 y0 y1 y2 y3 y4 y5 y6
              obtain ⟨x0, x1, x2, x3, x4, x5, x6⟩ := HX0.out.below HL91.out.below
              obtain ⟨s0, s1, s2, s3, s4⟩ := HS0.out.below HL91.out.below
              obtain ⟨y0, y1, y2, y3, y4, y5, y6⟩ := HL91.out.old
              have L92 := Lib.hid (like_is HL91.out.isC HL91.out.gb _ HL91.out.obusy.1 (by first | omega | (dsimp only; omega)) p2 s)
              unfold ptr profV spV at L92
              go_wp2_with fail
              refine L92.out.mono ?_
              rintro e v92 ⟨rfl, hb92⟩
              have HL92 := Lib.hid (HL91.out.next hb92)
              clear hb92 HL91 L92 x0 x1 x2 x3 x4 x5 x6 s0 s1 s2 s3 s4 y0 y1 y2 y3 y4 y5 y6
              go_wp2_with fail
              exact ⟨⟨k + 1, Y7, _, _, by go_num, by omega, (by have h9 := HLEN.out; show List.length _ ≤ k + 1; first | omega | (dsimp only; omega)), HL92.out.sol⟩, by simp [intOf] <;> omega⟩
          · have CTn := Lib.hid (fun (W : World) (hb : Below w4.heap.size w4 W) => turn5 X b true (.slice Au X.l.length cu) W (HBUN.out.busy.1.below hb) (Prof.Fair.ok HBUN.out.isX.fair (by omega)) (by omega))
            unfold profV byV at CTn
            have HK : Hid (∀ w', Below w4.heap.size w4 w' → w'.cell? ⟨n9, 0, none⟩ = some (.int .i64 X.p) ∧ w'.cell? ⟨n9, 1, none⟩ = some (.int .i64 X.t) ∧ w'.cell? ⟨n9, 2, none⟩ = some (.slice Au X.l.length cu) ∧ w'.cell? (ad.add (k * 5)) = some (.int .i64 1) ∧ w'.cell? ⟨(ad.add (k * 5)).block, (ad.add (k * 5)).off + 1, none⟩ = some (.int .i64 b.1) ∧ w'.cell? ⟨(ad.add (k * 5)).block, (ad.add (k * 5)).off + 2, none⟩ = some (.int .i64 b.2.1) ∧ w'.cell? ⟨(ad.add (k * 5)).block, (ad.add (k * 5)).off + 3, none⟩ = some (.int .i64 b.2.2)) := fun w' hb => by
              obtain ⟨q0, q1, q2, q3, q4⟩ := HAC.out w' (HB0.out.trans ((HBUN.out.below.trans (hb.mono HBUN.out.below.size)).mono HB0.out.size))
              exact ⟨(hb.cell (p := ⟨n9, 0, none⟩) y0).trans y1, (hb.cell (p := ⟨n9, 1, none⟩) y0).trans y2, (hb.cell (p := ⟨n9, 2, none⟩) y0).trans y3, q0, q1, q2, q3⟩
            have HZB := Lib.hid (Trio.new w4 (.int .i64 0) (.int .i64 0) (.slice none 0 0) 33)
            go_upto_region 23 with fail
            go_cut [13, 14] (fun pn pc wc => ∃ Y c B5 k5 n13, pn = .pointer (some ⟨n13, 0, none⟩) ∧ pc = .int .i64 c ∧ Hid (GiveIs X b Y c) ∧ Hid (Trio wc n13 (.int .i64 Y.p) (.int .i64 Y.t) (.slice B5 Y.l.length k5)) ∧ Hid (BusyAt (h :: G) Y.l wc (.slice B5 Y.l.length k5)) ∧ Hid (Below w4.heap.size w4 wc))
            case first =>
              go_region_held3 (fun w' => w'.cell? ⟨n9, 0, none⟩ = some (.int .i64 X.p) ∧ w'.cell? ⟨n9, 1, none⟩ = some (.int .i64 X.t) ∧ w'.cell? ⟨n9, 2, none⟩ = some (.slice Au X.l.length cu) ∧ w'.cell? (ad.add (k * 5)) = some (.int .i64 1) ∧ w'.cell? ⟨(ad.add (k * 5)).block, (ad.add (k * 5)).off + 1, none⟩ = some (.int .i64 b.1) ∧ w'.cell? ⟨(ad.add (k * 5)).block, (ad.add (k * 5)).off + 2, none⟩ = some (.int .i64 b.2.1) ∧ w'.cell? ⟨(ad.add (k * 5)).block, (ad.add (k * 5)).off + 3, none⟩ = some (.int .i64 b.2.2))
                (first | exact HK.out _ (Below.refl _ _).drew | exact HK.out _ (below_alloc _ _).drew | exact HK.out _ (below_alloc _ _) | exact HK.out _ hb5 | exact HK.out _ (hb5.alloc hb5.size _) | exact HK.out _ (((hb5.setCell (p := ⟨w4.heap.size, 0, none⟩) (Nat.le_refl _) (.int .i64 Y.p)).setCell (p := ⟨w4.heap.size, 1, none⟩) (Nat.le_refl _) (.int .i64 Y.t)).setCell (p := ⟨w4.heap.size, 2, none⟩) (Nat.le_refl _) (.slice Au5 Y.l.length cu5)) | go_keep)
                (first
                  | (go_at_call 8; (refine (CTn.out _ (Below.refl _ _).drew).mono ?_; rintro e w5 ⟨Y, c, u5, rfl, hT, hz5, hf5, hbd5⟩; obtain ⟨Au5, cu5, rfl, _⟩ := hz5.open_; have hb5 := below_of_drew hbd5; dsimp only [profV]; have hbz5 := turned_busy hz5 hf5 HBUN.out.gb HBUN.out.busy))
                  | (go_at_call 8; (refine (CTn.out _ (below_alloc w4 (.cells #[.int .i64 0, .int .i64 0, .slice none 0 0] 33)).drew).mono ?_; rintro e w5 ⟨Y, c, u5, rfl, hT, hz5, hf5, hbd5⟩; obtain ⟨Au5, cu5, rfl, _⟩ := hz5.open_; have hb5 := (below_alloc w4 (.cells #[.int .i64 0, .int .i64 0, .slice none 0 0] 33)).drew.trans (hbd5.mono (by simp)); dsimp only [profV]; have hbz5 := turned_busy (G := w4.heap.size :: h :: G) hz5 hf5 (gb_alloc HBUN.out.gb) (busy_alloc HBUN.out.busy); obtain ⟨r0, r1, r2, r3, r4, r5, r6⟩ := HZB.out.below (below_of_drew hbd5))))
              all_goals
                go_wp2_with fail
                go_meet
                first
                  | exact ⟨Y, c, Au5, cu5, _, rfl, rfl, hT, Trio.new _ _ _ _ _, hbz5.still (S := []) (Still.of_below (below_alloc _ _)) (fun _ h => by cases h), hb5.alloc hb5.size _⟩
                  | exact ⟨Y, c, Au5, cu5, _, rfl, rfl, hT, (((HZB.out.below (below_of_drew hbd5)).set0 _).set1 _).set2 _, busy_set3 hbz5 _ _ _, ((hb5.setCell (p := ⟨w4.heap.size, 0, none⟩) (Nat.le_refl _) (.int .i64 Y.p)).setCell (p := ⟨w4.heap.size, 1, none⟩) (Nat.le_refl _) (.int .i64 Y.t)).setCell (p := ⟨w4.heap.size, 2, none⟩) (Nat.le_refl _) (.slice Au5 Y.l.length cu5)⟩
            case rest =>
              obtain ⟨Y, c, B5, k5, n13, rfl, rfl, hT, hz, hzb, hb5⟩ := hcut
              have HB5 := Lib.hid (HBUN.out.next hb5.out)
              have HB6 := Lib.hid (HB5.out.put hzb.out)
              have hYl := give_len hT.out
              clear y0 y1 y2 y3 y4 y5 y6 c0 c1 c2 c3 c4 CTn HK HZB HBUN hzb hb5
              obtain ⟨y0, y1, y2, y3, y4, y5, y6⟩ := HB5.out.box
              obtain ⟨z0, z1, z2, z3, z4, z5, z6⟩ := hz.out
              go_upto_region 26 with fail
              generalize ((wc.setCell ⟨n9, 0, none⟩ (.int .i64 Y.p)).setCell ⟨n9, 1, none⟩ (.int .i64 Y.t)).setCell ⟨n9, 2, none⟩ (.slice B5 Y.l.length k5) = w6 at *
              clear y0 y1 y2 y3 y4 y5 y6 z0 z1 z2 z3 z4 z5 z6 hz HB5
              obtain ⟨c0, c1, c2, c3, c4⟩ := HAC.out w6 (HB0.out.trans (HB6.out.below.mono HB0.out.size))
              have CTk := Lib.hid (giveS HB6.out.isX HB6.out.gb (by omega) b)
              unfold ptr byV at CTk
              go_wp2_with fail
              refine CTk.out.mono ?_
              rintro e w7 ⟨Y7, q7, rfl, hT7, hi7, hr7⟩
              obtain ⟨rfl, rfl⟩ := hT7.unique hT.out
              have HB7 := Lib.hid (HB6.out.turn hi7 hr7)
              have hcc : (q7 != q7) = false := by simp
              clear hT7 hi7 hr7 HB6 CTk c0 c1 c2 c3 c4
              obtain ⟨x0, x1, x2, x3, x4, x5, x6⟩ := HX0.out.below HB7.out.below
              obtain ⟨s0, s1, s2, s3, s4⟩ := HS0.out.below HB7.out.below
              obtain ⟨y0, y1, y2, y3, y4, y5, y6⟩ := HB7.out.box
              have L91 := Lib.hid (like_is HB7.out.isX HB7.out.gb _ HB7.out.busy.1 (by first | omega | (dsimp only; omega)) p2 s)
              unfold ptr profV spV at L91
              go_wp2_with fail
              refine L91.out.mono ?_
              rintro e v91 ⟨rfl, hb91⟩
              have HL91 := Lib.hid (HB7.out.next hb91)
              clear hb91 HB7 L91 x0 x1 x2 x3 x4 x5 x6 s0 s1 s2 s3 s4 y0 y1 y2 y3 y4 y5 y6
              obtain ⟨x0, x1, x2, x3, x4, x5, x6⟩ := HX0.out.below HL91.out.below
              obtain ⟨s0, s1, s2, s3, s4⟩ := HS0.out.below HL91.out.below
              obtain ⟨y0, y1, y2, y3, y4, y5, y6⟩ := HL91.out.old
              have L92 := Lib.hid (like_is HL91.out.isC HL91.out.gb _ HL91.out.obusy.1 (by first | omega | (dsimp only; omega)) p2 s)
              unfold ptr profV spV at L92
              go_wp2_with fail
              refine L92.out.mono ?_
              rintro e v92 ⟨rfl, hb92⟩
              have HL92 := Lib.hid (HL91.out.next hb92)
              clear hb92 HL91 L92 x0 x1 x2 x3 x4 x5 x6 s0 s1 s2 s3 s4 y0 y1 y2 y3 y4 y5 y6
              go_wp2_with fail
              exact ⟨⟨k + 1, Y7, _, _, by go_num, by omega, (by have h9 := HLEN.out; show List.length _ ≤ k + 1; first | omega | (dsimp only; omega)), HL92.out.sol⟩, by simp [intOf] <;> omega⟩
          · have hm : (decide (t < X.t) = true ∧ MoveIs X t X 1) ∨ (decide (t < X.t) = false ∧ decide (1125899906842624 < t) = true ∧ MoveIs X t X 1) ∨ (decide (t < X.t) = false ∧ decide (1125899906842624 < t) = false ∧ MoveIs X t ⟨X.p, t, X.l⟩ 0) := by
              by_cases h1 : t < X.t
              · exact .inl ⟨decide_eq_true h1, .inl ⟨.inl h1, rfl, rfl⟩⟩
              · by_cases h2 : 1125899906842624 < t
                · exact .inr (.inl ⟨decide_eq_false h1, decide_eq_true h2, .inl ⟨.inr h2, rfl, rfl⟩⟩)
                · exact .inr (.inr ⟨decide_eq_false h1, decide_eq_false h2, .inr ⟨fun h => h.elim h1 h2, rfl, rfl⟩⟩)
            have PY := calm_cell (a := ⟨n9, 1, none⟩) y0 y2
            have PC : ∀ p : Lull w4, p.u.cell? ⟨(ad.add (k * 5)).block, (ad.add (k * 5)).off + 4, none⟩ = some (.int .i64 t) := fun p => (HAC.out p.u (HB0.out.trans ((HBUN.out.below.trans (p.h.mono HBUN.out.below.size)).mono HB0.out.size))).2.2.2.2
            rcases hm with ⟨e1, hm⟩ | ⟨e1, e2, hm⟩ | ⟨e1, e2, hm⟩
            · have HM := Lib.hid hm
              clear hm
              go_upto_region 16 with fail
              refine wp_region_calm (by kernel_rfl) (by kernel_rfl) ?_
              repeat (first | go_big_quiet_step (fail) | quiet_step (fail))
              refine wpQuiet_nil ?_
              intro wn hw
              have hb1 := lull_below hw
              clear hw
              have HB5 := Lib.hid (HBUN.out.next hb1)
              clear hb1 PY PC y0 y1 y2 y3 y4 y5 y6 c0 c1 c2 c3 c4 HBUN
              obtain ⟨y0, y1, y2, y3, y4, y5, y6⟩ := HB5.out.box
              obtain ⟨c0, c1, c2, c3, c4⟩ := HAC.out wn (HB0.out.trans (HB5.out.below.mono HB0.out.size))
              have HB6 := HB5
              clear HB5
              have CTk := Lib.hid (moveS HB6.out.isX HB6.out.gb (by omega) t)
              unfold ptr at CTk
              go_wp2_with fail
              refine CTk.out.mono ?_
              rintro e w7 ⟨Y7, q7, rfl, hT7, hi7, hr7⟩
              obtain ⟨rfl, rfl⟩ := hT7.unique HM.out
              have HB7 := Lib.hid (HB6.out.turn hi7 hr7)
              clear hT7 hi7 hr7 HB6 CTk c0 c1 c2 c3 c4 HM
              clear y0 y1 y2 y3 y4 y5 y6
              obtain ⟨x0, x1, x2, x3, x4, x5, x6⟩ := HX0.out.below HB7.out.below
              obtain ⟨s0, s1, s2, s3, s4⟩ := HS0.out.below HB7.out.below
              obtain ⟨y0, y1, y2, y3, y4, y5, y6⟩ := HB7.out.box
              have L91 := Lib.hid (like_is HB7.out.isX HB7.out.gb _ HB7.out.busy.1 (by first | omega | (dsimp only; omega)) p2 s)
              unfold ptr profV spV at L91
              go_wp2_with fail
              refine L91.out.mono ?_
              rintro e v91 ⟨rfl, hb91⟩
              have HL91 := Lib.hid (HB7.out.next hb91)
              clear hb91 HB7 L91 x0 x1 x2 x3 x4 x5 x6 s0 s1 s2 s3 s4 y0 y1 y2 y3 y4 y5 y6
              obtain ⟨x0, x1, x2, x3, x4, x5, x6⟩ := HX0.out.below HL91.out.below
              obtain ⟨s0, s1, s2, s3, s4⟩ := HS0.out.below HL91.out.below
              obtain ⟨y0, y1, y2, y3, y4, y5, y6⟩ := HL91.out.old
              have L92 := Lib.hid (like_is HL91.out.isC HL91.out.gb _ HL91.out.obusy.1 (by first | omega | (dsimp only; omega)) p2 s)
              unfold ptr profV spV at L92
              go_wp2_with fail
              refine L92.out.mono ?_
              rintro e v92 ⟨rfl, hb92⟩
              have HL92 := Lib.hid (HL91.out.next hb92)
              clear hb92 HL91 L92 x0 x1 x2 x3 x4 x5 x6 s0 s1 s2 s3 s4 y0 y1 y2 y3 y4 y5 y6
              go_wp2_with fail
              exact ⟨⟨k + 1, _, _, _, by go_num, by omega, (by have h9 := HLEN.out; show List.length _ ≤ k + 1; first | omega | (dsimp only; omega)), HL92.out.sol⟩, by simp [intOf] <;> omega⟩
            · have HM := Lib.hid hm
              clear hm
              go_upto_region 16 with fail
              refine wp_region_calm (by kernel_rfl) (by kernel_rfl) ?_
              repeat (first | go_big_quiet_step (fail) | quiet_step (fail))
              refine wpQuiet_nil ?_
              intro wn hw
              have hb1 := lull_below hw
              clear hw
              have HB5 := Lib.hid (HBUN.out.next hb1)
              clear hb1 PY PC y0 y1 y2 y3 y4 y5 y6 c0 c1 c2 c3 c4 HBUN
              obtain ⟨y0, y1, y2, y3, y4, y5, y6⟩ := HB5.out.box
              obtain ⟨c0, c1, c2, c3, c4⟩ := HAC.out wn (HB0.out.trans (HB5.out.below.mono HB0.out.size))
              have HB6 := HB5
              clear HB5
              have CTk := Lib.hid (moveS HB6.out.isX HB6.out.gb (by omega) t)
              unfold ptr at CTk
              go_wp2_with fail
              refine CTk.out.mono ?_
              rintro e w7 ⟨Y7, q7, rfl, hT7, hi7, hr7⟩
              obtain ⟨rfl, rfl⟩ := hT7.unique HM.out
              have HB7 := Lib.hid (HB6.out.turn hi7 hr7)
              clear hT7 hi7 hr7 HB6 CTk c0 c1 c2 c3 c4 HM
              clear y0 y1 y2 y3 y4 y5 y6
              obtain ⟨x0, x1, x2, x3, x4, x5, x6⟩ := HX0.out.below HB7.out.below
              obtain ⟨s0, s1, s2, s3, s4⟩ := HS0.out.below HB7.out.below
              obtain ⟨y0, y1, y2, y3, y4, y5, y6⟩ := HB7.out.box
              have L91 := Lib.hid (like_is HB7.out.isX HB7.out.gb _ HB7.out.busy.1 (by first | omega | (dsimp only; omega)) p2 s)
              unfold ptr profV spV at L91
              go_wp2_with fail
              refine L91.out.mono ?_
              rintro e v91 ⟨rfl, hb91⟩
              have HL91 := Lib.hid (HB7.out.next hb91)
              clear hb91 HB7 L91 x0 x1 x2 x3 x4 x5 x6 s0 s1 s2 s3 s4 y0 y1 y2 y3 y4 y5 y6
              obtain ⟨x0, x1, x2, x3, x4, x5, x6⟩ := HX0.out.below HL91.out.below
              obtain ⟨s0, s1, s2, s3, s4⟩ := HS0.out.below HL91.out.below
              obtain ⟨y0, y1, y2, y3, y4, y5, y6⟩ := HL91.out.old
              have L92 := Lib.hid (like_is HL91.out.isC HL91.out.gb _ HL91.out.obusy.1 (by first | omega | (dsimp only; omega)) p2 s)
              unfold ptr profV spV at L92
              go_wp2_with fail
              refine L92.out.mono ?_
              rintro e v92 ⟨rfl, hb92⟩
              have HL92 := Lib.hid (HL91.out.next hb92)
              clear hb92 HL91 L92 x0 x1 x2 x3 x4 x5 x6 s0 s1 s2 s3 s4 y0 y1 y2 y3 y4 y5 y6
              go_wp2_with fail
              exact ⟨⟨k + 1, _, _, _, by go_num, by omega, (by have h9 := HLEN.out; show List.length _ ≤ k + 1; first | omega | (dsimp only; omega)), HL92.out.sol⟩, by simp [intOf] <;> omega⟩
            · have HM := Lib.hid hm
              clear hm
              go_upto_region 16 with fail
              refine wp_region_calm (by kernel_rfl) (by kernel_rfl) ?_
              repeat (first | go_big_quiet_step (fail) | quiet_step (fail))
              refine wpQuiet_nil ?_
              intro wn hw
              have hb1 := lull_below hw
              clear hw
              have HB5 := Lib.hid (HBUN.out.next hb1)
              clear hb1 PY PC y0 y1 y2 y3 y4 y5 y6 c0 c1 c2 c3 c4 HBUN
              obtain ⟨y0, y1, y2, y3, y4, y5, y6⟩ := HB5.out.box
              obtain ⟨c0, c1, c2, c3, c4⟩ := HAC.out wn (HB0.out.trans (HB5.out.below.mono HB0.out.size))
              have HB6 := Lib.hid (HB5.out.set (p := ⟨n9, 1, none⟩) rfl (.int .i64 t) (y' := ⟨X.p, t, X.l⟩) (HB5.out.box.set1 _) HB5.out.busy)
              go_upto_region 19 with fail
              generalize wn.setCell ⟨n9, 1, none⟩ (.int .i64 t) = w6 at *
              clear y0 y1 y2 y3 y4 y5 y6 c0 c1 c2 c3 c4 HB5
              obtain ⟨c0, c1, c2, c3, c4⟩ := HAC.out w6 (HB0.out.trans (HB6.out.below.mono HB0.out.size))
              have CTk := Lib.hid (moveS HB6.out.isX HB6.out.gb (by omega) t)
              unfold ptr at CTk
              go_wp2_with fail
              refine CTk.out.mono ?_
              rintro e w7 ⟨Y7, q7, rfl, hT7, hi7, hr7⟩
              obtain ⟨rfl, rfl⟩ := hT7.unique HM.out
              have HB7 := Lib.hid (HB6.out.turn hi7 hr7)
              clear hT7 hi7 hr7 HB6 CTk c0 c1 c2 c3 c4 HM
              obtain ⟨x0, x1, x2, x3, x4, x5, x6⟩ := HX0.out.below HB7.out.below
              obtain ⟨s0, s1, s2, s3, s4⟩ := HS0.out.below HB7.out.below
              obtain ⟨y0, y1, y2, y3, y4, y5, y6⟩ := HB7.out.box
              have L91 := Lib.hid (like_is HB7.out.isX HB7.out.gb _ HB7.out.busy.1 (by first | omega | (dsimp only; omega)) p2 s)
              unfold ptr profV spV at L91
              go_wp2_with fail
              refine L91.out.mono ?_
              rintro e v91 ⟨rfl, hb91⟩
              have HL91 := Lib.hid (HB7.out.next hb91)
              clear hb91 HB7 L91 x0 x1 x2 x3 x4 x5 x6 s0 s1 s2 s3 s4 y0 y1 y2 y3 y4 y5 y6
              obtain ⟨x0, x1, x2, x3, x4, x5, x6⟩ := HX0.out.below HL91.out.below
              obtain ⟨s0, s1, s2, s3, s4⟩ := HS0.out.below HL91.out.below
              obtain ⟨y0, y1, y2, y3, y4, y5, y6⟩ := HL91.out.old
              have L92 := Lib.hid (like_is HL91.out.isC HL91.out.gb _ HL91.out.obusy.1 (by first | omega | (dsimp only; omega)) p2 s)
              unfold ptr profV spV at L92
              go_wp2_with fail
              refine L92.out.mono ?_
              rintro e v92 ⟨rfl, hb92⟩
              have HL92 := Lib.hid (HL91.out.next hb92)
              clear hb92 HL91 L92 x0 x1 x2 x3 x4 x5 x6 s0 s1 s2 s3 s4 y0 y1 y2 y3 y4 y5 y6
              go_wp2_with fail
              exact ⟨⟨k + 1, _, _, _, by go_num, by omega, (by have h9 := HLEN.out; show List.length _ ≤ k + 1; first | omega | (dsimp only; omega)), HL92.out.sol⟩, by simp [intOf] <;> omega⟩
        · have hX : X.l.length ≤ 40 := by have := HLEN.out; omega
          obtain ⟨x0, x1, x2, x3, x4, x5, x6⟩ := HX0.out.below HS.out.below
          obtain ⟨s0, s1, s2, s3, s4⟩ := HS0.out.below HS.out.below
          obtain ⟨y0, y1, y2, y3, y4, y5, y6⟩ := HS.out.box
          have L1 := Lib.hid (like_is HS.out.isX HS.out.gb _ HS.out.busy.1 (by omega) p2 s)
          unfold ptr profV spV at L1
          go_wp2_with fail
          refine L1.out.mono ?_
          rintro e w8 ⟨rfl, hb8⟩
          have HL8 := Lib.hid (HS.out.below.trans (hb8.mono HS.out.below.size))
          clear hb8
          go_wp2_with fail
          refine (HAW.out _).mono ?_
          rintro e wz ⟨rfl, hbz⟩
          have HBZ := Lib.hid (HB0.out.trans ((HL8.out.trans (hbz.mono HL8.out.size)).mono HB0.out.size))
          clear hbz
          go_wp2_with fail
          go_ret
          exact ⟨rfl, HBZ.out⟩
  · have d1 : decide ((40 : Int) < (l.length : Int)) = true := by rw [decide_eq_true_eq]; omega
    go_wp2_with fail
    refine (HAW.out _).mono ?_
    rintro e wz ⟨rfl, hbz⟩
    have HBZ := Lib.hid (HB0.out.trans ((hbz).mono HB0.out.size))
    clear hbz
    go_wp2_with fail
    go_ret
    exact ⟨rfl, HBZ.out⟩
end Go.Proofs.Ytjkninldenoanaa.ProfWalk
