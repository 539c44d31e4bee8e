/-
  The walks of layer 9's code: within, mayBe, Has, Meet.
-/
import Derived.Test.YtmggmaackgnicaaQueSay
import Derived.Test.YtmggmaackgnicaaJobName
namespace Go.Proofs.Ytmggmaackgnicaa.QueWalk
open Go.RowKit Go.Proofs.Ytmggmaackgnicaa.JobPlain Go.Proofs.Ytmggmaackgnicaa.ApiPlain Go.Proofs.Ytmggmaackgnicaa.QuePlain Go.Proofs.Ytmggmaackgnicaa.Mem Go.Proofs.Ytmggmaackgnicaa.ApiMem Go.Proofs.Ytmggmaackgnicaa.QueRef
def inC (n a b : Int) : Bool := decide (a ≤ n) && decide (n ≤ b)
def BoolW (b : Bool) (w : World) (e : Ending) (w' : World) : Prop := e = .returned (.bool b) ∧ w = w'
theorem two_ways (a b : Bool) : (a = false ∧ (a && b) = false) ∨ (a = true ∧ b = false ∧ (a && b) = false) ∨ (a = true ∧ b = true ∧ (a && b) = true) := by
  cases a <;> cases b <;> simp
theorem within_q (n a b : Int) (w : World) : Calls Try.prog 20 #[.int .i64 n, .int .i64 a, .int .i64 b] w (BoolW (inC n a b) w) := by
  rcases two_ways (decide (a ≤ n)) (decide (n ≤ b)) with ⟨h1, h2⟩ | ⟨h1, h3, h2⟩ | ⟨h1, h3, h2⟩
  all_goals
    have HR := Lib.hid h2
    clear h2
    go_enter Try.func20, Try.ntmps20
    go_wp2_with fail
    go_ret
    exact ⟨by unfold inC; rw [HR.out]; rfl, rfl⟩
theorem mayBe_ways (c : Cl) : (nameB c.name = false ∧ mayC c = false) ∨ (nameB c.name = true ∧ inC c.minW 1 c.maxW = false ∧ mayC c = false) ∨ (nameB c.name = true ∧ inC c.minW 1 c.maxW = true ∧ decide (c.maxW ≤ 256) = false ∧ mayC c = false) ∨
    (nameB c.name = true ∧ inC c.minW 1 c.maxW = true ∧ decide (c.maxW ≤ 256) = true ∧ inC c.minE 1 c.maxE = false ∧ mayC c = false) ∨
    (nameB c.name = true ∧ inC c.minW 1 c.maxW = true ∧ decide (c.maxW ≤ 256) = true ∧ inC c.minE 1 c.maxE = true ∧ decide (c.maxE ≤ 1099511627776) = false ∧ mayC c = false) ∨
    (nameB c.name = true ∧ inC c.minW 1 c.maxW = true ∧ decide (c.maxW ≤ 256) = true ∧ inC c.minE 1 c.maxE = true ∧ decide (c.maxE ≤ 1099511627776) = true ∧ mayC c = true) := by
  unfold mayC inC
  cases nameB c.name <;> cases decide (1 ≤ c.minW) <;> cases decide (c.minW ≤ c.maxW) <;> cases decide (c.maxW ≤ 256) <;> cases decide (1 ≤ c.minE) <;> cases decide (c.minE ≤ c.maxE) <;> cases decide (c.maxE ≤ 1099511627776) <;> simp
set_option maxHeartbeats 1600000 in
theorem mayBe_q (c : Cl) (w : World) (hs : c.name.size ≤ 9223372036854775807) : Calls Try.prog 19 #[clV c] w (BoolC (mayC c) w) := by
  have CN := Lib.hid (fun W => JobWalk.name_range c.name W hs)
  have hways := mayBe_ways c
  have HX := Lib.hid (ClBox.new w c 32)
  have HB := Lib.hid (box_below w (.cells #[.string c.name, .int .i64 c.minW, .int .i64 c.maxW, .int .i64 c.minE, .int .i64 c.maxE] 32))
  obtain ⟨x, x0, x1, x2, x3, x4, _, _, _, _, _⟩ := HX.out
  unfold clV at *
  rcases hways with ⟨hn, h1⟩ | ⟨hn, d1, h1⟩ | ⟨hn, d1, d2, h1⟩ | ⟨hn, d1, d2, d3, h1⟩ | ⟨hn, d1, d2, d3, d4, h1⟩ | ⟨hn, d1, d2, d3, d4, h1⟩
  all_goals
    rw [hn] at CN
    rw [h1]
    clear hn h1
    go_enter Try.func19, Try.ntmps19
    go_wp2_with fail
    refine (CN.out _).mono ?_
    rintro e1 w1 ⟨rfl, hb1⟩
    obtain ⟨y, y0, y1, y2, y3, y4, _, _, _, _, _⟩ := HX.out.below hb1
    have HB1 := Lib.hid (HB.out.trans (hb1.mono HB.out.size))
    clear hb1
    go_wp2_with (go_at_call 20; refine (within_q _ _ _ _).mono ?_; rintro e w2 ⟨rfl, rfl⟩)
    go_ret
    exact ⟨rfl, HB1.out⟩
theorem has_ways (c : Cl) (wd e : Int) : (mayC c = false ∧ hasC c wd e = false) ∨ (mayC c = true ∧ inC wd c.minW c.maxW = false ∧ hasC c wd e = false) ∨ (mayC c = true ∧ inC wd c.minW c.maxW = true ∧ inC e c.minE c.maxE = false ∧ hasC c wd e = false) ∨ (mayC c = true ∧ inC wd c.minW c.maxW = true ∧ inC e c.minE c.maxE = true ∧ hasC c wd e = true) := by
  unfold hasC inC
  cases mayC c <;> cases decide (c.minW ≤ wd) <;> cases decide (wd ≤ c.maxW) <;> cases decide (c.minE ≤ e) <;> cases decide (e ≤ c.maxE) <;> simp
set_option maxHeartbeats 1600000 in
theorem has_q (c : Cl) (wd e : Int) (w : World) (hs : c.name.size ≤ 9223372036854775807) : Calls Try.prog 11 #[clV c, .int .i64 wd, .int .i64 e] w (BoolC (hasC c wd e) w) := by
  have CN := Lib.hid (fun W => mayBe_q c W hs)
  have hways := has_ways c wd e
  have HX := Lib.hid (ClBox.new w c 32)
  have HB := Lib.hid (box_below w (.cells #[.string c.name, .int .i64 c.minW, .int .i64 c.maxW, .int .i64 c.minE, .int .i64 c.maxE] 32))
  obtain ⟨x, x0, x1, x2, x3, x4, _, _, _, _, _⟩ := HX.out
  unfold clV at *
  rcases hways with ⟨hn, h1⟩ | ⟨hn, d1, h1⟩ | ⟨hn, d1, d2, h1⟩ | ⟨hn, d1, d2, h1⟩
  all_goals
    rw [hn] at CN
    rw [h1]
    clear hn h1
    go_enter Try.func11, Try.ntmps11
    go_wp2_with fail
    refine (CN.out _).mono ?_
    rintro e1 w1 ⟨rfl, hb1⟩
    obtain ⟨y, y0, y1, y2, y3, y4, _, _, _, _, _⟩ := HX.out.below hb1
    have HB1 := Lib.hid (HB.out.trans (hb1.mono HB.out.size))
    clear hb1
    go_wp2_with (go_at_call 20; refine (within_q _ _ _ _).mono ?_; rintro e w2 ⟨rfl, rfl⟩)
    go_ret
    exact ⟨rfl, HB1.out⟩
theorem hasS (c : Cl) (wd e : Int) (w : World) (hc : ClFit c) : Calls Try.prog 11 #[clV c, .int .i64 wd, .int .i64 e] w (BoolC (hasC c wd e) w) := has_q c wd e w hc.f0
theorem meet_ways (a b : Cl) : (hasC a (max a.minW b.minW) (max a.minE b.minE) = false ∧ meetC a b = false) ∨ (hasC a (max a.minW b.minW) (max a.minE b.minE) = true ∧ hasC b (max a.minW b.minW) (max a.minE b.minE) = meetC a b) := by
  unfold meetC
  cases hasC a (max a.minW b.minW) (max a.minE b.minE) <;> simp
set_option maxHeartbeats 800000 in
theorem meetS (a b : Cl) (w : World) (ha : ClFit a) (hb : ClFit b) : Calls Try.prog 13 #[clV a, clV b] w (BoolC (meetC a b) w) := by
  have hW : (if a.minW < b.minW then b.minW else a.minW) = max a.minW b.minW := by split <;> omega
  have hE : (if a.minE < b.minE then b.minE else a.minE) = max a.minE b.minE := by split <;> omega
  have C1 := Lib.hid (fun w => has_q a (max a.minW b.minW) (max a.minE b.minE) w ha.f0)
  have C2 := Lib.hid (fun w => has_q b (max a.minW b.minW) (max a.minE b.minE) w hb.f0)
  have HX := Lib.hid ((ClBox.new w a 32).alloc (.cells #[.string b.name, .int .i64 b.minW, .int .i64 b.maxW, .int .i64 b.minE, .int .i64 b.maxE] 32))
  have HY := Lib.hid (ClBox.new_at (w := w.alloc (.cells #[.string a.name, .int .i64 a.minW, .int .i64 a.maxW, .int .i64 a.minE, .int .i64 a.maxE] 32)) (n := w.heap.size + 1) (by simp) b 32)
  have HB := Lib.hid ((box_below w (.cells #[.string a.name, .int .i64 a.minW, .int .i64 a.maxW, .int .i64 a.minE, .int .i64 a.maxE] 32)).alloc (by simp) (.cells #[.string b.name, .int .i64 b.minW, .int .i64 b.maxW, .int .i64 b.minE, .int .i64 b.maxE] 32))
  have hw := meet_ways a b
  clear ha hb
  unfold clV at *
  go_enter Try.func13, Try.ntmps13
  go_upto_region 1 with fail
  generalize (w.alloc (.cells #[.string a.name, .int .i64 a.minW, .int .i64 a.maxW, .int .i64 a.minE, .int .i64 a.maxE] 32)).alloc (.cells #[.string b.name, .int .i64 b.minW, .int .i64 b.maxW, .int .i64 b.minE, .int .i64 b.maxE] 32) = w0 at *
  obtain ⟨x, x0, x1, x2, x3, x4, _, _, _, _, _⟩ := HX.out
  obtain ⟨y, y0, y1, y2, y3, y4, _, _, _, _, _⟩ := HY.out
  generalize max a.minW b.minW = W at *
  generalize max a.minE b.minE = E at *
  go_region

  clear hW hE
  rcases hw with ⟨h1, h2⟩ | ⟨h1, h2⟩
  · rw [h1] at C1
    have H2 := Lib.hid h2
    clear h1 h2 C2
    go_wp2_with fail
    refine (C1.out _).mono ?_
    rintro e w3 ⟨rfl, hb3⟩
    have HB3 := Lib.hid (HB.out.drew.trans (hb3.mono HB.out.size))
    clear hb3
    go_wp2_with fail
    go_ret
    exact ⟨by rw [H2.out]; rfl, HB3.out⟩
  · rw [h1] at C1
    rw [h2] at C2
    clear h1 h2
    go_wp2_with fail
    refine (C1.out _).mono ?_
    rintro e w3 ⟨rfl, hb3⟩
    obtain ⟨z, z0, z1, z2, z3, z4, _, _, _, _, _⟩ := (HY.out.drewN 1).below hb3
    have HB3 := Lib.hid (HB.out.drew.trans (hb3.mono HB.out.size))
    clear hb3 C1
    go_wp2_with fail
    refine (C2.out _).mono ?_
    rintro e w4 ⟨rfl, hb4⟩
    have HB4 := Lib.hid (HB3.out.trans (hb4.mono HB3.out.size))
    clear hb4
    go_wp2_with fail
    go_ret
    exact ⟨rfl, HB4.out⟩
end Go.Proofs.Ytmggmaackgnicaa.QueWalk
