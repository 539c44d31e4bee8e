/-
  The walks of the document's answers for layer 9: May, Has, Meet.
-/
import Derived.Test.YtmggmaackgnicaaApiMem
import Derived.Test.YtmggmaackgnicaaQuePlain
import Derived.Test.YtmggmaackgnicaaJobRefA
import Derived.Deep.QuietTactic
import Derived.BigQuiet
import Derived.Deep.CutBlock
import Derived.Deep.DeepCutAuto
namespace Go.Proofs.Ytmggmaackgnicaa.QueRef
open Go.RowKit Go.Proofs.Ytmggmaackgnicaa.JobPlain Go.Proofs.Ytmggmaackgnicaa.ApiPlain Go.Proofs.Ytmggmaackgnicaa.QuePlain Go.Proofs.Ytmggmaackgnicaa.Mem Go.Proofs.Ytmggmaackgnicaa.ApiMem
def BoolC (b : Bool) (w : World) (e : Ending) (w' : World) : Prop := e = .returned (.bool b) ∧ Below w.heap.size w w'
def IntC (n : Int) (w : World) (e : Ending) (w' : World) : Prop := e = .returned (.int .i64 n) ∧ Below w.heap.size w w'
theorem box_below (w : World) (o : Obj) : Below w.heap.size w (w.alloc o) := (Below.refl _ _).alloc (Nat.le_refl _) o
set_option maxHeartbeats 1600000 in
theorem may9 (c : Cl) (w : World) (hs : c.name.size ≤ 9223372036854775807) : Calls Try.prog 18 #[clV c] w (BoolC (mayC c) w) := by
  have CN := Lib.hid (fun W => JobRef.name7 c.name W hs)
  have hways := mayC_ways c
  have HX := ClBox.new w c 32
  have HB := Lib.hid (box_below w (.cells #[.string c.name, .int .i64 c.minW, .int .i64 c.maxW, .int .i64 c.minE, .int .i64 c.maxE] 32))
  obtain ⟨x, x0, x1, x2, x3, x4, _, _, _, _, _⟩ := HX
  unfold clV
  rcases hways with ⟨hn, h1⟩ | ⟨hn, d1, h1⟩ | ⟨hn, d1, d2, h1⟩ | ⟨hn, d1, d2, d3, h1⟩ | ⟨hn, d1, d2, d3, d4, h1⟩ | ⟨hn, d1, d2, d3, d4, d5, h1⟩ | ⟨hn, d1, d2, d3, d4, d5, d6, h1⟩ | ⟨hn, d1, d2, d3, d4, d5, d6, h1⟩
  all_goals
    rw [hn] at CN
    rw [h1]
    clear hn h1
    go_enter Try.func18, Try.ntmps18
    go_wp2_with (go_at_call 23; refine (CN.out _).mono ?_; rintro e w1 ⟨rfl, rfl⟩)
    go_ret
    exact ⟨rfl, HB.out⟩
set_option maxHeartbeats 1600000 in
theorem has9 (c : Cl) (wd e : Int) (w : World) (hs : c.name.size ≤ 9223372036854775807) : Calls Try.prog 12 #[clV c, .int .i64 wd, .int .i64 e] w (BoolC (hasC c wd e) w) := by
  have CN := Lib.hid (fun W => may9 c W hs)
  have hways := hasC_ways c wd e
  have HX := Lib.hid (ClBox.new w c 32)
  have HB := Lib.hid (box_below w (.cells #[.string c.name, .int .i64 c.minW, .int .i64 c.maxW, .int .i64 c.minE, .int .i64 c.maxE] 32))
  obtain ⟨x, x0, x1, x2, x3, x4, _, _, _, _, _⟩ := HX.out
  unfold clV at *
  rcases hways with ⟨hn, h1⟩ | ⟨hn, d1, h1⟩ | ⟨hn, d1, d2, h1⟩ | ⟨hn, d1, d2, d3, h1⟩ | ⟨hn, d1, d2, d3, d4, h1⟩ | ⟨hn, d1, d2, d3, d4, h1⟩
  all_goals
    rw [hn] at CN
    rw [h1]
    clear hn h1
    go_enter Try.func12, Try.ntmps12
    go_wp2_with fail
    refine (CN.out _).mono ?_
    rintro e1 w1 ⟨rfl, hb1⟩
    obtain ⟨y, y0, y1, y2, y3, y4, _, _, _, _, _⟩ := HX.out.below hb1
    have HB1 := Lib.hid (HB.out.trans (hb1.mono HB.out.size))
    clear hb1
    go_wp2_with fail
    go_ret
    exact ⟨rfl, HB1.out⟩
theorem max_ways (x y : Int) : (decide (x < y) = true ∧ max x y = y) ∨ (decide (x < y) = false ∧ max x y = x) := by
  by_cases h : x < y
  · exact .inl ⟨decide_eq_true h, by omega⟩
  · exact .inr ⟨decide_eq_false h, by omega⟩
set_option maxHeartbeats 3200000 in
theorem meet9 (a b : Cl) (w : World) (ha : a.name.size ≤ 9223372036854775807) (hb : b.name.size ≤ 9223372036854775807) : Calls Try.prog 14 #[clV a, clV b] w (BoolC (meetC a b) w) := by
  obtain ⟨W, hW⟩ : ∃ W, W = max a.minW b.minW := ⟨_, rfl⟩
  obtain ⟨E, hE⟩ : ∃ E, E = max a.minE b.minE := ⟨_, rfl⟩
  have w1 := max_ways a.minW b.minW
  have w2 := max_ways a.minE b.minE
  have hm : meetC a b = (hasC a W E && hasC b W E) := by unfold meetC; rw [← hW, ← hE]
  rw [← hW] at w1
  rw [← hE] at w2
  clear hW hE
  have C1 := Lib.hid (fun w => has9 a W E w ha)
  have C2 := Lib.hid (fun w => has9 b W E w hb)
  have HX := Lib.hid ((ClBox.new w a 32).alloc (.cells #[.string b.name, .int .i64 b.minW, .int .i64 b.maxW, .int .i64 b.minE, .int .i64 b.maxE] 32))
  have HY := Lib.hid (ClBox.new_at (w := w.alloc (.cells #[.string a.name, .int .i64 a.minW, .int .i64 a.maxW, .int .i64 a.minE, .int .i64 a.maxE] 32)) (n := w.heap.size + 1) (by simp) b 32)
  have HB := Lib.hid ((box_below w (.cells #[.string a.name, .int .i64 a.minW, .int .i64 a.maxW, .int .i64 a.minE, .int .i64 a.maxE] 32)).alloc (by simp) (.cells #[.string b.name, .int .i64 b.minW, .int .i64 b.maxW, .int .i64 b.minE, .int .i64 b.maxE] 32))
  rw [hm]
  clear hm ha hb
  unfold clV at *
  go_enter Try.func14, Try.ntmps14
  go_upto_region 1 with fail
  generalize (w.alloc (.cells #[.string a.name, .int .i64 a.minW, .int .i64 a.maxW, .int .i64 a.minE, .int .i64 a.maxE] 32)).alloc (.cells #[.string b.name, .int .i64 b.minW, .int .i64 b.maxW, .int .i64 b.minE, .int .i64 b.maxE] 32) = w0 at *
  obtain ⟨x, x0, x1, x2, x3, x4, _, _, _, _, _⟩ := HX.out
  obtain ⟨y, y0, y1, y2, y3, y4, _, _, _, _, _⟩ := HY.out
  go_quiet (fail)
  cases h1 : hasC a W E with
  | false =>
    rw [h1] at C1
    have H1 := Lib.hid h1
    clear h1 C2
    rcases w1 with ⟨d1, e1⟩ | ⟨d1, e1⟩ <;> rcases w2 with ⟨d2, e2⟩ | ⟨d2, e2⟩
    all_goals
      subst e1
      subst e2
      go_wp2_with fail
      refine (C1.out _).mono ?_
      rintro e w3 ⟨rfl, hb3⟩
      have HB3 := Lib.hid ((below_drewN HB.out _).trans (hb3.mono HB.out.size))
      clear hb3
      go_wp2_with fail
      go_ret
      exact ⟨by rw [H1.out]; rfl, HB3.out⟩
  | true =>
    rw [h1] at C1
    have H1 := Lib.hid h1
    clear h1
    cases h2 : hasC b W E
    all_goals
      rw [h2] at C2
      have H2 := Lib.hid h2
      clear h2
      rcases w1 with ⟨d1, e1⟩ | ⟨d1, e1⟩ <;> rcases w2 with ⟨d2, e2⟩ | ⟨d2, e2⟩
      all_goals
        subst e1
        subst e2
        go_wp2_with fail
        refine (C1.out _).mono ?_
        rintro e w3 ⟨rfl, hb3⟩
        obtain ⟨z, z0, z1, z2, z3, z4, _, _, _, _, _⟩ := (HY.out.drewN _).below hb3
        have HB3 := Lib.hid ((below_drewN HB.out _).trans (hb3.mono HB.out.size))
        clear hb3 C1
        go_wp2_with fail
        refine (C2.out _).mono ?_
        rintro e w4 ⟨rfl, hb4⟩
        have HB4 := Lib.hid (HB3.out.trans (hb4.mono HB3.out.size))
        clear hb4
        go_wp2_with fail
        go_ret
        exact ⟨by rw [H1.out, H2.out]; rfl, HB4.out⟩
end Go.Proofs.Ytmggmaackgnicaa.QueRef
