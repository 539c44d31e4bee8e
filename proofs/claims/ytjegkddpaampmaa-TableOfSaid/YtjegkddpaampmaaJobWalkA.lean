/-
  The walks of layer 7's code: within, isLive, hasNoTimes, mayStart, mayEnd, mayBeAsked.
-/
import Derived.Test.YtjegkddpaampmaaJobName
import Derived.Test.YtjegkddpaampmaaJobTab
namespace Go.Proofs.Ytjegkddpaampmaa.JobWalk
open Go.RowKit Go.Proofs.Ytjegkddpaampmaa.JobPlain Go.Proofs.Ytjegkddpaampmaa.Mem Go.Proofs.Ytjegkddpaampmaa.JobMem Go.Proofs.Ytjegkddpaampmaa.JobRef
def inB (n a b : Int) : Bool := decide (a ≤ n) && decide (n ≤ b)
def liveSt (s : Int) : Bool := s == 0 || (s == 1 || s == 2)
theorem within_any (n a b : Int) (w : World) : Calls Try.prog 43 #[.int .i64 n, .int .i64 a, .int .i64 b] w (BoolQ (inB n a b) w) := by
  rcases and_ways (decide (a ≤ n)) (decide (n ≤ b)) with ⟨h1, h2⟩ | ⟨h1, h3, h2⟩ | ⟨h1, h3, h2⟩
  all_goals
    have HR := Lib.hid h2
    clear h2
    go_enter Try.func43, Try.ntmps43
    go_wp2_with fail
    go_ret
    exact ⟨by unfold inB; rw [HR.out]; rfl, rfl⟩
theorem isLive_any (s : Int) (w : World) : Calls Try.prog 52 #[.int .i64 s] w (BoolQ (liveSt s) w) := by
  have hw : ((s == 0) = true ∧ liveSt s = true) ∨ ((s == 0) = false ∧ (s == 1) = true ∧ liveSt s = true) ∨ ((s == 0) = false ∧ (s == 1) = false ∧ (s == 2) = true ∧ liveSt s = true) ∨ ((s == 0) = false ∧ (s == 1) = false ∧ (s == 2) = false ∧ liveSt s = false) := by
    unfold liveSt
    cases (s == 0) <;> cases (s == 1) <;> cases (s == 2) <;> simp
  rcases hw with ⟨h0, h⟩ | ⟨h0, h1, h⟩ | ⟨h0, h1, h2, h⟩ | ⟨h0, h1, h2, h⟩
  all_goals
    have HR := Lib.hid h
    clear h
    go_enter Try.func52, Try.ntmps52
    go_wp2_with fail
    go_ret
    exact ⟨by rw [HR.out]; rfl, rfl⟩
set_option maxHeartbeats 800000 in
theorem hasNo_any (j : Jb) (w : World) : Calls Try.prog 55 #[jobV j] w (BoolIs (noneB j) w) := by
  have HX := Lib.hid (JobBox.new w j 28)
  have HB := Lib.hid ((Below.refl w.heap.size w).alloc (Nat.le_refl _) (.cells #[.int .i64 j.id, .string j.user, .int .i64 j.width, .int .i64 j.est, .int .i64 j.prio, .int .i64 j.sub, .int .i64 j.state, .int .i64 j.start, .int .i64 j.fin] 28))
  unfold jobV jobA
  rcases and_ways (j.start == 0) (j.fin == 0) with ⟨h1, h2⟩ | ⟨h1, h3, h2⟩ | ⟨h1, h3, h2⟩
  all_goals
    have HR := Lib.hid h2
    clear h2
    go_enter Try.func55, Try.ntmps55
    go_upto_region 1 with fail
    obtain ⟨y, y0, y1, y2, y3, y4, y5, y6, y7, y8, _, _, _, _, _, _, _, _, _⟩ := HX.out
    generalize w.alloc (.cells #[.int .i64 j.id, .string j.user, .int .i64 j.width, .int .i64 j.est, .int .i64 j.prio, .int .i64 j.sub, .int .i64 j.state, .int .i64 j.start, .int .i64 j.fin] 28) = W at *
    go_wp2_with fail
    go_ret
    exact ⟨by unfold noneB; rw [HR.out]; rfl, HB.out⟩
set_option maxHeartbeats 800000 in
theorem mayStart_any (j : Jb) (w : World) : Calls Try.prog 56 #[jobV j] w (BoolIs (ranB j) w) := by
  have HX := Lib.hid (JobBox.new w j 28)
  have HB := Lib.hid ((Below.refl w.heap.size w).alloc (Nat.le_refl _) (.cells #[.int .i64 j.id, .string j.user, .int .i64 j.width, .int .i64 j.est, .int .i64 j.prio, .int .i64 j.sub, .int .i64 j.state, .int .i64 j.start, .int .i64 j.fin] 28))
  unfold jobV jobA
  go_enter Try.func56, Try.ntmps56
  go_upto_region 1 with fail
  obtain ⟨y, y0, y1, y2, y3, y4, y5, y6, y7, y8, _, _, _, _, _, _, _, _, _⟩ := HX.out
  generalize w.alloc (.cells #[.int .i64 j.id, .string j.user, .int .i64 j.width, .int .i64 j.est, .int .i64 j.prio, .int .i64 j.sub, .int .i64 j.state, .int .i64 j.start, .int .i64 j.fin] 28) = W at *
  go_wp2_with (go_at_call 43; refine (within_any _ _ _ _).mono ?_; rintro e w1 ⟨rfl, rfl⟩)
  go_ret
  exact ⟨rfl, HB.out⟩
set_option maxHeartbeats 800000 in
theorem mayEnd_any (j : Jb) (w : World) (h1 : 0 ≤ j.start) (h2 : j.start ≤ 1125899906842624) (h3 : 1 ≤ j.est) (h4 : j.est ≤ 1099511627776) : Calls Try.prog 57 #[jobV j] w (BoolIs (inB j.fin j.start (j.start + j.est)) w) := by
  have HX := Lib.hid (JobBox.new w j 28)
  have HB := Lib.hid ((Below.refl w.heap.size w).alloc (Nat.le_refl _) (.cells #[.int .i64 j.id, .string j.user, .int .i64 j.width, .int .i64 j.est, .int .i64 j.prio, .int .i64 j.sub, .int .i64 j.state, .int .i64 j.start, .int .i64 j.fin] 28))
  unfold jobV jobA
  go_enter Try.func57, Try.ntmps57
  go_upto_region 1 with fail
  obtain ⟨y, y0, y1, y2, y3, y4, y5, y6, y7, y8, _, _, _, _, _, _, _, _, _⟩ := HX.out
  generalize w.alloc (.cells #[.int .i64 j.id, .string j.user, .int .i64 j.width, .int .i64 j.est, .int .i64 j.prio, .int .i64 j.sub, .int .i64 j.state, .int .i64 j.start, .int .i64 j.fin] 28) = W at *
  go_wp2_with (go_at_call 43; refine (within_any _ _ _ _).mono ?_; rintro e w1 ⟨rfl, rfl⟩)
  go_ret
  exact ⟨rfl, HB.out⟩
/-- What a job asks for, as the code tests it. -/
theorem asked_ways (j : Jb) : (inB j.id 1 1073741824 = false ∧ baseB j = false) ∨
    (inB j.id 1 1073741824 = true ∧ nameB j.user = false ∧ baseB j = false) ∨
    (inB j.id 1 1073741824 = true ∧ nameB j.user = true ∧ inB j.width 1 256 = false ∧ baseB j = false) ∨
    (inB j.id 1 1073741824 = true ∧ nameB j.user = true ∧ inB j.width 1 256 = true ∧ inB j.est 1 1099511627776 = false ∧ baseB j = false) ∨
    (inB j.id 1 1073741824 = true ∧ nameB j.user = true ∧ inB j.width 1 256 = true ∧ inB j.est 1 1099511627776 = true ∧ inB j.prio 0 1000 = false ∧ baseB j = false) ∨
    (inB j.id 1 1073741824 = true ∧ nameB j.user = true ∧ inB j.width 1 256 = true ∧ inB j.est 1 1099511627776 = true ∧ inB j.prio 0 1000 = true ∧ inB j.sub 0 1125899906842624 = false ∧ baseB j = false) ∨
    (inB j.id 1 1073741824 = true ∧ nameB j.user = true ∧ inB j.width 1 256 = true ∧ inB j.est 1 1099511627776 = true ∧ inB j.prio 0 1000 = true ∧ inB j.sub 0 1125899906842624 = true ∧ baseB j = true) := by
  have hi : ∀ n a b, inB n a b = (!decide (n < a) && !decide (b < n)) := fun n a b => by
    unfold inB
    rw [← decide_not, ← decide_not]
    congr 1
    · exact decide_eq_decide.2 (by omega)
    · exact decide_eq_decide.2 (by omega)
  have hb : baseB j = (inB j.id 1 1073741824 && (nameB j.user && (inB j.width 1 256 && (inB j.est 1 1099511627776 && (inB j.prio 0 1000 && inB j.sub 0 1125899906842624))))) := by
    simp only [hi]
    unfold baseB
    simp only [Bool.and_assoc]
  rw [hb]
  cases inB j.id 1 1073741824 <;> cases nameB j.user <;> cases inB j.width 1 256 <;> cases inB j.est 1 1099511627776 <;> cases inB j.prio 0 1000 <;> cases inB j.sub 0 1125899906842624 <;> simp
set_option maxRecDepth 100000 in
set_option maxHeartbeats 3200000 in
theorem asked_any (j : Jb) (w : World) (hf : Fit j) : Calls Try.prog 41 #[jobV j] w (BoolIs (baseB j) w) := by
  have HX := Lib.hid (JobBox.new w j 28)
  have HB := Lib.hid ((Below.refl w.heap.size w).alloc (Nat.le_refl _) (.cells #[.int .i64 j.id, .string j.user, .int .i64 j.width, .int .i64 j.est, .int .i64 j.prio, .int .i64 j.sub, .int .i64 j.state, .int .i64 j.start, .int .i64 j.fin] 28))
  have CN := Lib.hid (fun W => name_range j.user W hf.2.2)
  unfold jobV jobA
  clear hf
  rcases asked_ways j with ⟨a1, hb⟩ | ⟨a1, a2, hb⟩ | ⟨a1, a2, a3, hb⟩ | ⟨a1, a2, a3, a4, hb⟩ | ⟨a1, a2, a3, a4, a5, hb⟩ | ⟨a1, a2, a3, a4, a5, a6, hb⟩ | ⟨a1, a2, a3, a4, a5, a6, hb⟩
  all_goals
    have HBB := Lib.hid hb
    clear hb
    go_enter Try.func41, Try.ntmps41
    go_upto_region 1 with fail
    obtain ⟨y, y0, y1, y2, y3, y4, y5, y6, y7, y8, _, _, _, _, _, _, _, _, _⟩ := HX.out
    generalize w.alloc (.cells #[.int .i64 j.id, .string j.user, .int .i64 j.width, .int .i64 j.est, .int .i64 j.prio, .int .i64 j.sub, .int .i64 j.state, .int .i64 j.start, .int .i64 j.fin] 28) = W at *
    go_wp2_with (first
      | (go_at_call 43; refine (within_any _ _ _ _).mono ?_; rintro e w1 ⟨rfl, rfl⟩)
      | (go_at_call 54; refine (CN.out _).mono ?_; rintro e w1 ⟨rfl, hb1⟩; have HB1 := Lib.hid (HB.out.trans (hb1.mono HB.out.size)); have HX1 := Lib.hid (HX.out.below hb1); clear hb1 y y0 y1 y2 y3 y4 y5 y6 y7 y8; obtain ⟨y, y0, y1, y2, y3, y4, y5, y6, y7, y8, _, _, _, _, _, _, _, _, _⟩ := HX1.out))
    go_ret
    exact ⟨by rw [HBB.out]; rfl, by first | exact HB1.out | exact HB.out⟩
end Go.Proofs.Ytjegkddpaampmaa.JobWalk
