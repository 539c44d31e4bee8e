/-
  What the theorem uses of the texts below it.
-/
import Derived.Below
import Derived.Laws.OwnMore
import Derived.Deep.Draws
import Derived.Deep.OwnRows
import Derived.Lib.Hide
import Derived.OwnWalk
import Derived.Deep.QuietTactic
import Derived.BigQuiet
import Derived.Lib.SliceRun
import Derived.Test.YtjjigkomiidipaaRows
import Derived.WalkKit
import Derived.WalkSpells
import Derived.WalkLawsBesides
import Derived.Laws.StructEq
import Derived.LoopTactic
import Derived.Deep.CutBlock
import Derived.Deep.DeepCutAuto
import Derived.Deep.RegionHeld3
import Derived.ArgAppend
import Derived.Deep.RegionLaw
import Derived.Shelf.Small.Bits
import Derived.Shelf.Small.Wraps
import Derived.Shelf.Strconv.Itoa0
import Derived.Shelf.Bits.Mul64
import Derived.Test.YtjjigkomiidipaaProg
import Derived.Lib.ItoaNum
import Derived.Laws.Bits64b
import Derived.Deep.LoopGhost
import Derived.Test.YtjjigkomiidipaaPa4
namespace Go.Proofs.Ytjjigkomiidipaa.SelWalk
open Go.RowKit Go.Proofs.Ytjjigkomiidipaa.SpanPlain Go.Proofs.Ytjjigkomiidipaa.StepPlain Go.Proofs.Ytjjigkomiidipaa.GapPlain Go.Proofs.Ytjjigkomiidipaa.JobPlain Go.Proofs.Ytjjigkomiidipaa.OrdPlain Go.Proofs.Ytjjigkomiidipaa.ApiPlain Go.Proofs.Ytjjigkomiidipaa.ShaPlain Go.Proofs.Ytjjigkomiidipaa.SlaPlain Go.Proofs.Ytjjigkomiidipaa.SelPlain Go.Proofs.Ytjjigkomiidipaa.Mem Go.Proofs.Ytjjigkomiidipaa.SpanMem Go.Proofs.Ytjjigkomiidipaa.StepMem Go.Proofs.Ytjjigkomiidipaa.JobMem Go.Proofs.Ytjjigkomiidipaa.OrdMem Go.Proofs.Ytjjigkomiidipaa.ApiMem Go.Proofs.Ytjjigkomiidipaa.SpanRef Go.Proofs.Ytjjigkomiidipaa.StepRef Go.Proofs.Ytjjigkomiidipaa.GapRef Go.Proofs.Ytjjigkomiidipaa.ShaRef Go.Proofs.Ytjjigkomiidipaa.SlaRef Go.Proofs.Ytjjigkomiidipaa.SelRef
/-- May a job ever be over a threshold? -/
def waitB (j : Jb) : Bool := decide (1 ≤ j.est) && (decide (j.est ≤ 1099511627776) && (decide (0 ≤ j.sub) && decide (j.sub ≤ 1125899906842624)))
theorem waitB_iff {j : Jb} : waitB j = true ↔ (1 ≤ j.est ∧ j.est ≤ 1099511627776) ∧ 0 ≤ j.sub ∧ j.sub ≤ 1125899906842624 := by
  unfold waitB
  simp only [Bool.and_eq_true, decide_eq_true_eq]
  constructor
  · rintro ⟨a, b, c, d⟩; exact ⟨⟨a, b⟩, c, d⟩
  · rintro ⟨⟨a, b⟩, c, d⟩; exact ⟨a, b, c, d⟩
theorem waitB_ways (a b : Int) (B : Bool) (hB : B = (decide (1 ≤ a) && (decide (a ≤ 1099511627776) && (decide (0 ≤ b) && decide (b ≤ 1125899906842624))))) : (decide (1 ≤ a) = false ∧ B = false) ∨ (decide (1 ≤ a) = true ∧ decide (a ≤ 1099511627776) = false ∧ B = false) ∨ (decide (1 ≤ a) = true ∧ decide (a ≤ 1099511627776) = true ∧ decide (0 ≤ b) = false ∧ B = false) ∨
    (decide (1 ≤ a) = true ∧ decide (a ≤ 1099511627776) = true ∧ decide (0 ≤ b) = true ∧ decide (b ≤ 1125899906842624) = false ∧ B = false) ∨ (decide (1 ≤ a) = true ∧ decide (a ≤ 1099511627776) = true ∧ decide (0 ≤ b) = true ∧ decide (b ≤ 1125899906842624) = true ∧ B = true) := by
  subst hB
  cases decide (1 ≤ a) <;> cases decide (a ≤ 1099511627776) <;> cases decide (0 ≤ b) <;> cases decide (b ≤ 1125899906842624) <;> simp
theorem over_not {j : Jb} {now num den : Int} (h : waitB j = false) : overJ j now num den = false := by
  cases ho : overJ j now num den with
  | false => rfl
  | true =>
    obtain ⟨h1, h2, _⟩ := over_iff.1 ho
    rw [waitB_iff.2 ⟨h1, h2⟩] at h
    cases h
theorem since_no {j : Jb} {num den : Int} (h : waitB j = false) : SinceIs j num den 0 false := .inr ⟨rfl, rfl, over_not h⟩
section
variable {j : Jb} {num den k : Int}
theorem since_low (hw : waitB j = true) (ht : mayT num den = true) (h1 : j.est * num ≤ den * k) (h2 : k ≤ j.est) : SinceIs j num den 0 true := by
  obtain ⟨⟨e1, e2⟩, s1, s2⟩ := waitB_iff.1 hw
  obtain ⟨_, d1, _⟩ := mayT_iff.1 ht
  refine .inl ⟨rfl, by omega, by omega, over_iff.2 ⟨⟨e1, e2⟩, ⟨s1, s2⟩, ?_⟩, fun h => by omega⟩
  have h3 : waitJ j 0 = 0 := by unfold waitJ; rw [if_neg (by omega)]
  have h4 := Int.mul_le_mul_of_nonneg_left h2 (show (0 : Int) ≤ den by omega)
  rw [h3, Int.zero_add, Int.mul_comm num, Int.mul_comm j.est den]
  omega
theorem since_late (hw : waitB j = true) (ht : mayT num den = true) (h1 : j.est * num ≤ den * k) (h0 : den * (k - 1) < j.est * num) (h2 : j.est < k) (h3 : j.sub + k - j.est ≤ 1125899906842624) : SinceIs j num den (j.sub + k - j.est) true := by
  obtain ⟨⟨e1, e2⟩, s1, s2⟩ := waitB_iff.1 hw
  obtain ⟨_, d1, _⟩ := mayT_iff.1 ht
  refine .inl ⟨rfl, by omega, h3, over_iff.2 ⟨⟨e1, e2⟩, ⟨s1, s2⟩, ?_⟩, fun _ => ?_⟩
  · have h4 : waitJ j (j.sub + k - j.est) + j.est = k := by unfold waitJ; rw [if_pos (by omega)]; omega
    rw [h4, Int.mul_comm num, Int.mul_comm k]
    exact h1
  · cases ho : overJ j (j.sub + k - j.est - 1) num den with
    | false => rfl
    | true =>
      obtain ⟨_, _, h5⟩ := over_iff.1 ho
      have h4 : waitJ j (j.sub + k - j.est - 1) + j.est = k - 1 := by unfold waitJ; split <;> omega
      rw [h4, Int.mul_comm num, Int.mul_comm (k - 1)] at h5
      omega
theorem since_never (hw : waitB j = true) (ht : mayT num den = true) (h0 : den * (k - 1) < j.est * num) (h2 : j.est < k) (h3 : 1125899906842624 < j.sub + k - j.est) : SinceIs j num den 0 false := by
  obtain ⟨⟨e1, e2⟩, s1, s2⟩ := waitB_iff.1 hw
  obtain ⟨_, d1, _⟩ := mayT_iff.1 ht
  refine .inr ⟨rfl, rfl, ?_⟩
  cases ho : overJ j 1125899906842624 num den with
  | false => rfl
  | true =>
    obtain ⟨_, _, h5⟩ := over_iff.1 ho
    have h4 : waitJ j 1125899906842624 + j.est ≤ k - 1 := by unfold waitJ; split <;> omega
    have h6 := Int.mul_le_mul_of_nonneg_left h4 (show (0 : Int) ≤ den by omega)
    rw [Int.mul_comm num, Int.mul_comm _ den] at h5
    omega
end
/-- Over, as Since tells it. -/
theorem over_since {j : Jb} {now num den t : Int} {ok : Bool} (h : (mayT num den = true ∧ SinceIs j num den t ok) ∨ (mayT num den = false ∧ t = 0 ∧ ok = false)) : overF j now num den = (ok && (decide (t ≤ now) && decide (now ≤ 1125899906842624))) := by
  unfold overF
  rcases h with ⟨hm, h⟩ | ⟨hm, _, rfl⟩
  · have hd := (mayT_iff.1 hm).2.1
    rw [hm, Bool.true_and]
    cases ok with
    | true =>
      have ht : 0 ≤ t := by
        rcases h with ⟨_, h, _⟩ | ⟨h, _⟩
        · exact h
        · cases h
      by_cases h0 : 0 ≤ now
      · rw [decide_eq_true h0, since_at hd h h0]
        cases decide (t ≤ now) <;> cases decide (now ≤ 1125899906842624) <;> rfl
      · rw [decide_eq_false h0, decide_eq_false (show ¬ t ≤ now by omega)]; rfl
    | false =>
      rcases h with ⟨h, _⟩ | ⟨_, _, h⟩
      · cases h
      · by_cases h0 : now ≤ 1125899906842624
        · cases ho : overJ j now num den with
          | true => rw [over_mono hd h0 ho] at h; cases h
          | false => simp
        · rw [decide_eq_false h0]; simp
  · rw [hm]; rfl
theorem th_s (num den : Int) (w : World) : Calls Try.prog 14 #[.int .i64 num, .int .i64 den] w (BoolQ (mayT num den) w) := by
  rcases mayT_ways num den with ⟨d1, h⟩ | ⟨d1, d2, h⟩ | ⟨d1, d2, d3, h⟩ | ⟨d1, d2, d3, d4, h⟩ | ⟨d1, d2, d3, d4, h⟩
  all_goals
    rw [h]
    clear h
    go_enter Try.func14, Try.ntmps14
    go_wp2_with fail
    go_ret
    exact ⟨rfl, rfl⟩
set_option maxHeartbeats 1600000 in
theorem wait_s (j : Jb) (w : World) : Calls Try.prog 15 #[jobV j] w (BoolS (waitB j) w) := by
  have HX := Lib.hid (JobBox.new w j 23)
  have HB := Lib.hid (box_s w (.cells #[.int .i64 j.id, .string j.user, .int .i64 j.width, .int .i64 j.est, .int .i64 j.prio, .int .i64 j.sub, .int .i64 j.state, .int .i64 j.start, .int .i64 j.fin] 23))
  have hw := waitB_ways j.est j.sub _ rfl
  unfold waitB
  generalize (decide (1 ≤ j.est) && (decide (j.est ≤ 1099511627776) && (decide (0 ≤ j.sub) && decide (j.sub ≤ 1125899906842624)))) = B at *
  unfold jobV jobA
  rcases hw with ⟨h1, rfl⟩ | ⟨h1, h2, rfl⟩ | ⟨h1, h2, h3, rfl⟩ | ⟨h1, h2, h3, h4, rfl⟩ | ⟨h1, h2, h3, h4, rfl⟩
  all_goals
    go_enter Try.func15, Try.ntmps15
    go_upto_region 1 with fail
    generalize w.alloc (.cells #[.int .i64 j.id, .string j.user, .int .i64 j.width, .int .i64 j.est, .int .i64 j.prio, .int .i64 j.sub, .int .i64 j.state, .int .i64 j.start, .int .i64 j.fin] 23) = W0 at *
    obtain ⟨y, y0, y1, y2, y3, y4, y5, y6, y7, y8, _, _, _, _, _, _, _, _, _⟩ := HX.out
    go_wp2_with fail
    go_ret
    exact ⟨rfl, HB.out⟩
def LeastZ (a b c : Int) (w : World) (e : Ending) (w' : World) : Prop := ∃ k : Int, e = .returned (.tuple #[.int .i64 k, .int .i64 0]) ∧ 0 ≤ k ∧ k ≤ 1152921504606846976 ∧ a * b ≤ c * k ∧ (k = 0 ∨ c * (k - 1) < a * b) ∧ Below w.heap.size w w'
theorem least_top {a b c k : Int} (h : c * (k - 1) < a * b) (ha : 0 ≤ a) (hb0 : 0 ≤ b) (ha2 : a ≤ 1099511627776) (hb : b ≤ 1048576) (hc : 1 ≤ c) : k ≤ 1152921504606846976 := by
  have h1 := Int.mul_le_mul ha2 hb hb0 (by omega)
  have h2 : ¬ 1152921504606846976 < k := fun h3 => by
    have h4 := Int.mul_le_mul hc (show (1152921504606846976 : Int) ≤ k - 1 by omega) (by omega) (by omega)
    omega
  omega
set_option maxHeartbeats 800000 in
theorem least_z (a b c : Int) (w : World) (ha : 0 ≤ a) (ha2 : a ≤ 1099511627776) (hb : 0 ≤ b) (hb2 : b ≤ 1048576) (hc : 1 ≤ c) (hc2 : c ≤ 1048576) : Calls Try.prog 16 #[.int .i64 a, .int .i64 b, .int .i64 c] w (LeastZ a b c w) := by
  obtain ⟨x, rfl⟩ := Int.eq_ofNat_of_zero_le ha
  obtain ⟨y, rfl⟩ := Int.eq_ofNat_of_zero_le hb
  obtain ⟨z, rfl⟩ := Int.eq_ofNat_of_zero_le (show 0 ≤ c by omega)
  refine (SatWalk.least_good x y z w (by omega) (by omega) (by omega) (by omega)).mono ?_
  rintro e w' ⟨⟨n, rfl⟩, h⟩
  have hB : Below w.heap.size w (w.drewN n) := below_drewN (Below.refl _ _) n
  rcases h with ⟨h, _⟩ | ⟨h, k, hk, rfl, h1, h2⟩
  · exfalso
    have h3 : x * y ≤ 1099511627776 * 1048576 := Nat.mul_le_mul (by omega) (by omega)
    omega
  · have h1' : (x : Int) * (y : Int) ≤ (z : Int) * (k : Int) := by exact_mod_cast h1
    have h2' : (k : Int) = 0 ∨ (z : Int) * ((k : Int) - 1) < (x : Int) * (y : Int) := by
      rcases h2 with h2 | h2
      · exact .inl (by omega)
      · by_cases hk0 : k = 0
        · exact .inl (by omega)
        · refine .inr ?_
          have : ((k - 1 : Nat) : Int) = (k : Int) - 1 := by omega
          rw [← this]
          exact_mod_cast h2
    refine ⟨k, rfl, by omega, ?_, h1', h2', hB⟩
    rcases h2' with h3 | h3
    · omega
    · exact least_top h3 ha hb ha2 hb2 hc
set_option maxHeartbeats 1600000 in
theorem since_s (j : Jb) (num den : Int) (w : World) : Calls Try.prog 6 #[jobV j, .int .i64 num, .int .i64 den] w (SinceSays j num den w) := by
  have HX := Lib.hid (JobBox.new w j 23)
  have HB := Lib.hid (box_s w (.cells #[.int .i64 j.id, .string j.user, .int .i64 j.width, .int .i64 j.est, .int .i64 j.prio, .int .i64 j.sub, .int .i64 j.state, .int .i64 j.start, .int .i64 j.fin] 23))
  have CT := Lib.hid (fun W => th_s num den W)
  have CW := Lib.hid (fun W => wait_s j W)
  cases hm : mayT num den with
  | false =>
    have HM := Lib.hid hm
    rw [hm] at CT
    clear hm CW
    unfold jobV jobA
    go_enter Try.func6, Try.ntmps6
    go_upto_region 1 with fail
    generalize w.alloc (.cells #[.int .i64 j.id, .string j.user, .int .i64 j.width, .int .i64 j.est, .int .i64 j.prio, .int .i64 j.sub, .int .i64 j.state, .int .i64 j.start, .int .i64 j.fin] 23) = W0 at *
    go_wp2_with fail
    refine (CT.out W0).mono ?_
    rintro e w1 ⟨rfl, rfl⟩
    go_wp2_with fail
    go_ret2
    exact ⟨0, false, rfl, .inr ⟨HM.out, rfl, rfl⟩, HB.out⟩
  | true =>
    have HM := Lib.hid hm
    rw [hm] at CT
    clear hm
    cases hw : waitB j with
    | false =>
      have HW := Lib.hid hw
      rw [hw] at CW
      clear hw
      unfold jobV jobA at CW ⊢
      go_enter Try.func6, Try.ntmps6
      go_upto_region 1 with fail
      generalize w.alloc (.cells #[.int .i64 j.id, .string j.user, .int .i64 j.width, .int .i64 j.est, .int .i64 j.prio, .int .i64 j.sub, .int .i64 j.state, .int .i64 j.start, .int .i64 j.fin] 23) = W0 at *
      obtain ⟨y, y0, y1, y2, y3, y4, y5, y6, y7, y8, _, _, _, _, _, _, _, _, _⟩ := HX.out
      go_wp2_with fail
      refine (CT.out W0).mono ?_
      rintro e w1 ⟨rfl, rfl⟩
      go_wp2_with fail
      refine (CW.out W0).mono ?_
      rintro e w1 ⟨rfl, hb1⟩
      have HB1 := Lib.hid (thenS HB.out hb1)
      clear hb1 y y0 y1 y2 y3 y4 y5 y6 y7 y8
      go_wp2_with fail
      go_ret2
      exact ⟨0, false, rfl, .inl ⟨HM.out, since_no HW.out⟩, HB1.out⟩
    | true =>
      have HW := Lib.hid hw
      rw [hw] at CW
      obtain ⟨⟨m1, m2⟩, m3, m4⟩ := mayT_iff.1 HM.out
      obtain ⟨⟨e1, e2⟩, e3, e4⟩ := waitB_iff.1 hw
      have CL := Lib.hid (fun W => least_z j.est num den W (by omega) e2 m1 m2 m3 m4)
      clear hw
      unfold jobV jobA at CW ⊢
      go_enter Try.func6, Try.ntmps6
      go_upto_region 1 with fail
      generalize w.alloc (.cells #[.int .i64 j.id, .string j.user, .int .i64 j.width, .int .i64 j.est, .int .i64 j.prio, .int .i64 j.sub, .int .i64 j.state, .int .i64 j.start, .int .i64 j.fin] 23) = W0 at *
      obtain ⟨y, y0, y1, y2, y3, y4, y5, y6, y7, y8, _, _, _, _, _, _, _, _, _⟩ := HX.out
      go_wp2_with fail
      refine (CT.out W0).mono ?_
      rintro e w1 ⟨rfl, rfl⟩
      go_wp2_with fail
      refine (CW.out W0).mono ?_
      rintro e w1 ⟨rfl, hb1⟩
      have HB1 := Lib.hid (thenS HB.out hb1)
      have HX1 := Lib.hid (HX.out.below hb1)
      clear hb1 y y0 y1 y2 y3 y4 y5 y6 y7 y8 HX HB CW CT
      obtain ⟨y, y0, y1, y2, y3, y4, y5, y6, y7, y8, _, _, _, _, _, _, _, _, _⟩ := HX1.out
      go_wp2_with fail
      refine (CL.out w1).mono ?_
      rintro e w2 ⟨k, rfl, k0, k1, k2, k3, hb2⟩
      have HB2 := Lib.hid (thenS HB1.out hb2)
      have HX2 := Lib.hid (HX1.out.below hb2)
      have K2 := Lib.hid k2
      have K3 := Lib.hid k3
      clear k2 k3 hb2 y y0 y1 y2 y3 y4 y5 y6 y7 y8 HX1 HB1 CL
      obtain ⟨y, y0, y1, y2, y3, y4, y5, y6, y7, y8, _, _, _, _, _, _, _, _, _⟩ := HX2.out
      by_cases h1 : k ≤ j.est
      · have HS := Lib.hid (since_low HW.out HM.out K2.out h1)
        have d1 : decide (k ≤ j.est) = true := decide_eq_true h1
        go_wp2_with fail
        go_ret2
        exact ⟨0, true, rfl, .inl ⟨HM.out, HS.out⟩, HB2.out⟩
      · have h2 : j.est < k := by omega
        have K4 := Lib.hid (K3.out.resolve_left (by omega))
        have d1 : decide (k ≤ j.est) = false := decide_eq_false h1
        by_cases h3 : j.sub + k - j.est ≤ 1125899906842624
        · have HS := Lib.hid (since_late HW.out HM.out K2.out K4.out h2 h3)
          have d2 : decide (1125899906842624 < j.sub + k - j.est) = false := decide_eq_false (by omega)
          go_wp2_with fail
          go_ret2
          exact ⟨_, true, rfl, .inl ⟨HM.out, HS.out⟩, HB2.out⟩
        · have HS := Lib.hid (since_never HW.out HM.out K4.out h2 (by omega))
          have d2 : decide (1125899906842624 < j.sub + k - j.est) = true := decide_eq_true (by omega)
          go_wp2_with fail
          go_ret2
          exact ⟨0, false, rfl, .inl ⟨HM.out, HS.out⟩, HB2.out⟩
set_option maxHeartbeats 1600000 in
theorem overS (j : Jb) (now num den : Int) (w : World) : Calls Try.prog 5 #[jobV j, .int .i64 now, .int .i64 num, .int .i64 den] w (BoolS (overF j now num den) w) := by
  have HX := Lib.hid (JobBox.new w j 23)
  have HB := Lib.hid (box_s w (.cells #[.int .i64 j.id, .string j.user, .int .i64 j.width, .int .i64 j.est, .int .i64 j.prio, .int .i64 j.sub, .int .i64 j.state, .int .i64 j.start, .int .i64 j.fin] 23))
  have CS := Lib.hid (fun W => since_s j num den W)
  have HO := Lib.hid (fun t ok h => over_since (j := j) (now := now) (num := num) (den := den) (t := t) (ok := ok) h)
  generalize overF j now num den = o at *
  unfold jobV jobA at CS ⊢
  go_enter Try.func5, Try.ntmps5
  go_upto_region 1 with fail
  generalize w.alloc (.cells #[.int .i64 j.id, .string j.user, .int .i64 j.width, .int .i64 j.est, .int .i64 j.prio, .int .i64 j.sub, .int .i64 j.state, .int .i64 j.start, .int .i64 j.fin] 23) = W0 at *
  obtain ⟨y, y0, y1, y2, y3, y4, y5, y6, y7, y8, _, _, _, _, _, _, _, _, _⟩ := HX.out
  go_wp2_with fail
  refine (CS.out W0).mono ?_
  rintro e w1 ⟨t, ok, rfl, hs, hb1⟩
  have HB1 := Lib.hid (thenS HB.out hb1)
  have HR := Lib.hid (HO.out t ok hs)
  clear hs hb1 y y0 y1 y2 y3 y4 y5 y6 y7 y8 HX HB CS HO
  cases ok with
  | false =>
    go_wp2_with fail
    go_ret
    exact ⟨by rw [HR.out]; rfl, HB1.out⟩
  | true =>
    cases d1 : decide (t ≤ now) with
    | false =>
      go_wp2_with fail
      go_ret
      exact ⟨by rw [HR.out, d1]; rfl, HB1.out⟩
    | true =>
      cases d2 : decide (now ≤ 1125899906842624) with
      | false =>
        go_wp2_with fail
        go_ret
        exact ⟨by rw [HR.out, d1, d2]; rfl, HB1.out⟩
      | true =>
        go_wp2_with fail
        go_ret
        exact ⟨by rw [HR.out, d1, d2]; rfl, HB1.out⟩
theorem sinceS (j : Jb) (num den : Int) (w : World) : Calls Try.prog 6 #[jobV j, .int .i64 num, .int .i64 den] w (SinceSays j num den w) := since_s j num den w
end Go.Proofs.Ytjjigkomiidipaa.SelWalk
namespace Go.Proofs.Ytjjigkomiidipaa.TogPlain
open Go.Proofs.Ytjjigkomiidipaa.SpanPlain Go.Proofs.Ytjjigkomiidipaa.StepPlain Go.Proofs.Ytjjigkomiidipaa.GapPlain Go.Proofs.Ytjjigkomiidipaa.JobPlain Go.Proofs.Ytjjigkomiidipaa.OrdPlain Go.Proofs.Ytjjigkomiidipaa.ApiPlain Go.Proofs.Ytjjigkomiidipaa.ShaPlain Go.Proofs.Ytjjigkomiidipaa.SlaPlain
/-- How many processors of one that is laid, at a time. -/
def oneT (x : Int × Jb) (t : Int) : Int := if x.1 ≤ t ∧ t < x.1 + x.2.est then x.2.width else 0
def covT : List (Int × Jb) → Int → Int
  | [], _ => 0
  | x :: l, t => oneT x t + covT l t
theorem cov_cons (x : Int × Jb) (l : List (Int × Jb)) (t : Int) : covT (x :: l) t = oneT x t + covT l t := rfl
theorem cov_perm {l m : List (Int × Jb)} (h : l.Perm m) (t : Int) : covT l t = covT m t := by
  induction h with
  | nil => rfl
  | cons x _ ih => rw [cov_cons, cov_cons, ih]
  | swap x y l => simp only [cov_cons]; omega
  | trans _ _ ih1 ih2 => rw [ih1, ih2]
/-- May one be laid at all? -/
structure MayT (s : List Sp) (x : Int × Jb) : Prop where
  w1 : 1 ≤ x.2.width
  w2 : x.2.width ≤ 256
  e1 : 1 ≤ x.2.est
  e2 : x.2.est ≤ 1099511627776
  lo : head s ≤ x.1
  hi : x.1 ≤ 1125899906842624
theorem one_pos {s : List Sp} {x : Int × Jb} (h : MayT s x) (t : Int) : 0 ≤ oneT x t := by
  unfold oneT
  have := h.w1
  split <;> omega
theorem cov_pos {s : List Sp} : ∀ {l : List (Int × Jb)}, (∀ x ∈ l, MayT s x) → ∀ t, 0 ≤ covT l t
  | [], _, _ => Int.le_refl _
  | x :: l, h, t => by
    unfold covT
    have h1 := one_pos (h x (List.mem_cons_self ..)) t
    have h2 := cov_pos (fun y hy => h y (List.mem_cons_of_mem _ hy)) t
    omega
/-- All have room together. -/
structure Tog (s : List Sp) (l : List (Int × Jb)) : Prop where
  chk : Chk s
  may : ∀ x ∈ l, MayT s x
  room : ∀ t, head s ≤ t → covT l t ≤ val s t
theorem Tog.perm {s : List Sp} {l m : List (Int × Jb)} (h : Tog s l) (hp : l.Perm m) : Tog s m :=
  ⟨h.chk, fun x hx => h.may x (hp.mem_iff.2 hx), fun t ht => by rw [← cov_perm hp t]; exact h.room t ht⟩
theorem Tog.tail {s : List Sp} {x : Int × Jb} {l : List (Int × Jb)} (h : Tog s (x :: l)) : Tog s l :=
  ⟨h.chk, fun y hy => h.may y (List.mem_cons_of_mem _ hy), fun t ht => by
    have h1 := h.room t ht
    have h2 := one_pos (h.may x (List.mem_cons_self ..)) t
    unfold covT at h1
    omega⟩
theorem Tog.ok {s : List Sp} {x : Int × Jb} {l : List (Int × Jb)} (h : Tog s (x :: l)) : okG s x.1 x.2.width x.2.est = true := by
  have hm := h.may x (List.mem_cons_self ..)
  refine okG_iff.2 ⟨mayG_iff.2 ⟨h.chk, ⟨hm.w1, hm.w2⟩, hm.e1, hm.e2⟩, hm.lo, hm.hi, fun t h1 h2 => ?_⟩
  have h3 := h.room t (Int.le_trans hm.lo h1)
  have h4 := cov_pos h.tail.may t
  unfold covT oneT at h3
  rw [if_pos ⟨h1, h2⟩] at h3
  omega
/-- Laid one behind the other. -/
def laidL : List Sp → List (Int × Jb) → List Sp
  | s, [] => s
  | s, x :: l => laidL (layL s x.1 x.2) l
def SeqOk : List Sp → List (Int × Jb) → Prop
  | s, [] => Chk s
  | s, x :: l => okG s x.1 x.2.width x.2.est = true ∧ SeqOk (layL s x.1 x.2) l
theorem laid_snoc : ∀ (l : List (Int × Jb)) (s : List Sp) (x : Int × Jb), laidL s (l ++ [x]) = layL (laidL s l) x.1 x.2
  | [], _, _ => rfl
  | y :: l, s, x => by rw [List.cons_append]; unfold laidL; exact laid_snoc l _ x
theorem seq_snoc : ∀ {l : List (Int × Jb)} {s : List Sp} {x : Int × Jb}, SeqOk s l → okG (laidL s l) x.1 x.2.width x.2.est = true → SeqOk s (l ++ [x])
  | [], s, x, _, h => ⟨h, (layL_chk h).1⟩
  | y :: l, s, x, h, h2 => by
    rw [List.cons_append]
    exact ⟨h.1, seq_snoc h.2 h2⟩
theorem seq_chk : ∀ {l : List (Int × Jb)} {s : List Sp}, SeqOk s l → Chk (laidL s l) ∧ head (laidL s l) = head s
  | [], _, h => ⟨h, rfl⟩
  | x :: l, s, h => by
    obtain ⟨h1, h2⟩ := seq_chk h.2
    exact ⟨h1, h2.trans (layL_chk h.1).2⟩
end Go.Proofs.Ytjjigkomiidipaa.TogPlain
namespace Go.Proofs.Ytjjigkomiidipaa.PasPlain
open Go.Proofs.Ytjjigkomiidipaa.SpanPlain Go.Proofs.Ytjjigkomiidipaa.StepPlain Go.Proofs.Ytjjigkomiidipaa.GapPlain Go.Proofs.Ytjjigkomiidipaa.JobPlain Go.Proofs.Ytjjigkomiidipaa.OrdPlain Go.Proofs.Ytjjigkomiidipaa.ApiPlain Go.Proofs.Ytjjigkomiidipaa.ShaPlain Go.Proofs.Ytjjigkomiidipaa.SlaPlain Go.Proofs.Ytjjigkomiidipaa.TogPlain
/-- How a pass stands: the steps; those that are promised, and when; those that are started; all that is laid, in the order in which it was. -/
structure Pas where
  s : List Sp
  Q : List (Int × Jb)
  R : List Jb
  O : List (Int × Jb)
def Pas.new (s : List Sp) : Pas := ⟨s, [], [], []⟩
def startP (now : Int) (x : Pas) (j : Jb) : Pas := ⟨layL x.s now j, x.Q, x.R ++ [j], x.O ++ [(now, j)]⟩
def promP (x : Pas) (a : Int) (j : Jb) : Pas := ⟨layL x.s a j, x.Q ++ [(a, j)], x.R, x.O ++ [(a, j)]⟩
def prmQ (q : Int × Jb) : Prm := ⟨q.2.id, q.1, 0⟩
/-- What the plan tells. -/
def Pas.st (x : Pas) : List Int := x.R.map (·.id)
def Pas.P (x : Pas) : List Prm := x.Q.map prmQ
theorem st_start (now : Int) (x : Pas) (j : Jb) : (startP now x j).st = x.st ++ [j.id] := by simp [Pas.st, startP]
theorem st_prom (x : Pas) (a : Int) (j : Jb) : (promP x a j).st = x.st := rfl
theorem P_start (now : Int) (x : Pas) (j : Jb) : (startP now x j).P = x.P := rfl
theorem P_prom (x : Pas) (a : Int) (j : Jb) : (promP x a j).P = x.P ++ [⟨j.id, a, 0⟩] := by simp [Pas.P, promP, prmQ]
structure PasOk (s : List Sp) (now : Int) (x : Pas) : Prop where
  seq : SeqOk s x.O
  laid : x.s = laidL s x.O
  perm : x.O.Perm (x.Q ++ x.R.map fun j => (now, j))
  late : ∀ q ∈ x.Q, now < q.1
section
variable {s : List Sp} {now : Int} {x : Pas} {j : Jb}
theorem PasOk.new (h : Chk s) : PasOk s now (Pas.new s) := ⟨h, rfl, List.Perm.nil, (fun _ h => by cases h)⟩
theorem PasOk.start (h : PasOk s now x) (hk : okG x.s now j.width j.est = true) : PasOk s now (startP now x j) := by
  refine ⟨seq_snoc h.seq (by rw [← h.laid]; exact hk), ?_, ?_, h.late⟩
  · show layL x.s now j = laidL s (x.O ++ [(now, j)])
    rw [laid_snoc, ← h.laid]
  · show (x.O ++ [(now, j)]).Perm (x.Q ++ (x.R ++ [j]).map fun j => (now, j))
    rw [List.map_append, ← List.append_assoc]
    exact h.perm.append_right _
theorem PasOk.prom {a : Int} (h : PasOk s now x) (hk : okG x.s a j.width j.est = true) (ha : now < a) : PasOk s now (promP x a j) := by
  refine ⟨seq_snoc h.seq (by rw [← h.laid]; exact hk), ?_, ?_, ?_⟩
  · show layL x.s a j = laidL s (x.O ++ [(a, j)])
    rw [laid_snoc, ← h.laid]
  · show (x.O ++ [(a, j)]).Perm (x.Q ++ [(a, j)] ++ x.R.map fun j => (now, j))
    refine (h.perm.append_right _).trans ?_
    rw [List.append_assoc, List.append_assoc]
    exact List.Perm.append_left _ List.perm_append_comm
  · intro q hq
    rcases List.mem_append.1 hq with hq | hq
    · exact h.late q hq
    · rw [List.mem_singleton] at hq; subst hq; exact ha
theorem PasOk.chk (h : PasOk s now x) : Chk x.s ∧ head x.s = head s := by rw [h.laid]; exact seq_chk h.seq
theorem PasOk.len (h : PasOk s now x) : x.O.length = x.Q.length + x.R.length := by
  have := h.perm.length_eq
  simpa using this
end
/-- All that is laid: promises first, then starts. -/
def seqT (x : Pas) (now : Int) : List (Int × Jb) := x.Q ++ x.R.map fun j => (now, j)
theorem P_len (x : Pas) : x.P.length = x.Q.length := by simp [Pas.P]
theorem st_len (x : Pas) : x.st.length = x.R.length := by simp [Pas.st]
theorem PasOk.mem {s : List Sp} {now : Int} {x : Pas} (h : PasOk s now x) {q : Int × Jb} (hq : q ∈ seqT x now) : q ∈ x.O := h.perm.mem_iff.2 hq
/-- What becomes of one job: it starts, or is late, or has no shadow. -/
theorem fit_ways {x : Pas} {now : Int} {j : Jb} (hn : 0 ≤ now) : (fitF x.s now j = now ∧ okG x.s now j.width j.est = true) ∨ (now < fitF x.s now j ∧ okG x.s (fitF x.s now j) j.width j.est = true) ∨ (fitF x.s now j < 0 ∧ ¬ fitF x.s now j = now ∧ ¬ now < fitF x.s now j) := by
  by_cases h : 0 ≤ fitF x.s now j
  · obtain ⟨h1, h2, _⟩ := fitF_ok h
    by_cases h3 : fitF x.s now j = now
    · exact .inl ⟨h3, by rw [h3] at h1; exact h1⟩
    · exact .inr (.inl ⟨by omega, h1⟩)
  · exact .inr (.inr ⟨by omega, by omega, by omega⟩)
/-- EASY. -/
def easyOne (now : Int) (head : Bool) (x : Pas) (j : Jb) : Pas :=
  if fitF x.s now j = now then startP now x j else if now < fitF x.s now j ∧ head = true ∧ x.Q = [] then promP x (fitF x.s now j) j else x
def easyP (s : List Sp) (now : Int) (js : List Jb) (head : Bool) : Pas := js.foldl (easyOne now head) (Pas.new s)
end Go.Proofs.Ytjjigkomiidipaa.PasPlain
namespace Go.Proofs.Ytjjigkomiidipaa.QuePlain
open Go.RowKit Go.Proofs.Ytjjigkomiidipaa.ApiPlain Go.Proofs.Ytjjigkomiidipaa.JobPlain
def mayC (c : Cl) : Bool := nameB c.name && (decide (1 ≤ c.minW) && (decide (c.minW ≤ c.maxW) && (decide (c.maxW ≤ 256) && (decide (1 ≤ c.minE) && (decide (c.minE ≤ c.maxE) && decide (c.maxE ≤ 1099511627776))))))
def hasC (c : Cl) (w e : Int) : Bool := mayC c && (decide (c.minW ≤ w) && (decide (w ≤ c.maxW) && (decide (c.minE ≤ e) && decide (e ≤ c.maxE))))
end Go.Proofs.Ytjjigkomiidipaa.QuePlain
namespace Go.Proofs.Ytjjigkomiidipaa.MulPlain
open Go.Proofs.Ytjjigkomiidipaa.SpanPlain Go.Proofs.Ytjjigkomiidipaa.StepPlain Go.Proofs.Ytjjigkomiidipaa.GapPlain Go.Proofs.Ytjjigkomiidipaa.JobPlain Go.Proofs.Ytjjigkomiidipaa.OrdPlain Go.Proofs.Ytjjigkomiidipaa.ApiPlain Go.Proofs.Ytjjigkomiidipaa.ShaPlain Go.Proofs.Ytjjigkomiidipaa.SlaPlain Go.Proofs.Ytjjigkomiidipaa.TogPlain Go.Proofs.Ytjjigkomiidipaa.PasPlain Go.Proofs.Ytjjigkomiidipaa.QuePlain
/-- Which class has a width and a length, as a function that can be run. -/
def ofE (l : List Cl) (w e : Int) : Int := match l.findIdx? (fun c => hasC c w e) with | some i => (i : Int) | none => -1
/-- One class's jobs, or, behind all classes, the rest: what is started and promised, the head's Id, the jobs that are left. -/
def mulIn (cls : List Cl) (now : Int) (c : Nat) (pr : Bool) : Pas → Bool → Int → List Jb → Pas × Int × List Jb
  | x, _, h, [] => (x, h, [])
  | x, stop, h, j :: l =>
    if stop = true ∨ (c < cls.length ∧ ofE cls j.width j.est ≠ c) then ((mulIn cls now c pr x stop h l).1, (mulIn cls now c pr x stop h l).2.1, j :: (mulIn cls now c pr x stop h l).2.2)
    else if fitF x.s now j = now then mulIn cls now c pr (startP now x j) stop h l
    else if now < fitF x.s now j ∧ c < cls.length then
      if pr = true then mulIn cls now c pr (promP x (fitF x.s now j) j) true j.id l
      else ((mulIn cls now c pr x true j.id l).1, (mulIn cls now c pr x true j.id l).2.1, j :: (mulIn cls now c pr x true j.id l).2.2)
    else ((mulIn cls now c pr x stop h l).1, (mulIn cls now c pr x stop h l).2.1, j :: (mulIn cls now c pr x stop h l).2.2)
section
variable {cls : List Cl} {now : Int} {c : Nat} {pr : Bool}
theorem mul_stop : ∀ (l : List Jb) (x : Pas) (h : Int), mulIn cls now c pr x true h l = (x, h, l)
  | [], _, _ => rfl
  | j :: l, x, h => by
    unfold mulIn
    rw [if_pos (.inl rfl), mul_stop l x h]
/-- At most one is promised, of this class. -/
theorem mul_one : ∀ (l : List Jb) (x : Pas) (h : Int), (mulIn cls now c pr x false h l).1.Q = x.Q ∨ ∃ a j, (mulIn cls now c pr x false h l).1.Q = x.Q ++ [(a, j)] ∧ c < cls.length ∧ ofE cls j.width j.est = c
  | [], _, _ => .inl rfl
  | j :: l, x, h => by
    unfold mulIn
    split
    · exact mul_one l x h
    · rename_i hs
      split
      · exact mul_one l (startP now x j) h
      · split
        · rename_i hlt
          split
          · rw [mul_stop]
            refine .inr ⟨_, j, rfl, hlt.2, ?_⟩
            by_cases he : ofE cls j.width j.est = c
            · exact he
            · exact absurd (.inr ⟨hlt.2, he⟩) hs
          · rw [mul_stop]; exact .inl rfl
        · exact mul_one l x h
end
end Go.Proofs.Ytjjigkomiidipaa.MulPlain
namespace Go.Proofs.Ytjjigkomiidipaa.JobRef
open Go.RowKit Go.Proofs.Ytjjigkomiidipaa.JobPlain Go.Proofs.Ytjjigkomiidipaa.Mem Go.Proofs.Ytjjigkomiidipaa.JobMem
/-- The first k bytes are letters. -/
def LetTo (s : ByteArray) (k : Nat) : Prop := ∀ c ∈ s.data.toList.take k, letB c = true
theorem LetTo.zero (s : ByteArray) : LetTo s 0 := fun c hc => by simp at hc
end Go.Proofs.Ytjjigkomiidipaa.JobRef
namespace Go.Proofs.Ytjjigkomiidipaa.JobRef
open Go.RowKit Go.Proofs.Ytjjigkomiidipaa.JobPlain Go.Proofs.Ytjjigkomiidipaa.Mem Go.Proofs.Ytjjigkomiidipaa.JobMem
end Go.Proofs.Ytjjigkomiidipaa.JobRef
namespace Go.Proofs.Ytjjigkomiidipaa.OrdTake
open Go.RowKit Go.Proofs.Ytjjigkomiidipaa.JobPlain Go.Proofs.Ytjjigkomiidipaa.OrdPlain Go.Proofs.Ytjjigkomiidipaa.Mem Go.Proofs.Ytjjigkomiidipaa.JobMem Go.Proofs.Ytjjigkomiidipaa.OrdMem
def nthJ (js : List Jb) (k : Nat) : Jb := js.getD k noJb
theorem nthJ_at {js : List Jb} {k : Nat} (h : k < js.length) : nthJ js k = js[k] := by unfold nthJ; simp [List.getD, h]
theorem jvals_take (js : List Jb) {k : Nat} (hk : k ≤ js.length) : (jvals js).take (k * 9) = jvals (js.take k) := by
  have h : jvals js = jvals (js.take k) ++ jvals (js.drop k) := by rw [← jvals_append, List.take_append_drop]
  rw [h]
  exact List.take_left' (by rw [jvals_len, List.length_take, Nat.min_eq_left hk])
theorem jobs_take {js : List Jb} {w : World} {ad : Addr} {d k : Nat} (h : JobsIs js w (.slice (some ad) js.length d)) (hk : k ≤ js.length) : JobsIs (js.take k) w (.slice (some ad) k d) := by
  rcases h with ⟨h, _⟩ | ⟨a, c, e, hr, hn⟩
  · cases h
  · injection e with e1 e2 e3
    injection e1 with e1
    subst e1 e3
    refine .inr ⟨ad, d, by rw [List.length_take, Nat.min_eq_left hk], ?_, by rw [List.length_take]; omega⟩
    rw [← jvals_take js hk]
    exact hr.take _
theorem find_less {l : List Jb} {id : Int} (h : findL l id < 0) : ∀ j ∈ l, j.id ≠ id := by
  unfold findL at h
  split at h
  · omega
  · rename_i he
    unfold findTo at he
    rw [List.findIdx?_eq_none_iff] at he
    intro j hj e
    have := he j hj
    simp [e] at this
theorem nodup_of {js : List Jb} (h : ∀ k, k < js.length → findL (js.take k) (nthJ js k).id < 0) : (js.map (·.id)).Nodup := by
  rw [List.nodup_iff_pairwise_ne, List.pairwise_iff_getElem]
  intro i k hi hk hik
  rw [List.length_map] at hi hk
  rw [List.getElem_map, List.getElem_map]
  have h1 := find_less (h k hk) js[i] (by
    rw [List.mem_iff_getElem]
    exact ⟨i, by rw [List.length_take]; omega, by rw [List.getElem_take]⟩)
  rwa [nthJ_at hk] at h1
end Go.Proofs.Ytjjigkomiidipaa.OrdTake
namespace Go.Proofs.Ytjjigkomiidipaa.MulRef
open Go.RowKit Go.Proofs.Ytjjigkomiidipaa.SpanPlain Go.Proofs.Ytjjigkomiidipaa.StepPlain Go.Proofs.Ytjjigkomiidipaa.JobPlain Go.Proofs.Ytjjigkomiidipaa.OrdPlain Go.Proofs.Ytjjigkomiidipaa.ApiPlain Go.Proofs.Ytjjigkomiidipaa.QuePlain Go.Proofs.Ytjjigkomiidipaa.Mem Go.Proofs.Ytjjigkomiidipaa.SpanMem Go.Proofs.Ytjjigkomiidipaa.StepMem Go.Proofs.Ytjjigkomiidipaa.JobMem Go.Proofs.Ytjjigkomiidipaa.OrdMem Go.Proofs.Ytjjigkomiidipaa.ApiMem Go.Proofs.Ytjjigkomiidipaa.StepRef Go.Proofs.Ytjjigkomiidipaa.ShaRef Go.Proofs.Ytjjigkomiidipaa.SlaRef Go.Proofs.Ytjjigkomiidipaa.QueRef Go.Proofs.Ytjjigkomiidipaa.OrdTake
def IntM (n : Int) (w : World) (e : Ending) (w' : World) : Prop := e = .returned (.int .i64 n) ∧ Below w.heap.size w w'
end Go.Proofs.Ytjjigkomiidipaa.MulRef
namespace Go.Proofs.Ytjjigkomiidipaa.MulWalk
open Go.RowKit Go.Proofs.Ytjjigkomiidipaa.SpanPlain Go.Proofs.Ytjjigkomiidipaa.StepPlain Go.Proofs.Ytjjigkomiidipaa.JobPlain Go.Proofs.Ytjjigkomiidipaa.OrdPlain Go.Proofs.Ytjjigkomiidipaa.ApiPlain Go.Proofs.Ytjjigkomiidipaa.QuePlain Go.Proofs.Ytjjigkomiidipaa.TogPlain Go.Proofs.Ytjjigkomiidipaa.PasPlain Go.Proofs.Ytjjigkomiidipaa.MulPlain Go.Proofs.Ytjjigkomiidipaa.Mem Go.Proofs.Ytjjigkomiidipaa.SpanMem Go.Proofs.Ytjjigkomiidipaa.StepMem Go.Proofs.Ytjjigkomiidipaa.JobMem Go.Proofs.Ytjjigkomiidipaa.OrdMem Go.Proofs.Ytjjigkomiidipaa.ApiMem Go.Proofs.Ytjjigkomiidipaa.StepRef Go.Proofs.Ytjjigkomiidipaa.ShaRef Go.Proofs.Ytjjigkomiidipaa.SlaRef Go.Proofs.Ytjjigkomiidipaa.QueRef Go.Proofs.Ytjjigkomiidipaa.OrdTake Go.Proofs.Ytjjigkomiidipaa.MulRef Go.Proofs.Ytjjigkomiidipaa.QueLight
/-- A plan that is told: with no error the pass's, else none. -/
def PlanSays (code : Int) (x : Pas) (w : World) (e : Ending) (w' : World) : Prop :=
  ∃ a b c st P t, e = .returned (.tuple #[.agg #[a, b], c, .int .i64 code]) ∧ IntsAt st w' a ∧ prmL.Is P w' b ∧ SpansIs t w' c ∧ ((code = 0 ∧ st = x.st ∧ P = x.P ∧ t = x.s) ∨ (code ≠ 0 ∧ st = [] ∧ P = [] ∧ t = [])) ∧ Below w.heap.size w w'
end Go.Proofs.Ytjjigkomiidipaa.MulWalk
namespace Go.Proofs.Ytjjigkomiidipaa.ShaWalk
open Go.RowKit Go.Proofs.Ytjjigkomiidipaa.SpanPlain Go.Proofs.Ytjjigkomiidipaa.StepPlain Go.Proofs.Ytjjigkomiidipaa.GapPlain Go.Proofs.Ytjjigkomiidipaa.JobPlain Go.Proofs.Ytjjigkomiidipaa.ShaPlain Go.Proofs.Ytjjigkomiidipaa.Mem Go.Proofs.Ytjjigkomiidipaa.SpanMem Go.Proofs.Ytjjigkomiidipaa.StepMem Go.Proofs.Ytjjigkomiidipaa.JobMem Go.Proofs.Ytjjigkomiidipaa.OrdMem Go.Proofs.Ytjjigkomiidipaa.SpanRef Go.Proofs.Ytjjigkomiidipaa.StepRef Go.Proofs.Ytjjigkomiidipaa.GapRef Go.Proofs.Ytjjigkomiidipaa.ShaRef
def ShSays (s : List Sp) (now : Int) (j : Jb) (w : World) (e : Ending) (w' : World) : Prop := ∃ a p b, e = .returned (.tuple #[.int .i64 a, .int .i64 p, .bool b]) ∧ ShIs s now j a p b ∧ Below w.heap.size w w'
end Go.Proofs.Ytjjigkomiidipaa.ShaWalk
namespace Go.Proofs.Ytjjigkomiidipaa.PasWalk
open Go.RowKit Go.Proofs.Ytjjigkomiidipaa.SpanPlain Go.Proofs.Ytjjigkomiidipaa.StepPlain Go.Proofs.Ytjjigkomiidipaa.GapPlain Go.Proofs.Ytjjigkomiidipaa.JobPlain Go.Proofs.Ytjjigkomiidipaa.OrdPlain Go.Proofs.Ytjjigkomiidipaa.ApiPlain Go.Proofs.Ytjjigkomiidipaa.ShaPlain Go.Proofs.Ytjjigkomiidipaa.SlaPlain Go.Proofs.Ytjjigkomiidipaa.TogPlain Go.Proofs.Ytjjigkomiidipaa.PasPlain Go.Proofs.Ytjjigkomiidipaa.Mem Go.Proofs.Ytjjigkomiidipaa.SpanMem Go.Proofs.Ytjjigkomiidipaa.StepMem Go.Proofs.Ytjjigkomiidipaa.JobMem Go.Proofs.Ytjjigkomiidipaa.OrdMem Go.Proofs.Ytjjigkomiidipaa.ApiMem Go.Proofs.Ytjjigkomiidipaa.SpanRef Go.Proofs.Ytjjigkomiidipaa.StepRef Go.Proofs.Ytjjigkomiidipaa.GapRef Go.Proofs.Ytjjigkomiidipaa.ShaRef Go.Proofs.Ytjjigkomiidipaa.SlaRef
open Go.Proofs.Ytjjigkomiidipaa.StepWalk (NewAt)
open Go.Proofs.Ytjjigkomiidipaa.MulWalk (PlanSays)
theorem ok_fit {s : List Sp} {now : Int} {j : Jb} (hn : 0 ≤ now) (h : okG s now j.width j.est = true) : fitF s now j = now := by
  obtain ⟨hm, hr⟩ := okG_iff.1 h
  rcases fitF_cases s now j with ⟨_, h2⟩ | ⟨h1, h2⟩
  · rcases h2 with ⟨h2, _⟩ | ⟨_, _, h3 | h3⟩
    · cases h2
    · rw [hm] at h3; cases h3
    · exact absurd hr (h3 now (Int.le_refl _))
  · rcases h2 with ⟨_, _, h3, _, h4⟩ | ⟨h2, _⟩
    · have := h4 now (Int.le_refl _) hr
      omega
    · cases h2
theorem no_fit {s : List Sp} {now : Int} {j : Jb} (hn : 0 ≤ now) (h : okG s now j.width j.est = false) : fitF s now j ≠ now := fun e => by
  have h1 := fitF_ok (s := s) (now := now) (j := j) (by omega)
  rw [e, h] at h1
  cases h1.1
theorem sh_yes {s : List Sp} {now a : Int} {j : Jb} (h : FitIs s now j.width j.est a true) : fitF s now j = a := by
  rcases fitF_cases s now j with ⟨_, h2⟩ | ⟨_, h2⟩
  · cases (h2.unique h).2
  · exact (h2.unique h).1
theorem sh_no {s : List Sp} {now a : Int} {j : Jb} (h : FitIs s now j.width j.est a false) : fitF s now j = -1 := by
  rcases fitF_cases s now j with ⟨h1, _⟩ | ⟨_, h2⟩
  · exact h1
  · cases (h2.unique h).2
theorem sh_late {s : List Sp} {now a : Int} {j : Jb} (h : FitIs s now j.width j.est a true) (hk : okG s now j.width j.est = false) : now < a ∧ okG s a j.width j.est = true := by
  rcases h with ⟨_, hm, h3, hr, _⟩ | ⟨h, _⟩
  · refine ⟨?_, okG_iff.2 ⟨hm, hr⟩⟩
    rcases Int.lt_or_eq_of_le h3 with h4 | h4
    · exact h4
    · subst h4
      rw [okG_iff.2 ⟨hm, hr⟩] at hk
      cases hk
  · cases h
structure PasAt (x : Pas) (w : World) (N : Nat) (sv av bv : Value) (wr : World) : Prop where
  st : SpansIs x.s wr sv
  rows : OwnN 3 1 (w.heap.size + 1) wr av x.st.length (ivals x.st)
  prms : OwnN 48 3 (w.heap.size + 1) wr bv x.P.length (prmL.vals x.P)
  noA : av.ownBlock ≠ some N
  noB : bv.ownBlock ≠ some N
  apart : ∀ b, av.ownBlock = some b → bv.ownBlock ≠ some b
  offA : OffN x.s.length sv av
  offB : OffN x.s.length sv bv
  away : ∀ a m c, sv = .slice (some a) m c → 0 < x.s.length → a.block ≠ w.heap.size ∧ a.block ≠ N
  box : Box2 wr N av bv
  ret : Box2 wr w.heap.size (.slice none 0 0) (.slice none 0 0)
  lt : w.heap.size < N
  bel : Below w.heap.size w wr
section
variable {x : Pas} {w : World} {N : Nat} {sv av bv : Value} {wr w' : World}
theorem PasAt.below (h : PasAt x w N sv av bv wr) (hb : Below wr.heap.size wr w') : PasAt x w N sv av bv w' :=
  ⟨h.st.below hb, h.rows.below hb, h.prms.below hb, h.noA, h.noB, h.apart, h.offA, h.offB, h.away, h.box.below hb, h.ret.below hb, h.lt, thenS h.bel hb⟩
theorem PasAt.alloc (h : PasAt x w N sv av bv wr) (o : Obj) : PasAt x w N sv av bv (wr.alloc o) := h.below ((Below.refl _ _).alloc (Nat.le_refl _) o)
theorem PasAt.steps {r : List Sp} {v : Value} (h : PasAt x w N sv av bv wr) (hb : Below wr.heap.size wr w') (hs : SpansIs r w' v) (hn : NewAt wr.heap.size v) : PasAt ⟨r, x.Q, x.R, x.O⟩ w N v av bv w' := by
  have hlt := h.box.lt
  have hlt2 := h.lt
  refine ⟨hs, h.rows.below hb, h.prms.below hb, h.noA, h.noB, h.apart, OffN.fresh hn h.rows, OffN.fresh hn h.prms, (fun a m c e _ => by have := hn a m c e; omega), h.box.below hb, h.ret.below hb, h.lt, thenS h.bel hb⟩
theorem PasAt.start {j : Jb} {O : List (Int × Jb)} {A4 : Option Addr} {c4 : Nat} {w4 : World} (h : PasAt x w N sv av bv wr) (ho : OwnN 3 1 (w.heap.size + 1) w4 (.slice A4 (x.st.length + 1) c4) (x.st.length + 1) (ivals x.st ++ [.int .i64 j.id]))
    (hb : Below (w.heap.size + 1) wr w4) (hg : wr.grownBy w4 av.ownBlock) (hs : NextTo wr av (.slice A4 (x.st.length + 1) c4)) : PasAt ⟨x.s, x.Q, x.R ++ [j], O⟩ w N sv (.slice A4 (x.st.length + 1) c4) bv (w4.setCell ⟨N, 0, none⟩ (.slice A4 (x.st.length + 1) c4)) := by
  have hlt := h.box.lt
  have hlt2 := h.lt
  have hst : (⟨x.s, x.Q, x.R ++ [j], O⟩ : Pas).st = x.st ++ [j.id] := by simp [Pas.st]
  have hW : ∀ (v : Value), (∀ b, v.ownBlock = some b → w.heap.size + 1 ≤ b) → v.ownBlock ≠ some w.heap.size := fun v hv q => by have := hv _ q; omega
  have ha : ∀ b, av.ownBlock = some b → w.heap.size + 1 ≤ b := fun b q => (h.rows.block_lt q).1
  have hbv : ∀ b, bv.ownBlock = some b → w.heap.size + 1 ≤ b ∧ b < wr.heap.size := fun b q => h.prms.block_lt q
  have hv4 : (Value.slice A4 (x.st.length + 1) c4).ownBlock ≠ some N := by
    rcases hs with hs | ⟨b2, hs, hb2⟩
    · rw [hs]; exact h.noA
    · rw [hs]; intro q; injection q with q; omega
  refine ⟨?_, ?_, ?_, hv4, h.noB, ?_, ?_, ?_, h.away, ?_, ?_, h.lt, ?_⟩
  · refine spans_kept h.st (by simp [World.setCell]; exact hg.size) fun a m c e hp => ?_
    refine (Below.heap_setCell _ ⟨N, 0, none⟩ _ a.block (by have := h.away a m c e hp; show a.block ≠ N; omega)).trans (hg.block a.block (spans_lt h.st a m c e hp) (fun q => h.offA a m c e hp q.symm))
  · refine (ho.set_apart (p := ⟨N, 0, none⟩) hv4 _).cast ?_ ?_
    · rw [hst, List.length_append]; rfl
    · rw [hst, ivals_append]; rfl
  · refine (h.prms.kept hg ?_).set_apart (p := ⟨N, 0, none⟩) h.noB _
    cases q : bv.ownBlock with
    | none => exact .inl rfl
    | some b => exact .inr fun e => h.apart b e.symm q
  · intro b e q
    rcases hs with hs | ⟨b2, hs, hb2⟩
    · exact h.apart b (hs ▸ e) q
    · rw [hs] at e
      injection e with e
      have := (hbv b q).2
      omega
  · exact OffN.next h.offA (spans_lt h.st) hs
  · exact h.offB
  · exact (h.box.grown hg h.noA).set0 _
  · exact (h.ret.grown hg (hW _ ha)).set_other (p := ⟨N, 0, none⟩) (by show N ≠ _; omega) _
  · exact (h.bel.trans (hb.mono (by omega))).setCell (p := ⟨N, 0, none⟩) (by show _ ≤ N; omega) _
theorem PasAt.prom {q : Int × Jb} {O : List (Int × Jb)} {A4 : Option Addr} {c4 : Nat} {w4 : World} (h : PasAt x w N sv av bv wr) (ho : OwnN 48 3 (w.heap.size + 1) w4 (.slice A4 (x.P.length + 1) c4) (x.P.length + 1) (prmL.vals x.P ++ prmC (prmQ q)))
    (hb : Below (w.heap.size + 1) wr w4) (hg : wr.grownBy w4 bv.ownBlock) (hs : NextTo wr bv (.slice A4 (x.P.length + 1) c4)) : PasAt ⟨x.s, x.Q ++ [q], x.R, O⟩ w N sv av (.slice A4 (x.P.length + 1) c4) (w4.setCell ⟨N, 1, none⟩ (.slice A4 (x.P.length + 1) c4)) := by
  have hlt := h.box.lt
  have hlt2 := h.lt
  have hst : (⟨x.s, x.Q ++ [q], x.R, O⟩ : Pas).P = x.P ++ [prmQ q] := by simp [Pas.P]
  have hW : ∀ (v : Value), (∀ b, v.ownBlock = some b → w.heap.size + 1 ≤ b) → v.ownBlock ≠ some w.heap.size := fun v hv q => by have := hv _ q; omega
  have ha : ∀ b, av.ownBlock = some b → w.heap.size + 1 ≤ b ∧ b < wr.heap.size := fun b q => h.rows.block_lt q
  have hbv : ∀ b, bv.ownBlock = some b → w.heap.size + 1 ≤ b ∧ b < wr.heap.size := fun b q => h.prms.block_lt q
  have hv4 : (Value.slice A4 (x.P.length + 1) c4).ownBlock ≠ some N := by
    rcases hs with hs | ⟨b2, hs, hb2⟩
    · rw [hs]; exact h.noB
    · rw [hs]; intro q; injection q with q; omega
  refine ⟨?_, ?_, ?_, h.noA, hv4, ?_, ?_, ?_, h.away, ?_, ?_, h.lt, ?_⟩
  · refine spans_kept h.st (by simp [World.setCell]; exact hg.size) fun a m c e hp => ?_
    refine (Below.heap_setCell _ ⟨N, 1, none⟩ _ a.block (by have := h.away a m c e hp; show a.block ≠ N; omega)).trans (hg.block a.block (spans_lt h.st a m c e hp) (fun q => h.offB a m c e hp q.symm))
  · refine (h.rows.kept hg ?_).set_apart (p := ⟨N, 1, none⟩) h.noA _
    cases q : av.ownBlock with
    | none => exact .inl rfl
    | some b => exact .inr fun e => h.apart b q e.symm
  · refine (ho.set_apart (p := ⟨N, 1, none⟩) hv4 _).cast ?_ ?_
    · rw [hst, List.length_append]; rfl
    · rw [hst, Lay.snoc]; rfl
  · intro b e q
    rcases hs with hs | ⟨b2, hs, hb2⟩
    · exact h.apart b e (hs ▸ q)
    · rw [hs] at q
      injection q with q
      have := (ha b e).2
      omega
  · exact h.offA
  · exact OffN.next h.offB (spans_lt h.st) hs
  · exact (h.box.grown hg h.noB).set1 _
  · exact (h.ret.grown hg (hW _ fun b q => (hbv b q).1)).set_other (p := ⟨N, 1, none⟩) (by show N ≠ _; omega) _
  · exact (h.bel.trans (hb.mono (by omega))).setCell (p := ⟨N, 1, none⟩) (by show _ ≤ N; omega) _
theorem PasAt.boxA {w4 : World} (h : PasAt x w N sv av bv wr) (hg : wr.grownBy w4 av.ownBlock) : Box2 w4 N av bv := h.box.grown hg h.noA
theorem PasAt.boxB {w4 : World} (h : PasAt x w N sv av bv wr) (hg : wr.grownBy w4 bv.ownBlock) : Box2 w4 N av bv := h.box.grown hg h.noB
/-- Behind the end: what is told. -/
structure PasTold (x : Pas) (w W : World) (av bv sv : Value) : Prop where
  st : IntsAt x.st W av
  P : prmL.Is x.P W bv
  s : SpansIs x.s W sv
  box : Box2 W w.heap.size av bv
  bel : Below w.heap.size w W
  n1 : NewAt (w.heap.size + 1) av
  n2 : NewAt (w.heap.size + 1) bv
  src : Src W av x.st.length (ivals x.st)
theorem PasAt.done {W : World} (h : PasAt x w N sv av bv wr) (hW : W = (wr.setCell ⟨w.heap.size, 0, none⟩ av).setCell ⟨w.heap.size, 1, none⟩ bv) : PasTold x w W av bv sv := by
  subst hW
  have hlt2 := h.lt
  have hk : ∀ b', b' ≠ w.heap.size → ((wr.setCell ⟨w.heap.size, 0, none⟩ av).setCell ⟨w.heap.size, 1, none⟩ bv).heap[b']? = wr.heap[b']? := fun b' h2 =>
    (Below.heap_setCell _ ⟨w.heap.size, 1, none⟩ _ b' h2).trans (Below.heap_setCell _ ⟨w.heap.size, 0, none⟩ _ b' h2)
  refine ⟨?_, ?_, ?_, (h.ret.set0 _).set1 _, (h.bel.setCell (p := ⟨w.heap.size, 0, none⟩) (Nat.le_refl _) _).setCell (p := ⟨w.heap.size, 1, none⟩) (Nat.le_refl _) _, NewAt.own h.rows (Nat.le_refl _), NewAt.own h.prms (Nat.le_refl _), ?_⟩
  · exact IntsAt.own ((h.rows.set_apart (p := ⟨w.heap.size, 0, none⟩) (fun q => by have := (h.rows.block_lt q).1; simp at this; omega) _).set_apart (p := ⟨w.heap.size, 1, none⟩) (fun q => by have := (h.rows.block_lt q).1; simp at this; omega) _) rfl
  · exact Lay.Is.own ((h.prms.set_apart (p := ⟨w.heap.size, 0, none⟩) (fun q => by have := (h.prms.block_lt q).1; simp at this; omega) _).set_apart (p := ⟨w.heap.size, 1, none⟩) (fun q => by have := (h.prms.block_lt q).1; simp at this; omega) _) rfl
  · exact spans_kept h.st (by simp [World.setCell]) (fun a m c e hp => hk a.block (by have := h.away a m c e hp; omega))
  · exact ((h.rows.set_apart (p := ⟨w.heap.size, 0, none⟩) (fun q => by have := (h.rows.block_lt q).1; simp at this; omega) _).set_apart (p := ⟨w.heap.size, 1, none⟩) (fun q => by have := (h.rows.block_lt q).1; simp at this; omega) _).src
/-- The beginning: no rows yet, the steps cloned. -/
theorem PasAt.begin {s : List Sp} (hs : SpansIs s wr sv) (hn : ∀ a m c, sv = .slice (some a) m c → 0 < s.length → a.block ≠ w.heap.size ∧ a.block ≠ N) (hb : Box2 wr N (.slice none 0 0) (.slice none 0 0)) (hr : Box2 wr w.heap.size (.slice none 0 0) (.slice none 0 0)) (hl : w.heap.size < N) (hw : Below w.heap.size w wr) : PasAt (Pas.new s) w N sv (.slice none 0 0) (.slice none 0 0) wr := by
  refine ⟨hs, OwnN.nil (by have := hb.lt; omega), OwnN.nil (by have := hb.lt; omega), (fun q => by cases q), (fun q => by cases q), (fun b q => by cases q), (fun a m c e hp q => by cases q), (fun a m c e hp q => by cases q), hn, hb, hr, hl, hw⟩
end
theorem fold_next {α β : Type} (f : β → α → β) (z : β) {l : List α} {k : Nat} (hk : k < l.length) : (l.take (k + 1)).foldl f z = f ((l.take k).foldl f z) l[k] := by
  rw [List.take_succ_eq_append_getElem hk, List.foldl_append]; rfl
/-- A pass tells this; and all that it tells is new memory. -/
def PlanSaysN (code : Int) (x : Pas) (w : World) (e : Ending) (w' : World) : Prop :=
  ∃ a b c st P t, e = .returned (.tuple #[.agg #[a, b], c, .int .i64 code]) ∧ IntsAt st w' a ∧ prmL.Is P w' b ∧ SpansIs t w' c ∧ ((code = 0 ∧ st = x.st ∧ P = x.P ∧ t = x.s) ∨ (code ≠ 0 ∧ st = [] ∧ P = [] ∧ t = [])) ∧ Below w.heap.size w w' ∧
    NewAt w.heap.size a ∧ NewAt w.heap.size b ∧ NewAt w.heap.size c ∧ Src w' a st.length (ivals st)
theorem says_ok {x : Pas} {w W : World} {av bv sv : Value} (h : PasTold x w W av bv sv) (hn : NewAt (w.heap.size + 1) sv) : PlanSaysN 0 x w (.returned (.tuple #[.agg #[av, bv], sv, .int .i64 0])) W :=
  ⟨av, bv, sv, x.st, x.P, x.s, rfl, h.st, h.P, h.s, .inl ⟨rfl, rfl, rfl, rfl⟩, h.bel, h.n1.mono (Nat.le_succ _), h.n2.mono (Nat.le_succ _), hn.mono (Nat.le_succ _), h.src⟩
theorem says_no {x : Pas} {w W : World} {k : Int} (hk : k ≠ 0) (h : Below w.heap.size w W) : PlanSaysN k x w (.returned (.tuple #[.agg #[.slice none 0 0, .slice none 0 0], .slice none 0 0, .int .i64 k])) W :=
  ⟨_, _, _, [], [], [], rfl, IntsAt.nil _, .inl ⟨rfl, rfl⟩, .inl ⟨rfl, rfl⟩, .inr ⟨hk, rfl, rfl, rfl⟩, h, NewAt.nil, NewAt.nil, NewAt.nil, .inl ⟨rfl, rfl, rfl⟩⟩
end Go.Proofs.Ytjjigkomiidipaa.PasWalk
namespace Go.Proofs.Ytjjigkomiidipaa.StepWalk
open Go.RowKit Go.Proofs.Ytjjigkomiidipaa.SpanPlain Go.Proofs.Ytjjigkomiidipaa.StepPlain Go.Proofs.Ytjjigkomiidipaa.Mem Go.Proofs.Ytjjigkomiidipaa.SpanMem Go.Proofs.Ytjjigkomiidipaa.StepMem Go.Proofs.Ytjjigkomiidipaa.SpanRef Go.Proofs.Ytjjigkomiidipaa.StepRef
def BoolW (b : Bool) (w : World) (e : Ending) (w' : World) : Prop := e = .returned (.bool b) ∧ w = w'
def begB (t : Int) : Bool := decide (0 ≤ t) && decide (t ≤ 1125899906842624)
def freeB (n : Int) : Bool := decide (0 ≤ n) && decide (n ≤ 256)
theorem isBegS (t : Int) (w : World) : Calls Try.prog 38 #[.int .i64 t] w (BoolW (begB t) w) := by
  have hw : (begB t = true ∧ decide (0 ≤ t) = true ∧ decide (t ≤ 1125899906842624) = true) ∨ (begB t = false ∧ decide (0 ≤ t) = false) ∨ (begB t = false ∧ decide (0 ≤ t) = true ∧ decide (t ≤ 1125899906842624) = false) := by
    unfold begB
    by_cases h1 : 0 ≤ t <;> by_cases h2 : t ≤ 1125899906842624 <;> simp [h1, h2]
  generalize begB t = B at *
  rcases hw with ⟨rfl, h1, h2⟩ | ⟨rfl, h1⟩ | ⟨rfl, h1, h2⟩
  all_goals
    go_enter Try.func38, Try.ntmps38
    go_wp2_with fail
    go_ret
    exact ⟨rfl, rfl⟩
theorem isFreeS (t : Int) (w : World) : Calls Try.prog 39 #[.int .i64 t] w (BoolW (freeB t) w) := by
  have hw : (freeB t = true ∧ decide (0 ≤ t) = true ∧ decide (t ≤ 256) = true) ∨ (freeB t = false ∧ decide (0 ≤ t) = false) ∨ (freeB t = false ∧ decide (0 ≤ t) = true ∧ decide (t ≤ 256) = false) := by
    unfold freeB
    by_cases h1 : 0 ≤ t <;> by_cases h2 : t ≤ 256 <;> simp [h1, h2]
  generalize freeB t = B at *
  rcases hw with ⟨rfl, h1, h2⟩ | ⟨rfl, h1⟩ | ⟨rfl, h1, h2⟩
  all_goals
    go_enter Try.func39, Try.ntmps39
    go_wp2_with fail
    go_ret
    exact ⟨rfl, rfl⟩
set_option maxHeartbeats 800000 in
theorem mayS (s : Sp) (w : World) : Calls Try.prog 42 #[spV s] w (BoolIs (mayB s) w) := by
  have hs := may_cases s
  obtain ⟨a, b⟩ := s
  unfold spV
  dsimp only at hs ⊢
  generalize mayB (a, b) = B at *
  rcases hs with ⟨rfl, h1, h2, h3⟩ | ⟨rfl, h1⟩ | ⟨rfl, h1, h2⟩ | ⟨rfl, h1, h2, h3⟩
  all_goals
    go_enter Try.func42, Try.ntmps42
    go_wp2_with fail
    go_ret
    exact ⟨rfl, (Below.refl _ _).alloc (Nat.le_refl _) _⟩
/-- What Clone answers: a row of its own. -/
def CloneIs (n : Nat) (xs : List Value) (w : World) (e : Ending) (w' : World) : Prop := ∃ v', e = .returned v' ∧ OwnR 40 2 w.heap.size w' v' n xs ∧ Below w.heap.size w w'
set_option maxHeartbeats 800000 in
theorem cloneS (a : Addr) (n c : Nat) (xs : List Value) (w : World) (hl : xs.length = n * 2) (hn : n ≤ 100000) (hr : Raw w a xs) (h1 : ∀ u ∈ xs, u.oneCell' = true) :
    Calls Try.prog 35 #[.slice (some a) n c] w (CloneIs n xs w) := by
  have q22 : ∀ (w : World) (a : Option Addr) (n c n' c' : Nat), (binOp .eql 32 (.slice a n c) (.slice none n' c')).run Try.prog w = .ok (.bool a.isNone) w := fun w a n c n' c' => Lib.run_eql_slice_nil w _ _ a n c n' c' Try.underlying32
  have HR := Lib.hid hr
  have H1 := Lib.hid h1
  have HL := Lib.hid hl
  clear hr h1 hl
  go_enter Try.func35, Try.ntmps35
  go_wp2_with (at_builtin; refine push_raw steps_t rfl (.tmp 5) (.tmp 6) rfl w.heap.size _ _ _ rfl (OwnR.new w 40 2) a n c xs rfl HL.out ?h1 H1.out ?h2 ?_)
  case h1 => exact HR.out.below (below_alloc _ _)
  case h2 => omega
  intro v' w' ho hb
  have HO := Lib.hid ho
  have HB := Lib.hid (((Below.refl _ _).alloc (Nat.le_refl _) _).trans hb)
  clear ho hb
  go_wp2_with fail
  go_ret
  exact ⟨_, rfl, HO.out.cast (by simp) (by simp), HB.out⟩
/-- A step's place, in words of cells. -/
theorem nth_cells {s : List Sp} {w : World} {A : Option Addr} (h : Pairs w A s.length (spCell s)) {k : Nat} (hk : k < s.length) :
    ∃ a, A = some a ∧ a.block < w.heap.size ∧ w.cell? (a.add (k * 2)) = some (.int .i64 (nth s k).1) ∧ w.cell? ⟨(a.add (k * 2)).block, (a.add (k * 2)).off + 1, none⟩ = some (.int .i64 (nth s k).2) := h k hk
theorem okc_ways (s : List Sp) (k : Nat) : (freeB (nth s k).2 = false ∧ Hid (¬ okC s k)) ∨ (freeB (nth s k).2 = true ∧ ((k = 0 ∧ Hid (okC s k)) ∨
      (0 < k ∧ decide ((nth s k).1 ≤ (nth s (k - 1)).1) = true ∧ Hid (¬ okC s k)) ∨ (0 < k ∧ decide ((nth s k).1 ≤ (nth s (k - 1)).1) = false ∧ ((nth s k).2 == (nth s (k - 1)).2) = true ∧ Hid (¬ okC s k)) ∨
      (0 < k ∧ decide ((nth s k).1 ≤ (nth s (k - 1)).1) = false ∧ ((nth s k).2 == (nth s (k - 1)).2) = false ∧ Hid (okC s k)))) := by
  unfold okC freeB
  generalize nth s k = x
  generalize nth s (k - 1) = y
  by_cases h1 : 0 ≤ x.2 ∧ x.2 ≤ 256
  · refine .inr ⟨by rw [decide_eq_true h1.1, decide_eq_true h1.2]; rfl, ?_⟩
    by_cases h2 : k = 0
    · exact .inl ⟨h2, h1, .inl h2⟩
    · by_cases h3 : x.1 ≤ y.1
      · exact .inr (.inl ⟨by omega, decide_eq_true h3, fun h => by rcases h.2 with h4 | h4 <;> omega⟩)
      · by_cases h4 : x.2 = y.2
        · exact .inr (.inr (.inl ⟨by omega, decide_eq_false h3, by simp [h4], fun h => by rcases h.2 with h5 | h5 <;> omega⟩))
        · exact .inr (.inr (.inr ⟨by omega, decide_eq_false h3, by simpa using h4, h1, .inr ⟨by omega, h4⟩⟩))
  · refine .inl ⟨?_, fun h => h1 h.1⟩
    simp only [Bool.and_eq_false_iff, decide_eq_false_iff_not]
    omega
set_option maxRecDepth 100000 in
set_option maxHeartbeats 1600000 in
theorem checkS (s : List Sp) (v : Value) (w : World) (hv : SpansIs s w v) (hl : s.length ≤ 1000) : Calls Try.prog 29 #[v] w (BoolIs (chkB s) w) := by
  obtain ⟨A, c, rfl, hA⟩ := hv.open_
  have HA := Lib.hid hA
  have CB := Lib.hid (fun w => isBegS (head s) w)
  clear hA hv
  by_cases h0 : s.length = 0
  · have HB := Lib.hid (bad_empty h0)
    have e1 : ((s.length : Int) == 0) = true := by simp [h0]
    clear h0
    go_enter Try.func29, Try.ntmps29
    go_wp2_with fail
    go_ret
    rw [HB.out]
    exact ⟨rfl, Below.refl _ _⟩
  · obtain ⟨ad, rfl, had, c1, c2⟩ := pair_zero HA.out (show 0 < s.length by omega)
    obtain ⟨ad', ead, _, c3, c4⟩ := nth_cells HA.out (show s.length - 1 < s.length by omega)
    injection ead with ead
    subst ead
    have e1 : ((s.length : Int) == 0) = false := by simp [h0]
    have q0 : (0 : Int) ≤ ((s.length - 1 : Nat) : Int) := Int.natCast_nonneg _
    have q1 : ((s.length - 1 : Nat) : Int) < (s.length : Int) := by omega
    have q2 : IntKind.i64.wrap ((s.length : Int) - 1) = ((s.length - 1 : Nat) : Int) := by rw [IntKind.wrap_i64]; omega
    have q3 : (0 : Int) < (s.length : Int) := by omega
    have hh : (spCell s 0).1 = .int .i64 (head s) := rfl
    rw [hh] at c1
    have HBH := Lib.hid (fun h => bad_head (s := s) h)
    have HBL := Lib.hid (fun h => bad_last (s := s) h)
    have HBA : Hid (∀ i, i < s.length → ¬ okC s i → chkB s = false) := fun i hi h => bad_at hi h
    have HYES := Lib.hid (fun a b c d => check_yes (s := s) a b c d)
    have HHD : Hid (head s = head s) := rfl
    clear hh HHD
    generalize hlast : (nth s (s.length - 1)).1 = z at *
    generalize hhd : head s = h at *
    have HLA := Lib.hid hlast
    have HHD := Lib.hid hhd
    clear hlast hhd c2 c4
    cases hb : begB h with
    | false =>
      rw [hb] at CB
      have HN : Hid (chkB s = false) := HBH.out (fun h2 => by unfold begB at hb; rw [decide_eq_true h2.1, decide_eq_true h2.2] at hb; cases hb)
      clear HBH HBL HBA HYES hb
      go_enter Try.func29, Try.ntmps29
      go_wp2_with (go_at_call 38; refine (CB.out _).mono ?_; rintro e w1 ⟨rfl, rfl⟩)
      go_ret
      rw [HN.out]
      exact ⟨rfl, Below.refl _ _⟩
    | true =>
      rw [hb] at CB
      have HB : Hid (0 ≤ h ∧ h ≤ 1125899906842624) := by unfold begB at hb; rw [Bool.and_eq_true, decide_eq_true_eq, decide_eq_true_eq] at hb; exact hb
      clear HBH hb
      by_cases hz : 4503599627370496 < z
      · have hz2 : decide (4503599627370496 < z) = true := decide_eq_true hz
        have HN := Lib.hid (HBL.out hz)
        clear HBL HBA HYES hz
        go_enter Try.func29, Try.ntmps29
        go_wp2_with (go_at_call 38; refine (CB.out _).mono ?_; rintro e w1 ⟨rfl, rfl⟩)
        go_ret
        rw [HN.out]
        exact ⟨rfl, Below.refl _ _⟩
      · have hz2 : decide (4503599627370496 < z) = false := decide_eq_false hz
        have HZ : Hid (z ≤ 4503599627370496) := Int.not_lt.1 hz
        clear HBL hz
        go_enter Try.func29, Try.ntmps29
        go_wp2_with (go_at_call 38; refine (CB.out _).mono ?_; rintro e w1 ⟨rfl, rfl⟩)
        clear CB c1 c3 hz2 q0 q1 q2
        go_loopw [28] (fun i wr => ∃ k : Nat, i = .int .i64 k ∧ k ≤ s.length ∧ Hid ((∀ j, j < k → okC s j) ∧ Below w.heap.size w wr)) (fun i _ => s.length - (intOf i).toNat)
        case atStart => exact ⟨0, rfl, Nat.zero_le _, fun j hj => absurd hj (Nat.not_lt_zero _), Below.refl _ _⟩
        case round =>
          obtain ⟨k, rfl, hk, HL⟩ := hrel
          by_cases hlt : k < s.length
          · obtain ⟨hall, hbl⟩ := HL.out
            obtain ⟨ad2, ead, had2, c1, c2⟩ := nth_cells (HA.out.below hbl) hlt
            injection ead with ead
            subst ead
            have hways := okc_ways s k
            have HNO := Lib.hid (fun h => HBA.out k hlt h)
            have HALL := Lib.hid hall
            have HNX : Hid (okC s k → ∀ j, j < k + 1 → okC s j) := fun h j hj => by
              by_cases h1 : j = k
              · subst h1; exact h
              · exact HALL.out j (by omega)
            have HBLW := Lib.hid hbl
            have CF := Lib.hid (fun w => isFreeS (nth s k).2 w)
            have i0 : (0 : Int) ≤ (k : Int) := Int.natCast_nonneg _
            have hlt2 : (k : Int) < (s.length : Int) := by omega
            clear hall hbl HL
            rcases hways with ⟨hf, HO⟩ | ⟨hf, ⟨hk0, HO⟩ | ⟨hk0, h1, HO⟩ | ⟨hk0, h1, h2, HO⟩ | ⟨hk0, h1, h2, HO⟩⟩
            · rw [hf] at CF
              generalize nth s k = x at *
              clear hf
              go_wp2_with (go_at_call 39; refine (CF.out _).mono ?_; rintro e w1 ⟨rfl, rfl⟩)
              go_ret
              rw [HNO.out HO.out]
              exact ⟨rfl, HBLW.out.alloc HBLW.out.size _⟩
            · rw [hf] at CF
              subst hk0
              have e0 : ad.add (0 * 2) = ad := by unfold Addr.add; simp
              rw [e0] at c1 c2
              generalize nth s 0 = x at *
              clear hf e0
              have g1 : decide ((0 : Int) < 0) = false := rfl
              go_wp2_with (go_at_call 39; refine (CF.out _).mono ?_; rintro e w1 ⟨rfl, rfl⟩)
              go_quiet (fail)
              go_wp2_with fail
              exact ⟨⟨0 + 1, by go_num, by omega, HNX.out HO.out, below_drewN (HBLW.out.alloc HBLW.out.size _) _⟩, by simp [intOf] <;> omega⟩
            · rw [hf] at CF
              obtain ⟨ad3, ead, had3, c3, c4⟩ := nth_cells (HA.out.below HBLW.out) (show k - 1 < s.length by omega)
              injection ead with ead
              subst ead
              have g1 : decide ((0 : Int) < (k : Int)) = true := decide_eq_true (by omega)
              have q0 : (0 : Int) ≤ ((k - 1 : Nat) : Int) := Int.natCast_nonneg _
              have q1 : ((k - 1 : Nat) : Int) < (s.length : Int) := by omega
              have q2 : IntKind.i64.wrap ((k : Int) - 1) = ((k - 1 : Nat) : Int) := by rw [IntKind.wrap_i64]; omega
              generalize nth s k = x at *
              generalize nth s (k - 1) = y at *
              have x1 := (below_alloc wr (.cells #[.int .i64 x.1, .int .i64 x.2] 40)).cell (p := ad.add ((k - 1) * 2)) (by rw [add_block]; exact had3)
              have x2 := (below_alloc wr (.cells #[.int .i64 x.1, .int .i64 x.2] 40)).cell (p := ⟨(ad.add ((k - 1) * 2)).block, (ad.add ((k - 1) * 2)).off + 1, none⟩) (by show (ad.add ((k - 1) * 2)).block < _; rw [add_block]; exact had3)
              rw [c3] at x1
              rw [c4] at x2
              have HBOX := Lib.hid (Box2.new wr (.int .i64 x.1) (.int .i64 x.2) 40)
              have HBW := Lib.hid (HBLW.out.alloc HBLW.out.size (.cells #[.int .i64 x.1, .int .i64 x.2] 40))
              clear hf c3 c4
              go_wp2_with (go_at_call 39; refine (CF.out _).mono ?_; rintro e w1 ⟨rfl, rfl⟩)
              obtain ⟨b0, b1, b2, b3, b4⟩ := HBOX.out
              generalize wr.alloc (.cells #[.int .i64 x.1, .int .i64 x.2] 40) = W at *
              clear b3 b4 HBOX c1 c2
              go_quiet (fail)
              go_wp2_with fail
              go_ret
              rw [HNO.out HO.out]
              exact ⟨rfl, below_drewN HBW.out _⟩
            · rw [hf] at CF
              obtain ⟨ad3, ead, had3, c3, c4⟩ := nth_cells (HA.out.below HBLW.out) (show k - 1 < s.length by omega)
              injection ead with ead
              subst ead
              have g1 : decide ((0 : Int) < (k : Int)) = true := decide_eq_true (by omega)
              have q0 : (0 : Int) ≤ ((k - 1 : Nat) : Int) := Int.natCast_nonneg _
              have q1 : ((k - 1 : Nat) : Int) < (s.length : Int) := by omega
              have q2 : IntKind.i64.wrap ((k : Int) - 1) = ((k - 1 : Nat) : Int) := by rw [IntKind.wrap_i64]; omega
              generalize nth s k = x at *
              generalize nth s (k - 1) = y at *
              have x1 := (below_alloc wr (.cells #[.int .i64 x.1, .int .i64 x.2] 40)).cell (p := ad.add ((k - 1) * 2)) (by rw [add_block]; exact had3)
              have x2 := (below_alloc wr (.cells #[.int .i64 x.1, .int .i64 x.2] 40)).cell (p := ⟨(ad.add ((k - 1) * 2)).block, (ad.add ((k - 1) * 2)).off + 1, none⟩) (by show (ad.add ((k - 1) * 2)).block < _; rw [add_block]; exact had3)
              rw [c3] at x1
              rw [c4] at x2
              have HBOX := Lib.hid (Box2.new wr (.int .i64 x.1) (.int .i64 x.2) 40)
              have HBW := Lib.hid (HBLW.out.alloc HBLW.out.size (.cells #[.int .i64 x.1, .int .i64 x.2] 40))
              clear hf c3 c4
              go_wp2_with (go_at_call 39; refine (CF.out _).mono ?_; rintro e w1 ⟨rfl, rfl⟩)
              obtain ⟨b0, b1, b2, b3, b4⟩ := HBOX.out
              generalize wr.alloc (.cells #[.int .i64 x.1, .int .i64 x.2] 40) = W at *
              clear b3 b4 HBOX c1 c2
              go_quiet (fail)
              go_wp2_with fail
              go_ret
              rw [HNO.out HO.out]
              exact ⟨rfl, below_drewN HBW.out _⟩
            · rw [hf] at CF
              obtain ⟨ad3, ead, had3, c3, c4⟩ := nth_cells (HA.out.below HBLW.out) (show k - 1 < s.length by omega)
              injection ead with ead
              subst ead
              have g1 : decide ((0 : Int) < (k : Int)) = true := decide_eq_true (by omega)
              have q0 : (0 : Int) ≤ ((k - 1 : Nat) : Int) := Int.natCast_nonneg _
              have q1 : ((k - 1 : Nat) : Int) < (s.length : Int) := by omega
              have q2 : IntKind.i64.wrap ((k : Int) - 1) = ((k - 1 : Nat) : Int) := by rw [IntKind.wrap_i64]; omega
              generalize nth s k = x at *
              generalize nth s (k - 1) = y at *
              have x1 := (below_alloc wr (.cells #[.int .i64 x.1, .int .i64 x.2] 40)).cell (p := ad.add ((k - 1) * 2)) (by rw [add_block]; exact had3)
              have x2 := (below_alloc wr (.cells #[.int .i64 x.1, .int .i64 x.2] 40)).cell (p := ⟨(ad.add ((k - 1) * 2)).block, (ad.add ((k - 1) * 2)).off + 1, none⟩) (by show (ad.add ((k - 1) * 2)).block < _; rw [add_block]; exact had3)
              rw [c3] at x1
              rw [c4] at x2
              have HBOX := Lib.hid (Box2.new wr (.int .i64 x.1) (.int .i64 x.2) 40)
              have HBW := Lib.hid (HBLW.out.alloc HBLW.out.size (.cells #[.int .i64 x.1, .int .i64 x.2] 40))
              clear hf c3 c4
              go_wp2_with (go_at_call 39; refine (CF.out _).mono ?_; rintro e w1 ⟨rfl, rfl⟩)
              obtain ⟨b0, b1, b2, b3, b4⟩ := HBOX.out
              generalize wr.alloc (.cells #[.int .i64 x.1, .int .i64 x.2] 40) = W at *
              clear b3 b4 HBOX c1 c2
              go_quiet (fail)
              go_wp2_with fail
              exact ⟨⟨k + 1, by go_num, by omega, HNX.out HO.out, below_drewN HBW.out _⟩, by simp [intOf] <;> omega⟩
          · obtain ⟨hall, hbl⟩ := HL.out
            have HY : Hid (chkB s = true) := HYES.out (by omega) HB.out HZ.out (fun i hi => hall i (by omega))
            have HBLW := Lib.hid hbl
            clear hall hbl HL
            go_wp2_with fail
            go_ret
            rw [HY.out]
            exact ⟨rfl, HBLW.out⟩
end Go.Proofs.Ytjjigkomiidipaa.StepWalk
namespace Go.Proofs.Ytjjigkomiidipaa.StepWalk
open Go.RowKit Go.Proofs.Ytjjigkomiidipaa.SpanPlain Go.Proofs.Ytjjigkomiidipaa.StepPlain Go.Proofs.Ytjjigkomiidipaa.Mem Go.Proofs.Ytjjigkomiidipaa.SpanMem Go.Proofs.Ytjjigkomiidipaa.StepMem Go.Proofs.Ytjjigkomiidipaa.SpanRef Go.Proofs.Ytjjigkomiidipaa.StepRef
def IntW (n : Int) (w : World) (e : Ending) (w' : World) : Prop := e = .returned (.int .i64 n) ∧ w = w'
def cmpI (x y : Int) : Int := if x < y then -1 else if x = y then 0 else 1
theorem cmp_lt (x y : Int) : decide (cmpI x y < 0) = decide (x < y) := by
  unfold cmpI
  by_cases h1 : x < y
  · simp [h1]
  · by_cases h2 : x = y <;> simp [h1, h2]
theorem cmp_eq (x y : Int) : (cmpI x y == 0) = decide (x = y) := by
  unfold cmpI
  by_cases h1 : x < y
  · simp [h1]; omega
  · by_cases h2 : x = y <;> simp [h1, h2]
theorem cmpS (x y : Int) (w : World) : Calls Try.prog 53 #[.int .i64 x, .int .i64 y] w (IntW (cmpI x y) w) := by
  refine (Try.cmp_Compare_int x y w).mono ?_
  rintro e w' ⟨rfl, rfl⟩
  refine ⟨?_, rfl⟩
  unfold Lib.compareInt cmpI
  congr 2
  split
  · rfl
  · split <;> split <;> omega
theorem int_eq {k : IntKind} {a b : Int} (h : a = b) : Value.int k a = Value.int k b := by rw [h]
theorem ret_eq {k : IntKind} {a b : Int} (h : a = b) : Ending.returned (.int k a) = .returned (.int k b) := by rw [h]
/-- What the closure answers: it keeps a box of its own. -/
def IntBox (n : Int) (y : Sp) (w : World) (e : Ending) (w' : World) : Prop := e = .returned (.int .i64 n) ∧ w' = w.alloc (.cells #[.int .i64 y.1, .int .i64 y.2] 40)
theorem atS1 (y : Sp) (t : Int) (w : World) : Calls Try.prog 52 #[spV y, .int .i64 t] w (IntBox (cmpI y.1 t) y w) := by
  have C1 := Lib.hid (fun w => cmpS y.1 t w)
  unfold spV
  generalize cmpI y.1 t = n at *
  go_enter Try.func52, Try.ntmps52
  go_wp2_with (go_at_call 53; refine (C1.out _).mono ?_; rintro e w1 ⟨rfl, rfl⟩)
  go_ret
  exact ⟨rfl, rfl⟩
/-- How many steps are ahead of a time. -/
def SearchIs (s : List Sp) (t : Int) (w : World) (e : Ending) (w' : World) : Prop := ∃ k : Nat, e = .returned (.tuple #[.int .i64 k, .bool (decide (k < s.length) && decide ((nth s k).1 = t))]) ∧ k ≤ s.length ∧ (∀ j, j < k → (nth s j).1 < t) ∧ (∀ j, k ≤ j → j < s.length → t ≤ (nth s j).1) ∧ Below w.heap.size w w'
/-- How the search stands. -/
def SearchAt (s : List Sp) (t : Int) (i j : Nat) : Prop := i ≤ j ∧ j ≤ s.length ∧ (∀ m, m < i → (nth s m).1 < t) ∧ ∀ m, j ≤ m → m < s.length → t ≤ (nth s m).1
theorem search_low {s : List Sp} (hu : Up s) {t : Int} {i j : Nat} (h : SearchAt s t i j) (hij : i < j) (hx : (nth s ((i + j) / 2)).1 < t) : SearchAt s t ((i + j) / 2 + 1) j := by
  obtain ⟨h1, h2, h3, h4⟩ := h
  refine ⟨by omega, h2, fun m hm => ?_, h4⟩
  have := hu.le (i := m) (j := (i + j) / 2) (by omega) (by omega)
  omega
theorem search_high {s : List Sp} (hu : Up s) {t : Int} {i j : Nat} (h : SearchAt s t i j) (hij : i < j) (hx : ¬ (nth s ((i + j) / 2)).1 < t) : SearchAt s t i ((i + j) / 2) := by
  obtain ⟨h1, h2, h3, h4⟩ := h
  refine ⟨by omega, by omega, h3, fun m hm hl => ?_⟩
  have := hu.le (i := (i + j) / 2) (j := m) (by omega) (by omega)
  omega
set_option maxRecDepth 100000 in
set_option maxHeartbeats 1600000 in
theorem searchS (s : List Sp) (t : Int) (v : Value) (w : World) (hv : SpansIs s w v) (hu : Up s) (hl : s.length ≤ 2000) :
    Calls Try.prog 51 #[v, .int .i64 t, .func (.func 52) #[] #[]] w (SearchIs s t w) := by
  obtain ⟨A, c, rfl, hA⟩ := hv.open_
  have HA := Lib.hid hA
  have HU := Lib.hid hu
  clear hA hv hu
  go_enter Try.func51, Try.ntmps51
  go_wp2_with fail
  go_loopw [9, 10] (fun a b wr => ∃ i j : Nat, a = .int .i64 i ∧ b = .int .i64 j ∧ i ≤ j ∧ j ≤ s.length ∧ Hid (SearchAt s t i j ∧ Below w.heap.size w wr)) (fun a b _ => (intOf b).toNat - (intOf a).toNat)
  case atStart => exact ⟨0, s.length, rfl, rfl, Nat.zero_le _, Nat.le_refl _, ⟨Nat.zero_le _, Nat.le_refl _, fun m hm => absurd hm (Nat.not_lt_zero _), fun m h1 h2 => by omega⟩, Below.refl _ _⟩
  case round =>
    obtain ⟨i, j, rfl, rfl, hij, hj, HL⟩ := hrel
    obtain ⟨hat, hbl⟩ := HL.out
    by_cases hlt : i < j
    · obtain ⟨ad, rfl, had, c1, c2⟩ := nth_cells (HA.out.below hbl) (show (i + j) / 2 < s.length by omega)
      have C1 := Lib.hid (fun w => atS1 (nth s ((i + j) / 2)) t w)
      have HLOW := Lib.hid (fun h => search_low HU.out hat hlt h)
      have HHIGH := Lib.hid (fun h => search_high HU.out hat hlt h)
      have HBL := Lib.hid hbl
      have hcl := cmp_lt (nth s ((i + j) / 2)).1 t
      unfold spV at C1
      clear hat hbl HL
      generalize nth s ((i + j) / 2) = x at *
      generalize cmpI x.1 t = q at *
      by_cases hx : x.1 < t
      · rw [decide_eq_true hx] at hcl
        have HS := Lib.hid (HLOW.out hx)
        clear HLOW HHIGH hx
        go_wp2_with fail
        refine (C1.out _).mono ?_
        rintro e w1 ⟨rfl, rfl⟩
        go_wp2_with fail
        exact ⟨⟨(i + j) / 2 + 1, j, int_eq (by omega), rfl, by omega, hj, HS.out, HBL.out.alloc HBL.out.size _⟩, by simp [intOf] <;> omega⟩
      · rw [decide_eq_false hx] at hcl
        have HS := Lib.hid (HHIGH.out hx)
        clear HLOW HHIGH hx
        go_wp2_with fail
        refine (C1.out _).mono ?_
        rintro e w1 ⟨rfl, rfl⟩
        go_wp2_with fail
        exact ⟨⟨i, (i + j) / 2, rfl, int_eq (by omega), by omega, by omega, HS.out, HBL.out.alloc HBL.out.size _⟩, by simp [intOf] <;> omega⟩
    · obtain ⟨hat, hbl⟩ := HL.out
      obtain rfl : i = j := by omega
      have HAT := Lib.hid hat
      have HBL := Lib.hid hbl
      clear hat hbl HL
      by_cases hk : i < s.length
      · obtain ⟨ad, rfl, had, c1, c2⟩ := nth_cells (HA.out.below HBL.out) hk
        have C1 := Lib.hid (fun w => atS1 (nth s i) t w)
        have hce := cmp_eq (nth s i).1 t
        have HR : Hid (SearchIs s t w (.returned (.tuple #[.int .i64 i, .bool (decide ((nth s i).1 = t))])) (wr.alloc (.cells #[.int .i64 (nth s i).1, .int .i64 (nth s i).2] 40))) :=
          ⟨i, by rw [decide_eq_true hk]; rfl, hj, HAT.out.2.2.1, HAT.out.2.2.2, HBL.out.alloc HBL.out.size _⟩
        have hk2 : (i : Int) < (s.length : Int) := by omega
        unfold spV at C1
        generalize nth s i = x at *
        generalize cmpI x.1 t = q at *
        generalize decide (x.1 = t) = B at *
        go_wp2_with fail
        refine (C1.out _).mono ?_
        rintro e w1 ⟨rfl, rfl⟩
        cases B
        all_goals
          go_wp2_with fail
          go_ret2
          exact HR.out
      · have HR : Hid (SearchIs s t w (.returned (.tuple #[.int .i64 i, .bool false])) wr) :=
          ⟨i, by rw [decide_eq_false hk]; rfl, hj, HAT.out.2.2.1, HAT.out.2.2.2, HBL.out⟩
        go_wp2_with fail
        go_ret2
        exact HR.out
/-- What last answers. -/
def LastSays (s : List Sp) (t : Int) (w : World) (e : Ending) (w' : World) : Prop := ∃ k : Nat, e = .returned (.int .i64 k) ∧ LastIs s t k ∧ Below w.heap.size w w'
theorem last_of {s : List Sp} {t : Int} {k : Nat} (hu : Up s) (hk : k ≤ s.length) (h1 : ∀ j, j < k → (nth s j).1 < t) (h2 : ∀ j, k ≤ j → j < s.length → t ≤ (nth s j).1) (hp : 0 < s.length) (hh : head s ≤ t) :
    ((decide (k < s.length) && decide ((nth s k).1 = t)) = true ∧ LastIs s t k) ∨ ((decide (k < s.length) && decide ((nth s k).1 = t)) = false ∧ 0 < k ∧ LastIs s t (k - 1)) := by
  by_cases h : k < s.length ∧ (nth s k).1 = t
  · left
    refine ⟨by rw [decide_eq_true h.1, decide_eq_true h.2]; rfl, h.1, by omega, fun j h3 h4 => ?_⟩
    have := hu.lt h3 h4
    omega
  · right
    have h0 : 0 < k := by
      rcases Nat.eq_zero_or_pos k with h3 | h3
      · subst h3
        have := h2 0 (Nat.le_refl _) hp
        unfold head at hh
        exact absurd ⟨hp, by unfold nth at *; omega⟩ h
      · exact h3
    refine ⟨?_, h0, by omega, by have := h1 (k - 1) (by omega); omega, fun j h3 h4 => ?_⟩
    · by_cases h3 : k < s.length
      · rw [decide_eq_true h3, decide_eq_false (fun h4 => h ⟨h3, h4⟩)]; rfl
      · rw [decide_eq_false h3]; rfl
    · have h5 := h2 j (by omega) h4
      by_cases h6 : j = k
      · subst h6
        have : ¬ (nth s j).1 = t := fun h7 => h ⟨h4, h7⟩
        omega
      · have := hu.lt (i := k) (j := j) (by omega) h4
        have := h2 k (Nat.le_refl _) (by omega)
        omega
set_option maxHeartbeats 800000 in
theorem lastS (s : List Sp) (t : Int) (v : Value) (w : World) (hv : SpansIs s w v) (hu : Up s) (hp : 0 < s.length) (hh : head s ≤ t) (hl : s.length ≤ 2000) : Calls Try.prog 44 #[v, .int .i64 t] w (LastSays s t w) := by
  have C1 := Lib.hid (searchS s t v w hv hu hl)
  have HL : Hid (∀ k, k ≤ s.length → (∀ j, j < k → (nth s j).1 < t) → (∀ j, k ≤ j → j < s.length → t ≤ (nth s j).1) → _) := fun k hk h1 h2 => last_of hu hk h1 h2 hp hh
  clear hv hu
  go_enter Try.func44, Try.ntmps44
  go_wp2_with fail
  refine C1.out.mono ?_
  rintro e w1 ⟨k, rfl, hk, h1, h2, hb⟩
  have HB := Lib.hid hb
  have hw := HL.out k hk h1 h2
  clear h1 h2 hb HL C1
  generalize (decide (k < s.length) && decide ((nth s k).1 = t)) = B at *
  rcases hw with ⟨rfl, hi⟩ | ⟨rfl, h0, hi⟩
  · have HI := Lib.hid hi
    clear hi
    go_wp2_with fail
    go_ret
    exact ⟨k, rfl, HI.out, HB.out⟩
  · have HI := Lib.hid hi
    clear hi
    go_wp2_with fail
    go_ret
    exact ⟨k - 1, ret_eq (by omega), HI.out, HB.out⟩
end Go.Proofs.Ytjjigkomiidipaa.StepWalk
namespace Go.Proofs.Ytjjigkomiidipaa.StepWalk
open Go.RowKit Go.Proofs.Ytjjigkomiidipaa.SpanPlain Go.Proofs.Ytjjigkomiidipaa.StepPlain Go.Proofs.Ytjjigkomiidipaa.Mem Go.Proofs.Ytjjigkomiidipaa.SpanMem Go.Proofs.Ytjjigkomiidipaa.StepMem Go.Proofs.Ytjjigkomiidipaa.SpanRef Go.Proofs.Ytjjigkomiidipaa.StepRef
theorem atb_ways (s : List Sp) (t : Int) : (chkB s = false ∧ Hid (atB s t = false)) ∨ (chkB s = true ∧ decide (t < head s) = true ∧ Hid (atB s t = false)) ∨ (chkB s = true ∧ decide (t < head s) = false ∧ decide (4503599627370496 ≤ t) = true ∧ Hid (atB s t = false)) ∨
    (chkB s = true ∧ decide (t < head s) = false ∧ decide (4503599627370496 ≤ t) = false ∧ Hid (atB s t = true)) := by
  unfold atB
  cases chkB s with
  | false => exact .inl ⟨rfl, rfl⟩
  | true =>
    by_cases h1 : t < head s
    · exact .inr (.inl ⟨rfl, decide_eq_true h1, by rw [decide_eq_false (by omega : ¬ head s ≤ t)]; rfl⟩)
    · by_cases h2 : 4503599627370496 ≤ t
      · exact .inr (.inr (.inl ⟨rfl, decide_eq_false h1, decide_eq_true h2, by rw [decide_eq_false (by omega : ¬ t < 4503599627370496), Bool.and_false]; rfl⟩))
      · exact .inr (.inr (.inr ⟨rfl, decide_eq_false h1, decide_eq_false h2, by rw [decide_eq_true (by omega : head s ≤ t), decide_eq_true (by omega : t < 4503599627370496)]; rfl⟩))
theorem at_no {s : List Sp} {t : Int} (h : atB s t = false) {w w' : World} (hb : Below w.heap.size w w') : PairIs (atN s t) (atB s t) w (.returned (.tuple #[.int .i64 0, .bool false])) w' := by
  unfold atN
  rw [h]
  exact ⟨rfl, hb⟩
theorem at_yes {s : List Sp} {t : Int} (h : atB s t = true) {n : Int} (hn : val s t = n) {w w' : World} (hb : Below w.heap.size w w') : PairIs (atN s t) (atB s t) w (.returned (.tuple #[.int .i64 n, .bool true])) w' := by
  unfold atN
  rw [h, hn]
  exact ⟨rfl, hb⟩
set_option maxHeartbeats 1600000 in
theorem atS (s : List Sp) (t : Int) (v : Value) (w : World) (hv : SpansIs s w v) (hl : s.length ≤ 1000) : Calls Try.prog 34 #[v, .int .i64 t] w (PairIs (atN s t) (atB s t) w) := by
  have CC := Lib.hid (checkS s v w hv hl)
  have CL : Hid (∀ (w' : World), Below w.heap.size w w' → Chk s → head s ≤ t → Calls Try.prog 44 #[v, .int .i64 t] w' (LastSays s t w')) := fun w' hb hc hh => lastS s t v w' (hv.below hb) hc.up hc.pos hh (by omega)
  obtain ⟨A, c, rfl, hn, hA⟩ := hv.open2
  have HA := Lib.hid hA
  clear hA hv
  rcases atb_ways s t with ⟨hc, HR⟩ | ⟨hc, h1, HR⟩ | ⟨hc, h1, h2, HR⟩ | ⟨hc, h1, h2, HR⟩
  · rw [hc] at CC
    clear hc
    go_enter Try.func34, Try.ntmps34
    go_wp2_with fail
    refine CC.out.mono ?_
    rintro e w1 ⟨rfl, hb1⟩
    have HB1 := Lib.hid hb1
    clear hb1
    go_wp2_with fail
    go_ret2
    exact at_no HR.out HB1.out
  all_goals
    have HC := Lib.hid ((chk_iff s).1 hc)
    have hp : 0 < s.length := HC.out.pos
    rw [hc] at CC
    obtain ⟨ad, rfl, had, _, _⟩ := pair_zero HA.out hp
    clear hc
    go_enter Try.func34, Try.ntmps34
    go_wp2_with fail
    refine CC.out.mono ?_
    rintro e w1 ⟨rfl, hb1⟩
    obtain ⟨ad1, ead, had1, c1, c2⟩ := pair_zero (HA.out.below hb1) hp
    injection ead with ead
    subst ead
    have hh : (spCell s 0).1 = .int .i64 (head s) := rfl
    have hlz : (0 : Int) < (s.length : Int) := by omega
    rw [hh] at c1
    have HB1 := Lib.hid hb1
    clear hb1 c2 hh CC
  · generalize head s = h at *
    go_wp2_with fail
    go_ret2
    exact at_no HR.out HB1.out
  · generalize head s = h at *
    go_wp2_with fail
    go_ret2
    exact at_no HR.out HB1.out
  · have CL2 := Lib.hid (CL.out w1 HB1.out HC.out (by have := of_decide_eq_false h1; omega))
    generalize head s = h at *
    clear CL
    go_wp2_with fail
    refine CL2.out.mono ?_
    rintro e w2 ⟨k, rfl, hk, hb2⟩
    obtain ⟨ad2, ead, had2, c3, c4⟩ := nth_cells (HA.out.below (below_then HB1.out hb2)) hk.lt
    injection ead with ead
    subst ead
    have HV := Lib.hid hk.val
    have hk2 : (k : Int) < (s.length : Int) := by have := hk.lt; omega
    have HB2 := Lib.hid (below_then HB1.out hb2)
    clear hk hb2 CL2 c1 c3
    generalize nth s k = y at *
    go_wp2_with fail
    go_ret2
    exact at_yes HR.out HV.out HB2.out
theorem raw_of {l : List Sp} {w : World} {ad : Addr} {n c : Nat} (h : SpansIs l w (.slice (some ad) n c)) : Raw w ad (svals l) := by
  rcases h with ⟨h1, _⟩ | ⟨a, c2, h1, h2, _⟩
  · cases h1
  · injection h1 with h1
    injection h1 with h1
    subst h1
    exact h2
theorem svals_drop (l : List Sp) : ∀ k, (svals l).drop (k * 2) = svals (l.drop k) := by
  induction l with
  | nil => intro k; simp [svals]
  | cons s l ih =>
    intro k
    cases k with
    | zero => rfl
    | succ k =>
      have e : svals (s :: l) = .int .i64 s.1 :: .int .i64 s.2 :: svals l := rfl
      rw [e, show (k + 1) * 2 = k * 2 + 1 + 1 by omega, List.drop_succ_cons, List.drop_succ_cons, List.drop_succ_cons]
      exact ih k
theorem svals_take (l : List Sp) : ∀ k, (svals l).take (k * 2) = svals (l.take k) := by
  induction l with
  | nil => intro k; simp [svals]
  | cons s l ih =>
    intro k
    cases k with
    | zero => simp [svals]
    | succ k =>
      have e : svals (s :: l) = .int .i64 s.1 :: .int .i64 s.2 :: svals l := rfl
      have e2 : svals (s :: l.take k) = .int .i64 s.1 :: .int .i64 s.2 :: svals (l.take k) := rfl
      rw [e, show (k + 1) * 2 = k * 2 + 1 + 1 by omega, List.take_succ_cons, List.take_succ_cons, List.take_succ_cons, ih k, e2]
end Go.Proofs.Ytjjigkomiidipaa.StepWalk
