/-
  The walks of package sat: Sum and Least.
-/
import Derived.Test.YtedpkphbpkkhbaaSatWalkG
namespace Go.Proofs.Ytedpkphbpkkhbaa.SatWalk
open Go.RowKit Go.Proofs.Ytedpkphbpkkhbaa.SatPlain Go.Proofs.Ytedpkphbpkkhbaa.Mem

theorem fit_of {a : Int} (h : (Lit.int .i64 a).wf = true) : Fit a := by
  simp [Lit.wf, IntKind.min, IntKind.max, IntKind.signed, IntKind.bits] at h
  unfold Fit
  omega

def LeastBad (c : Int) (w : World) (e : Ending) (w' : World) : Prop := e = .returned (.tuple #[.int .i64 0, .int .i64 c]) ∧ ∃ n, w' = w.drewN n

set_option maxHeartbeats 800000 in
theorem least_bad (a b c : Int) (w : World) (h : a < 0 ∨ b < 0 ∨ c < 1) :
    Calls Try.prog 17 #[.int .i64 a, .int .i64 b, .int .i64 c] w (LeastBad 1 w) := by
  have hc : decide (a < 0) = true ∨ (decide (a < 0) = false ∧ decide (b < 0) = true) ∨ (decide (a < 0) = false ∧ decide (b < 0) = false ∧ decide (c < 1) = true) := by
    simp only [decide_eq_true_eq, decide_eq_false_iff_not]; omega
  clear h
  rcases hc with h1 | ⟨h1, h2⟩ | ⟨h1, h2, h3⟩
  all_goals
    go_enter Try.func17, Try.ntmps17
    go_wp2_with fail
    go_ret2
    exact ⟨rfl, 0, rfl⟩

theorem div_any (hi lo y : Nat) (w : World) (h0 : hi < y) (hy : y < 9223372036854775808) (hl : lo < 18446744073709551616) :
    Calls Try.prog 21 #[.int .u64 hi, .int .u64 lo, .int .u64 y] w (DivIs hi lo y w) := by
  by_cases h : 0 < hi
  · exact div_high hi lo y w h h0 hy hl
  · obtain rfl : hi = 0 := by omega
    exact div_low lo y w h0 hy hl

/-- What Least tells of numbers. -/
def LeastIs (a b c : Nat) (w : World) (e : Ending) (w' : World) : Prop :=
  (∃ n, w' = w.drewN n) ∧ ((c * 9223372036854775807 < a * b ∧ e = .returned (.tuple #[.int .i64 0, .int .i64 11])) ∨
    (a * b ≤ c * 9223372036854775807 ∧ ∃ k : Nat, k ≤ 9223372036854775807 ∧ e = .returned (.tuple #[.int .i64 k, .int .i64 0]) ∧ a * b ≤ c * k ∧ (k = 0 ∨ c * (k - 1) < a * b)))

theorem over_of_high {p c h l : Nat} (hp : p = h * 18446744073709551616 + l) (hc : 1 ≤ c) (h0 : c ≤ h) : c * 9223372036854775807 < p := by omega
theorem quo_cases {p c q r : Nat} (hq : q = p / c) (hr : r = p % c) (hc : 1 ≤ c) :
    (9223372036854775807 < q ∧ c * 9223372036854775807 < p) ∨ (q = 9223372036854775807 ∧ 0 < r ∧ c * 9223372036854775807 < p) ∨
    (q ≤ 9223372036854775807 ∧ r = 0 ∧ p ≤ c * 9223372036854775807 ∧ p ≤ c * q ∧ (q = 0 ∨ c * (q - 1) < p)) ∨
    (q < 9223372036854775807 ∧ 0 < r ∧ p ≤ c * 9223372036854775807 ∧ p ≤ c * (q + 1) ∧ (q + 1 = 0 ∨ c * (q + 1 - 1) < p)) := by
  have e : c * q + r = p := by rw [hq, hr]; exact Nat.div_add_mod p c
  have hl : r < c := by rw [hr]; exact Nat.mod_lt _ (by omega)
  clear hq hr
  subst e
  rcases Nat.lt_trichotomy q 9223372036854775807 with h | h | h
  · have h1 := Nat.mul_le_mul_left c (show q + 1 ≤ 9223372036854775807 by omega)
    rw [Nat.mul_add, Nat.mul_one] at h1
    by_cases h0 : r = 0
    · right; right; left
      refine ⟨by omega, h0, by omega, by omega, ?_⟩
      by_cases hq : q = 0
      · exact .inl hq
      · right
        obtain ⟨q, rfl⟩ : ∃ k, q = k + 1 := ⟨q - 1, by omega⟩
        rw [Nat.add_sub_cancel, Nat.mul_add]
        omega
    · right; right; right
      refine ⟨h, by omega, by omega, by rw [Nat.mul_add]; omega, .inr ?_⟩
      rw [Nat.add_sub_cancel]
      omega
  · subst h
    by_cases h0 : r = 0
    · right; right; left
      refine ⟨by omega, h0, by omega, by omega, .inr ?_⟩
      have : c * (9223372036854775807 - 1) + c = c * 9223372036854775807 := by omega
      omega
    · right; left
      exact ⟨rfl, by omega, by omega⟩
  · left
    have h1 := Nat.mul_le_mul_left c (show 9223372036854775807 + 1 ≤ q by omega)
    exact ⟨h, by omega⟩

set_option maxHeartbeats 1600000 in
theorem least_good (a b c : Nat) (w : World) (ha : a < 9223372036854775808) (hb : b < 9223372036854775808) (hc : c < 9223372036854775808) (c1 : 1 ≤ c) :
    Calls Try.prog 17 #[.int .i64 a, .int .i64 b, .int .i64 c] w (LeastIs a b c w) := by
  obtain ⟨h, l, e1, g1⟩ : ∃ q l, a * b = q * 18446744073709551616 + l ∧ l < 18446744073709551616 := ⟨_, _, (Nat.div_add_mod' _ _).symm, Nat.mod_lt _ (by omega)⟩
  have C1 := Lib.hid (fun w => mul64_at a b h l w (by omega) (by omega) e1 g1)
  by_cases hh : c ≤ h
  · have h1 : decide (c ≤ h) = true := by rw [decide_eq_true_eq]; exact hh
    have HO := Lib.hid (over_of_high e1 c1 hh)
    clear e1 hh
    go_enter Try.func17, Try.ntmps17
    go_wp2_with fail
    refine (C1.out _).mono ?_
    rintro e w1 ⟨rfl, rfl⟩
    go_wp2_with fail
    go_ret2
    exact ⟨⟨0, rfl⟩, .inl ⟨HO.out, rfl⟩⟩
  · have h1 : decide (c ≤ h) = false := by rw [decide_eq_false_iff_not]; exact hh
    have C2 := Lib.hid (fun w => div_any h l c w (by omega) hc g1)
    unfold DivIs at C2
    rw [← e1] at C2
    have hq := quo_cases (p := a * b) (c := c) rfl rfl c1
    have HP : Hid (LeastIs a b c w = LeastIs a b c w) := rfl
    generalize hpq : a * b / c = q at *
    generalize hpr : a * b % c = r at *
    clear e1 hh hpq hpr HP
    rcases hq with ⟨q1, q2⟩ | ⟨rfl, q2, q3⟩ | ⟨q1, rfl, q3, q4⟩ | ⟨q1, q2, q3, q4⟩
    · have t1 : decide ((9223372036854775807 : Int) < (q : Int)) = true := by rw [decide_eq_true_eq]; omega
      have HO := Lib.hid q2
      clear q1 q2
      go_enter Try.func17, Try.ntmps17
      go_wp2_with fail
      refine (C1.out _).mono ?_
      rintro e w1 ⟨rfl, rfl⟩
      go_wp2_with fail
      refine (C2.out _).mono ?_
      rintro e w1 ⟨rfl, n, rfl⟩
      go_wp2_with fail
      go_ret2
      exact ⟨⟨_, rfl⟩, .inl ⟨HO.out, rfl⟩⟩
    · have t1 : decide (0 < (r : Int)) = true := by rw [decide_eq_true_eq]; omega
      have HO := Lib.hid q3
      clear q3
      go_enter Try.func17, Try.ntmps17
      go_wp2_with fail
      refine (C1.out _).mono ?_
      rintro e w1 ⟨rfl, rfl⟩
      go_wp2_with fail
      refine (C2.out _).mono ?_
      rintro e w1 ⟨rfl, n, rfl⟩
      go_wp2_with fail
      go_ret2
      exact ⟨⟨_, rfl⟩, .inl ⟨HO.out, rfl⟩⟩
    · have t1 : decide ((9223372036854775807 : Int) < (q : Int)) = false := by rw [decide_eq_false_iff_not]; omega
      have HO := Lib.hid q3
      have HQ := Lib.hid q4
      clear q3 q4
      have t2 : ((q : Int) == 9223372036854775807) = true ∨ ((q : Int) == 9223372036854775807) = false := by cases ((q : Int) == 9223372036854775807) <;> simp
      rcases t2 with t2 | t2
      all_goals
        go_enter Try.func17, Try.ntmps17
        go_wp2_with fail
        refine (C1.out _).mono ?_
        rintro e w1 ⟨rfl, rfl⟩
        go_wp2_with fail
        refine (C2.out _).mono ?_
        rintro e w1 ⟨rfl, n, rfl⟩
        go_wp2_with fail
        go_ret2
        exact ⟨⟨_, rfl⟩, .inr ⟨HO.out, q, q1, rfl, HQ.out⟩⟩
    · have t1 : decide ((9223372036854775807 : Int) < (q : Int)) = false := by rw [decide_eq_false_iff_not]; omega
      have t2 : ((q : Int) == 9223372036854775807) = false := by rw [beq_eq_false_iff_ne]; omega
      have t3 : decide (0 < (r : Int)) = true := by rw [decide_eq_true_eq]; omega
      have HO := Lib.hid q3
      have HQ := Lib.hid q4
      clear q3 q4
      go_enter Try.func17, Try.ntmps17
      go_wp2_with fail
      refine (C1.out _).mono ?_
      rintro e w1 ⟨rfl, rfl⟩
      go_wp2_with fail
      refine (C2.out _).mono ?_
      rintro e w1 ⟨rfl, n, rfl⟩
      go_wp2_with fail
      go_ret2
      exact ⟨⟨_, rfl⟩, .inr ⟨HO.out, q + 1, by omega, by congr 1, HQ.out⟩⟩

/-- All together, one behind the other, as long as each sum fits. -/
def sumO : List Int → Option Int := fun l => l.foldl (fun o x => o.bind fun a => if -9223372036854775808 ≤ a + x ∧ a + x < 9223372036854775808 then some (a + x) else none) (some 0)
theorem sumO_none (l : List Int) : l.foldl (fun o x => o.bind fun a => if -9223372036854775808 ≤ a + x ∧ a + x < 9223372036854775808 then some (a + x) else none) none = none := by
  induction l with
  | nil => rfl
  | cons x l ih => exact ih
theorem sumO_snoc (l : List Int) (x : Int) : sumO (l ++ [x]) = (sumO l).bind fun a => if -9223372036854775808 ≤ a + x ∧ a + x < 9223372036854775808 then some (a + x) else none := by
  unfold sumO; rw [List.foldl_append]; rfl
theorem sumO_fail (l m : List Int) (h : sumO l = none) : sumO (l ++ m) = none := by
  unfold sumO at h ⊢
  rw [List.foldl_append, h]
  exact sumO_none m
/-- Where a sum stands: the first k are in. -/
def SumAt (l : List Int) (k : Nat) (s : Int) : Prop := sumO (l.take k) = some s ∧ Fit s
theorem fit0 : Fit 0 := ⟨by decide, by decide⟩
theorem SumAt.start (l : List Int) : SumAt l 0 0 := ⟨rfl, fit0⟩
theorem take_getD (l : List Int) (k : Nat) (h : k < l.length) : l.take (k + 1) = l.take k ++ [l.getD k 0] := by
  rw [List.take_succ_eq_append_getElem h]; simp [List.getD, h]
theorem SumAt.next {l : List Int} {k : Nat} {s : Int} (h : SumAt l k s) (hk : k < l.length) (hf : Fit (s + l.getD k 0)) : SumAt l (k + 1) (s + l.getD k 0) := by
  refine ⟨?_, hf⟩
  rw [take_getD l k hk, sumO_snoc, h.1]
  exact if_pos hf
theorem SumAt.fail {l : List Int} {k : Nat} {s : Int} (h : SumAt l k s) (hk : k < l.length) (hf : ¬ Fit (s + l.getD k 0)) : sumO l = none := by
  have e : sumO (l.take (k + 1)) = none := by
    rw [take_getD l k hk, sumO_snoc, h.1]
    exact if_neg hf
  have := sumO_fail _ (l.drop (k + 1)) e
  rwa [List.take_append_drop] at this
theorem SumAt.all {l : List Int} {k : Nat} {s : Int} (h : SumAt l k s) (hk : l.length ≤ k) : sumO l = some s := by
  have := h.1
  rwa [List.take_of_length_le hk] at this

def sumV (l : List Int) : Int := (sumO l).getD 0
def sumOk (l : List Int) : Bool := (sumO l).isSome
theorem sum_fail {l : List Int} (h : sumO l = none) : sumV l = 0 ∧ sumOk l = false := by unfold sumV sumOk; rw [h]; exact ⟨rfl, rfl⟩
theorem sum_some {l : List Int} {s : Int} (h : sumO l = some s) : sumV l = s ∧ sumOk l = true := by unfold sumV sumOk; rw [h]; exact ⟨rfl, rfl⟩
def icell (l : List Int) (i : Nat) : Value := .int .i64 (l.getD i 0)
def SumIs (l : List Int) (w : World) (e : Ending) (w' : World) : Prop := PairIs (sumV l) (sumOk l) w e w'
theorem SumIs.none_ {l : List Int} {w : World} (h : sumO l = none) : SumIs l w (.returned (.tuple #[.int .i64 0, .bool false])) w := by
  obtain ⟨h1, h2⟩ := sum_fail h
  unfold SumIs
  rw [h1, h2]
  exact ⟨rfl, rfl⟩
theorem SumIs.some_ {l : List Int} {w : World} {s : Int} (h : sumO l = some s) : SumIs l w (.returned (.tuple #[.int .i64 s, .bool true])) w := by
  obtain ⟨h1, h2⟩ := sum_some h
  unfold SumIs
  rw [h1, h2]
  exact ⟨rfl, rfl⟩

set_option maxHeartbeats 800000 in
theorem satsum_any (l : List Int) (A : Option Addr) (c : Nat) (w : World) (hA : Cells w A l.length (icell l)) (hl : l.length ≤ 9223372036854775807) (hf : ∀ x ∈ l, Fit x) :
    Calls Try.prog 15 #[.slice A l.length c] w (SumIs l w) := by
  have HA := Lib.hid hA
  have HF : Hid (∀ k, Fit (l.getD k 0)) := fun k => by
    by_cases h : k < l.length
    · have e : l.getD k 0 = l[k] := by simp [List.getD, h]
      rw [e]; exact hf _ (List.getElem_mem h)
    · have e : l.getD k 0 = 0 := by simp [List.getD, h]
      rw [e]; exact fit0
  clear hA hf
  go_enter Try.func15, Try.ntmps15
  go_wp2_with fail
  go_loop [4, 11] (fun a i => ∃ (k : Nat) (s : Int), a = .int .i64 s ∧ i = .int .i64 k ∧ k ≤ l.length ∧ Hid (SumAt l k s)) (fun _ i => l.length - (intOf i).toNat)
  case atStart => exact ⟨0, 0, rfl, rfl, Nat.zero_le _, SumAt.start l⟩
  case round =>
    obtain ⟨k, s, rfl, rfl, hk, HS⟩ := hrel
    by_cases hlt : k < l.length
    · obtain ⟨ad, rfl, _, hc⟩ := HA.out.at hlt
      have hc2 : w.cell? (ad.add k) = some (.int .i64 (l.getD k 0)) := hc
      have hx := HF.out k
      clear hc
      by_cases hfit : Fit (s + l.getD k 0)
      · have HN := Lib.hid (HS.out.next hlt hfit)
        have C1 := Lib.hid (fun w => add_fits s (l.getD k 0) w HS.out.2 hx hfit)
        clear hx hfit
        generalize s + l.getD k 0 = t at *
        generalize l.getD k 0 = x at *
        go_wp2_with fail
        refine (C1.out _).mono ?_
        rintro e w1 ⟨rfl, rfl⟩
        go_wp2_with fail
        exact ⟨⟨k + 1, t, rfl, by go_num, by omega, HN.out⟩, by simp [intOf] <;> omega⟩
      · have HN := Lib.hid (HS.out.fail hlt hfit)
        have C1 := Lib.hid (fun w => add_over s (l.getD k 0) w HS.out.2 hx hfit)
        clear hx hfit
        generalize l.getD k 0 = x at *
        go_wp2_with fail
        refine (C1.out _).mono ?_
        rintro e w1 ⟨rfl, rfl⟩
        go_wp2_with fail
        go_ret2
        exact SumIs.none_ HN.out
    · go_wp2_with fail
      go_ret2
      exact SumIs.some_ (HS.out.all (by omega))
end Go.Proofs.Ytedpkphbpkkhbaa.SatWalk
