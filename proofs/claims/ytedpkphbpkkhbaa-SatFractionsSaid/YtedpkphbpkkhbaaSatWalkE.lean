/-
  The walk of the library's quotient of two words by one.
-/
import Derived.Test.YtedpkphbpkkhbaaRows
import Derived.Test.YtedpkphbpkkhbaaSatPlain
import Derived.Test.YtedpkphbpkkhbaaMem
import Derived.Test.YtedpkphbpkkhbaaShelf
import Derived.WalkKit
import Derived.WalkSpells
import Derived.WalkLawsBesides
import Derived.Lib.ItoaNum
import Derived.Laws.Bits64b
import Derived.Deep.QuietTactic
import Derived.BigQuiet
import Derived.LoopTactic
import Derived.Deep.CutBlock
import Derived.Deep.DeepCutAuto
import Derived.Deep.LoopGhost
namespace Go.Proofs.Ytedpkphbpkkhbaa.SatWalk
open Go.RowKit Go.Proofs.Ytedpkphbpkkhbaa.SatPlain Go.Proofs.Ytedpkphbpkkhbaa.Mem

/-- The shift that brings a word's highest bit to the top. -/
def up (y : Nat) : Nat := 64 - Lib.bitLen y
theorem up_spec {y : Nat} (h0 : 0 < y) (h : y < 9223372036854775808) : 1 ≤ up y ∧ up y ≤ 63 ∧ Lib.bitLen y = 64 - up y ∧ 9223372036854775808 ≤ y * 2 ^ up y ∧ y * 2 ^ up y < 18446744073709551616 := by
  obtain ⟨h1, h2, h3⟩ := Lib.bitLenAux_bounds 64 y (by omega) (by omega)
  have h4 : Lib.bitLen y ≤ 63 := Lib.bitLen_le y 63 (by omega) h
  unfold up
  change 1 ≤ Lib.bitLen y at h1
  change 2 ^ (Lib.bitLen y - 1) ≤ y at h2
  change y < 2 ^ Lib.bitLen y at h3
  generalize Lib.bitLen y = l at *
  have e1 : 2 ^ (l - 1) * 2 ^ (64 - l) = 9223372036854775808 := by rw [← Nat.pow_add, show l - 1 + (64 - l) = 63 from by omega]
  have e2 : 2 ^ l * 2 ^ (64 - l) = 18446744073709551616 := by rw [← Nat.pow_add, show l + (64 - l) = 64 from by omega]
  have hp : 0 < 2 ^ (64 - l) := Nat.two_pow_pos _
  refine ⟨by omega, by omega, by omega, ?_, ?_⟩
  · rw [← e1]; exact Nat.mul_le_mul_right _ h2
  · rw [← e2]; exact Nat.mul_lt_mul_of_pos_right h3 hp

theorem leading (y : Nat) (w : World) (h0 : 0 < y) (h : y < 9223372036854775808) :
    Calls Try.prog 23 #[.int .u64 y] w fun e w' => e = .returned (.int .i64 (up y)) ∧ w = w' :=
  (Try.bits_LeadingZeros64 y w (by omega) (by omega)).mono fun _ _ ⟨he, hw⟩ => by
    obtain ⟨h1, h2, h3, _⟩ := up_spec h0 h
    rw [Int.toNat_natCast, h3] at he
    exact ⟨by rw [he]; congr 2; omega, hw.symm⟩

def DivIs (hi lo y : Nat) (w : World) (e : Ending) (w' : World) : Prop :=
  e = .returned (.tuple #[.int .u64 ((hi * 18446744073709551616 + lo) / y : Nat), .int .u64 ((hi * 18446744073709551616 + lo) % y : Nat)]) ∧ ∃ n, w' = w.drewN n

theorem wrap_small {n : Nat} (h : n < 18446744073709551616) : IntKind.u64.wrap (n : Int) = (n : Int) := by rw [IntKind.wrap_u64]; omega
theorem ret_uu {a b c d : Int} (h : a = b) (g : c = d) : Ending.returned (.tuple #[.int .u64 a, .int .u64 c]) = Ending.returned (.tuple #[.int .u64 b, .int .u64 d]) := by rw [h, g]

set_option maxHeartbeats 800000 in
theorem div_low (lo y : Nat) (w : World) (h0 : 0 < y) (hy : y < 9223372036854775808) (hl : lo < 18446744073709551616) :
    Calls Try.prog 21 #[.int .u64 0, .int .u64 lo, .int .u64 y] w (DivIs 0 lo y w) := by
  have hy1 : ((y : Int) == 0) = false := by rw [beq_eq_false_iff_ne]; omega
  go_enter Try.func21, Try.ntmps21
  go_wp2_with fail
  go_quiet (fail)
  go_wp2_with fail
  go_ret2
  refine ⟨?_, _, rfl⟩
  have e : IntKind.u64.wrap ((lo : Int) / (y : Int)) = ((lo / y : Nat) : Int) := by
    rw [← Int.natCast_ediv]
    exact wrap_small (by have := Nat.div_le_self lo y; omega)
  rw [Nat.zero_mul, Nat.zero_add]
  exact ret_uu e (by rw [Int.natCast_emod])

theorem wrap_mod (n : Nat) : IntKind.u64.wrap (n : Int) = ((n % 18446744073709551616 : Nat) : Int) := by rw [IntKind.wrap_u64]; omega
theorem wrap_shl {x s p : Nat} (hp : p = x * 2 ^ s) (h : p < 18446744073709551616) : IntKind.u64.wrap ((x : Int) * 2 ^ s) = (p : Int) := by
  have e : (x : Int) * 2 ^ s = (p : Int) := by rw [hp, Int.natCast_mul]; congr 1
  rw [e]
  exact wrap_small h
theorem wrap_shl_mod {x s p : Nat} (hp : p = x * 2 ^ s % 18446744073709551616) : IntKind.u64.wrap ((x : Int) * 2 ^ s) = (p : Int) := by
  have e : (x : Int) * 2 ^ s = ((x * 2 ^ s : Nat) : Int) := by rw [Int.natCast_mul]; congr 1
  rw [e, hp]
  exact wrap_mod _
theorem shr_nat {x s p : Nat} (hp : p = x / 2 ^ s) : (x : Int) / 2 ^ s = (p : Int) := by
  rw [hp, Int.natCast_ediv]
  congr 1
theorem and_low {x p : Nat} (hp : p = x % 4294967296) (h : x < 18446744073709551616) : bits .and .u64 (x : Int) 4294967295 = (p : Int) := by
  have h1 := bits_and_u64_nat x 4294967295 h (by omega)
  have e : x &&& 4294967295 = x % 4294967296 := Nat.and_two_pow_sub_one_eq_mod x 32
  rw [e, ← hp] at h1
  exact h1
theorem or_add {x s l p : Nat} (hp : p = x * 2 ^ s + l) (hl : l < 2 ^ s) (h : p < 18446744073709551616) : bits .or .u64 ((x * 2 ^ s : Nat) : Int) (l : Int) = (p : Int) := by
  rw [bits_or_u64_nat _ _ (by omega) (by omega)]
  rw [show x * 2 ^ s ||| l = x * 2 ^ s + l from by rw [← Nat.shiftLeft_eq]; exact (Nat.shiftLeft_add_eq_or_of_lt hl x).symm, hp]

theorem wrap_k {u c : Nat} (h : c = u * 4294967296 % 18446744073709551616) : IntKind.u64.wrap ((u : Int) * 4294967296) = (c : Int) := by rw [h, IntKind.wrap_u64]; omega
theorem wrap_add {c d e : Nat} (h : e = (c + d) % 18446744073709551616) : IntKind.u64.wrap ((c : Int) + (d : Int)) = (e : Int) := by rw [h, IntKind.wrap_u64]; omega
theorem wrap_mul_mod {q y e : Nat} (h : e = q * y % 18446744073709551616) : IntKind.u64.wrap ((q : Int) * (y : Int)) = (e : Int) := by rw [h, ← Int.natCast_mul]; exact wrap_mod _
theorem wrap_rest {u u1 p m c1 c2 c3 : Nat} (h1 : c1 = u * 4294967296 % 18446744073709551616) (h2 : c2 = (c1 + u1) % 18446744073709551616) (h3 : c3 = p % 18446744073709551616) (h : u * 4294967296 + u1 = p + m) (hm : m < 18446744073709551616) :
    IntKind.u64.wrap ((c2 : Int) - (c3 : Int)) = (m : Int) := by
  rw [IntKind.wrap_u64]; omega
theorem div_end {hi lo s y Y u u1 u0 q1 q0 m : Nat} (hy : 0 < y) (hY : Y = y * 2 ^ s) (hU : Shifted hi lo s u u1 u0) (h1 : q1 = (u * 4294967296 + u1) / Y) (hm : m = (u * 4294967296 + u1) % Y) (h0 : q0 = (m * 4294967296 + u0) / Y) :
    q1 * 4294967296 + q0 = (hi * 18446744073709551616 + lo) / y ∧ (m * 4294967296 + u0) % Y / 2 ^ s = (hi * 18446744073709551616 + lo) % y := by
  have hp : 0 < 2 ^ s := Nat.two_pow_pos s
  have h := two_digits (Nat.lt_of_lt_of_le (Nat.mul_pos hy hp) (Nat.le_of_eq hY.symm)) h1 hm h0
  unfold Shifted at hU
  rw [hU] at h
  rw [h.1, h.2, hY, Nat.mul_div_mul_right _ _ hp, Nat.mul_mod_mul_right, Nat.mul_div_cancel _ hp]
  exact ⟨rfl, rfl⟩

set_option maxRecDepth 100000 in
set_option maxHeartbeats 1600000 in
theorem div_high (hi lo y : Nat) (w : World) (h1 : 0 < hi) (h0 : hi < y) (hy : y < 9223372036854775808) (hl : lo < 18446744073709551616) :
    Calls Try.prog 21 #[.int .u64 hi, .int .u64 lo, .int .u64 y] w (DivIs hi lo y w) := by
  have hy1 : ((y : Int) == 0) = false := by rw [beq_eq_false_iff_ne]; omega
  have hy2 : decide (y ≤ hi) = false := by simp; omega
  have hy3 : ((hi : Int) == 0) = false := by rw [beq_eq_false_iff_ne]; omega
  have hyp : 0 < y := by omega
  obtain ⟨s1, s2, s3, s4, s5⟩ := up_spec hyp hy
  clear s3
  have C1 := Lib.hid (fun w => leading y w hyp hy)
  generalize up y = s at *
  obtain ⟨Y, hY⟩ : ∃ Y, Y = y * 2 ^ s := ⟨_, rfl⟩
  rw [← hY] at s4 s5
  have f1 := wrap_shl hY s5
  obtain ⟨a, ha⟩ : ∃ a, a = Y / 4294967296 := ⟨_, rfl⟩
  have f2 : (Y : Int) / 4294967296 = (a : Int) := by omega
  obtain ⟨b, hb⟩ : ∃ b, b = Y % 4294967296 := ⟨_, rfl⟩
  have f3 := and_low hb s5
  have hp2 : 0 < 2 ^ s := Nat.two_pow_pos s
  have hg : hi * 2 ^ s + 2 ^ s ≤ Y := by rw [hY, ← Nat.succ_mul]; exact Nat.mul_le_mul_right _ h0
  have f4 := wrap_shl (x := hi) (s := s) rfl (by omega)
  obtain ⟨l1, hl1⟩ : ∃ l1, l1 = lo / 2 ^ (64 - s) := ⟨_, rfl⟩
  have f5 := shr_nat hl1
  have e64 : 2 ^ (64 - s) * 2 ^ s = 18446744073709551616 := by rw [← Nat.pow_add, show 64 - s + s = 64 from by omega]
  have hl2 : l1 < 2 ^ s := by rw [hl1, Nat.div_lt_iff_lt_mul (Nat.two_pow_pos _), Nat.mul_comm, e64]; exact hl
  obtain ⟨u, hu⟩ : ∃ u, u = hi * 2 ^ s + l1 := ⟨_, rfl⟩
  have f6 := or_add hu hl2 (by omega)
  obtain ⟨p, hp⟩ : ∃ p, p = lo * 2 ^ s % 18446744073709551616 := ⟨_, rfl⟩
  have f7 := wrap_shl_mod hp
  obtain ⟨u1, hu1⟩ : ∃ u1, u1 = p / 4294967296 := ⟨_, rfl⟩
  have f8 : (p : Int) / 4294967296 = (u1 : Int) := by omega
  obtain ⟨u0, hu0⟩ : ∃ u0, u0 = p % 4294967296 := ⟨_, rfl⟩
  have f9 := and_low hu0 (by omega)
  have huY : u < Y := by omega
  have ha1 : 2147483648 ≤ a := by omega
  have ha2 : a < 4294967296 := by omega
  have hb1 : b < 4294967296 := by omega
  have hu11 : u1 < 4294967296 := by omega
  have hu01 : u0 < 4294967296 := by omega
  have HY : Hid (Y = a * 4294967296 + b) := by
    show Y = a * 4294967296 + b
    omega
  have HY2 := Lib.hid hY
  have HU : Hid (Shifted hi lo s u u1 u0) := by
    have e4 := shifted (W := 18446744073709551616) (t := 2 ^ s) (d := 2 ^ (64 - s)) e64 hp2 (Nat.two_pow_pos (64 - s)) hl1 hu hp
    have e5 : u1 * 4294967296 + u0 = p := by rw [hu1, hu0]; exact Nat.div_add_mod' p 4294967296
    show u * 18446744073709551616 + (u1 * 4294967296 + u0) = _
    rw [e5]
    exact e4
  clear hY hb hg hl1 hl2 e64 hu hp hu1 hu0 hp2
  generalize hi * 2 ^ s = g at *
  obtain ⟨q, hq⟩ : ∃ q, q = u / a := ⟨_, rfl⟩
  have hqa : q * a ≤ u := by rw [hq]; exact Nat.div_mul_le_self u a
  have hq2 : q ≤ u := by rw [hq]; exact Nat.div_le_self u a
  have g1 : IntKind.u64.wrap ((u : Int) / (a : Int)) = (q : Int) := by rw [← Int.natCast_ediv, ← hq]; exact wrap_small (by omega)
  obtain ⟨qa, hqa2⟩ : ∃ qa, qa = q * a := ⟨_, rfl⟩
  have g2 : IntKind.u64.wrap ((q : Int) * (a : Int)) = (qa : Int) := by rw [← Int.natCast_mul, ← hqa2]; exact wrap_small (by omega)
  obtain ⟨r, hr⟩ : ∃ r, r = u - qa := ⟨_, rfl⟩
  have g3 : (u : Int) - (qa : Int) = (r : Int) := by omega
  have HT : Hid (Try Y a u u1 q r) := by
    have := Try.start HY.out ha1 hu11 (u := u)
    rw [← hq, ← hqa2, ← hr] at this
    exact this
  have hr1 : r < 4294967296 := by
    have h1 : u % a < a := Nat.mod_lt _ (by omega)
    have h2 : u / a * a + u % a = u := Nat.div_add_mod' u a
    rw [hr, hqa2, hq]
    omega
  clear hq hqa hqa2 hr ha
  go_enter Try.func21, Try.ntmps21
  go_wp2_with fail
  refine (C1.out _).mono ?_
  rintro e w1 ⟨rfl, rfl⟩
  go_upto_block 0 with fail
  clear f1 f2 f3 f4 f5 f6 f7 f8 f9 g1 g2 g3 hy1 hy2 hy3
  go_cut [15] (fun c wc => ∃ q1 : Nat, c = .int .u64 q1 ∧ q1 < 4294967296 ∧ Hid (q1 = (u * 4294967296 + u1) / Y) ∧ w = wc)
  case first =>
    go_wp2_with fail
    go_loop [15, 16] (fun c d => ∃ q r : Nat, c = .int .u64 q ∧ d = .int .u64 r ∧ r < 4294967296 ∧ q < 8589934592 ∧ Hid (Try Y a u u1 q r)) (fun c _ => (intOf c).toNat)
    case atStart => exact ⟨q, r, rfl, rfl, hr1, HT.out.q_le ha1 (by omega), HT⟩
    case round =>
      clear HT hr1
      obtain ⟨q, r, rfl, rfl, hr, hq, HT⟩ := hrel
      have ho : (4294967296 ≤ r + a ∧ decide (4294967296 ≤ (r : Int) + (a : Int)) = true) ∨ (r + a < 4294967296 ∧ decide (4294967296 ≤ (r : Int) + (a : Int)) = false) := by
        rw [decide_eq_true_eq, decide_eq_false_iff_not]; omega
      by_cases hk : 4294967296 ≤ q
      · have hk2 : 4294967296 ≤ (q : Int) := by omega
        have HN := Lib.hid (HT.out.down huY hu11 hk)
        rcases ho with ⟨ho, ho2⟩ | ⟨ho, ho2⟩
        · go_wp2_with fail
          go_meet
          exact ⟨q - 1, by go_num, (HN.out.2.over HY.out hb1 ha1 huY ho).symm ▸ digit_small huY hu11, HN.out.2.over HY.out hb1 ha1 huY ho, rfl⟩
        · go_wp2_with fail
          exact ⟨⟨q - 1, r + a, by go_num, by go_num, ho, by omega, HN.out.2⟩, by simp [intOf] <;> omega⟩
      · have hk2 : (q : Int) < 4294967296 := by omega
        have hqb : q * b ≤ 4294967295 * 4294967295 := Nat.mul_le_mul (by omega) (by omega)
        obtain ⟨qb, hqb2⟩ : ∃ qb, qb = q * b := ⟨_, rfl⟩
        have g2 : IntKind.u64.wrap ((q : Int) * (b : Int)) = (qb : Int) := by rw [← Int.natCast_mul, ← hqb2]; exact wrap_small (by omega)
        rw [← hqb2] at hqb
        by_cases ht : 4294967296 * r + u1 < qb
        · have HN := Lib.hid (HT.out.next HY.out ha1 (by rw [← hqb2]; exact ht))
          have ht2 : decide (4294967296 * (r : Int) + (u1 : Int) < (qb : Int)) = true := by rw [decide_eq_true_eq]; omega
          have hq0 : 1 ≤ q := HN.out.1
          clear hqb2 ht
          rcases ho with ⟨ho, ho2⟩ | ⟨ho, ho2⟩
          · go_wp2_with fail
            go_meet
            exact ⟨q - 1, by go_num, (HN.out.2.over HY.out hb1 ha1 huY ho).symm ▸ digit_small huY hu11, HN.out.2.over HY.out hb1 ha1 huY ho, rfl⟩
          · go_wp2_with fail
            exact ⟨⟨q - 1, r + a, by go_num, by go_num, ho, by omega, HN.out.2⟩, by simp [intOf] <;> omega⟩
        · have HN := Lib.hid (HT.out.stop HY.out ha1 (by rw [← hqb2]; omega))
          have ht2 : decide (4294967296 * (r : Int) + (u1 : Int) < (qb : Int)) = false := by rw [decide_eq_false_iff_not]; omega
          have hk3 : decide (4294967296 ≤ (q : Int)) = false := by rw [decide_eq_false_iff_not]; omega
          clear hqb2 ht ho
          go_wp2_with fail
          go_meet
          exact ⟨q, rfl, by omega, HN.out, rfl⟩
  case rest =>
    obtain ⟨q1, rfl, hq1, HQ, rfl⟩ := hcut
    obtain ⟨m, hm⟩ : ∃ m, m = (u * 4294967296 + u1) % Y := ⟨_, rfl⟩
    have hmY : m < Y := by rw [hm]; exact Nat.mod_lt _ (by omega)
    obtain ⟨c1, hc1⟩ : ∃ c1, c1 = u * 4294967296 % 18446744073709551616 := ⟨_, rfl⟩
    have k1 := wrap_k hc1
    obtain ⟨c2, hc2⟩ : ∃ c2, c2 = (c1 + u1) % 18446744073709551616 := ⟨_, rfl⟩
    have k2 := wrap_add hc2
    obtain ⟨c3, hc3⟩ : ∃ c3, c3 = q1 * Y % 18446744073709551616 := ⟨_, rfl⟩
    have k3 := wrap_mul_mod hc3
    have k4 : IntKind.u64.wrap ((c2 : Int) - (c3 : Int)) = (m : Int) := wrap_rest hc1 hc2 hc3 (by rw [hm, HQ.out]; exact (Nat.div_add_mod' _ _).symm) (by omega)
    have HM := Lib.hid hm
    clear hc1 hc2 hc3 hm
    obtain ⟨q, hq⟩ : ∃ q, q = m / a := ⟨_, rfl⟩
    have hqa : q * a ≤ m := by rw [hq]; exact Nat.div_mul_le_self m a
    have hq2 : q ≤ m := by rw [hq]; exact Nat.div_le_self m a
    have g1 : IntKind.u64.wrap ((m : Int) / (a : Int)) = (q : Int) := by rw [← Int.natCast_ediv, ← hq]; exact wrap_small (by omega)
    obtain ⟨qa, hqa2⟩ : ∃ qa, qa = q * a := ⟨_, rfl⟩
    have g2 : IntKind.u64.wrap ((q : Int) * (a : Int)) = (qa : Int) := by rw [← Int.natCast_mul, ← hqa2]; exact wrap_small (by omega)
    obtain ⟨r, hr⟩ : ∃ r, r = m - qa := ⟨_, rfl⟩
    have g3 : (m : Int) - (qa : Int) = (r : Int) := by omega
    have HT : Hid (Try Y a m u0 q r) := by
      have := Try.start HY.out ha1 hu01 (u := m)
      rw [← hq, ← hqa2, ← hr] at this
      exact this
    have hr1 : r < 4294967296 := by
      have h1 : m % a < a := Nat.mod_lt _ (by omega)
      have h2 : m / a * a + m % a = m := Nat.div_add_mod' m a
      rw [hr, hqa2, hq]
      omega
    clear hq hqa hqa2 hr
    go_upto_block 2 with fail

    clear k1 k2 k3 k4 g1 g2 g3
    go_cut [18] (fun c wc => ∃ q0 : Nat, c = .int .u64 q0 ∧ q0 < 4294967296 ∧ Hid (q0 = (m * 4294967296 + u0) / Y) ∧ w = wc)
    case first =>
      go_wp2_with fail
      go_loop [18, 16] (fun c d => ∃ q r : Nat, c = .int .u64 q ∧ d = .int .u64 r ∧ r < 4294967296 ∧ q < 8589934592 ∧ Hid (Try Y a m u0 q r)) (fun c _ => (intOf c).toNat)
      case atStart => exact ⟨q, r, rfl, rfl, hr1, HT.out.q_le ha1 (by omega), HT⟩
      case round =>
        clear HT hr1
        obtain ⟨q, r, rfl, rfl, hr, hq, HT⟩ := hrel
        have ho : (4294967296 ≤ r + a ∧ decide (4294967296 ≤ (r : Int) + (a : Int)) = true) ∨ (r + a < 4294967296 ∧ decide (4294967296 ≤ (r : Int) + (a : Int)) = false) := by
          rw [decide_eq_true_eq, decide_eq_false_iff_not]; omega
        by_cases hk : 4294967296 ≤ q
        · have hk2 : 4294967296 ≤ (q : Int) := by omega
          have HN := Lib.hid (HT.out.down hmY hu01 hk)
          rcases ho with ⟨ho, ho2⟩ | ⟨ho, ho2⟩
          · go_wp2_with fail
            go_meet
            exact ⟨q - 1, by go_num, (HN.out.2.over HY.out hb1 ha1 hmY ho).symm ▸ digit_small hmY hu01, HN.out.2.over HY.out hb1 ha1 hmY ho, rfl⟩
          · go_wp2_with fail
            exact ⟨⟨q - 1, r + a, by go_num, by go_num, ho, by omega, HN.out.2⟩, by simp [intOf] <;> omega⟩
        · have hk2 : (q : Int) < 4294967296 := by omega
          have hqb : q * b ≤ 4294967295 * 4294967295 := Nat.mul_le_mul (by omega) (by omega)
          obtain ⟨qb, hqb2⟩ : ∃ qb, qb = q * b := ⟨_, rfl⟩
          have g2 : IntKind.u64.wrap ((q : Int) * (b : Int)) = (qb : Int) := by rw [← Int.natCast_mul, ← hqb2]; exact wrap_small (by omega)
          rw [← hqb2] at hqb
          by_cases ht : 4294967296 * r + u0 < qb
          · have HN := Lib.hid (HT.out.next HY.out ha1 (by rw [← hqb2]; exact ht))
            have ht2 : decide (4294967296 * (r : Int) + (u0 : Int) < (qb : Int)) = true := by rw [decide_eq_true_eq]; omega
            have hq0 : 1 ≤ q := HN.out.1
            clear hqb2 ht
            rcases ho with ⟨ho, ho2⟩ | ⟨ho, ho2⟩
            · go_wp2_with fail
              go_meet
              exact ⟨q - 1, by go_num, (HN.out.2.over HY.out hb1 ha1 hmY ho).symm ▸ digit_small hmY hu01, HN.out.2.over HY.out hb1 ha1 hmY ho, rfl⟩
            · go_wp2_with fail
              exact ⟨⟨q - 1, r + a, by go_num, by go_num, ho, by omega, HN.out.2⟩, by simp [intOf] <;> omega⟩
          · have HN := Lib.hid (HT.out.stop HY.out ha1 (by rw [← hqb2]; omega))
            have ht2 : decide (4294967296 * (r : Int) + (u0 : Int) < (qb : Int)) = false := by rw [decide_eq_false_iff_not]; omega
            have hk3 : decide (4294967296 ≤ (q : Int)) = false := by rw [decide_eq_false_iff_not]; omega
            clear hqb2 ht ho
            go_wp2_with fail
            go_meet
            exact ⟨q, rfl, by omega, HN.out, rfl⟩
    case rest =>
      obtain ⟨q0, rfl, hq0, HQ0, rfl⟩ := hcut
      obtain ⟨n, hn⟩ : ∃ n, n = (m * 4294967296 + u0) % Y := ⟨_, rfl⟩
      have hnY : n < Y := by rw [hn]; exact Nat.mod_lt _ (by omega)
      obtain ⟨c1, hc1⟩ : ∃ c1, c1 = m * 4294967296 % 18446744073709551616 := ⟨_, rfl⟩
      have k1 := wrap_k hc1
      obtain ⟨c2, hc2⟩ : ∃ c2, c2 = (c1 + u0) % 18446744073709551616 := ⟨_, rfl⟩
      have k2 := wrap_add hc2
      obtain ⟨c3, hc3⟩ : ∃ c3, c3 = q0 * Y % 18446744073709551616 := ⟨_, rfl⟩
      have k3 := wrap_mul_mod hc3
      have k4 : IntKind.u64.wrap ((c2 : Int) - (c3 : Int)) = (n : Int) := wrap_rest hc1 hc2 hc3 (by rw [hn, HQ0.out]; exact (Nat.div_add_mod' _ _).symm) (by omega)
      have k5 : (n : Int) / 2 ^ s = ((n / 2 ^ s : Nat) : Int) := shr_nat rfl
      have HN := Lib.hid hn
      clear hc1 hc2 hc3 hn
      generalize hz : n / 2 ^ s = z at *
      have HZ := Lib.hid hz
      clear hz
      go_wp2_with fail
      go_ret2
      have h := div_end hyp HY2.out HU.out HQ.out HM.out HQ0.out
      rw [← HN.out, HZ.out] at h
      exact ⟨ret_uu (by rw [← h.1]; go_num) (by rw [← h.2]), 0, rfl⟩
end Go.Proofs.Ytedpkphbpkkhbaa.SatWalk
