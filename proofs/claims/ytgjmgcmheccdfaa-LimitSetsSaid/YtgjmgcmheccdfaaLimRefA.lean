/-
  The walks of the document's answers for layer 10: One, Check, less, Same.
-/
import Derived.Test.YtgjmgcmheccdfaaApiMem
import Derived.Test.YtgjmgcmheccdfaaLimPlain
import Derived.Test.YtgjmgcmheccdfaaJobRefA
import Derived.Deep.QuietTactic
import Derived.BigQuiet
import Derived.Deep.CutBlock
import Derived.Deep.DeepCutAuto
namespace Go.Proofs.Ytgjmgcmheccdfaa.LimRef
open Go.RowKit Go.Proofs.Ytgjmgcmheccdfaa.JobPlain Go.Proofs.Ytgjmgcmheccdfaa.ApiPlain Go.Proofs.Ytgjmgcmheccdfaa.LimPlain Go.Proofs.Ytgjmgcmheccdfaa.Mem Go.Proofs.Ytgjmgcmheccdfaa.ApiMem
def BoolL (b : Bool) (w : World) (e : Ending) (w' : World) : Prop := e = .returned (.bool b) ∧ Below w.heap.size w w'
def IntL (n : Int) (w : World) (e : Ending) (w' : World) : Prop := e = .returned (.int .i64 n) ∧ Below w.heap.size w w'
def IntQ (n : Int) (w : World) (e : Ending) (w' : World) : Prop := e = .returned (.int .i64 n) ∧ w = w'
theorem below_new (w : World) (o : Obj) : Below w.heap.size w (w.alloc o) := (Below.refl _ _).alloc (Nat.le_refl _) o
theorem ret_int {a b : Int} (h : a = b) : Ending.returned (.int .i64 a) = .returned (.int .i64 b) := by rw [h]
/-- What is read of limits fits. -/
def LimsFit (l : List Lim) : Prop := ∀ x ∈ l, LimFit x
theorem LimsFit.at {l : List Lim} (h : LimsFit l) {k : Nat} (hk : k < l.length) : LimFit (nthL l k) := h _ (by rw [nthL_at hk]; exact List.getElem_mem hk)
/-- A limit's place, in words of cells. -/
theorem lims_nth {l : List Lim} {w w' : World} {A : Option Addr} (h : ∀ i (hi : i < l.length), ∃ a, A = some a ∧ LimAt w (a.add (i * 3)) l[i]) (hb : Below w.heap.size w w') {k : Nat} (hk : k < l.length) : ∃ a, A = some a ∧ LimAt w' (a.add (k * 3)) (nthL l k) := by
  obtain ⟨a, ea, h1⟩ := h k hk
  exact ⟨a, ea, by rw [nthL_at hk]; exact h1.below hb⟩
set_option maxHeartbeats 1600000 in
theorem one10 (x : Lim) (w : World) (hs : LimFit x) : Calls Try.prog 23 #[limV x] w (BoolL (oneL x) w) := by
  have CN := Lib.hid (fun W => JobRef.name7 x.user W hs.f0)
  have hways := oneL_ways x
  have HX := LimBox.new w x 24
  have HB := Lib.hid (below_new w (.cells #[.string x.user, .int .i64 x.jobs, .int .i64 x.procs] 24))
  obtain ⟨p, p0, p1, p2, _, _, _⟩ := HX
  unfold limV
  rcases hways with ⟨hn, h1⟩ | ⟨hn, d1, h1⟩ | ⟨hn, d1, d2, h1⟩ | ⟨hn, d1, d2, d3, h1⟩ | ⟨hn, d1, d2, d3, d4, h1⟩ | ⟨hn, d1, d2, d3, d4, h1⟩
  all_goals
    rw [hn] at CN
    rw [h1]
    clear hn h1
    go_enter Try.func23, Try.ntmps23
    go_wp2_with (go_at_call 28; refine (CN.out _).mono ?_; rintro e w1 ⟨rfl, rfl⟩)
    go_ret
    exact ⟨rfl, HB.out⟩
theorem less10 (n u : Int) (w : World) (hn : 0 ≤ n ∧ n ≤ 1000000) : Calls Try.prog 27 #[.int .i64 n, .int .i64 u] w (IntQ (lessN n u) w) := by
  unfold lessN
  by_cases h1 : u < 0
  · have d1 : decide (u < 0) = true := decide_eq_true h1
    rw [if_pos h1]
    go_enter Try.func27, Try.ntmps27
    go_wp2_with fail
    go_ret
    exact ⟨rfl, rfl⟩
  · have d1 : decide (u < 0) = false := decide_eq_false h1
    rw [if_neg h1]
    by_cases h2 : n < u
    · have d2 : decide (n < u) = true := decide_eq_true h2
      rw [if_pos h2]
      go_enter Try.func27, Try.ntmps27
      go_wp2_with fail
      go_ret
      exact ⟨rfl, rfl⟩
    · have d2 : decide (n < u) = false := decide_eq_false h2
      have wr1 : IntKind.i64.wrap (n - u) = n - u := by rw [IntKind.wrap_i64]; omega
      rw [if_neg h2]
      go_enter Try.func27, Try.ntmps27
      go_wp2_with fail
      go_ret
      exact ⟨rfl, rfl⟩
set_option maxRecDepth 100000 in
set_option maxHeartbeats 6400000 in
theorem check10 (l : List Lim) (v : Value) (w : World) (hv : limL.Is l w v) (hs : LimsFit l) (hl : l.length ≤ 1000) : Calls Try.prog 12 #[v] w (IntL (checkL l) w) := by
  obtain ⟨A, c, rfl, hn, hA⟩ := lims_open hv
  have HA := Lib.hid hA
  have HS := Lib.hid hs
  clear hA hv hs
  by_cases h50 : 50 < l.length
  · have HR := Lib.hid (checkL_full h50)
    have d1 : decide ((50 : Int) < (l.length : Int)) = true := decide_eq_true (by omega)
    go_enter Try.func12, Try.ntmps12
    go_wp2_with fail
    go_ret
    exact ⟨ret_int HR.out.symm, Below.refl _ _⟩
  · have d1 : decide ((50 : Int) < (l.length : Int)) = false := decide_eq_false (by omega)
    have HARG := Lib.hid (fun h => checkL_arg h50 h)
    have HOK := Lib.hid (fun h => checkL_ok h50 h)
    go_enter Try.func12, Try.ntmps12
    go_wp2_with fail
    go_loopw [3] (fun i wr => ∃ k : Nat, i = .int .i64 k ∧ k ≤ l.length ∧ Hid (goodTo l k = true ∧ Below w.heap.size w wr)) (fun i _ => l.length - (intOf i).toNat)
    case atStart => exact ⟨0, rfl, Nat.zero_le _, rfl, Below.refl _ _⟩
    case round =>
      obtain ⟨k, rfl, hk, HL⟩ := hrel
      obtain ⟨hg, hbl⟩ := HL.out
      have HG := Lib.hid hg
      have HBL := Lib.hid hbl
      by_cases hlt : k < l.length
      · obtain ⟨ad, rfl, ⟨p, p0, p1, p2⟩⟩ := lims_nth HA.out hbl hlt
        obtain ⟨ad2, ead, ⟨q, q0, q1, q2⟩⟩ := lims_nth HA.out hbl (show k - 1 < l.length by omega)
        injection ead with ead
        subst ead
        have CM := Lib.hid (fun W => one10 (nthL l k) W (HS.out.at hlt))
        have hways := good_ways l k
        have HNO := Lib.hid (fun h => HARG.out (good_no hlt h))
        have HNX : Hid (goodAt l k = true → goodTo l (k + 1) = true) := fun h => by rw [good_next, HG.out, h]; rfl
        have i0 : (0 : Int) ≤ (k : Int) := Int.natCast_nonneg _
        have i1 : (k : Int) < (l.length : Int) := by omega
        have P0 := calm_cell p p0
        have P1 := calm_cell (a := ⟨_, _, none⟩) p p1
        have P2 := calm_cell (a := ⟨_, _, none⟩) p p2
        have Q0 := calm_cell q q0
        clear hg hbl HL p p0 p1 p2 q q0 q1 q2 HG
        unfold limV at CM
        rcases hways with ⟨h1, HR⟩ | ⟨h1, h0, HR⟩ | ⟨h1, h0, h2, HR⟩ | ⟨h1, h0, h2, HR⟩
        · have HE := Lib.hid (HNO.out HR.out)
          rw [h1] at CM
          clear HNO HNX HR h1
          generalize nthL l k = x at *
          generalize nthL l (k - 1) = y at *
          go_wp2_with fail
          refine wp_region_calm (by kernel_rfl) (by kernel_rfl) ?_
          repeat (first | go_big_quiet_step ((go_at_call 23; exact calm_of (v := .bool false) (CM.out _))) | quiet_step ((go_at_call 23; exact calm_of (v := .bool false) (CM.out _))))
          refine wpQuiet_nil ?_
          intro w1 hw
          have hb1 := lull_below hw
          clear hw
          have HB1 := Lib.hid (HBL.out.trans (hb1.mono HBL.out.size))
          clear hb1 P0 P1 P2 Q0
          go_wp2_with fail
          go_ret
          exact ⟨ret_int HE.out.symm, HB1.out⟩
        · have HE := Lib.hid (HNX.out HR.out)
          rw [h1] at CM
          have d0 : decide (0 < k) = false := decide_eq_false (by omega)
          have H0 := Lib.hid h0
          clear HNO HNX HR h1 h0 Q0
          generalize nthL l k = x at *
          go_wp2_with fail
          refine wp_region_calm (by kernel_rfl) (by kernel_rfl) ?_
          repeat (first | go_big_quiet_step ((go_at_call 23; exact calm_of (v := .bool true) (CM.out _))) | quiet_step ((go_at_call 23; exact calm_of (v := .bool true) (CM.out _))))
          refine wpQuiet_nil ?_
          intro w1 hw
          have hb1 := lull_below hw
          clear hw
          have HB1 := Lib.hid (HBL.out.trans (hb1.mono HBL.out.size))
          clear hb1 P0 P1 P2
          go_wp2_with fail
          exact ⟨⟨k + 1, by go_num, by omega, HE.out, HB1.out⟩, by simp [intOf] <;> omega⟩
        · have HE := Lib.hid (HNX.out HR.out)
          have i2 : (0 : Int) < (k : Int) := by omega
          have i3 : IntKind.i64.wrap ((k : Int) - 1) = ((k - 1 : Nat) : Int) := by rw [IntKind.wrap_i64]; omega
          have i4 : (0 : Int) ≤ ((k - 1 : Nat) : Int) := Int.natCast_nonneg _
          have i5 : ((k - 1 : Nat) : Int) < (l.length : Int) := by omega
          rw [h1] at CM
          clear HNO HNX HR h1
          generalize nthL l k = x at *
          generalize nthL l (k - 1) = y at *
          go_wp2_with fail
          refine wp_region_calm (by kernel_rfl) (by kernel_rfl) ?_
          repeat (first | go_big_quiet_step ((go_at_call 23; exact calm_of (v := .bool true) (CM.out _))) | quiet_step ((go_at_call 23; exact calm_of (v := .bool true) (CM.out _))))
          refine wpQuiet_nil ?_
          intro w1 hw
          have hb1 := lull_below hw
          clear hw
          have HB1 := Lib.hid (HBL.out.trans (hb1.mono HBL.out.size))
          clear hb1 P0 P1 P2 Q0
          go_wp2_with fail
          exact ⟨⟨k + 1, by go_num, by omega, HE.out, HB1.out⟩, by simp [intOf] <;> omega⟩
        · have HE := Lib.hid (HNO.out HR.out)
          have i2 : (0 : Int) < (k : Int) := by omega
          have i3 : IntKind.i64.wrap ((k : Int) - 1) = ((k - 1 : Nat) : Int) := by rw [IntKind.wrap_i64]; omega
          have i4 : (0 : Int) ≤ ((k - 1 : Nat) : Int) := Int.natCast_nonneg _
          have i5 : ((k - 1 : Nat) : Int) < (l.length : Int) := by omega
          rw [h1] at CM
          clear HNO HNX HR h1
          generalize nthL l k = x at *
          generalize nthL l (k - 1) = y at *
          go_wp2_with fail
          refine wp_region_calm (by kernel_rfl) (by kernel_rfl) ?_
          repeat (first | go_big_quiet_step ((go_at_call 23; exact calm_of (v := .bool true) (CM.out _))) | quiet_step ((go_at_call 23; exact calm_of (v := .bool true) (CM.out _))))
          refine wpQuiet_nil ?_
          intro w1 hw
          have hb1 := lull_below hw
          clear hw
          have HB1 := Lib.hid (HBL.out.trans (hb1.mono HBL.out.size))
          clear hb1 P0 P1 P2 Q0
          go_wp2_with fail
          go_ret
          exact ⟨ret_int HE.out.symm, HB1.out⟩
      · obtain rfl : k = l.length := by omega
        have HE := Lib.hid (HOK.out hg)
        clear hg hbl HL
        go_wp2_with fail
        go_ret
        exact ⟨ret_int HE.out.symm, HBL.out⟩
theorem ne_lim (w : World) (x : Lim) : (binOp .neq 24 (limV x) (limV x)).run Try.prog w = .ok (.bool false) w := by
  have h1 : Try.prog.underlying 24 = some (.struct (Try.prog.fieldsOf 24)) := by kernel_rfl
  unfold limV
  simp [go_sem]
def BoolN (b : Bool) (w : World) (e : Ending) (w' : World) : Prop := e = .returned (.bool b) ∧ ∃ n, w' = w.drewN n
set_option maxHeartbeats 1600000 in
theorem same10 (l : List Lim) (v u : Value) (w : World) (hv : limL.Is l w v) (hu : limL.Is l w u) (hl : l.length ≤ 100000) : Calls Try.prog 13 #[v, u] w (BoolN true w) := by
  obtain ⟨A, c, rfl, hn, hA⟩ := lims_open hv
  obtain ⟨B, d, rfl, hm, hB⟩ := lims_open hu
  have HA := Lib.hid hA
  have HB := Lib.hid hB
  clear hA hB hv hu
  have d0 : ((l.length : Int) != (l.length : Int)) = false := by simp
  go_enter Try.func13, Try.ntmps13
  go_wp2_with fail
  go_loopw [5] (fun i wr => ∃ k : Nat, k ≤ l.length ∧ i = .int .i64 k ∧ ∃ n, wr = w.drewN n) (fun i _ => l.length - (intOf i).toNat)
  case atStart => exact ⟨0, Nat.zero_le _, rfl, 0, rfl⟩
  case round =>
    obtain ⟨k, hk, rfl, n, rfl⟩ := hrel
    by_cases hlt : k < l.length
    · obtain ⟨a, rfl, ⟨p, p0, p1, p2⟩⟩ := HA.out k hlt
      obtain ⟨b, rfl, ⟨q, q0, q1, q2⟩⟩ := HB.out k hlt
      have hlt2 : (k : Int) < (l.length : Int) := by omega
      have hkn : (0 : Int) ≤ (k : Int) := by omega
      have E1 := fun W => ne_lim W l[k]
      generalize l[k] = j at *
      unfold limV at E1
      go_wp2_with fail
      go_quiet (fail)
      go_wp2_with fail
      exact ⟨⟨k + 1, by omega, by go_num, _, rfl⟩, by simp [intOf] <;> omega⟩
    · go_wp2_with fail
      go_ret
      exact ⟨rfl, n, rfl⟩
end Go.Proofs.Ytgjmgcmheccdfaa.LimRef
