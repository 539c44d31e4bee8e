/-
  The walks of layer 10's code: within, mayBe, Check; the library's slices.BinarySearchFunc at limits and strings.Compare; place.
-/
import Derived.Test.YtgjmgcmheccdfaaLimSay
import Derived.Test.YtgjmgcmheccdfaaLimFind
import Derived.Test.YtgjmgcmheccdfaaJobName
import Derived.Laws.Externs
namespace Go.Proofs.Ytgjmgcmheccdfaa.LimWalk
open Go.RowKit Go.Proofs.Ytgjmgcmheccdfaa.JobPlain Go.Proofs.Ytgjmgcmheccdfaa.ApiPlain Go.Proofs.Ytgjmgcmheccdfaa.LimPlain Go.Proofs.Ytgjmgcmheccdfaa.Mem Go.Proofs.Ytgjmgcmheccdfaa.ApiMem Go.Proofs.Ytgjmgcmheccdfaa.LimRef
def inL (n a b : Int) : Bool := decide (a ≤ n) && decide (n ≤ b)
def BoolW (b : Bool) (w : World) (e : Ending) (w' : World) : Prop := e = .returned (.bool b) ∧ w = w'
theorem two_ways (a b : Bool) : (a = false ∧ (a && b) = false) ∨ (a = true ∧ b = false ∧ (a && b) = false) ∨ (a = true ∧ b = true ∧ (a && b) = true) := by
  cases a <;> cases b <;> simp
theorem within_l (n a b : Int) (w : World) : Calls Try.prog 30 #[.int .i64 n, .int .i64 a, .int .i64 b] w (BoolW (inL n a b) w) := by
  rcases two_ways (decide (a ≤ n)) (decide (n ≤ b)) with ⟨h1, h2⟩ | ⟨h1, h3, h2⟩ | ⟨h1, h3, h2⟩
  all_goals
    have HR := Lib.hid h2
    clear h2
    go_enter Try.func30, Try.ntmps30
    go_wp2_with fail
    go_ret
    exact ⟨by unfold inL; rw [HR.out]; rfl, rfl⟩
theorem one_ways (x : Lim) : (nameB x.user = false ∧ oneL x = false) ∨ (nameB x.user = true ∧ inL x.jobs 0 100 = false ∧ oneL x = false) ∨ (nameB x.user = true ∧ inL x.jobs 0 100 = true ∧ inL x.procs 0 256 = false ∧ oneL x = false) ∨
    (nameB x.user = true ∧ inL x.jobs 0 100 = true ∧ inL x.procs 0 256 = true ∧ oneL x = true) := by
  unfold oneL inL
  cases nameB x.user <;> cases decide (0 ≤ x.jobs) <;> cases decide (x.jobs ≤ 100) <;> cases decide (0 ≤ x.procs) <;> cases decide (x.procs ≤ 256) <;> simp
set_option maxHeartbeats 1600000 in
theorem mayBe_l (x : Lim) (w : World) (hs : LimFit x) : Calls Try.prog 18 #[limV x] w (BoolL (oneL x) w) := by
  have CN := Lib.hid (fun W => JobWalk.name_range x.user W hs.f0)
  have hways := one_ways x
  have HX := Lib.hid (LimBox.new w x 24)
  have HB := Lib.hid (below_new w (.cells #[.string x.user, .int .i64 x.jobs, .int .i64 x.procs] 24))
  obtain ⟨b, b0, b1, b2, _, _, _⟩ := HX.out
  unfold limV at *
  rcases hways with ⟨hn, h1⟩ | ⟨hn, d1, h1⟩ | ⟨hn, d1, d2, h1⟩ | ⟨hn, d1, d2, h1⟩
  all_goals
    rw [hn] at CN
    rw [h1]
    clear hn h1
    go_enter Try.func18, Try.ntmps18
    go_wp2_with fail
    refine (CN.out _).mono ?_
    rintro e1 w1 ⟨rfl, hb1⟩
    obtain ⟨y, y0, y1, y2, _, _, _⟩ := HX.out.below hb1
    have HB1 := Lib.hid (HB.out.trans (hb1.mono HB.out.size))
    clear hb1
    go_wp2_with (go_at_call 30; refine (within_l _ _ _ _).mono ?_; rintro e w2 ⟨rfl, rfl⟩)
    go_ret
    exact ⟨rfl, HB1.out⟩
set_option maxRecDepth 100000 in
set_option maxHeartbeats 6400000 in
theorem checkS (l : List Lim) (v : Value) (w : World) (hv : limL.Is l w v) (hs : LimsFit l) (hl : l.length ≤ 1000) : Calls Try.prog 11 #[v] w (IntL (checkL l) w) := by
  obtain ⟨A, c, rfl, hn, hA⟩ := lims_open hv
  have HA := Lib.hid hA
  have HS := Lib.hid hs
  clear hA hv hs
  by_cases h50 : 50 < l.length
  · have HR := Lib.hid (checkL_full h50)
    have d1 : decide ((50 : Int) < (l.length : Int)) = true := decide_eq_true (by omega)
    go_enter Try.func11, Try.ntmps11
    go_wp2_with fail
    go_ret
    exact ⟨ret_int HR.out.symm, Below.refl _ _⟩
  · have d1 : decide ((50 : Int) < (l.length : Int)) = false := decide_eq_false (by omega)
    have HARG := Lib.hid (fun h => checkL_arg h50 h)
    have HOK := Lib.hid (fun h => checkL_ok h50 h)
    go_enter Try.func11, Try.ntmps11
    go_wp2_with fail
    go_loopw [10] (fun i wr => ∃ k : Nat, i = .int .i64 k ∧ k ≤ l.length ∧ Hid (goodTo l k = true ∧ Below w.heap.size w wr)) (fun i _ => l.length - (intOf i).toNat)
    case atStart => exact ⟨0, rfl, Nat.zero_le _, rfl, Below.refl _ _⟩
    case round =>
      obtain ⟨k, rfl, hk, HL⟩ := hrel
      obtain ⟨hg, hbl⟩ := HL.out
      have HG := Lib.hid hg
      have HBL := Lib.hid hbl
      by_cases hlt : k < l.length
      · obtain ⟨ad, rfl, ⟨p, p0, p1, p2⟩⟩ := lims_nth HA.out hbl hlt
        have CM := Lib.hid (fun W => mayBe_l (nthL l k) W (HS.out.at hlt))
        have hways := good_ways l k
        have HNO := Lib.hid (fun h => HARG.out (good_no hlt h))
        have HNX : Hid (goodAt l k = true → goodTo l (k + 1) = true) := fun h => by rw [good_next, HG.out, h]; rfl
        have i0 : (0 : Int) ≤ (k : Int) := Int.natCast_nonneg _
        have i1 : (k : Int) < (l.length : Int) := by omega
        have HX := Lib.hid (LimBox.new wr (nthL l k) 24)
        have HB0 := Lib.hid (below_new wr (.cells #[.string (nthL l k).user, .int .i64 (nthL l k).jobs, .int .i64 (nthL l k).procs] 24))
        have HBW := Lib.hid (below_then HBL.out HB0.out)
        clear hg hbl HL HG
        unfold limV at CM
        generalize hxe : nthL l k = x at *
        have HXE := Lib.hid hxe
        clear hxe
        go_upto_region 6 with fail
        generalize wr.alloc (.cells #[.string x.user, .int .i64 x.jobs, .int .i64 x.procs] 24) = W0 at *
        clear p p0 p1 p2
        obtain ⟨y, y0, y1, y2, _, _, _⟩ := HX.out
        have Y0 := calm_cell (a := ⟨wr.heap.size, 0, none⟩) y y0
        have Y1 := calm_cell (a := ⟨wr.heap.size, 1, none⟩) y y1
        have Y2 := calm_cell (a := ⟨wr.heap.size, 2, none⟩) y y2
        obtain ⟨ad2, ead, ⟨q, q0, q1, q2⟩⟩ := lims_nth HA.out HBW.out (show k - 1 < l.length by omega)
        injection ead with ead
        subst ead
        have Q0 := calm_cell q q0
        clear y y0 y1 y2 q q0 q1 q2
        rcases hways with ⟨h1, HR⟩ | ⟨h1, h0, HR⟩ | ⟨h1, h0, h2, HR⟩ | ⟨h1, h0, h2, HR⟩
        · have HE := Lib.hid (HNO.out HR.out)
          rw [h1] at CM
          clear HNO HNX HR h1 Q0
          refine wp_region_calm (by kernel_rfl) (by kernel_rfl) ?_
          repeat (first | go_big_quiet_step ((go_at_call 18; exact calm_of (v := .bool false) (CM.out _))) | quiet_step ((go_at_call 18; exact calm_of (v := .bool false) (CM.out _))))
          refine wpQuiet_nil ?_
          intro w1 hw
          have HB1 := Lib.hid (below_then HBW.out (lull_below hw))
          clear hw Y0 Y1 Y2
          go_wp2_with fail
          go_ret
          exact ⟨ret_int HE.out.symm, HB1.out⟩
        · have HE := Lib.hid (HNX.out HR.out)
          rw [h1] at CM
          have d0 : decide (0 < k) = false := decide_eq_false (by omega)
          have d2 : decide (0 < (k : Int)) = false := decide_eq_false (by omega)
          clear HNO HNX HR h1 h0 Q0
          refine wp_region_calm (by kernel_rfl) (by kernel_rfl) ?_
          repeat (first | go_big_quiet_step ((go_at_call 18; exact calm_of (v := .bool true) (CM.out _))) | quiet_step ((go_at_call 18; exact calm_of (v := .bool true) (CM.out _))))
          refine wpQuiet_nil ?_
          intro w1 hw
          have HB1 := Lib.hid (below_then HBW.out (lull_below hw))
          clear hw Y0 Y1 Y2
          go_wp2_with fail
          exact ⟨⟨k + 1, by go_num, by omega, HE.out, HB1.out⟩, by simp [intOf] <;> omega⟩
        · have HE := Lib.hid (HNX.out HR.out)
          have i2 : (0 : Int) < (k : Int) := by omega
          have i3 : IntKind.i64.wrap ((k : Int) - 1) = ((k - 1 : Nat) : Int) := by rw [IntKind.wrap_i64]; omega
          have i4 : (0 : Int) ≤ ((k - 1 : Nat) : Int) := Int.natCast_nonneg _
          have i5 : ((k - 1 : Nat) : Int) < (l.length : Int) := by omega
          rw [h1] at CM
          clear HNO HNX HR h1
          generalize nthL l (k - 1) = y at *
          refine wp_region_calm (by kernel_rfl) (by kernel_rfl) ?_
          repeat (first | go_big_quiet_step ((go_at_call 18; exact calm_of (v := .bool true) (CM.out _))) | quiet_step ((go_at_call 18; exact calm_of (v := .bool true) (CM.out _))))
          refine wpQuiet_nil ?_
          intro w1 hw
          have HB1 := Lib.hid (below_then HBW.out (lull_below hw))
          clear hw Y0 Y1 Y2 Q0
          go_wp2_with fail
          exact ⟨⟨k + 1, by go_num, by omega, HE.out, HB1.out⟩, by simp [intOf] <;> omega⟩
        · have HE := Lib.hid (HNO.out HR.out)
          have i2 : (0 : Int) < (k : Int) := by omega
          have i3 : IntKind.i64.wrap ((k : Int) - 1) = ((k - 1 : Nat) : Int) := by rw [IntKind.wrap_i64]; omega
          have i4 : (0 : Int) ≤ ((k - 1 : Nat) : Int) := Int.natCast_nonneg _
          have i5 : ((k - 1 : Nat) : Int) < (l.length : Int) := by omega
          rw [h1] at CM
          clear HNO HNX HR h1
          generalize nthL l (k - 1) = y at *
          refine wp_region_calm (by kernel_rfl) (by kernel_rfl) ?_
          repeat (first | go_big_quiet_step ((go_at_call 18; exact calm_of (v := .bool true) (CM.out _))) | quiet_step ((go_at_call 18; exact calm_of (v := .bool true) (CM.out _))))
          refine wpQuiet_nil ?_
          intro w1 hw
          have HB1 := Lib.hid (below_then HBW.out (lull_below hw))
          clear hw Y0 Y1 Y2 Q0
          go_wp2_with fail
          go_ret
          exact ⟨ret_int HE.out.symm, HB1.out⟩
      · obtain rfl : k = l.length := by omega
        have HE := Lib.hid (HOK.out hg)
        clear hg hbl HL
        go_wp2_with fail
        go_ret
        exact ⟨ret_int HE.out.symm, HBL.out⟩
theorem cmpstr_l (a b : ByteArray) (w : World) : Calls Try.prog 38 #[.string a, .string b] w (IntQ (cmpU a b) w) := by
  go_enter Try.func38, Try.ntmps38
  go_wp2
  rw [run_callFunc_extern Try.func44 (by kernel_rfl) (by kernel_rfl) (by kernel_rfl) (e := Extern.BytealgCompare.compare) (by kernel_rfl), Lib.run_compareString]
  simp only [Result.andThen]
  rw [Oper.upon_value]
  go_wp2
  go_ret
  exact ⟨rfl, rfl⟩
theorem compare_l (a b : ByteArray) (w : World) : Calls Try.prog 33 #[.string a, .string b] w (IntQ (cmpU a b) w) := by
  have C1 := Lib.hid (fun W => cmpstr_l a b W)
  go_enter Try.func33, Try.ntmps33
  go_wp2_with fail
  refine (C1.out _).mono ?_
  rintro e w1 ⟨rfl, rfl⟩
  go_wp2_with fail
  go_ret
  exact ⟨rfl, rfl⟩
theorem place_fn (x : Lim) (s : ByteArray) (w : World) : Calls Try.prog 32 #[limV x, .string s] w (IntL (cmpU x.user s) w) := by
  have C1 := Lib.hid (fun W => compare_l x.user s W)
  have HB := Lib.hid (below_new w (.cells #[.string x.user, .int .i64 x.jobs, .int .i64 x.procs] 24))
  obtain ⟨b, b0, b1, b2, _, _, _⟩ := LimBox.new w x 24
  unfold limV
  go_enter Try.func32, Try.ntmps32
  go_wp2_with fail
  refine (C1.out _).mono ?_
  rintro e w1 ⟨rfl, rfl⟩
  go_wp2_with fail
  go_ret
  exact ⟨rfl, HB.out⟩
/-- What the search answers: a place, and whether the user's limit stands there. -/
def FindSays (l : List Lim) (s : ByteArray) (w : World) (e : Ending) (w' : World) : Prop := ∃ k : Nat, e = .returned (.tuple #[.int .i64 k, .bool (thereL l s k)]) ∧ k ≤ l.length ∧ FindAt l s k k ∧ Below w.heap.size w w'
set_option maxRecDepth 100000 in
set_option maxHeartbeats 3200000 in
theorem search_l (l : List Lim) (s : ByteArray) (v : Value) (w : World) (hv : limL.Is l w v) (hg : goodTo l l.length = true) (hl : l.length ≤ 1000) :
    Calls Try.prog 31 #[v, .string s, .func (.func 32) #[] #[]] w (FindSays l s w) := by
  obtain ⟨A, c, rfl, hn, hA⟩ := lims_open hv
  have HA := Lib.hid hA
  have HG := Lib.hid hg
  clear hA hv hg
  go_enter Try.func31, Try.ntmps31
  go_wp2_with fail
  go_loopw [9, 10] (fun a b wr => ∃ i j : Nat, a = .int .i64 i ∧ b = .int .i64 j ∧ i ≤ j ∧ j ≤ l.length ∧ Hid (FindAt l s i j ∧ Below w.heap.size w wr)) (fun a b _ => (intOf b).toNat - (intOf a).toNat)
  case atStart => exact ⟨0, l.length, rfl, rfl, Nat.zero_le _, Nat.le_refl _, FindAt.start l s, Below.refl _ _⟩
  case round =>
    obtain ⟨i, j, rfl, rfl, hij, hj, HL⟩ := hrel
    obtain ⟨hat, hbl⟩ := HL.out
    by_cases hlt : i < j
    · obtain ⟨ad, rfl, ⟨p, p0, p1, p2⟩⟩ := lims_nth HA.out hbl (show (i + j) / 2 < l.length by omega)
      have C1 := Lib.hid (fun w => place_fn (nthL l ((i + j) / 2)) s w)
      have HLOW := Lib.hid (fun h => hat.up HG.out (show (i + j) / 2 < l.length by omega) h)
      have HHIGH := Lib.hid (fun h => hat.down HG.out (m := (i + j) / 2) h)
      have HBL := Lib.hid hbl
      have hcl := cmpU_lt (nthL l ((i + j) / 2)).user s
      unfold limV at C1
      clear hat hbl HL
      generalize nthL l ((i + j) / 2) = x at *
      generalize cmpU x.user s = q at *
      cases hx : lessU x.user s with
      | true =>
        rw [hx] at hcl
        have HS := Lib.hid (HLOW.out hx)
        clear HLOW HHIGH hx
        go_wp2_with fail
        refine (C1.out _).mono ?_
        rintro e w1 ⟨rfl, hb1⟩
        have HB1 := Lib.hid (below_then HBL.out hb1)
        clear hb1
        go_wp2_with fail
        exact ⟨⟨(i + j) / 2 + 1, j, by go_num, rfl, by omega, hj, HS.out, HB1.out⟩, by simp [intOf] <;> omega⟩
      | false =>
        rw [hx] at hcl
        have HS := Lib.hid (HHIGH.out hx)
        clear HLOW HHIGH hx
        go_wp2_with fail
        refine (C1.out _).mono ?_
        rintro e w1 ⟨rfl, hb1⟩
        have HB1 := Lib.hid (below_then HBL.out hb1)
        clear hb1
        go_wp2_with fail
        exact ⟨⟨i, (i + j) / 2, rfl, by go_num, by omega, by omega, HS.out, HB1.out⟩, by simp [intOf] <;> omega⟩
    · obtain rfl : i = j := by omega
      have HAT := Lib.hid hat
      have HBL := Lib.hid hbl
      clear hat hbl HL
      by_cases hk : i < l.length
      · obtain ⟨ad, rfl, ⟨p, p0, p1, p2⟩⟩ := lims_nth HA.out HBL.out hk
        have C1 := Lib.hid (fun w => place_fn (nthL l i) s w)
        have hce := cmpU_zero (nthL l i).user s
        rw [← there_at hk] at hce
        have HR : Hid (∀ W, Below w.heap.size w W → FindSays l s w (.returned (.tuple #[.int .i64 i, .bool (thereL l s i)])) W) := fun W hb => ⟨i, rfl, hj, HAT.out, hb⟩
        have hk2 : (i : Int) < (l.length : Int) := by omega
        unfold limV at C1
        generalize nthL l i = x at *
        generalize cmpU x.user s = q at *
        generalize thereL l s i = B at *
        go_wp2_with fail
        refine (C1.out _).mono ?_
        rintro e w1 ⟨rfl, hb1⟩
        have HB1 := Lib.hid (below_then HBL.out hb1)
        clear hb1
        cases B
        all_goals
          go_wp2_with fail
          go_ret2
          exact HR.out _ HB1.out
      · have HR : Hid (FindSays l s w (.returned (.tuple #[.int .i64 i, .bool false])) wr) :=
          ⟨i, by rw [there_end hk], hj, HAT.out, HBL.out⟩
        have hk2 : decide (i < l.length) = false := decide_eq_false hk
        clear HAT
        go_wp2_with fail
        go_ret2
        exact HR.out
set_option maxHeartbeats 1600000 in
theorem place_l (l : List Lim) (s : ByteArray) (v : Value) (w : World) (hv : limL.Is l w v) (hg : goodTo l l.length = true) (hl : l.length ≤ 1000) : Calls Try.prog 20 #[v, .string s] w (FindSays l s w) := by
  have C1 := Lib.hid (search_l l s v w hv hg hl)
  obtain ⟨A, c, rfl, _⟩ := lims_open hv
  clear hv hg
  go_enter Try.func20, Try.ntmps20
  go_wp2_with fail
  refine C1.out.mono ?_
  rintro e w1 ⟨k, rfl, hk, hf, hb⟩
  have HR : Hid (FindSays l s w (.returned (.tuple #[.int .i64 k, .bool (thereL l s k)])) w1) := ⟨k, rfl, hk, hf, hb⟩
  clear hk hf hb
  generalize thereL l s k = B at *
  go_wp2_with fail
  go_ret2
  exact HR.out
end Go.Proofs.Ytgjmgcmheccdfaa.LimWalk
