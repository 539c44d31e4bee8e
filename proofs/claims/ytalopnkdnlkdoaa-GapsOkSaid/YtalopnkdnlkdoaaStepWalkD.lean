/-
  The walk of layer 4's code: Min.
-/
import Derived.Test.YtalopnkdnlkdoaaStepWalkC
namespace Go.Proofs.Ytalopnkdnlkdoaa.StepWalk
open Go.RowKit Go.Proofs.Ytalopnkdnlkdoaa.SpanPlain Go.Proofs.Ytalopnkdnlkdoaa.StepPlain Go.Proofs.Ytalopnkdnlkdoaa.Mem Go.Proofs.Ytalopnkdnlkdoaa.SpanMem Go.Proofs.Ytalopnkdnlkdoaa.StepMem Go.Proofs.Ytalopnkdnlkdoaa.SpanRef Go.Proofs.Ytalopnkdnlkdoaa.StepRef
theorem minb_ways (s : List Sp) (x : Sp) : (chkB s = false ∧ Hid (minB s x = false)) ∨ (chkB s = true ∧ mayB x = false ∧ Hid (minB s x = false)) ∨ (chkB s = true ∧ mayB x = true ∧ decide (x.1 < head s) = true ∧ Hid (minB s x = false)) ∨
    (chkB s = true ∧ mayB x = true ∧ decide (x.1 < head s) = false ∧ Hid (minB s x = true ∧ Chk s ∧ May x ∧ head s ≤ x.1)) := by
  unfold minB
  cases hc : chkB s with
  | false => exact .inl ⟨rfl, rfl⟩
  | true =>
    cases hm : mayB x with
    | false => exact .inr (.inl ⟨rfl, rfl, rfl⟩)
    | true =>
      by_cases h : x.1 < head s
      · exact .inr (.inr (.inl ⟨rfl, rfl, decide_eq_true h, by rw [decide_eq_false (by omega : ¬ head s ≤ x.1)]; rfl⟩))
      · exact .inr (.inr (.inr ⟨rfl, rfl, decide_eq_false h, by rw [decide_eq_true (by omega : head s ≤ x.1)]; rfl, (chk_iff s).1 hc, (mayB_iff x).1 hm, by omega⟩))
theorem min_no {s : List Sp} {x : Sp} (h : minB s x = false) {w w' : World} (hb : Below w.heap.size w w') : MinSays s x w (.returned (.tuple #[.int .i64 0, .bool false])) w' := ⟨0, by rw [h], .inr ⟨h, rfl⟩, hb⟩
theorem min_yes {s : List Sp} {x : Sp} (h : minB s x = true) {n : Int} (hn : MinOf s x n) {w w' : World} (hb : Below w.heap.size w w') : MinSays s x w (.returned (.tuple #[.int .i64 n, .bool true])) w' := ⟨n, by rw [h], .inl ⟨h, hn⟩, hb⟩
/-- The least one so far, j steps on from the k-th. -/
def minAt (s : List Sp) (x : Sp) (k j : Nat) : Int := minTo s x (k + max 1 j)
theorem minAt_zero {s : List Sp} (hc : Chk s) {x : Sp} {k : Nat} (h : LastIs s x.1 k) : minAt s x k 0 = (nth s k).2 := by
  unfold minAt
  rw [show k + max 1 0 = k + 1 by omega]
  exact min_start hc.up h
theorem minAt_next {s : List Sp} (hc : Chk s) {x : Sp} {k : Nat} (h : LastIs s x.1 k) {j : Nat} (hj : j < s.length - k) (h2 : (nth s (k + j)).1 < x.2) : min (minAt s x k j) (nth s (k + j)).2 = minAt s x k (j + 1) := by
  by_cases h0 : j = 0
  · subst h0
    rw [minAt_zero hc h, Nat.add_zero]
    have := minAt_zero hc h
    unfold minAt at *
    rw [show k + max 1 (0 + 1) = k + max 1 0 by omega, this]
    omega
  · unfold minAt
    rw [show k + max 1 j = k + j by omega, show k + max 1 (j + 1) = k + j + 1 by omega]
    exact (min_more hc.up h (by omega) (by omega) h2).symm
theorem minAt_stop {s : List Sp} (hc : Chk s) {x : Sp} (hx : x.1 < x.2) (hh : head s ≤ x.1) {k : Nat} (h : LastIs s x.1 k) {j : Nat} (hj : j < s.length - k) (h2 : x.2 ≤ (nth s (k + j)).1) : MinOf s x (minAt s x k j) := by
  have h0 : j ≠ 0 := fun e => by subst e; have := h.le; rw [Nat.add_zero] at h2; omega
  unfold minAt
  rw [show k + max 1 j = k + j by omega]
  exact min_done hc hx hh (fun _ => h2) (by omega)
theorem minAt_done {s : List Sp} (hc : Chk s) {x : Sp} (hx : x.1 < x.2) (hh : head s ≤ x.1) {k : Nat} (h : LastIs s x.1 k) {j : Nat} (hj : j = s.length - k) : MinOf s x (minAt s x k j) := by
  have := h.lt
  unfold minAt
  rw [show k + max 1 j = s.length by omega]
  exact min_done hc hx hh (fun h1 => by omega) (Nat.le_refl _)
/-- The steps from the k-th on. -/
theorem drop_pairs {s : List Sp} {w : World} {ad : Addr} {n c : Nat} (h : SpansIs s w (.slice (some ad) n c)) (k : Nat) {j : Nat} (hj : j < s.length - k) :
    (ad.add (k * 2)).block < w.heap.size ∧ w.cell? ((ad.add (k * 2)).add (j * 2)) = some (.int .i64 (nth s (k + j)).1) ∧ w.cell? ⟨((ad.add (k * 2)).add (j * 2)).block, ((ad.add (k * 2)).add (j * 2)).off + 1, none⟩ = some (.int .i64 (nth s (k + j)).2) := by
  have hr := (raw_of h).drop (k * 2)
  rw [svals_drop] at hr
  have hl : j < (s.drop k).length := by rw [List.length_drop]; exact hj
  obtain ⟨A, c2, hv, hp⟩ := SpansIs.open_ (l := s.drop k) (w := w) (v := .slice (some (ad.add (k * 2))) (s.drop k).length (s.drop k).length) (.inr ⟨_, _, rfl, hr, Nat.le_refl _⟩)
  obtain ⟨a, ea, h1, h2, h3⟩ := hp j hl
  injection hv with hv
  subst hv
  injection ea with ea
  subst ea
  have e : (s.drop k).getD j (0, 0) = nth s (k + j) := by unfold nth; simp [List.getD]
  unfold spCell at h2 h3
  rw [e] at h2 h3
  exact ⟨h1, h2, h3⟩
set_option maxRecDepth 100000 in
set_option maxHeartbeats 1600000 in
theorem minS (s : List Sp) (x : Sp) (v : Value) (w : World) (hv : SpansIs s w v) (hl : s.length ≤ 1000) : Calls Try.prog 23 #[v, spV x] w (MinSays s x w) := by
  have HB0 := Lib.hid (below_alloc w (.cells #[.int .i64 x.1, .int .i64 x.2] 36))
  have HX0 := Lib.hid (Box2.new w (.int .i64 x.1) (.int .i64 x.2) 36)
  have CC : Hid (∀ p : Lull (w.alloc (.cells #[.int .i64 x.1, .int .i64 x.2] 36)), Calls Try.prog 26 #[v] p.u (BoolIs (chkB s) p.u)) := fun p => checkS s v p.u (hv.below (below_then HB0.out p.h)) hl
  have CM : Hid (∀ W, Calls Try.prog 30 #[.agg #[.int .i64 x.1, .int .i64 x.2]] W (BoolIs (mayB x) W)) := fun W => mayS x W
  have CL : Hid (∀ (w' : World), Below w.heap.size w w' → Chk s → head s ≤ x.1 → Calls Try.prog 31 #[v, .int .i64 x.1] w' (LastSays s x.1 w')) := fun w' hb hc hh => lastS s x.1 v w' (hv.below hb) hc.up hc.pos hh (by omega)
  have HV := Lib.hid hv
  obtain ⟨A, c, rfl, hn, hA⟩ := hv.open2
  have HA := Lib.hid hA
  clear hA hv
  unfold spV
  rcases minb_ways s x with ⟨hc, HR⟩ | ⟨hc, hm, HR⟩ | ⟨hc, hm, h1, HR⟩ | ⟨hc, hm, h1, HR⟩
  · rw [hc] at CC
    clear hc
    go_enter Try.func23, Try.ntmps23
    go_wp2_with fail
    refine wp_region_calm (by kernel_rfl) (by kernel_rfl) ?_
    repeat (first | go_big_quiet_step ((first | (go_at_call 26; exact calm_of (v := .bool false) (CC.out _)))) | quiet_step ((first | (go_at_call 26; exact calm_of (v := .bool false) (CC.out _)))))
    refine wpQuiet_nil ?_
    intro w1 hw
    have hb1 := lull_below hw
    clear hw
    have HB1 := Lib.hid hb1
    clear hb1
    go_wp2_with fail
    go_ret2
    exact min_no HR.out (below_then HB0.out HB1.out)
  · have HC := Lib.hid ((chk_iff s).1 hc)
    have hp : 0 < s.length := HC.out.pos
    have hlz : (0 : Int) < (s.length : Int) := by omega
    rw [hc] at CC
    rw [hm] at CM
    obtain ⟨ad, rfl, had, c1, _⟩ := pair_zero HA.out hp
    have hh : (spCell s 0).1 = .int .i64 (head s) := rfl
    rw [hh] at c1
    have P0 := calm_cell HX0.out.lt HX0.out.c0
    have P1 := calm_cell (a := ⟨w.heap.size, 1, none⟩) HX0.out.lt HX0.out.c1
    have P2 := calm_cell (Nat.lt_of_lt_of_le had HB0.out.size) ((HB0.out.cell had).trans c1)
    clear hc hm hh c1
    generalize hhd : head s = h at *
    have HHD := Lib.hid hhd
    clear hhd
    go_enter Try.func23, Try.ntmps23
    go_wp2_with fail
    refine wp_region_calm (by kernel_rfl) (by kernel_rfl) ?_
    repeat (first | go_big_quiet_step (((first | (go_at_call 26; exact calm_of (v := .bool true) (CC.out _)) | (go_at_call 30; exact calm_of (v := .bool false) (CM.out _))))) | quiet_step (((first | (go_at_call 26; exact calm_of (v := .bool true) (CC.out _)) | (go_at_call 30; exact calm_of (v := .bool false) (CM.out _))))))
    refine wpQuiet_nil ?_
    intro w1 hw
    have hb1 := lull_below hw
    clear hw
    have HB1 := Lib.hid hb1
    clear hb1 P0 P1 P2
    go_wp2_with fail
    go_ret2
    exact min_no HR.out (below_then HB0.out HB1.out)
  · have HC := Lib.hid ((chk_iff s).1 hc)
    have hp : 0 < s.length := HC.out.pos
    have hlz : (0 : Int) < (s.length : Int) := by omega
    rw [hc] at CC
    rw [hm] at CM
    obtain ⟨ad, rfl, had, c1, _⟩ := pair_zero HA.out hp
    have hh : (spCell s 0).1 = .int .i64 (head s) := rfl
    rw [hh] at c1
    have P0 := calm_cell HX0.out.lt HX0.out.c0
    have P1 := calm_cell (a := ⟨w.heap.size, 1, none⟩) HX0.out.lt HX0.out.c1
    have P2 := calm_cell (Nat.lt_of_lt_of_le had HB0.out.size) ((HB0.out.cell had).trans c1)
    clear hc hm hh c1
    generalize hhd : head s = h at *
    have HHD := Lib.hid hhd
    clear hhd
    go_enter Try.func23, Try.ntmps23
    go_wp2_with fail
    refine wp_region_calm (by kernel_rfl) (by kernel_rfl) ?_
    repeat (first | go_big_quiet_step (((first | (go_at_call 26; exact calm_of (v := .bool true) (CC.out _)) | (go_at_call 30; exact calm_of (v := .bool true) (CM.out _))))) | quiet_step (((first | (go_at_call 26; exact calm_of (v := .bool true) (CC.out _)) | (go_at_call 30; exact calm_of (v := .bool true) (CM.out _))))))
    refine wpQuiet_nil ?_
    intro w1 hw
    have hb1 := lull_below hw
    clear hw
    have HB1 := Lib.hid hb1
    clear hb1 P0 P1 P2
    go_wp2_with fail
    go_ret2
    exact min_no HR.out (below_then HB0.out HB1.out)
  · have HC := Lib.hid ((chk_iff s).1 hc)
    have hp : 0 < s.length := HC.out.pos
    have hlz : (0 : Int) < (s.length : Int) := by omega
    rw [hc] at CC
    rw [hm] at CM
    obtain ⟨ad, rfl, had, c1, _⟩ := pair_zero HA.out hp
    have hh : (spCell s 0).1 = .int .i64 (head s) := rfl
    rw [hh] at c1
    have P0 := calm_cell HX0.out.lt HX0.out.c0
    have P1 := calm_cell (a := ⟨w.heap.size, 1, none⟩) HX0.out.lt HX0.out.c1
    have P2 := calm_cell (Nat.lt_of_lt_of_le had HB0.out.size) ((HB0.out.cell had).trans c1)
    clear hc hm hh c1
    have hhd : head s = head s := rfl
    clear hhd
    go_enter Try.func23, Try.ntmps23
    go_wp2_with fail
    refine wp_region_calm (by kernel_rfl) (by kernel_rfl) ?_
    repeat (first | go_big_quiet_step (((first | (go_at_call 26; exact calm_of (v := .bool true) (CC.out _)) | (go_at_call 30; exact calm_of (v := .bool true) (CM.out _))))) | quiet_step (((first | (go_at_call 26; exact calm_of (v := .bool true) (CC.out _)) | (go_at_call 30; exact calm_of (v := .bool true) (CM.out _))))))
    refine wpQuiet_nil ?_
    intro w1 hw
    have hb1 := lull_below hw
    clear hw
    have HB1 := Lib.hid hb1
    have b1 := P0 ⟨w1, hb1⟩
    have b2 := P1 ⟨w1, hb1⟩
    dsimp only at b1 b2
    have CL2 := Lib.hid (CL.out w1 (below_then HB0.out HB1.out) HC.out HR.out.2.2.2)
    clear hb1 P0 P1 P2 CL
    go_wp2_with fail
    refine CL2.out.mono ?_
    rintro e w2 ⟨k, rfl, hk, hb2⟩
    obtain ⟨ad2, ead, had2, c3, c4⟩ := nth_cells (HA.out.below (below_then (below_then HB0.out HB1.out) hb2)) hk.lt
    injection ead with ead
    subst ead
    have b1' := (hb2.cell (p := ⟨w.heap.size, 0, none⟩) (Nat.lt_of_lt_of_le HX0.out.lt HB1.out.size)).trans b1
    have b2' := (hb2.cell (p := ⟨w.heap.size, 1, none⟩) (Nat.lt_of_lt_of_le HX0.out.lt HB1.out.size)).trans b2
    have hkl := hk.lt
    have HK := Lib.hid hk
    have HM0 := Lib.hid (minAt_zero HC.out hk)
    have HB2 := Lib.hid (below_then (below_then HB0.out HB1.out) hb2)
    have hk2 : (k : Int) < (s.length : Int) := by omega
    have hk3 : (k : Int) ≤ (s.length : Int) := by omega
    have hk4 : ¬ c = k := by omega
    have i0 : (0 : Int) ≤ (k : Int) := Int.natCast_nonneg _
    have hbx : w.heap.size < w2.heap.size := by have := HX0.out.lt; have := HB1.out.size; have := hb2.size; omega
    have HX2 := Lib.hid b2'
    clear hk hb2 CL2 b1 b2 CC CM c3
    generalize hy : (nth s k).2 = y at *
    clear hy
    go_wp2_with fail
    clear c4 b1' b2' hk2 hk3 hk4 i0
    go_loopw [7, 40] (fun o i wr => ∃ j : Nat, o = .int .i64 (minAt s x k j) ∧ i = .int .i64 j ∧ j ≤ s.length - k ∧ Hid (Below w2.heap.size w2 wr)) (fun _ i _ => (s.length - k) - (intOf i).toNat)
    case atStart => exact ⟨0, by rw [HM0.out], rfl, Nat.zero_le _, Below.refl _ _⟩
    case round =>
      obtain ⟨j, rfl, rfl, hj, HL⟩ := hrel
      by_cases hlt : j < s.length - k
      · have hbl := below_then HB2.out HL.out
        obtain ⟨had3, c1, c2⟩ := drop_pairs (HV.out.below hbl) k hlt
        have b1 : wr.cell? ⟨w.heap.size, 1, none⟩ = some (.int .i64 x.2) := by
          have h := (HL.out.cell (p := ⟨w.heap.size, 1, none⟩) hbx)
          rw [h]; exact HX2.out
        have hbw : w.heap.size < wr.heap.size := Nat.lt_of_lt_of_le hbx HL.out.size
        have HSTOP := Lib.hid (fun h => minAt_stop HC.out HR.out.2.2.1.2.1 HR.out.2.2.2 HK.out hlt h)
        have HNEXT := Lib.hid (fun h => minAt_next HC.out HK.out hlt h)
        have hlt2 : (j : Int) < ((s.length - k : Nat) : Int) := by omega
        generalize nth s (k + j) = y at *
        generalize minAt s x k j = m at *
        by_cases hx : x.2 ≤ y.1
        · have hx2 : decide (x.2 ≤ y.1) = true := decide_eq_true hx
          have HD := Lib.hid (HSTOP.out hx)
          clear hx HSTOP HNEXT
          go_wp2_with fail
          go_ret2
          exact min_yes HR.out.1 HD.out ((hbl).alloc hbl.size _)
        · have hx2 : decide (x.2 ≤ y.1) = false := decide_eq_false hx
          have HN := Lib.hid (HNEXT.out (by omega))
          have HBL := Lib.hid (HL.out.alloc HL.out.size (.cells #[.int .i64 y.1, .int .i64 y.2] 31))
          clear hx HSTOP HNEXT
          go_wp2_with fail
          exact ⟨⟨j + 1, by rw [HN.out], by go_num, by omega, HBL.out⟩, by simp [intOf] <;> omega⟩
      · have HD := Lib.hid (minAt_done HC.out HR.out.2.2.1.2.1 HR.out.2.2.2 HK.out (j := j) (by omega))
        generalize minAt s x k j = m at *
        go_wp2_with fail
        go_ret2
        exact min_yes HR.out.1 HD.out (below_then HB2.out HL.out)
end Go.Proofs.Ytalopnkdnlkdoaa.StepWalk
