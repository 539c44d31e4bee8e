/-
  What the theorem uses of the texts below it.
-/
import Derived.Below
import Derived.Laws.OwnMore
import Derived.Deep.Draws
import Derived.Deep.OwnRows
import Derived.Lib.Hide
import Derived.OwnWalk
import Derived.Deep.QuietTactic
import Derived.BigQuiet
import Derived.Lib.SliceRun
import Derived.Test.YtjjigkomiidipaaRows
import Derived.WalkKit
import Derived.WalkSpells
import Derived.WalkLawsBesides
import Derived.Laws.StructEq
import Derived.LoopTactic
import Derived.Deep.CutBlock
import Derived.Deep.DeepCutAuto
import Derived.Deep.RegionHeld3
import Derived.ArgAppend
import Derived.Deep.RegionLaw
import Derived.Shelf.Small.Bits
import Derived.Shelf.Small.Wraps
import Derived.Shelf.Strconv.Itoa0
import Derived.Shelf.Bits.Mul64
import Derived.Test.YtjjigkomiidipaaProg
import Derived.Lib.ItoaNum
import Derived.Laws.Bits64b
import Derived.Deep.LoopGhost
import Derived.Shelf.SlSortCmp.NoneTotal
import Derived.Shelf.SlicesG.Cmp
import Derived.Lib.OwnBridge
import Derived.Lib.AppendIntMem
import Derived.BigRegion
import Derived.Test.YtjjigkomiidipaaPa5
namespace Go.Proofs.Ytjjigkomiidipaa.StepWalk
open Go.RowKit Go.Proofs.Ytjjigkomiidipaa.SpanPlain Go.Proofs.Ytjjigkomiidipaa.StepPlain Go.Proofs.Ytjjigkomiidipaa.Mem Go.Proofs.Ytjjigkomiidipaa.SpanMem Go.Proofs.Ytjjigkomiidipaa.StepMem Go.Proofs.Ytjjigkomiidipaa.SpanRef Go.Proofs.Ytjjigkomiidipaa.StepRef
theorem minb_ways (s : List Sp) (x : Sp) : (chkB s = false ∧ Hid (minB s x = false)) ∨ (chkB s = true ∧ mayB x = false ∧ Hid (minB s x = false)) ∨ (chkB s = true ∧ mayB x = true ∧ decide (x.1 < head s) = true ∧ Hid (minB s x = false)) ∨
    (chkB s = true ∧ mayB x = true ∧ decide (x.1 < head s) = false ∧ Hid (minB s x = true ∧ Chk s ∧ May x ∧ head s ≤ x.1)) := by
  unfold minB
  cases hc : chkB s with
  | false => exact .inl ⟨rfl, rfl⟩
  | true =>
    cases hm : mayB x with
    | false => exact .inr (.inl ⟨rfl, rfl, rfl⟩)
    | true =>
      by_cases h : x.1 < head s
      · exact .inr (.inr (.inl ⟨rfl, rfl, decide_eq_true h, by rw [decide_eq_false (by omega : ¬ head s ≤ x.1)]; rfl⟩))
      · exact .inr (.inr (.inr ⟨rfl, rfl, decide_eq_false h, by rw [decide_eq_true (by omega : head s ≤ x.1)]; rfl, (chk_iff s).1 hc, (mayB_iff x).1 hm, by omega⟩))
theorem min_no {s : List Sp} {x : Sp} (h : minB s x = false) {w w' : World} (hb : Below w.heap.size w w') : MinSays s x w (.returned (.tuple #[.int .i64 0, .bool false])) w' := ⟨0, by rw [h], .inr ⟨h, rfl⟩, hb⟩
theorem min_yes {s : List Sp} {x : Sp} (h : minB s x = true) {n : Int} (hn : MinOf s x n) {w w' : World} (hb : Below w.heap.size w w') : MinSays s x w (.returned (.tuple #[.int .i64 n, .bool true])) w' := ⟨n, by rw [h], .inl ⟨h, hn⟩, hb⟩
/-- The least one so far, j steps on from the k-th. -/
def minAt (s : List Sp) (x : Sp) (k j : Nat) : Int := minTo s x (k + max 1 j)
theorem minAt_zero {s : List Sp} (hc : Chk s) {x : Sp} {k : Nat} (h : LastIs s x.1 k) : minAt s x k 0 = (nth s k).2 := by
  unfold minAt
  rw [show k + max 1 0 = k + 1 by omega]
  exact min_start hc.up h
theorem minAt_next {s : List Sp} (hc : Chk s) {x : Sp} {k : Nat} (h : LastIs s x.1 k) {j : Nat} (hj : j < s.length - k) (h2 : (nth s (k + j)).1 < x.2) : min (minAt s x k j) (nth s (k + j)).2 = minAt s x k (j + 1) := by
  by_cases h0 : j = 0
  · subst h0
    rw [minAt_zero hc h, Nat.add_zero]
    have := minAt_zero hc h
    unfold minAt at *
    rw [show k + max 1 (0 + 1) = k + max 1 0 by omega, this]
    omega
  · unfold minAt
    rw [show k + max 1 j = k + j by omega, show k + max 1 (j + 1) = k + j + 1 by omega]
    exact (min_more hc.up h (by omega) (by omega) h2).symm
theorem minAt_stop {s : List Sp} (hc : Chk s) {x : Sp} (hx : x.1 < x.2) (hh : head s ≤ x.1) {k : Nat} (h : LastIs s x.1 k) {j : Nat} (hj : j < s.length - k) (h2 : x.2 ≤ (nth s (k + j)).1) : MinOf s x (minAt s x k j) := by
  have h0 : j ≠ 0 := fun e => by subst e; have := h.le; rw [Nat.add_zero] at h2; omega
  unfold minAt
  rw [show k + max 1 j = k + j by omega]
  exact min_done hc hx hh (fun _ => h2) (by omega)
theorem minAt_done {s : List Sp} (hc : Chk s) {x : Sp} (hx : x.1 < x.2) (hh : head s ≤ x.1) {k : Nat} (h : LastIs s x.1 k) {j : Nat} (hj : j = s.length - k) : MinOf s x (minAt s x k j) := by
  have := h.lt
  unfold minAt
  rw [show k + max 1 j = s.length by omega]
  exact min_done hc hx hh (fun h1 => by omega) (Nat.le_refl _)
/-- The steps from the k-th on. -/
theorem drop_pairs {s : List Sp} {w : World} {ad : Addr} {n c : Nat} (h : SpansIs s w (.slice (some ad) n c)) (k : Nat) {j : Nat} (hj : j < s.length - k) :
    (ad.add (k * 2)).block < w.heap.size ∧ w.cell? ((ad.add (k * 2)).add (j * 2)) = some (.int .i64 (nth s (k + j)).1) ∧ w.cell? ⟨((ad.add (k * 2)).add (j * 2)).block, ((ad.add (k * 2)).add (j * 2)).off + 1, none⟩ = some (.int .i64 (nth s (k + j)).2) := by
  have hr := (raw_of h).drop (k * 2)
  rw [svals_drop] at hr
  have hl : j < (s.drop k).length := by rw [List.length_drop]; exact hj
  obtain ⟨A, c2, hv, hp⟩ := SpansIs.open_ (l := s.drop k) (w := w) (v := .slice (some (ad.add (k * 2))) (s.drop k).length (s.drop k).length) (.inr ⟨_, _, rfl, hr, Nat.le_refl _⟩)
  obtain ⟨a, ea, h1, h2, h3⟩ := hp j hl
  injection hv with hv
  subst hv
  injection ea with ea
  subst ea
  have e : (s.drop k).getD j (0, 0) = nth s (k + j) := by unfold nth; simp [List.getD]
  unfold spCell at h2 h3
  rw [e] at h2 h3
  exact ⟨h1, h2, h3⟩
set_option maxRecDepth 100000 in
set_option maxHeartbeats 1600000 in
theorem minS (s : List Sp) (x : Sp) (v : Value) (w : World) (hv : SpansIs s w v) (hl : s.length ≤ 1000) : Calls Try.prog 50 #[v, spV x] w (MinSays s x w) := by
  have HB0 := Lib.hid (below_alloc w (.cells #[.int .i64 x.1, .int .i64 x.2] 73))
  have HX0 := Lib.hid (Box2.new w (.int .i64 x.1) (.int .i64 x.2) 73)
  have CC : Hid (∀ p : Lull (w.alloc (.cells #[.int .i64 x.1, .int .i64 x.2] 73)), Calls Try.prog 29 #[v] p.u (BoolIs (chkB s) p.u)) := fun p => checkS s v p.u (hv.below (below_then HB0.out p.h)) hl
  have CM : Hid (∀ W, Calls Try.prog 42 #[.agg #[.int .i64 x.1, .int .i64 x.2]] W (BoolIs (mayB x) W)) := fun W => mayS x W
  have CL : Hid (∀ (w' : World), Below w.heap.size w w' → Chk s → head s ≤ x.1 → Calls Try.prog 44 #[v, .int .i64 x.1] w' (LastSays s x.1 w')) := fun w' hb hc hh => lastS s x.1 v w' (hv.below hb) hc.up hc.pos hh (by omega)
  have HV := Lib.hid hv
  obtain ⟨A, c, rfl, hn, hA⟩ := hv.open2
  have HA := Lib.hid hA
  clear hA hv
  unfold spV
  rcases minb_ways s x with ⟨hc, HR⟩ | ⟨hc, hm, HR⟩ | ⟨hc, hm, h1, HR⟩ | ⟨hc, hm, h1, HR⟩
  · rw [hc] at CC
    clear hc
    go_enter Try.func50, Try.ntmps50
    go_wp2_with fail
    refine wp_region_calm (by kernel_rfl) (by kernel_rfl) ?_
    repeat (first | go_big_quiet_step ((first | (go_at_call 29; exact calm_of (v := .bool false) (CC.out _)))) | quiet_step ((first | (go_at_call 29; exact calm_of (v := .bool false) (CC.out _)))))
    refine wpQuiet_nil ?_
    intro w1 hw
    have hb1 := lull_below hw
    clear hw
    have HB1 := Lib.hid hb1
    clear hb1
    go_wp2_with fail
    go_ret2
    exact min_no HR.out (below_then HB0.out HB1.out)
  · have HC := Lib.hid ((chk_iff s).1 hc)
    have hp : 0 < s.length := HC.out.pos
    have hlz : (0 : Int) < (s.length : Int) := by omega
    rw [hc] at CC
    rw [hm] at CM
    obtain ⟨ad, rfl, had, c1, _⟩ := pair_zero HA.out hp
    have hh : (spCell s 0).1 = .int .i64 (head s) := rfl
    rw [hh] at c1
    have P0 := calm_cell HX0.out.lt HX0.out.c0
    have P1 := calm_cell (a := ⟨w.heap.size, 1, none⟩) HX0.out.lt HX0.out.c1
    have P2 := calm_cell (Nat.lt_of_lt_of_le had HB0.out.size) ((HB0.out.cell had).trans c1)
    clear hc hm hh c1
    generalize hhd : head s = h at *
    have HHD := Lib.hid hhd
    clear hhd
    go_enter Try.func50, Try.ntmps50
    go_wp2_with fail
    refine wp_region_calm (by kernel_rfl) (by kernel_rfl) ?_
    repeat (first | go_big_quiet_step (((first | (go_at_call 29; exact calm_of (v := .bool true) (CC.out _)) | (go_at_call 42; exact calm_of (v := .bool false) (CM.out _))))) | quiet_step (((first | (go_at_call 29; exact calm_of (v := .bool true) (CC.out _)) | (go_at_call 42; exact calm_of (v := .bool false) (CM.out _))))))
    refine wpQuiet_nil ?_
    intro w1 hw
    have hb1 := lull_below hw
    clear hw
    have HB1 := Lib.hid hb1
    clear hb1 P0 P1 P2
    go_wp2_with fail
    go_ret2
    exact min_no HR.out (below_then HB0.out HB1.out)
  · have HC := Lib.hid ((chk_iff s).1 hc)
    have hp : 0 < s.length := HC.out.pos
    have hlz : (0 : Int) < (s.length : Int) := by omega
    rw [hc] at CC
    rw [hm] at CM
    obtain ⟨ad, rfl, had, c1, _⟩ := pair_zero HA.out hp
    have hh : (spCell s 0).1 = .int .i64 (head s) := rfl
    rw [hh] at c1
    have P0 := calm_cell HX0.out.lt HX0.out.c0
    have P1 := calm_cell (a := ⟨w.heap.size, 1, none⟩) HX0.out.lt HX0.out.c1
    have P2 := calm_cell (Nat.lt_of_lt_of_le had HB0.out.size) ((HB0.out.cell had).trans c1)
    clear hc hm hh c1
    generalize hhd : head s = h at *
    have HHD := Lib.hid hhd
    clear hhd
    go_enter Try.func50, Try.ntmps50
    go_wp2_with fail
    refine wp_region_calm (by kernel_rfl) (by kernel_rfl) ?_
    repeat (first | go_big_quiet_step (((first | (go_at_call 29; exact calm_of (v := .bool true) (CC.out _)) | (go_at_call 42; exact calm_of (v := .bool true) (CM.out _))))) | quiet_step (((first | (go_at_call 29; exact calm_of (v := .bool true) (CC.out _)) | (go_at_call 42; exact calm_of (v := .bool true) (CM.out _))))))
    refine wpQuiet_nil ?_
    intro w1 hw
    have hb1 := lull_below hw
    clear hw
    have HB1 := Lib.hid hb1
    clear hb1 P0 P1 P2
    go_wp2_with fail
    go_ret2
    exact min_no HR.out (below_then HB0.out HB1.out)
  · have HC := Lib.hid ((chk_iff s).1 hc)
    have hp : 0 < s.length := HC.out.pos
    have hlz : (0 : Int) < (s.length : Int) := by omega
    rw [hc] at CC
    rw [hm] at CM
    obtain ⟨ad, rfl, had, c1, _⟩ := pair_zero HA.out hp
    have hh : (spCell s 0).1 = .int .i64 (head s) := rfl
    rw [hh] at c1
    have P0 := calm_cell HX0.out.lt HX0.out.c0
    have P1 := calm_cell (a := ⟨w.heap.size, 1, none⟩) HX0.out.lt HX0.out.c1
    have P2 := calm_cell (Nat.lt_of_lt_of_le had HB0.out.size) ((HB0.out.cell had).trans c1)
    clear hc hm hh c1
    have hhd : head s = head s := rfl
    clear hhd
    go_enter Try.func50, Try.ntmps50
    go_wp2_with fail
    refine wp_region_calm (by kernel_rfl) (by kernel_rfl) ?_
    repeat (first | go_big_quiet_step (((first | (go_at_call 29; exact calm_of (v := .bool true) (CC.out _)) | (go_at_call 42; exact calm_of (v := .bool true) (CM.out _))))) | quiet_step (((first | (go_at_call 29; exact calm_of (v := .bool true) (CC.out _)) | (go_at_call 42; exact calm_of (v := .bool true) (CM.out _))))))
    refine wpQuiet_nil ?_
    intro w1 hw
    have hb1 := lull_below hw
    clear hw
    have HB1 := Lib.hid hb1
    have b1 := P0 ⟨w1, hb1⟩
    have b2 := P1 ⟨w1, hb1⟩
    dsimp only at b1 b2
    have CL2 := Lib.hid (CL.out w1 (below_then HB0.out HB1.out) HC.out HR.out.2.2.2)
    clear hb1 P0 P1 P2 CL
    go_wp2_with fail
    refine CL2.out.mono ?_
    rintro e w2 ⟨k, rfl, hk, hb2⟩
    obtain ⟨ad2, ead, had2, c3, c4⟩ := nth_cells (HA.out.below (below_then (below_then HB0.out HB1.out) hb2)) hk.lt
    injection ead with ead
    subst ead
    have b1' := (hb2.cell (p := ⟨w.heap.size, 0, none⟩) (Nat.lt_of_lt_of_le HX0.out.lt HB1.out.size)).trans b1
    have b2' := (hb2.cell (p := ⟨w.heap.size, 1, none⟩) (Nat.lt_of_lt_of_le HX0.out.lt HB1.out.size)).trans b2
    have hkl := hk.lt
    have HK := Lib.hid hk
    have HM0 := Lib.hid (minAt_zero HC.out hk)
    have HB2 := Lib.hid (below_then (below_then HB0.out HB1.out) hb2)
    have hk2 : (k : Int) < (s.length : Int) := by omega
    have hk3 : (k : Int) ≤ (s.length : Int) := by omega
    have hk4 : ¬ c = k := by omega
    have i0 : (0 : Int) ≤ (k : Int) := Int.natCast_nonneg _
    have hbx : w.heap.size < w2.heap.size := by have := HX0.out.lt; have := HB1.out.size; have := hb2.size; omega
    have HX2 := Lib.hid b2'
    clear hk hb2 CL2 b1 b2 CC CM c3
    generalize hy : (nth s k).2 = y at *
    clear hy
    go_wp2_with fail
    clear c4 b1' b2' hk2 hk3 hk4 i0
    go_loopw [7, 40] (fun o i wr => ∃ j : Nat, o = .int .i64 (minAt s x k j) ∧ i = .int .i64 j ∧ j ≤ s.length - k ∧ Hid (Below w2.heap.size w2 wr)) (fun _ i _ => (s.length - k) - (intOf i).toNat)
    case atStart => exact ⟨0, by rw [HM0.out], rfl, Nat.zero_le _, Below.refl _ _⟩
    case round =>
      obtain ⟨j, rfl, rfl, hj, HL⟩ := hrel
      by_cases hlt : j < s.length - k
      · have hbl := below_then HB2.out HL.out
        obtain ⟨had3, c1, c2⟩ := drop_pairs (HV.out.below hbl) k hlt
        have b1 : wr.cell? ⟨w.heap.size, 1, none⟩ = some (.int .i64 x.2) := by
          have h := (HL.out.cell (p := ⟨w.heap.size, 1, none⟩) hbx)
          rw [h]; exact HX2.out
        have hbw : w.heap.size < wr.heap.size := Nat.lt_of_lt_of_le hbx HL.out.size
        have HSTOP := Lib.hid (fun h => minAt_stop HC.out HR.out.2.2.1.2.1 HR.out.2.2.2 HK.out hlt h)
        have HNEXT := Lib.hid (fun h => minAt_next HC.out HK.out hlt h)
        have hlt2 : (j : Int) < ((s.length - k : Nat) : Int) := by omega
        generalize nth s (k + j) = y at *
        generalize minAt s x k j = m at *
        by_cases hx : x.2 ≤ y.1
        · have hx2 : decide (x.2 ≤ y.1) = true := decide_eq_true hx
          have HD := Lib.hid (HSTOP.out hx)
          clear hx HSTOP HNEXT
          go_wp2_with fail
          go_ret2
          exact min_yes HR.out.1 HD.out ((hbl).alloc hbl.size _)
        · have hx2 : decide (x.2 ≤ y.1) = false := decide_eq_false hx
          have HN := Lib.hid (HNEXT.out (by omega))
          have HBL := Lib.hid (HL.out.alloc HL.out.size (.cells #[.int .i64 y.1, .int .i64 y.2] 40))
          clear hx HSTOP HNEXT
          go_wp2_with fail
          exact ⟨⟨j + 1, by rw [HN.out], by go_num, by omega, HBL.out⟩, by simp [intOf] <;> omega⟩
      · have HD := Lib.hid (minAt_done HC.out HR.out.2.2.1.2.1 HR.out.2.2.2 HK.out (j := j) (by omega))
        generalize minAt s x k j = m at *
        go_wp2_with fail
        go_ret2
        exact min_yes HR.out.1 HD.out (below_then HB2.out HL.out)
end Go.Proofs.Ytjjigkomiidipaa.StepWalk
namespace Go.Proofs.Ytjjigkomiidipaa.StepWalk
open Go.RowKit Go.Proofs.Ytjjigkomiidipaa.SpanPlain Go.Proofs.Ytjjigkomiidipaa.StepPlain Go.Proofs.Ytjjigkomiidipaa.Mem Go.Proofs.Ytjjigkomiidipaa.SpanMem Go.Proofs.Ytjjigkomiidipaa.StepMem Go.Proofs.Ytjjigkomiidipaa.SpanRef Go.Proofs.Ytjjigkomiidipaa.StepRef
theorem alikeS (a b : Sp) (w : World) : Calls Try.prog 55 #[.agg #[.int .i64 a.1, .int .i64 a.2], .agg #[.int .i64 b.1, .int .i64 b.2]] w (BoolIs (a.2 == b.2) w) := by
  cases hb : (a.2 == b.2)
  all_goals
    go_enter Try.func55, Try.ntmps55
    go_wp2_with fail
    go_ret
    exact ⟨rfl, ((Below.refl _ _).alloc (Nat.le_refl _) _).alloc (by simp) _⟩
/-- What the joining answers. -/
def JoinSays (l : List Sp) (base : Nat) (w : World) (e : Ending) (w' : World) : Prop := ∃ v, e = .returned v ∧ SpansIs (joinL l) w' v ∧ Below base w w' ∧ NewAt base v
/-- How the joining stands: the row holds what is joined so far, then what it held. -/
structure JoinAt (l : List Sp) (m kk : Nat) (r : List Sp) : Prop where
  len : r.length = l.length
  kept : r.take kk = joinL (l.take m)
  at_ : kk = (joinL (l.take m)).length
  rest : ∀ j, m ≤ j + 1 → nth r j = nth l j
  low : kk + 1 ≤ m
theorem JoinAt.start {l : List Sp} {k : Nat} (h0 : 0 < k) (hk : k < l.length) (h : ∀ j, 0 < j → j < k → (nth l j).2 ≠ (nth l (j - 1)).2) (hs : (nth l k).2 = (nth l (k - 1)).2) : JoinAt l (k + 1) k l := by
  have e := (join_take_same h0 hk hs).trans (join_none (by omega) h)
  exact ⟨rfl, e.symm, by rw [e, List.length_take]; omega, fun _ _ => rfl, Nat.le_refl _⟩
theorem JoinAt.same {l r : List Sp} {m kk : Nat} (h : JoinAt l m kk r) (h0 : 0 < m) (hm : m < l.length) (hs : (nth l m).2 = (nth l (m - 1)).2) : JoinAt l (m + 1) kk r := by
  have e := join_take_same h0 hm hs
  exact ⟨h.len, by rw [e]; exact h.kept, by rw [e]; exact h.at_, fun j hj => h.rest j (by omega), by have := h.low; omega⟩
theorem take_set_snoc {r : List Sp} {kk : Nat} (h : kk < r.length) (y : Sp) : (r.set kk y).take (kk + 1) = r.take kk ++ [y] := by
  have h2 : kk < (r.set kk y).length := by rw [List.length_set]; exact h
  rw [List.take_succ_eq_append_getElem h2, List.take_set_of_le (Nat.le_refl _)]
  simp
theorem JoinAt.more {l r : List Sp} {m kk : Nat} (h : JoinAt l m kk r) (h0 : 0 < m) (hm : m < l.length) (hs : (nth l m).2 ≠ (nth l (m - 1)).2) : JoinAt l (m + 1) (kk + 1) (r.set kk (nth l m)) := by
  have e := join_take_new h0 hm hs
  have hl := h.low
  have hlen := h.len
  refine ⟨by rw [List.length_set]; exact h.len, by rw [e, take_set_snoc (by omega), h.kept], by rw [e, List.length_append, ← h.at_]; rfl, fun j hj => ?_, by omega⟩
  rw [nth_set (by omega), if_neg (by omega)]
  exact h.rest j (by omega)
theorem svals_set (l : List Sp) : ∀ (k : Nat) (y : Sp), k < l.length → ((svals l).set (k * 2) (.int .i64 y.1)).set (k * 2 + 1) (.int .i64 y.2) = svals (l.set k y) := by
  induction l with
  | nil => intro k y h; simp at h
  | cons s l ih =>
    intro k y h
    have e : svals (s :: l) = .int .i64 s.1 :: .int .i64 s.2 :: svals l := rfl
    cases k with
    | zero => rfl
    | succ k =>
      have e2 : svals (s :: l.set k y) = .int .i64 s.1 :: .int .i64 s.2 :: svals (l.set k y) := rfl
      rw [e, show (k + 1) * 2 = k * 2 + 1 + 1 by omega, List.set_cons_succ, List.set_cons_succ, List.set_cons_succ, List.set_cons_succ, ih k y (by simpa using h), List.set_cons_succ, e2]
/-- A cell of an own row of steps. -/
theorem own_cells {base n c g : Nat} {w : World} {l : List Sp} (h : OwnR 40 2 base w (.slice (some ⟨g, 0, none⟩) n c) n (svals l)) {k : Nat} (hk : k < l.length) :
    w.cell? ⟨g, k * 2, none⟩ = some (.int .i64 (nth l k).1) ∧ w.cell? ⟨g, k * 2 + 1, none⟩ = some (.int .i64 (nth l k).2) ∧ w.frozen? ⟨g, k * 2, none⟩ = false ∧ w.frozen? ⟨g, k * 2 + 1, none⟩ = false ∧ g < w.heap.size ∧ base ≤ g := by
  obtain ⟨g', c', hv, h1, h2, _, _, hr, hf⟩ := h.form
  injection hv with hv
  injection hv with hv
  injection hv with hv
  subst hv
  have e1 := (hr _ _ (svals_at l k hk).1).2
  have e2 := (hr _ _ (svals_at l k hk).2).2
  rw [add_flat] at e1 e2
  exact ⟨e1, e2, hf _, hf _, h2, h1⟩
set_option maxRecDepth 100000 in
set_option maxHeartbeats 3200000 in
theorem compactS (l : List Sp) (base g c : Nat) (w : World) (ho : OwnR 40 2 base w (.slice (some ⟨g, 0, none⟩) l.length c) l.length (svals l)) (hn : l.length ≤ c) (hl : l.length ≤ 100000) :
    Calls Try.prog 54 #[.slice (some ⟨g, 0, none⟩) l.length c, .func (.func 55) #[] #[]] w (JoinSays l base w) := by
  have HO := Lib.hid ho
  clear ho
  by_cases h2 : l.length < 2
  · have d1 : decide ((l.length : Int) < 2) = true := decide_eq_true (by omega)
    have HR : Hid (joinL l = l) := by
      have := join_none (l := l) (Nat.le_refl _) (fun j h1 h2 => by omega)
      rwa [List.take_of_length_le (Nat.le_refl _)] at this
    clear h2
    go_enter Try.func54, Try.ntmps54
    go_wp2_with fail
    go_ret
    exact ⟨_, rfl, by rw [HR.out]; exact OwnR.spans HO.out rfl, Below.refl _ _, NewAt.own HO.out.toN (Nat.le_refl _)⟩
  · have d1 : decide ((l.length : Int) < 2) = false := decide_eq_false (by omega)
    go_enter Try.func54, Try.ntmps54
    go_wp2_with fail
    go_loopw [5] (fun a wr => ∃ k : Nat, a = .int .i64 k ∧ 1 ≤ k ∧ k ≤ l.length ∧ Hid ((∀ j, 0 < j → j < k → (nth l j).2 ≠ (nth l (j - 1)).2) ∧ Below w.heap.size w wr)) (fun a _ => l.length - (intOf a).toNat)
    case atStart => exact ⟨1, rfl, Nat.le_refl _, by omega, fun j h1 h2 => by omega, Below.refl _ _⟩
    case round =>
      obtain ⟨k, rfl, hk1, hk, HL⟩ := hrel
      obtain ⟨hall, hbl⟩ := HL.out
      by_cases hlt : k < l.length
      · obtain ⟨a1, a2, a3, a4, a5, a6⟩ := own_cells (HO.out.below hbl) hlt
        obtain ⟨b1, b2, b3, b4, _, _⟩ := own_cells (HO.out.below hbl) (show k - 1 < l.length by omega)
        have P1 := calm_cell (a := ⟨g, k * 2, none⟩) a5 a1
        have P2 := calm_cell (a := ⟨g, k * 2 + 1, none⟩) a5 a2
        have P3 := calm_cell (a := ⟨g, (k - 1) * 2, none⟩) a5 b1
        have P4 := calm_cell (a := ⟨g, (k - 1) * 2 + 1, none⟩) a5 b2
        have i0 : (0 : Int) ≤ (k : Int) := Int.natCast_nonneg _
        have i1 : (k : Int) < (l.length : Int) := by omega
        have q0 : (0 : Int) ≤ ((k - 1 : Nat) : Int) := Int.natCast_nonneg _
        have q1 : ((k - 1 : Nat) : Int) < (l.length : Int) := by omega
        have q2 : IntKind.i64.wrap ((k : Int) - 1) = ((k - 1 : Nat) : Int) := by rw [IntKind.wrap_i64]; omega
        have CE := Lib.hid (fun W => alikeS (nth l k) (nth l (k - 1)) W)
        have HALL := Lib.hid hall
        have HBL := Lib.hid hbl
        by_cases heq : (nth l k).2 = (nth l (k - 1)).2
        · have he : ((nth l k).2 == (nth l (k - 1)).2) = true := beq_iff_eq.2 heq
          rw [he] at CE
          have HS := Lib.hid (JoinAt.start (by omega) hlt hall heq)
          clear heq he hall hbl HL a1 a2 a3 a4 b1 b2 b3 b4
          generalize nth l k = x at *
          generalize nth l (k - 1) = y at *
          go_wp2_with fail
          refine wp_region_calm (by kernel_rfl) (by kernel_rfl) ?_
          repeat (first | go_big_quiet_step ((go_at_call 55; exact calm_of (v := .bool true) (CE.out _))) | quiet_step ((go_at_call 55; exact calm_of (v := .bool true) (CE.out _))))
          refine wpQuiet_nil ?_
          intro w1 hw
          have hb1 := lull_below hw
          have HB1 := Lib.hid (below_then HBL.out hb1)
          clear hw hb1 P1 P2 P3 P4
          go_wp2_with fail
          have HO1 := Lib.hid (HO.out.below HB1.out)
          have HBB := Lib.hid ((HB1.out.mono (Nat.le_refl _)).mono HO.out.2.2)
          clear HALL HBL HB1 CE q0 q1 q2 i1
          go_loopw [5, 7] (fun a b wr => ∃ (kk k2 : Nat) (r : List Sp), a = .int .i64 kk ∧ b = .int .i64 k2 ∧ 1 ≤ k2 ∧ k + k2 ≤ l.length ∧ kk < l.length ∧ Hid (JoinAt l (k + k2) kk r ∧ OwnR 40 2 base wr (.slice (some ⟨g, 0, none⟩) l.length c) l.length (svals r) ∧ Below base w wr)) (fun _ b _ => (l.length - k) - (intOf b).toNat)
          case atStart => exact ⟨k, 1, l, rfl, rfl, Nat.le_refl _, by omega, hlt, HS.out, HO1.out, HBB.out⟩
          case round =>
            obtain ⟨kk, k2, r, rfl, rfl, hk21, hk2, hkk, HL⟩ := hrel
            obtain ⟨hat, hor, hbr⟩ := HL.out
            by_cases hlt2 : k2 < l.length - k
            · have hlen := hat.len
              obtain ⟨a1, a2, _, _, a5, a6⟩ := own_cells hor (k := k + k2) (by omega)
              obtain ⟨b1, b2, _, _, _, _⟩ := own_cells hor (k := k + k2 - 1) (by omega)
              rw [hat.rest (k + k2) (by omega), show (k + k2) * 2 = k * 2 + k2 * 2 by omega] at a1 a2
              rw [hat.rest (k + k2 - 1) (by omega), show (k + k2 - 1) * 2 = k * 2 + (k2 - 1) * 2 by omega] at b1 b2
              have P1 := calm_cell (a := ⟨g, k * 2 + k2 * 2, none⟩) a5 a1
              have P2 := calm_cell (a := ⟨g, k * 2 + k2 * 2 + 1, none⟩) a5 a2
              have P3 := calm_cell (a := ⟨g, k * 2 + (k2 - 1) * 2, none⟩) a5 b1
              have P4 := calm_cell (a := ⟨g, k * 2 + (k2 - 1) * 2 + 1, none⟩) a5 b2
              have j0 : (0 : Int) ≤ (k2 : Int) := Int.natCast_nonneg _
              have j1 : (k2 : Int) < ((l.length - k : Nat) : Int) := by omega
              have q0 : (0 : Int) ≤ ((k2 - 1 : Nat) : Int) := Int.natCast_nonneg _
              have q1 : ((k2 - 1 : Nat) : Int) < ((l.length - k : Nat) : Int) := by omega
              have q2 : IntKind.i64.wrap ((k2 : Int) - 1) = ((k2 - 1 : Nat) : Int) := by rw [IntKind.wrap_i64]; omega
              have CE := Lib.hid (fun W => alikeS (nth l (k + k2)) (nth l (k + k2 - 1)) W)
              have HOR := Lib.hid hor
              have HBR := Lib.hid hbr
              by_cases heq : (nth l (k + k2)).2 = (nth l (k + k2 - 1)).2
              · have he : ((nth l (k + k2)).2 == (nth l (k + k2 - 1)).2) = true := beq_iff_eq.2 heq
                rw [he] at CE
                have HN := Lib.hid (hat.same (by omega) (by omega) heq)
                clear heq he hat hor hbr HL a1 a2 b1 b2
                generalize nth l (k + k2) = x at *
                generalize nth l (k + k2 - 1) = y at *
                go_wp2_with fail
                refine wp_region_calm (by kernel_rfl) (by kernel_rfl) ?_
                repeat (first | go_big_quiet_step (((go_at_call 55; exact calm_of (v := .bool true) (CE.out _)))) | quiet_step (((go_at_call 55; exact calm_of (v := .bool true) (CE.out _)))))
                refine wpQuiet_nil ?_
                intro w1 hw
                have hb1 := lull_below hw
                have HB1 := Lib.hid hb1
                clear hw hb1 P1 P2 P3 P4
                go_wp2_with fail
                exact ⟨⟨kk, k2 + 1, r, rfl, by go_num, by omega, by omega, hkk, HN.out, HOR.out.below HB1.out, HBR.out.trans (HB1.out.mono HOR.out.2.2)⟩, by simp [intOf] <;> omega⟩
              · have he : ((nth l (k + k2)).2 == (nth l (k + k2 - 1)).2) = false := beq_eq_false_iff_ne.2 heq
                rw [he] at CE
                have HN := Lib.hid (hat.more (by omega) (by omega) heq)
                have hlow := hat.low
                have HAT := Lib.hid hat
                clear heq he hat hor hbr HL a1 a2 b1 b2
                generalize hx : nth l (k + k2) = x at *
                have HX := Lib.hid hx
                clear hx
                generalize nth l (k + k2 - 1) = y at *
                go_wp2_with fail
                refine wp_region_calm (by kernel_rfl) (by kernel_rfl) ?_
                repeat (first | go_big_quiet_step (((go_at_call 55; exact calm_of (v := .bool false) (CE.out _)))) | quiet_step (((go_at_call 55; exact calm_of (v := .bool false) (CE.out _)))))
                refine wpQuiet_nil ?_
                intro w1 hw
                have hb1 := lull_below hw
                have HB1 := Lib.hid hb1
                have a1 := P1 ⟨w1, hb1⟩
                have a2 := P2 ⟨w1, hb1⟩
                dsimp only at a1 a2
                clear hw hb1 P1 P2 P3 P4
                have HOR1 := Lib.hid (HOR.out.below HB1.out)
                have HBR1 := Lib.hid (HBR.out.trans (HB1.out.mono HOR.out.2.2))
                obtain ⟨c1, c2, c3, c4, c5, c6⟩ := own_cells HOR1.out (k := kk) (by omega)
                generalize nth r kk = z at *
                have k0 : (0 : Int) ≤ (kk : Int) := Int.natCast_nonneg _
                have k1 : (kk : Int) < (l.length : Int) := by omega
                go_wp2_with fail
                refine ⟨⟨kk + 1, k2 + 1, r.set kk x, by go_num, by go_num, by omega, by omega, by omega, HN.out, ?_, ?_⟩, by simp [intOf] <;> omega⟩
                · exact ((HOR1.out.set (kk * 2) (.int .i64 x.1)).set (kk * 2 + 1) (.int .i64 x.2)).cast rfl (svals_set r kk x (by omega))
                · exact (HBR1.out.setCell (p := ⟨g, kk * 2, none⟩) c6 _).setCell (p := ⟨g, kk * 2 + 1, none⟩) c6 _
            · have hlen := hat.len
              have hcl : ∀ ty, (Builtin.clear_ #[32] ty #[.slice (some ⟨g, kk * 2, none⟩) (l.length - kk) (c - kk)]).run Try.prog wr = .ok (.tuple #[]) (wr.setCells g (kk * 2) (List.replicate ((l.length - kk) * 2) (.int .i64 0))) :=
                fun ty => clear_two wr 32 40 ty Try.underlying32 Try.zeroValue40 g (kk * 2) _ _ (by omega) (fun j hj => by
                  obtain ⟨a1, a2, _, _, _, _⟩ := own_cells hor (k := kk + j / 2) (by omega)
                  have h3 : j % 2 = 0 ∨ j % 2 = 1 := by omega
                  rcases h3 with h3 | h3
                  · rw [show kk * 2 + j = (kk + j / 2) * 2 by omega, a1]; rfl
                  · rw [show kk * 2 + j = (kk + j / 2) * 2 + 1 by omega, a2]; rfl) (fun j hj => by
                  obtain ⟨_, _, _, _, _, _⟩ := own_cells hor (k := kk + j / 2) (by omega)
                  obtain ⟨g', c', hv, _, _, _, _, _, hf⟩ := hor.form
                  injection hv with hv
                  injection hv with hv
                  injection hv with hv
                  subst hv
                  exact hf _)
              have HR : Hid (Raw (wr.setCells g (kk * 2) (List.replicate ((l.length - kk) * 2) (.int .i64 0))) ⟨g, 0, none⟩ (svals (joinL l)) ∧ kk = (joinL l).length ∧ Below base w (wr.setCells g (kk * 2) (List.replicate ((l.length - kk) * 2) (.int .i64 0)))) := by
                have e : l.take (k + k2) = l := List.take_of_length_le (by omega)
                have hk := hat.kept
                have hl2 := hat.at_
                rw [e] at hk hl2
                refine ⟨raw_wipe ?_ (by rw [svals_len]; omega), hl2, ?_⟩
                · rw [← hk, ← svals_take]
                  obtain ⟨g', c', hv, _, _, _, _, hr, _⟩ := hor.form
                  injection hv with hv
                  injection hv with hv
                  injection hv with hv
                  subst hv
                  exact hr.take _
                · exact below_wipe (own_cells hor (k := 0) (by omega)).2.2.2.2.2 _ _ _ hbr
              have k0 : (0 : Int) ≤ (kk : Int) := Int.natCast_nonneg _
              have k1 : (kk : Int) < (l.length : Int) := by omega
              have k2' : ¬ c = kk := by omega
              have k3 : kk ≤ c := by omega
              clear hat hor hbr HL
              go_wp2_with fail
              go_ret
              exact ⟨.slice (some ⟨g, 0, none⟩) kk c, rfl, .inr ⟨⟨g, 0, none⟩, c, by rw [← HR.out.2.1], HR.out.1, by have := HR.out.2.1; omega⟩, HR.out.2.2, (NewAt.own HO.out.toN (Nat.le_refl _)).cut⟩
        · have he : ((nth l k).2 == (nth l (k - 1)).2) = false := beq_eq_false_iff_ne.2 heq
          rw [he] at CE
          have HN : Hid (∀ j, 0 < j → j < k + 1 → (nth l j).2 ≠ (nth l (j - 1)).2) := fun j h1 h2 => by
            by_cases h3 : j = k
            · subst h3; exact heq
            · exact HALL.out j h1 (by omega)
          clear heq he hall hbl HL a1 a2 a3 a4 b1 b2 b3 b4
          generalize nth l k = x at *
          generalize nth l (k - 1) = y at *
          go_wp2_with fail
          refine wp_region_calm (by kernel_rfl) (by kernel_rfl) ?_
          repeat (first | go_big_quiet_step (((go_at_call 55; exact calm_of (v := .bool false) (CE.out _)))) | quiet_step (((go_at_call 55; exact calm_of (v := .bool false) (CE.out _)))))
          refine wpQuiet_nil ?_
          intro w1 hw
          have hb1 := lull_below hw
          have HB1 := Lib.hid (below_then HBL.out hb1)
          clear hw hb1 P1 P2 P3 P4
          go_wp2_with fail
          exact ⟨⟨k + 1, by go_num, by omega, by omega, HN.out, HB1.out⟩, by simp [intOf] <;> omega⟩
      · have HR : Hid (joinL l = l) := by
          have := join_none (l := l) (Nat.le_refl _) (fun j h1 h2 => hall j h1 (by omega))
          rwa [List.take_of_length_le (Nat.le_refl _)] at this
        have HBL := Lib.hid hbl
        clear hall hbl HL
        go_wp2_with fail
        go_ret
        exact ⟨_, rfl, by rw [HR.out]; exact OwnR.spans (HO.out.below HBL.out) rfl, HBL.out.mono HO.out.2.2, NewAt.own (HO.out.below HBL.out).toN (Nat.le_refl _)⟩
theorem joinedS (l : List Sp) (base g c : Nat) (w : World) (ho : OwnR 40 2 base w (.slice (some ⟨g, 0, none⟩) l.length c) l.length (svals l)) (hn : l.length ≤ c) (hl : l.length ≤ 100000) :
    Calls Try.prog 45 #[.slice (some ⟨g, 0, none⟩) l.length c] w (JoinSays l base w) := by
  have C1 := Lib.hid (compactS l base g c w ho hn hl)
  clear ho
  go_enter Try.func45, Try.ntmps45
  go_wp2_with fail
  refine C1.out.mono ?_
  rintro e w1 ⟨v, rfl, hs, hb, hn⟩
  have HS := Lib.hid hs
  have HB := Lib.hid hb
  have HN := Lib.hid hn
  clear hs hb hn C1
  go_wp2_with fail
  go_ret
  exact ⟨v, rfl, HS.out, HB.out, HN.out⟩
end Go.Proofs.Ytjjigkomiidipaa.StepWalk
namespace Go.Proofs.Ytjjigkomiidipaa.StepWalk
open Go.RowKit Go.Proofs.Ytjjigkomiidipaa.SpanPlain Go.Proofs.Ytjjigkomiidipaa.StepPlain Go.Proofs.Ytjjigkomiidipaa.Mem Go.Proofs.Ytjjigkomiidipaa.SpanMem Go.Proofs.Ytjjigkomiidipaa.StepMem Go.Proofs.Ytjjigkomiidipaa.SpanRef Go.Proofs.Ytjjigkomiidipaa.StepRef
/-- What cut answers. -/
def CutSays (s : List Sp) (t : Int) (w : World) (e : Ending) (w' : World) : Prop := ∃ v k, e = .returned v ∧ LastIs s t k ∧ OwnR 40 2 w.heap.size w' v (cutL s t k).length (svals (cutL s t k)) ∧ Below w.heap.size w w'
theorem cut_says {s : List Sp} {t : Int} {k : Nat} (hk : LastIs s t k) {w w1 w' : World} {v : Value} {n : Nat} {xs : List Value} (hb1 : Below w.heap.size w w1) (ho : OwnR 40 2 w1.heap.size w' v n xs) (hx : xs = svals (cutL s t k)) (hb : Below w1.heap.size w1 w') : CutSays s t w (.returned v) w' := by
  subst hx
  have hl := ho.1.1
  rw [svals_len] at hl
  obtain rfl : (cutL s t k).length = n := by omega
  exact ⟨v, k, rfl, hk, ⟨(OwnN.rebase ho.toN hb1.size).1, ho.2.1, Nat.le_trans hb1.size (Nat.le_trans ho.2.2 (Nat.le_refl _))⟩, below_then hb1 hb⟩
theorem take_raw {s : List Sp} {w : World} {ad : Addr} {n c : Nat} (h : SpansIs s w (.slice (some ad) n c)) (k : Nat) : Raw w ad (svals (s.take k)) := by rw [← svals_take]; exact (raw_of h).take _
theorem drop_raw {s : List Sp} {w : World} {ad : Addr} {n c : Nat} (h : SpansIs s w (.slice (some ad) n c)) (k : Nat) : Raw w (ad.add (k * 2)) (svals (s.drop k)) := by rw [← svals_drop]; exact (raw_of h).drop _
set_option maxHeartbeats 1600000 in
theorem cutS (s : List Sp) (t : Int) (v : Value) (w : World) (hv : SpansIs s w v) (hu : Up s) (hp : 0 < s.length) (hh : head s ≤ t) (hl : s.length ≤ 2000) : Calls Try.prog 43 #[v, .int .i64 t] w (CutSays s t w) := by
  have CL := Lib.hid (lastS s t v w hv hu hp hh (by omega))
  have HV := Lib.hid hv
  obtain ⟨A, c, rfl, hn, hA⟩ := hv.open2
  have HA := Lib.hid hA
  obtain ⟨ad, rfl, had, _, _⟩ := pair_zero HA.out hp
  clear hA hv hu
  obtain ⟨i0, z0, hi0, hz0, hz1, hz2, hzs⟩ := steps_t.info
  go_enter Try.func43, Try.ntmps43
  go_wp2_with fail
  refine CL.out.mono ?_
  rintro e w1 ⟨k, rfl, hk, hb1⟩
  have hkl := hk.lt
  have HK := Lib.hid hk
  have HB1 := Lib.hid hb1
  clear hk hb1 CL
  have k0 : (0 : Int) ≤ (k : Int) + 1 := by omega
  have k1 : IntKind.i64.wrap ((k : Int) + 1) = (k : Int) + 1 := by rw [IntKind.wrap_i64]; omega
  have k2 : (k : Int) + 1 ≤ (c : Int) := by omega
  have k3 : ((k : Int) + 1).toNat = k + 1 := by omega
  go_wp2_with (at_make; refine wpList_make_own _ rfl _ _ 32 rfl w1.heap.size 40 i0 z0 2 steps_t.und hi0 hz0 hz1 .i64 .i64 _ (s.length + 1) rfl rfl ?hC ?hb2 ?hb3 (Nat.le_refl _) ?_)
  case hC => omega
  case hb2 => rw [hz2]; omega
  case hb3 => unfold maxLen; omega
  intro w2 ho2 hg2
  have HO2 : Hid (OwnR 40 2 w1.heap.size w2 (.slice (some ⟨w1.heap.size, 0, none⟩) 0 (s.length + 1)) 0 []) := ⟨ho2, by simp, hg2.size⟩
  have HB2 : Hid (Below w1.heap.size w1 w2) := ⟨hg2.os, hg2.tape, hg2.output, hg2.size, fun i hi => hg2.block i hi (by simp)⟩
  clear ho2 hg2
  have HT := Lib.hid (take_raw (HV.out.below (below_then HB1.out HB2.out)) (k + 1))
  go_wp2_with (at_builtin; refine push_raw steps_t rfl (.tmp 14) (.tmp 18) rfl w1.heap.size _ _ _ rfl HO2.out ad (k + 1) c (svals (s.take (k + 1))) rfl ?h1a HT.out (svals_cell _) ?h1b ?_)
  case h1a => rw [svals_len, List.length_take]; omega
  case h1b => omega
  intro v3 w3 ho3 hb3
  have HO3 := Lib.hid ho3
  have HB3 := Lib.hid (HB2.out.trans hb3)
  clear ho3 hb3 HO2 HB2 HT k3
  obtain ⟨ad2, ead, had2, c1, c2⟩ := nth_cells (HA.out.below (below_then HB1.out HB3.out)) hkl
  injection ead with ead
  subst ead
  have hk5 : (k : Int) < (s.length : Int) := by omega
  have HD := Lib.hid (fun (W : World) (hb : Below w1.heap.size w1 W) => drop_raw (HV.out.below (below_then HB1.out hb)) (k + 1))
  have HE : Hid (cutL s t k = s.take (k + 1) ++ (if (nth s k).1 < t then [(t, (nth s k).2)] else []) ++ s.drop (k + 1)) := rfl
  have HS := Lib.hid (fun (w' : World) (v : Value) (n : Nat) (xs : List Value) (ho : OwnR 40 2 w1.heap.size w' v n xs) (hx : xs = svals (cutL s t k)) (hb : Below w1.heap.size w1 w') => cut_says HK.out HB1.out ho hx hb)
  generalize nth s k = y at *
  have j0 : (0 : Int) ≤ (k : Int) := Int.natCast_nonneg _
  have j1 : (k : Int) + 1 ≤ (s.length : Int) := by omega
  have j3 : ((k : Int) + 1).toNat = k + 1 := by omega
  rcases Decidable.em (y.1 < t) with hy | hy <;> rcases Decidable.em (c = k + 1) with hc | hc
  · have hy2 : decide (y.1 < t) = true := decide_eq_true hy
    have HE2 := Lib.hid (HE.out.trans (by rw [if_pos hy]))
    have HDN : Hid (s.drop (k + 1) = []) := List.drop_eq_nil_of_le (by omega)
    subst hc
    clear hy HE
    go_wp2_with (at_builtin; refine push_raw steps_t rfl (.tmp 27) (.tmp 35) rfl w1.heap.size _ _ _ rfl (HO3.out.alloc (.cells #[.int .i64 t, .int .i64 y.2] 40)) ⟨w3.heap.size, 0, none⟩ 1 1 [.int .i64 t, .int .i64 y.2] rfl rfl (Raw.alloc w3 _ _) two_cells ?e1 ?_)
    case e1 => omega
    intro v4 w4 ho4 hb4
    have HO4 := Lib.hid ho4
    have HB4 := Lib.hid ((HB3.out.alloc HB3.out.size _).trans hb4)
    clear ho4 hb4
    go_wp2_with (at_builtin; refine push_raw steps_t rfl (.tmp 37) (.tmp 41) rfl w1.heap.size _ _ _ rfl HO4.out ad 0 _ [] rfl rfl (fun j u hu => by simp at hu) (fun u hu => by simp at hu) ?b1 ?_)
    case b1 => omega
    intro v5 w5 ho5 hb5
    have HO5 := Lib.hid ho5
    have HB5 := Lib.hid (HB4.out.trans hb5)
    clear ho5 hb5
    go_wp2_with fail
    go_ret
    exact HS.out _ _ _ _ HO5.out (by rw [HE2.out, HDN.out]; simp [svals, spCells]) HB5.out
  · have hy2 : decide (y.1 < t) = true := decide_eq_true hy
    have HE2 := Lib.hid (HE.out.trans (by rw [if_pos hy]))
    clear hy HE
    go_wp2_with (at_builtin; refine push_raw steps_t rfl (.tmp 27) (.tmp 35) rfl w1.heap.size _ _ _ rfl (HO3.out.alloc (.cells #[.int .i64 t, .int .i64 y.2] 40)) ⟨w3.heap.size, 0, none⟩ 1 1 [.int .i64 t, .int .i64 y.2] rfl rfl (Raw.alloc w3 _ _) two_cells ?e2 ?_)
    case e2 => omega
    intro v4 w4 ho4 hb4
    have HO4 := Lib.hid ho4
    have HB4 := Lib.hid ((HB3.out.alloc HB3.out.size _).trans hb4)
    clear ho4 hb4
    go_wp2_with (at_builtin; refine push_raw steps_t rfl (.tmp 37) (.tmp 41) rfl w1.heap.size _ _ _ rfl HO4.out (ad.add ((k + 1) * 2)) (s.length - (k + 1)) _ (svals (s.drop (k + 1))) rfl ?a2 (HD.out _ HB4.out) (svals_cell _) ?b2 ?_)
    case a2 => rw [svals_len, List.length_drop]
    case b2 => omega
    intro v5 w5 ho5 hb5
    have HO5 := Lib.hid ho5
    have HB5 := Lib.hid (HB4.out.trans hb5)
    clear ho5 hb5
    go_wp2_with fail
    go_ret
    exact HS.out _ _ _ _ HO5.out (by rw [HE2.out]; simp [svals, spCells]) HB5.out
  · have hy2 : decide (y.1 < t) = false := decide_eq_false hy
    have HE2 := Lib.hid (HE.out.trans (by rw [if_neg hy]))
    have HDN : Hid (s.drop (k + 1) = []) := List.drop_eq_nil_of_le (by omega)
    subst hc
    clear hy HE
    go_wp2_with (at_builtin; refine push_raw steps_t rfl (.tmp 37) (.tmp 41) rfl w1.heap.size _ _ _ rfl HO3.out ad 0 _ [] rfl rfl (fun j u hu => by simp at hu) (fun u hu => by simp at hu) ?b3 ?_)
    case b3 => omega
    intro v5 w5 ho5 hb5
    have HO5 := Lib.hid ho5
    have HB5 := Lib.hid (HB3.out.trans hb5)
    clear ho5 hb5
    go_wp2_with fail
    go_ret
    exact HS.out _ _ _ _ HO5.out (by rw [HE2.out, HDN.out]; simp [svals, spCells]) HB5.out
  · have hy2 : decide (y.1 < t) = false := decide_eq_false hy
    have HE2 := Lib.hid (HE.out.trans (by rw [if_neg hy]))
    clear hy HE
    go_wp2_with (at_builtin; refine push_raw steps_t rfl (.tmp 37) (.tmp 41) rfl w1.heap.size _ _ _ rfl HO3.out (ad.add ((k + 1) * 2)) (s.length - (k + 1)) _ (svals (s.drop (k + 1))) rfl ?a4 (HD.out _ HB3.out) (svals_cell _) ?b4 ?_)
    case a4 => rw [svals_len, List.length_drop]
    case b4 => omega
    intro v5 w5 ho5 hb5
    have HO5 := Lib.hid ho5
    have HB5 := Lib.hid (HB3.out.trans hb5)
    clear ho5 hb5
    go_wp2_with fail
    go_ret
    exact HS.out _ _ _ _ HO5.out (by rw [HE2.out, List.append_nil, svals_append]) HB5.out
end Go.Proofs.Ytjjigkomiidipaa.StepWalk
namespace Go.Proofs.Ytjjigkomiidipaa.StepWalk
open Go.RowKit Go.Proofs.Ytjjigkomiidipaa.SpanPlain Go.Proofs.Ytjjigkomiidipaa.StepPlain Go.Proofs.Ytjjigkomiidipaa.Mem Go.Proofs.Ytjjigkomiidipaa.SpanMem Go.Proofs.Ytjjigkomiidipaa.StepMem Go.Proofs.Ytjjigkomiidipaa.SpanRef Go.Proofs.Ytjjigkomiidipaa.StepRef
theorem addp_ways (s : List Sp) (x : Sp) (n : Int) : (chkB s = false ∧ Hid (AddIs s x n [])) ∨ (chkB s = true ∧ mayB x = false ∧ Hid (AddIs s x n [])) ∨ (chkB s = true ∧ mayB x = true ∧ decide (n < -256) = true ∧ Hid (AddIs s x n [])) ∨
    (chkB s = true ∧ mayB x = true ∧ decide (n < -256) = false ∧ decide (256 < n) = true ∧ Hid (AddIs s x n [])) ∨ (chkB s = true ∧ mayB x = true ∧ decide (n < -256) = false ∧ decide (256 < n) = false ∧ Hid (¬ addBad s x n)) := by
  cases h1 : chkB s with
  | false => exact .inl ⟨rfl, .inl ⟨.inl h1, rfl⟩⟩
  | true =>
    cases h2 : mayB x with
    | false => exact .inr (.inl ⟨rfl, rfl, .inl ⟨.inr (.inl h2), rfl⟩⟩)
    | true =>
      by_cases h3 : n < -256
      · exact .inr (.inr (.inl ⟨rfl, rfl, decide_eq_true h3, .inl ⟨.inr (.inr (.inl h3)), rfl⟩⟩))
      · by_cases h4 : 256 < n
        · exact .inr (.inr (.inr (.inl ⟨rfl, rfl, decide_eq_false h3, decide_eq_true h4, .inl ⟨.inr (.inr (.inr h4)), rfl⟩⟩)))
        · exact .inr (.inr (.inr (.inr ⟨rfl, rfl, decide_eq_false h3, decide_eq_false h4, fun h => by
            rcases h with h | h | h | h
            · rw [h1] at h; cases h
            · rw [h2] at h; cases h
            · exact h3 h
            · exact h4 h⟩)))
theorem add_nil {s : List Sp} {x : Sp} {n : Int} (h : AddIs s x n []) {w w' : World} (hb : Below w.heap.size w w') : AddSays s x n w (.returned (.slice none 0 0)) w' := ⟨_, [], rfl, .inl ⟨rfl, rfl⟩, h, hb, NewAt.nil⟩
theorem OwnR.rebase {e : TypeId} {k base base' n : Nat} {w : World} {v : Value} {xs : List Value} (h : OwnR e k base w v n xs) (hb : base' ≤ base) : OwnR e k base' w v n xs := ⟨(OwnN.rebase h.toN hb).1, h.2.1, Nat.le_trans hb h.2.2⟩
theorem svals_set2 (l : List Sp) : ∀ (k : Nat) (z : Int), k < l.length → (svals l).set (k * 2 + 1) (.int .i64 z) = svals (l.set k ((nth l k).1, z)) := by
  induction l with
  | nil => intro k y h; simp at h
  | cons s l ih =>
    intro k z h
    have e : svals (s :: l) = .int .i64 s.1 :: .int .i64 s.2 :: svals l := rfl
    cases k with
    | zero => rfl
    | succ k =>
      have e2 : svals ((s :: l).set (k + 1) ((nth (s :: l) (k + 1)).1, z)) = .int .i64 s.1 :: .int .i64 s.2 :: svals (l.set k ((nth l k).1, z)) := rfl
      rw [e, show (k + 1) * 2 + 1 = k * 2 + 1 + 1 + 1 by omega, List.set_cons_succ, List.set_cons_succ, ih k z (by simpa using h), e2]
/-- How the loop of Add stands. -/
def AddLoop (w : World) (m : List Sp) (f : Int) (x : Sp) (n : Int) (a g cg : Nat) (wr : World) (i : Nat) : Prop :=
  OwnR 40 2 (w.heap.size + 1) wr (.slice (some ⟨g, 0, none⟩) m.length cg) m.length (svals (bump n m a (i - a))) ∧ (∀ j, a ≤ j → j < i → 0 ≤ (nth m j).2 + n ∧ (nth m j).2 + n ≤ 256) ∧ Box2 wr w.heap.size (.int .i64 f) (.int .i64 x.2) ∧ Below w.heap.size w wr
theorem AddLoop.cells {w wr : World} {m : List Sp} {f : Int} {x : Sp} {n : Int} {a g cg i : Nat} (h : AddLoop w m f x n a g cg wr i) (ha : a ≤ i) (hi : i < m.length) :
    wr.cell? ⟨g, i * 2, none⟩ = some (.int .i64 (nth m i).1) ∧ wr.cell? ⟨g, i * 2 + 1, none⟩ = some (.int .i64 (nth m i).2) ∧ wr.frozen? ⟨g, i * 2 + 1, none⟩ = false ∧ g < wr.heap.size ∧ w.heap.size + 1 ≤ g := by
  have e : nth (bump n m a (i - a)) i = nth m i := by rw [bump_at (by omega), if_neg (by omega)]
  have hl : i < (bump n m a (i - a)).length := by rw [bump_len]; exact hi
  obtain ⟨h1, h2, _, h4, h5, h6⟩ := own_cells h.1 hl
  rw [e] at h1 h2
  exact ⟨h1, h2, h4, h5, h6⟩
theorem AddLoop.next {w wr wq : World} {m : List Sp} {f : Int} {x : Sp} {n : Int} {a g cg i q : Nat} (h : AddLoop w m f x n a g cg wr i) (ha : a ≤ i) (hi : i < m.length) (hf : 0 ≤ (nth m i).2 + n ∧ (nth m i).2 + n ≤ 256) (hg : w.heap.size + 1 ≤ g) (hw : wq = wr.drewN q) :
    AddLoop w m f x n a g cg (wq.setCell ⟨g, i * 2 + 1, none⟩ (.int .i64 ((nth m i).2 + n))) (i + 1) := by
  subst hw
  obtain ⟨h1, h2, h3, h4⟩ := h
  have e : nth (bump n m a (i - a)) i = nth m i := by rw [bump_at (by omega), if_neg (by omega)]
  refine ⟨((h1.drewN q).set (i * 2 + 1) (.int .i64 ((nth m i).2 + n))).cast rfl ?_, fun j h5 h6 => ?_, (h3.drewN q).set_other (by show g ≠ w.heap.size; omega) _, (below_drewN h4 q).setCell (p := ⟨g, i * 2 + 1, none⟩) (by show w.heap.size ≤ g; omega) _⟩
  · rw [svals_set2 _ i _ (by rw [bump_len]; exact hi), e, show i + 1 - a = (i - a) + 1 by omega]
    show _ = svals ((bump n m a (i - a)).set (a + (i - a)) ((nth m (a + (i - a))).1, (nth m (a + (i - a))).2 + n))
    rw [show a + (i - a) = i by omega]
  · by_cases h7 : j = i
    · subst h7; exact hf
    · exact h2 j h5 (by omega)
theorem AddLoop.below {w wr wq : World} {m : List Sp} {f : Int} {x : Sp} {n : Int} {a g cg i q : Nat} (h : AddLoop w m f x n a g cg wr i) (hg : w.heap.size + 1 ≤ g) (hw : wq = wr.drewN q) (u : Value) : Below w.heap.size w (wq.setCell ⟨g, i * 2 + 1, none⟩ u) := by
  subst hw
  exact (below_drewN h.2.2.2 q).setCell (p := ⟨g, i * 2 + 1, none⟩) (by show w.heap.size ≤ g; omega) _
set_option maxRecDepth 100000 in
set_option maxHeartbeats 3200000 in
theorem addS (s : List Sp) (x : Sp) (n : Int) (v : Value) (w : World) (hv : SpansIs s w v) (hl : s.length ≤ 1000) : Calls Try.prog 31 #[v, spV x, .int .i64 n] w (AddSays s x n w) := by
  have HB0 := Lib.hid (below_alloc w (.cells #[.int .i64 x.1, .int .i64 x.2] 73))
  have HX0 := Lib.hid (Box2.new w (.int .i64 x.1) (.int .i64 x.2) 73)
  have CC := Lib.hid (checkS s v _ (hv.below HB0.out) hl)
  have CM : Hid (∀ W, Calls Try.prog 42 #[.agg #[.int .i64 x.1, .int .i64 x.2]] W (BoolIs (mayB x) W)) := fun W => mayS x W
  have HV := Lib.hid hv
  obtain ⟨A, c, rfl, hn, hA⟩ := hv.open2
  have HA := Lib.hid hA
  clear hA hv
  unfold spV
  rcases addp_ways s x n with ⟨hc, HR⟩ | ⟨hc, hm, HR⟩ | ⟨hc, hm, h1, HR⟩ | ⟨hc, hm, h1, h2, HR⟩ | ⟨hc, hm, h1, h2, HR⟩
  · rw [hc] at CC
    clear hc
    go_enter Try.func31, Try.ntmps31
    go_wp2_with fail
    refine CC.out.mono ?_
    rintro e w1 ⟨rfl, hb1⟩
    have HB1 := Lib.hid hb1
    clear hb1
    go_wp2_with fail
    go_ret
    exact add_nil HR.out (below_then HB0.out HB1.out)
  all_goals
    rw [hc] at CC
    rw [hm] at CM
    have HC := Lib.hid ((chk_iff s).1 hc)
    clear hc hm
    go_enter Try.func31, Try.ntmps31
    go_wp2_with fail
    refine CC.out.mono ?_
    rintro e w1 ⟨rfl, hb1⟩
    obtain ⟨b0, b1, b2, _, _⟩ := HX0.out.below hb1
    have HB1 := Lib.hid (below_then HB0.out hb1)
    have HX1 := Lib.hid (HX0.out.below hb1)
    clear hb1 HX0 HB0 CC
    go_wp2_with fail
    refine (CM.out _).mono ?_
    rintro e w2 ⟨rfl, hb2⟩
    have HB2 := Lib.hid (below_then HB1.out hb2)
    have HX2 := Lib.hid (HX1.out.below hb2)
    clear hb2 HX1 HB1 b0 b1 b2 CM
  · go_wp2_with fail
    go_ret
    exact add_nil HR.out HB2.out
  · go_wp2_with fail
    go_ret
    exact add_nil HR.out HB2.out
  · go_wp2_with fail
    go_ret
    exact add_nil HR.out HB2.out
  · have hp : 0 < s.length := HC.out.pos
    have hlz : (0 : Int) < (s.length : Int) := by omega
    obtain ⟨ad, rfl, had, c1, _⟩ := pair_zero (HA.out.below HB2.out) hp
    have hh : (spCell s 0).1 = .int .i64 (head s) := rfl
    rw [hh] at c1
    obtain ⟨b0, b1, b2, b3, b4⟩ := HX2.out
    have HMAX : Hid (max x.1 (head s) = max x.1 (head s)) := rfl
    have HEARLY := Lib.hid (fun h => add_early HR.out (x := x) h)
    clear hh
    go_wp2_with fail
    go_region
    have HX3 : Hid (Box2 (w2.setCell ⟨w.heap.size, 0, none⟩ (.int .i64 (max x.1 (head s)))).drew w.heap.size (.int .i64 (max x.1 (head s))) (.int .i64 x.2)) := (HX2.out.set0 (.int .i64 (max x.1 (head s)))).drewN 1
    have HB3 : Hid (Below w.heap.size w (w2.setCell ⟨w.heap.size, 0, none⟩ (.int .i64 (max x.1 (head s)))).drew) := (HB2.out.setCell (p := ⟨w.heap.size, 0, none⟩) (Nat.le_refl _) _).drew
    generalize (w2.setCell ⟨w.heap.size, 0, none⟩ (.int .i64 (max x.1 (head s)))).drew = w3 at *
    clear b0 b1 b2 b3 b4 c1 HX2 HB2 had HMAX
    obtain ⟨b0, b1, b2, _, _⟩ := HX3.out
    obtain ⟨hck, hmx, hn1, hn2⟩ := not_addBad HR.out
    have hft : head s ≤ max x.1 (head s) := by omega
    have HF : Hid (max x.1 (head s) = max x.1 (head s)) := rfl
    by_cases hxf : x.2 ≤ max x.1 (head s)
    · have HI := Lib.hid (HEARLY.out hxf)
      have hxf2 : decide (x.2 ≤ max x.1 (head s)) = true := decide_eq_true hxf
      have CK := Lib.hid (cloneS ad s.length c (svals s) w3 (svals_len s) (by omega) (raw_of (HV.out.below HB3.out)) (svals_cell s))
      generalize max x.1 (head s) = f at *
      clear HEARLY hxf HF hft hck hmx
      go_wp2_with fail
      refine CK.out.mono ?_
      rintro e w4 ⟨v4, rfl, ho4, hb4⟩
      have HO4 := Lib.hid ho4
      have HB4 := Lib.hid (below_then HB3.out hb4)
      clear ho4 hb4 CK
      go_wp2_with fail
      go_ret
      exact ⟨_, s, rfl, OwnR.spans HO4.out rfl, HI.out, HB4.out, NewAt.own HO4.out.toN HB3.out.size⟩
    · have hxf2 : decide (x.2 ≤ max x.1 (head s)) = false := decide_eq_false hxf
      have CC1 : Hid (Calls Try.prog 43 #[.slice (some ad) s.length c, .int .i64 (max x.1 (head s))] w3.drew (CutSays s (max x.1 (head s)) w3.drew)) :=
        cutS s _ _ w3.drew (HV.out.below HB3.out.drew) hck.up hp hft (by omega)
      have CC2 : Hid (∀ W k v, LastIs s (max x.1 (head s)) k → SpansIs (cutL s (max x.1 (head s)) k) W v → Calls Try.prog 43 #[v, .int .i64 x.2] W (CutSays (cutL s (max x.1 (head s)) k) x.2 W)) :=
        fun W k v hk hs => cutS _ _ v W hs (cut_up hck.up hk) (by have := (cut_len (t := max x.1 (head s)) hk.lt).2; omega) (by rw [cut_head hk]; omega) (by have := (cut_len (t := max x.1 (head s)) hk.lt).1; omega)
      have hbx : w.heap.size < w3.heap.size := b0
      generalize hff : max x.1 (head s) = f at *
      have HFF := Lib.hid hff
      clear hff HEARLY HF
      go_wp2_with fail
      go_region_held3 (fun w' => w'.cell? ⟨w.heap.size, 0, none⟩ = some (.int .i64 f) ∧ w'.cell? ⟨w.heap.size, 1, none⟩ = some (.int .i64 x.2))
        (first | go_keep | (go_split_ands; exact ⟨(hb5.cell (p := ⟨w.heap.size, 0, none⟩) (by first | exact hbx | (simp; omega))).trans (by assumption), (hb5.cell (p := ⟨w.heap.size, 1, none⟩) (by first | exact hbx | (simp; omega))).trans (by assumption)⟩) | (go_split_ands; exact ⟨(hb7.cell (p := ⟨w.heap.size, 0, none⟩) (Nat.lt_of_lt_of_le hbx hb5.size)).trans (by assumption), (hb7.cell (p := ⟨w.heap.size, 1, none⟩) (Nat.lt_of_lt_of_le hbx hb5.size)).trans (by assumption)⟩))
        (first | (go_at_call_of 43 (Value.slice (some ad) s.length c); (refine CC1.out.mono ?_; rintro e w5 ⟨v5, k5, rfl, hk5, ho5, hb6⟩; have hb5 := below_of_drew hb6; clear hb6)) | (go_at_call 43; (refine (CC2.out _ _ _ hk5 (OwnR.spans ho5 rfl)).mono ?_; rintro e w6 ⟨v6, k6, rfl, hk6, ho6, hb7⟩)))
      obtain ⟨a, b, hcut, hab, hun⟩ := cuts_is hck hft (by omega) hmx.2.2 hk5 hk6
      have hml := hcut.len
      have hbl := hcut.lt_b
      have hoR : OwnR 40 2 (w.heap.size + 1) w6 v6 _ _ := OwnR.rebase ho6 (Nat.le_trans hbx hb5.size)
      generalize cutL (cutL s f k5) x.2 k6 = m at *
      obtain ⟨g, cg, rfl, _, _, hmc, _, _, _⟩ := hoR.form
      have HB6 := Lib.hid (HB3.out.trans ((below_then hb5 hb7).mono HB3.out.size))
      have HX6 := Lib.hid (HX3.out.below (below_then hb5 hb7))
      have HCUT := Lib.hid hcut
      have HO6 := Lib.hid hoR
      have CL2 := Lib.hid (lastS m f _ w6 (OwnR.spans hoR rfl) hcut.up (by omega) (by rw [hcut.hd]; exact hft) (by omega))
      have HUN := Lib.hid hun
      clear hcut hoR ho5 ho6 hb5 hb7 hk5 hk6 hun CC1 CC2 HB3 HX3 b0 b1 b2
      go_wp2_with fail
      refine CL2.out.mono ?_
      rintro e w7 ⟨k7, rfl, hk7, hb8⟩
      obtain rfl := HUN.out k7 hk7
      have HLA : Hid (AddLoop w m f x n k7 g cg w7 k7) := ⟨by rw [Nat.sub_self]; exact HO6.out.below hb8, fun j h1 h2 => by omega, HX6.out.below hb8, HB6.out.trans (hb8.mono HB6.out.size)⟩
      clear hk7 hb8 CL2 HUN HB6 HX6 HO6
      go_wp2_with fail
      go_loopw [8] (fun o wr => ∃ i : Nat, o = .int .i64 i ∧ k7 ≤ i ∧ i ≤ b ∧ Hid (AddLoop w m f x n k7 g cg wr i)) (fun o _ => b - (intOf o).toNat)
      case atStart => exact ⟨k7, rfl, Nat.le_refl _, by omega, HLA.out⟩
      case round =>
        obtain ⟨i, rfl, hi1, hi2, HL⟩ := hrel
        obtain ⟨c1, c2, c3, c4, c5⟩ := HL.out.cells hi1 (by omega)
        obtain ⟨b0, b1, b2, _, _⟩ := HL.out.2.2.1
        have i0 : (0 : Int) ≤ (i : Int) := Int.natCast_nonneg _
        have i1 : (i : Int) < (m.length : Int) := by omega
        by_cases hlt : i < b
        · have hx2 : decide ((nth m i).1 < x.2) = true := by
            have h3 := HCUT.out.up.lt hlt HCUT.out.lt_b
            have h4 := HCUT.out.at_b
            exact decide_eq_true (by omega)
          obtain ⟨s1, s2⟩ := HCUT.out.snd _ (nth_mem (show i < m.length by omega))
          have CF := Lib.hid (fun W => isFreeS ((nth m i).2 + n) W)
          have HOUT : Hid (¬ (0 ≤ (nth m i).2 + n ∧ (nth m i).2 + n ≤ 256) → AddIs s x n []) := fun h => by
            have hc2 := HCUT.out
            rw [← HFF.out] at hc2
            exact cuts_out HR.out hc2 hi1 hlt h
          have HNX : Hid (∀ q, 0 ≤ (nth m i).2 + n ∧ (nth m i).2 + n ≤ 256 → AddLoop w m f x n k7 g cg ((wr.drewN q).setCell ⟨g, i * 2 + 1, none⟩ (.int .i64 ((nth m i).2 + n))) (i + 1)) := fun q h => HL.out.next hi1 (by omega) h c5 rfl
          have HBN : Hid (∀ q u, Below w.heap.size w ((wr.drewN q).setCell ⟨g, i * 2 + 1, none⟩ u)) := fun q u => HL.out.below c5 rfl u
          generalize nth m i = y at *
          clear HL
          by_cases hr : 0 ≤ y.2 + n ∧ y.2 + n ≤ 256
          · have hfb : freeB (y.2 + n) = true := by unfold freeB; rw [decide_eq_true hr.1, decide_eq_true hr.2]; rfl
            rw [hfb] at CF
            have HN := Lib.hid (fun q => HNX.out q hr)
            clear hfb HNX HOUT
            go_wp2_with fail
            go_quiet (fail)
            go_wp2_with fail
            refine (CF.out _).mono ?_
            rintro e w9 ⟨rfl, rfl⟩
            go_wp2_with fail
            exact ⟨⟨i + 1, by go_num, by omega, by omega, HN.out _⟩, by simp [intOf] <;> omega⟩
          · have hfb : freeB (y.2 + n) = false := by
              unfold freeB
              simp only [Bool.and_eq_false_iff, decide_eq_false_iff_not]
              omega
            rw [hfb] at CF
            have HI := Lib.hid (HOUT.out hr)
            clear hfb HNX HOUT hr
            go_wp2_with fail
            go_quiet (fail)
            go_wp2_with fail
            refine (CF.out _).mono ?_
            rintro e w9 ⟨rfl, rfl⟩
            go_wp2_with fail
            go_ret
            exact add_nil HI.out (HBN.out _ _)
        · obtain rfl : i = b := by omega
          have hx2 : decide ((nth m i).1 < x.2) = false := by
            have h4 := HCUT.out.at_b
            exact decide_eq_false (by omega)
          have HDONE : Hid (AddIs s x n (joinL (bump n m k7 (i - k7)))) := by
            have hc2 := HCUT.out
            rw [← HFF.out] at hc2
            exact cuts_done HR.out hc2 hi1 HL.out.2.1
          have CJ : Hid (∀ q, Calls Try.prog 45 #[.slice (some ⟨g, 0, none⟩) m.length cg] (wr.drewN q) (JoinSays (bump n m k7 (i - k7)) (w.heap.size + 1) (wr.drewN q))) := fun q => by
            have hl := bump_len n m k7 (i - k7)
            have := joinedS (bump n m k7 (i - k7)) (w.heap.size + 1) g cg (wr.drewN q) (by rw [hl]; exact HL.out.1.drewN q) (by rw [hl]; exact hmc) (by rw [hl]; omega)
            rwa [hl] at this
          have HBN : Hid (∀ q, Below w.heap.size w (wr.drewN q)) := fun q => below_drewN HL.out.2.2.2 q
          generalize nth m i = y at *
          clear HL
          go_wp2_with fail
          go_quiet (fail)
          go_wp2_with fail
          refine (CJ.out _).mono ?_
          rintro e w9 ⟨v9, rfl, hs9, hb9, hn9⟩
          have HN9 := Lib.hid (hn9.mono (Nat.le_succ _))
          have HS9 := Lib.hid hs9
          have HB9 := Lib.hid ((HBN.out _).trans (hb9.mono (Nat.le_succ _)))
          clear hs9 hb9 hn9
          go_wp2_with fail
          go_ret
          exact ⟨_, _, rfl, HS9.out, HDONE.out, HB9.out, HN9.out⟩
end Go.Proofs.Ytjjigkomiidipaa.StepWalk
namespace Go.Proofs
open Go.Shelf
def Try.sortSp_ren : Go.Shelf.Ren := ⟨fun | 6 => 61 | 15 => 64 | 14 => 63 | 28 => 73 | 29 => 49 | 20 => 65 | 21 => 66 | 22 => 67 | 23 => 68 | 24 => 69 | 25 => 70 | 26 => 71 | 27 => 72 | 46 => 74 | 47 => 75 | 48 => 76 | 49 => 77 | 50 => 78 | 57 => 79 | n => n, fun | 22 => 87 | 24 => 73 | 25 => 98 | 3 => 3 | 39 => 78 | 0 => 0 | 53 => 109 | 55 => 66 | 4 => 4 | 46 => 103 | 45 => 102 | 50 => 27 | 5 => 5 | 9 => 9 | 66 => 110 | 70 => 114 | 76 => 116 | 77 => 117 | n => n, fun | n => n⟩
theorem Try.sortSp : Go.Proofs.SlLaysF0.n6 Try.prog Try.sortSp_ren := {
  mixed := by kernel_rfl
  f6 := ⟨Try.f61.name, by decide, Try.func61.trans (congrArg some (by kernel_rfl))⟩
  f14 := ⟨Try.f63.name, by decide, Try.func63.trans (congrArg some (by kernel_rfl))⟩
  f15 := Try.func64.trans (congrArg some (by kernel_rfl))
  f20 := ⟨Try.f65.name, by decide, Try.func65.trans (congrArg some (by kernel_rfl))⟩
  f21 := ⟨Try.f66.name, by decide, Try.func66.trans (congrArg some (by kernel_rfl))⟩
  f22 := ⟨Try.f67.name, by decide, Try.func67.trans (congrArg some (by kernel_rfl))⟩
  f23 := ⟨Try.f68.name, by decide, Try.func68.trans (congrArg some (by kernel_rfl))⟩
  f24 := ⟨Try.f69.name, by decide, Try.func69.trans (congrArg some (by kernel_rfl))⟩
  f25 := ⟨Try.f70.name, by decide, Try.func70.trans (congrArg some (by kernel_rfl))⟩
  f26 := ⟨Try.f71.name, by decide, Try.func71.trans (congrArg some (by kernel_rfl))⟩
  f27 := ⟨Try.f72.name, by decide, Try.func72.trans (congrArg some (by kernel_rfl))⟩
  f28 := Try.func73.trans (congrArg some (by kernel_rfl))
  f29 := Try.func49.trans (congrArg some (by kernel_rfl))
  f46 := ⟨Try.f74.name, by decide, Try.func74.trans (congrArg some (by kernel_rfl))⟩
  f47 := Try.func75.trans (congrArg some (by kernel_rfl))
  f48 := Try.func76.trans (congrArg some (by kernel_rfl))
  f49 := ⟨Try.f77.name, by decide, Try.func77.trans (congrArg some (by kernel_rfl))⟩
  f50 := ⟨Try.f78.name, by decide, Try.func78.trans (congrArg some (by kernel_rfl))⟩
  f57 := ⟨Try.f79.name, by decide, Try.func79.trans (congrArg some (by kernel_rfl))⟩
  t0 := Try.underlying0
  a0 := Try.isAgg0
  z0 := Try.sizeOf0
  v0 := Try.zeroValue0
  t3 := Try.underlying3
  a3 := Try.isAgg3
  z3 := Try.sizeOf3
  v3 := Try.zeroValue3
  t4 := Try.underlying4
  a4 := Try.isAgg4
  z4 := Try.sizeOf4
  v4 := Try.zeroValue4
  t5 := Try.underlying5
  a5 := Try.isAgg5
  z5 := Try.sizeOf5
  v5 := Try.zeroValue5
  t9 := Try.underlying9
  a9 := Try.isAgg9
  z9 := Try.sizeOf9
  v9 := Try.zeroValue9
  t22 := Try.underlying87
  a22 := Try.isAgg87
  z22 := Try.sizeOf87
  v22 := Try.zeroValue87
  t25 := Try.underlying98
  a25 := Try.isAgg98
  z25 := Try.sizeOf98
  v25 := Try.zeroValue98
  t39 := Try.underlying78
  a39 := Try.isAgg78
  z39 := Try.sizeOf78
  v39 := Try.zeroValue78
  t45 := Try.underlying102
  a45 := Try.isAgg102
  z45 := Try.sizeOf102
  v45 := Try.zeroValue102
  t46 := Try.underlying103
  a46 := Try.isAgg103
  z46 := Try.sizeOf103
  v46 := Try.zeroValue103
  t50 := Try.underlying27
  a50 := Try.isAgg27
  z50 := Try.sizeOf27
  v50 := Try.zeroValue27
  t53 := Try.underlying109
  a53 := Try.isAgg109
  z53 := Try.sizeOf109
  v53 := Try.zeroValue109
  t55 := Try.underlying66
  a55 := Try.isAgg66
  z55 := Try.sizeOf66
  v55 := Try.zeroValue66
  t66 := Try.underlying110
  a66 := Try.isAgg110
  z66 := Try.sizeOf110
  v66 := Try.zeroValue110
  t70 := Try.underlying114
  a70 := Try.isAgg114
  z70 := Try.sizeOf114
  v70 := Try.zeroValue114
  t76 := Try.underlying116
  a76 := Try.isAgg116
  z76 := Try.sizeOf116
  v76 := Try.zeroValue116
  t77 := Try.underlying117
  a77 := Try.isAgg117
  z77 := Try.sizeOf117
  v77 := Try.zeroValue117 }
def Try.cmpInt_ren : Go.Shelf.Ren := ⟨fun | 5 => 53 | 7 => 59 | n => n, fun | 22 => 3 | 3 => 3 | 4 => 4 | n => n, fun | n => n⟩
theorem Try.cmpInt : Go.Proofs.SlLaysC2.n5 Try.prog Try.cmpInt_ren := {
  mixed := by kernel_rfl
  f5 := ⟨Try.f53.name, by decide, Try.func53.trans (congrArg some (by kernel_rfl))⟩
  f7 := ⟨Try.f59.name, by decide, Try.func59.trans (congrArg some (by kernel_rfl))⟩
  t3 := Try.underlying3
  a3 := Try.isAgg3
  z3 := Try.sizeOf3
  v3 := Try.zeroValue3
  t4 := Try.underlying4
  a4 := Try.isAgg4
  z4 := Try.sizeOf4
  v4 := Try.zeroValue4
  t22 := Try.underlying3
  a22 := Try.isAgg3
  z22 := Try.sizeOf3
  v22 := Try.zeroValue3 }
end Go.Proofs
namespace Go.Proofs.Ytjjigkomiidipaa.SpanWalk
open Go.RowKit Go.Proofs.Ytjjigkomiidipaa.SpanPlain Go.Proofs.Ytjjigkomiidipaa.Mem Go.Proofs.Ytjjigkomiidipaa.SpanMem Go.Proofs.Ytjjigkomiidipaa.SpanRef
set_option maxHeartbeats 800000 in
theorem mayS (s : Sp) (w : World) : Calls Try.prog 42 #[spV s] w (BoolIs (mayB s) w) := by
  have hs := may_cases s
  obtain ⟨a, b⟩ := s
  unfold spV
  dsimp only at hs ⊢
  generalize mayB (a, b) = B at *
  rcases hs with ⟨rfl, h1, h2, h3⟩ | ⟨rfl, h1⟩ | ⟨rfl, h1, h2⟩ | ⟨rfl, h1, h2, h3⟩
  all_goals
    go_enter Try.func42, Try.ntmps42
    go_wp2_with fail
    go_ret
    exact ⟨rfl, (Below.refl _ _).alloc (Nat.le_refl _) _⟩
end Go.Proofs.Ytjjigkomiidipaa.SpanWalk
namespace Go.Proofs.Ytjjigkomiidipaa.SpanWalk
open Go.RowKit Go.Proofs.Ytjjigkomiidipaa.SpanPlain Go.Proofs.Ytjjigkomiidipaa.Mem Go.Proofs.Ytjjigkomiidipaa.SpanMem Go.Proofs.Ytjjigkomiidipaa.SpanRef
theorem OwnN.spans {base n : Nat} {w : World} {v : Value} {l : List Sp} {e : TypeId} (h : OwnN e 2 base w v n (svals l)) (hn : n = l.length) : SpansIs l w v := by
  subst hn
  rcases h.form with ⟨h1, h2, _⟩ | ⟨g, c, hv, _, _, hn, _, hr, _⟩
  · exact .inl ⟨h1, List.eq_nil_of_length_eq_zero h2⟩
  · exact .inr ⟨_, c, hv, hr, hn⟩
end Go.Proofs.Ytjjigkomiidipaa.SpanWalk
namespace Go.Proofs.Ytjjigkomiidipaa.SpanWalk
open Go.Shelf Go.RowKit Go.Lib Go.Sort Go.Proofs.Ytjjigkomiidipaa.SpanPlain Go.Proofs.Ytjjigkomiidipaa.Mem Go.Proofs.Ytjjigkomiidipaa.SpanMem Go.Proofs.Ytjjigkomiidipaa.SpanRef
theorem flat_svals (l : List Sp) : flatK spCells 2 l.toArray = (svals l).toArray := by
  refine ext_get! (by simp [svals_len]) fun t ht => ?_
  have ht' : t < l.length * 2 := by simpa using ht
  rw [get_flatK _ _ _ _ (by simpa using ht')]
  have hi : t / 2 < l.length := by omega
  obtain ⟨h1, h2⟩ := svals_at l (t / 2) hi
  have e : l.toArray[t / 2]! = l.getD (t / 2) (0, 0) := by simp [List.getD, hi]
  rw [e]
  by_cases hm : t % 2 = 0
  · have e2 : t / 2 * 2 = t := by omega
    rw [e2] at h1
    rw [hm]
    have h3 : (svals l).toArray[t]! = (spCell l (t / 2)).1 := by simp [h1]
    rw [h3]
    rfl
  · have e2 : t / 2 * 2 + 1 = t := by omega
    rw [e2] at h2
    rw [show t % 2 = 1 by omega]
    have h3 : (svals l).toArray[t]! = (spCell l (t / 2)).2 := by simp [h2]
    rw [h3]
    rfl
theorem holds_svals {w : World} {g : Nat} {l : List Sp} (h : Raw w ⟨g, 0, none⟩ (svals l)) (hf : ∀ i, w.frozen? ⟨g, i, none⟩ = false) : HoldsK spCells 2 w g 0 l.toArray := by
  unfold HoldsK
  rw [flat_svals]
  intro j hj
  have hj' : j < (svals l).length := by simpa using hj
  refine ⟨?_, by rw [Nat.zero_add]; exact hf j⟩
  have h1 := (h j (svals l)[j] (by simp [hj'])).2
  rw [add_flat] at h1
  rw [Nat.zero_add, h1]
  simp [hj']
theorem own_put {w : World} {base : Nat} {e : TypeId} {g n c q : Nat} {zs ys : List Value} (h : w.ownsRow base e 2 (.slice (some ⟨g, 0, none⟩) n c) n zs) (hy : ys.length = n * 2) :
    (putRow id (Sort.ahead w q) g 0 ys.toArray).ownsRow base e 2 (.slice (some ⟨g, 0, none⟩) n c) n ys := by
  rcases h.2 with ⟨e0, _⟩ | ⟨g', cap', cur, e0, hb, hg, hn, hm, hs, ht⟩
  · cases e0
  · injection e0 with e1 _ e3
    injection e1 with e1
    injection e1 with e1
    subst e1; subst e3
    refine ⟨hy, .inr ⟨g, c, putCells id 0 ys.toArray cur, rfl, hb, ?_, by omega, hm, by simpa [putCells] using hs, ?_⟩⟩
    · simp [putRow, mapBlock, Sort.ahead, Array.getElem?_modify, hg, onCells]
    · apply List.ext_getElem?
      intro j
      rw [List.getElem?_take, Array.getElem?_toList]
      by_cases hj : j < n * 2
      · have hjc : j < cur.size := by rw [hs]; omega
        rw [if_pos hj]
        simp only [putCells, Array.getElem?_mapIdx, Array.getElem?_eq_getElem hjc, Option.map_some]
        rw [if_pos (by simp; omega), List.getElem?_eq_getElem (by omega)]
        simp [getElem!_pos, show j < ys.length by omega]
      · rw [if_neg hj, List.getElem?_eq_none (by omega)]
def cmpFrom (x y : Sp) : Int := Lib.compareInt x.1 y.1
theorem ltFrom (x y : Sp) : ltOf cmpFrom x y = decide (x.1 < y.1) := by
  unfold ltOf cmpFrom Lib.compareInt
  by_cases h1 : x.1 < y.1
  · simp [h1]
  · by_cases h2 : y.1 < x.1 <;> simp [h1, h2]
theorem swoFrom : SWO (ltOf cmpFrom) where
  irrefl x := by rw [ltFrom]; simp
  trans x y z h1 h2 := by rw [ltFrom] at *; simp at *; omega
  ntrans x y z h1 h2 := by rw [ltFrom] at *; simp at *; omega
set_option maxHeartbeats 1000000 in
theorem closure (x y : Sp) (W : World) : Calls Try.prog 62 #[.agg #[.int .i64 x.1, .int .i64 x.2], .agg #[.int .i64 y.1, .int .i64 y.2]] W fun e w' => e = .returned (.int .i64 (cmpFrom x y)) ∧ ∃ q os', w' = grow (W.drewN q) os' := by
  have hcon := fun W' => AnyG.cmp_Compare_int Try.cmpInt x.1 y.1 W'
  change ∀ W', Calls Try.prog 53 _ _ _ at hcon
  unfold cmpFrom
  generalize Lib.compareInt x.1 y.1 = r at hcon ⊢
  go_enter Try.func62, Try.ntmps62
  go_wp2_with (go_at_call 53; refine (hcon _).mono ?_; rintro e w' ⟨rfl, rfl⟩)
  go_ret
  exact ⟨rfl, 0, _, by rw [alloc_eq_grow, alloc_eq_grow, grow_grow]; rfl⟩
/-- Rising by the beginnings. -/
def ByFrom (r : List Sp) : Prop := r.Pairwise fun a b => a.1 ≤ b.1
def SortIs (l : List Sp) (base : Nat) (v : Value) (w : World) (e : Ending) (w' : World) : Prop :=
  e = .returned (.tuple #[]) ∧ ∃ r : List Sp, r.Perm l ∧ ByFrom r ∧ OwnN 73 2 base w' v r.length (svals r) ∧ Below base w w'
set_option maxHeartbeats 1000000 in
theorem sortS (l : List Sp) (base : Nat) (v : Value) (w : World) (h : OwnN 73 2 base w v l.length (svals l)) (hl : l.length ≤ 9000) :
    Calls Try.prog 61 #[v, .func (.func 62) #[] #[]] w (SortIs l base v w) := by
  rcases h.form with ⟨rfl, hn, hx⟩ | ⟨g, c, rfl, h1, h2, h3, h4, h5, h6, hr⟩
  · have hl0 := List.eq_nil_of_length_eq_zero hn
    subst hl0
    have hcon := AnyF.slices_SortFunc_none Try.sortSp none 0 (.func (.func 62) #[] #[]) w
    change Calls Try.prog 61 _ _ _ at hcon
    refine hcon.mono ?_
    rintro e w' ⟨rfl, rfl⟩
    exact ⟨rfl, [], List.Perm.refl _, List.Pairwise.nil, h, Below.refl _ _⟩
  · have eg : ∀ args w, (callFunc 62 args).run Try.prog w = .ok (.enter 62 args) w := enters_of Try.func62 (by kernel_rfl) rfl
    have hcon := AnyQ.slices_SortFunc Try.sortSp 2 Try.isAgg73 Try.sizeOf73 spCells (fun _ => rfl) (fun x v hv => by simp [spCells] at hv; rcases hv with rfl | rfl <;> rfl) cmpFrom swoFrom 62 #[] g 0 c l.toArray w eg (fun _ _ _ _ x y => closure x y _) (holds_svals h5 h6) h2 (by show l.length < _; omega)
    change Calls Try.prog 61 #[.slice (some ⟨g, 0, none⟩) l.length c, .func (.func 62) #[] #[]] w _ at hcon
    refine hcon.mono ?_
    rintro e w' ⟨rfl, d, m, os, ⟨hs, _, hp⟩, hso, rfl⟩
    have hs' : d.size = l.length := by simpa using hs
    have hp' : d.toList.Perm l := by
      have e1 : d.extract 0 l.toArray.size = d := by rw [← hs]; simp
      have e2 : l.toArray.extract 0 l.toArray.size = l.toArray := by simp
      rw [e1, e2] at hp
      exact hp
    have hlen : d.toList.length = l.length := by simp [hs']
    have ed : flatK spCells 2 d = (svals d.toList).toArray := by have := flat_svals d.toList; simpa using this
    refine ⟨rfl, d.toList, hp', ?_, ?_, ?_⟩
    · refine List.pairwise_iff_getElem.2 fun i j hi hj hij => ?_
      have h7 := hso i j (Nat.zero_le _) hij (by simpa [hs'] using hj)
      have hi' : i < d.size := by simpa using hi
      have hj' : j < d.size := by simpa using hj
      rw [ltFrom, decide_eq_false_iff_not, getElem!_pos d j hj', getElem!_pos d i hi'] at h7
      simp only [Array.getElem_toList]
      omega
    · rw [hlen]
      refine ⟨?_, ?_⟩
      · show (grow (putRowK spCells 2 (Sort.ahead w m) g 0 d) os).ownsRow _ _ _ _ _ _
        have h8 := ownsRow_grow (own_put (q := m) hr.1 (ys := svals d.toList) (by rw [svals_len, hlen])) 0 os
        unfold putRowK
        rw [ed]
        exact h8
      · have h9 := (below_putRow (enc := id) (q := m) (d := (svals d.toList).toArray) (Below.refl base w) h1).size
        show base ≤ (grow (putRowK spCells 2 (Sort.ahead w m) g 0 d) os).heap.size
        unfold putRowK
        rw [ed]
        have := size_grow (putRow id (Sort.ahead w m) g 0 (svals d.toList).toArray) 0 os
        have := h.2
        exact Nat.le_trans (Nat.le_trans h.2 h9) (size_grow (putRow id (Sort.ahead w m) g 0 (svals d.toList).toArray) 0 os)
    · show Below base w (grow (putRowK spCells 2 (Sort.ahead w m) g 0 d) os)
      unfold putRowK
      rw [ed]
      have h9 := below_putRow (enc := id) (q := m) (d := (svals d.toList).toArray) (Below.refl base w) h1
      exact h9.trans (below_grow base _ (Nat.le_trans h.2 h9.size) 0 os)
end Go.Proofs.Ytjjigkomiidipaa.SpanWalk
namespace Go.Proofs.Ytjjigkomiidipaa.SpanWalk
open Go.RowKit Go.Proofs.Ytjjigkomiidipaa.SpanPlain Go.Proofs.Ytjjigkomiidipaa.Mem Go.Proofs.Ytjjigkomiidipaa.SpanMem Go.Proofs.Ytjjigkomiidipaa.SpanRef
/-- What rising answers. -/
def RisIs (l : List Sp) (w : World) (e : Ending) (w' : World) : Prop := ∃ v r, e = .returned v ∧ SpansIs r w' v ∧ Rises r ∧ (∀ t, anyB r t = anyB l t) ∧ r.length ≤ l.length ∧ Below w.heap.size w w'
/-- How the loop of rising stands. -/
def RisLoop (l : List Sp) (w wr : World) (v : Value) (k : Nat) : Prop :=
  OwnN 73 2 w.heap.size wr v (maysL (l.take k)).length (svals (maysL (l.take k))) ∧ Below w.heap.size w wr
set_option maxHeartbeats 1600000 in
theorem risS (l : List Sp) (v : Value) (w : World) (hv : SpansIs l w v) (hl : l.length ≤ 9000) : Calls Try.prog 60 #[v] w (RisIs l w) := by
  obtain ⟨A, cc, rfl, hA⟩ := hv.open_
  have HA := Lib.hid hA
  clear hA hv
  go_enter Try.func60, Try.ntmps60
  go_wp2_with fail
  go_loopw [3, 8] (fun o i wr => ∃ (k : Nat) (v : Value), v = o ∧ i = .int .i64 k ∧ k ≤ l.length ∧ Hid (RisLoop l w wr v k)) (fun _ i _ => l.length - (RowKit.intOf i).toNat)
  case atStart => exact ⟨0, _, rfl, rfl, Nat.zero_le _, OwnN.nil (Nat.le_refl _), Below.refl _ _⟩
  case round =>
    obtain ⟨k, o, hov, rfl, hk, HL⟩ := hrel
    subst hov
    by_cases hlt : k < l.length
    · obtain ⟨hown, hbl⟩ := HL.out
      obtain ⟨ad, rfl, had, c1, c2⟩ := (HA.out.below hbl) k hlt
      have HOW := Lib.hid hown
      have HBL := Lib.hid hbl
      have HM := Lib.hid (mays_take hlt)
      have hml := mays_len l k
      have C1 := Lib.hid (fun w => mayS (l.getD k (0, 0)) w)
      clear hown hbl HL
      unfold spV at C1
      unfold spCell at c1 c2
      dsimp only at c1 c2
      unfold RisLoop
      generalize l.getD k (0, 0) = s at *
      generalize maysL (l.take k) = c at *
      cases hm : mayB s with
      | false =>
        rw [hm] at C1 HM
        clear hm
        go_wp2_with fail
        refine (C1.out _).mono ?_
        rintro e w1 ⟨rfl, hb1⟩
        have HB1 := Lib.hid hb1
        clear hb1
        go_wp2_with fail
        exact ⟨⟨k + 1, _, rfl, by go_num, by omega, by rw [HM.out]; simpa using ((HOW.out.alloc _).below HB1.out), (HBL.out.alloc HBL.out.size _).trans (HB1.out.mono (by have := HBL.out.size; simp; omega))⟩, by simp [RowKit.intOf] <;> omega⟩
      | true =>
        rw [hm] at C1 HM
        clear hm
        go_wp2_with fail
        refine (C1.out _).mono ?_
        rintro e w1 ⟨rfl, hb1⟩
        obtain ⟨q0, q1, q2, q3, q4⟩ := (Box2.new wr (.int .i64 s.1) (.int .i64 s.2) 73).below hb1
        have HB1 := Lib.hid hb1
        have HO1 := Lib.hid ((HOW.out.alloc (.cells #[.int .i64 s.1, .int .i64 s.2] 73)).below hb1)
        clear hb1
        go_wp2_with (at_builtin; refine push_own spans_t rfl (.tmp 14) (.tmp 16) rfl w.heap.size _ _ _ rfl (HO1.out.alloc (.cells #[.int .i64 s.1, .int .i64 s.2] 73)) _ 1 [.int .i64 s.1, .int .i64 s.2] rfl rfl ?h1a two_cells ?h1b ?_)
        case h1a => exact raw_at rfl #[.int .i64 s.1, .int .i64 s.2] _
        case h1b => omega
        intro v2 w2 ho2 hb2 hg2
        have HO2 := Lib.hid (ho2.cast (m := (c ++ [s]).length) (ys := svals (c ++ [s])) (by simp) (by rw [svals_append]; rfl))
        have hsz := HBL.out.size
        have hsz1 := HB1.out.size
        have HB2 := Lib.hid ((((HBL.out.alloc HBL.out.size _).trans (HB1.out.mono (by simp; omega))).alloc (by simp at hsz1; omega) _).trans hb2)
        clear ho2 hb2 hg2
        go_wp2_with fail
        exact ⟨⟨k + 1, _, rfl, by go_num, by omega, by rw [HM.out]; exact HO2.out, HB2.out⟩, by simp [RowKit.intOf] <;> omega⟩
    · have he : l.take k = l := List.take_of_length_le (by omega)
      obtain ⟨hown, hbl⟩ := HL.out
      rw [he] at hown
      have hml := mays_len l l.length
      rw [List.take_of_length_le (Nat.le_refl _)] at hml
      have HS := Lib.hid (sortS (maysL l) w.heap.size o wr hown (by omega))
      have HBL := Lib.hid hbl
      clear hown hbl HL he
      go_wp2_with fail
      refine HS.out.mono ?_
      rintro e w1 ⟨rfl, r, hp, hby, hown, hb⟩
      have HO := Lib.hid hown
      have HB := Lib.hid (HBL.out.trans hb)
      have HP := Lib.hid hp
      have HY := Lib.hid hby
      clear hown hb hp hby
      go_wp2_with fail
      go_ret
      exact ⟨_, r, rfl, OwnN.spans HO.out rfl, ⟨mays_may HP.out, HY.out⟩, mays_any HP.out, by have := HP.out.length_eq; omega, HB.out⟩
end Go.Proofs.Ytjjigkomiidipaa.SpanWalk
namespace Go.Proofs.Ytjjigkomiidipaa.SpanWalk
open Go.RowKit Go.Proofs.Ytjjigkomiidipaa.SpanPlain Go.Proofs.Ytjjigkomiidipaa.Mem Go.Proofs.Ytjjigkomiidipaa.SpanMem Go.Proofs.Ytjjigkomiidipaa.SpanRef
/-- A slice's length is within its capacity. -/
def Room (v : Value) : Prop := ∃ A n c, v = .slice A n c ∧ n ≤ c ∧ c ≤ maxLen
theorem own_room {e : TypeId} {k base n : Nat} {w : World} {v : Value} {xs : List Value} (h : OwnN e k base w v n xs) : Room v := by
  rcases h.form with ⟨h1, _, _⟩ | ⟨g, c, hv, _, _, h3, h4, _⟩
  · exact ⟨none, 0, 0, h1, Nat.le_refl _, Nat.zero_le _⟩
  · exact ⟨_, n, c, hv, h3, h4⟩
/-- What Cover answers. -/
def CoverIs (l : List Sp) (w : World) (e : Ending) (w' : World) : Prop := ∃ v c, e = .returned v ∧ SpansIs c w' v ∧ LessOf l [] c ∧ Below w.heap.size w w' ∧ Room v
/-- How the loop of Cover stands. -/
def CovLoop (r : List Sp) (w1 wr : World) (v : Value) (k : Nat) : Prop :=
  ∃ c, OwnN 73 2 w1.heap.size wr v c.length (svals c) ∧ CoverAt r k c ∧ c.length ≤ k ∧ Below w1.heap.size w1 wr
theorem own_shape {e : TypeId} {k base n : Nat} {w : World} {v : Value} {xs : List Value} (h : OwnN e k base w v n xs) : ∃ A c, v = .slice A n c := by
  rcases h.form with ⟨h1, h2, _⟩ | ⟨g, c, hv, _⟩
  · subst h2; exact ⟨none, 0, h1⟩
  · exact ⟨_, c, hv⟩
theorem own_there {e : TypeId} {k base n : Nat} {w : World} {v : Value} {xs : List Value} (h : OwnN e k base w v (n + 1) xs) :
    ∃ g c, v = .slice (some ⟨g, 0, none⟩) (n + 1) c ∧ base ≤ g ∧ g < w.heap.size ∧ (∀ j u, xs[j]? = some u → w.cell? ⟨g, j, none⟩ = some u) ∧ ∀ i, w.frozen? ⟨g, i, none⟩ = false := by
  rcases h.form with ⟨_, h2, _⟩ | ⟨g, c, hv, h1, h2, _, _, hr, hf, _⟩
  · omega
  · exact ⟨g, c, hv, h1, h2, fun j u hu => by have := (hr j u hu).2; rwa [add_flat] at this, hf⟩
theorem below_drawn {w1 wr w2 : World} {a b : Obj} {n : Nat} (h : Below w1.heap.size w1 wr) (k : Below w1.heap.size (((wr.alloc a).drewN n).alloc b) w2) : Below w1.heap.size w1 w2 :=
  ((below_drewN (h.alloc h.size _) n).alloc (by show _ ≤ (wr.alloc a).heap.size; have := h.size; simp; omega) _).trans k
set_option maxHeartbeats 3200000 in
theorem cover_of (l : List Sp) (v : Value) (w : World) (hl : l.length ≤ 2000) (R : Calls Try.prog 60 #[v] w (RisIs l w)) : Calls Try.prog 57 #[v] w (CoverIs l w) := by
  have HR := Lib.hid R
  clear R
  go_enter Try.func57, Try.ntmps57
  go_wp2_with fail
  refine HR.out.mono ?_
  rintro e w1 ⟨vr, r, rfl, hr, hri, ht, hlen, hb1⟩
  obtain ⟨A, cc, rfl, hA⟩ := hr.open_
  have HA := Lib.hid hA
  have HRI := Lib.hid hri
  have HT := Lib.hid ht
  have HB1 := Lib.hid hb1
  clear hr hA hri ht hb1 HR
  go_wp2_with fail
  go_loopw [3, 10] (fun o i wr => ∃ (k : Nat) (v : Value), v = o ∧ i = .int .i64 k ∧ k ≤ r.length ∧ Hid (CovLoop r w1 wr v k)) (fun _ i _ => r.length - (RowKit.intOf i).toNat)
  case atStart => exact ⟨0, _, rfl, rfl, Nat.zero_le _, [], OwnN.nil (Nat.le_refl _), CoverAt.start r, Nat.le_refl _, Below.refl _ _⟩
  case round =>
    obtain ⟨k, o, hov, rfl, hk, HL⟩ := hrel
    subst hov
    by_cases hlt : k < r.length
    · obtain ⟨c, hown, hat, hck, hbl⟩ := HL.out
      obtain ⟨ad, rfl, had, c1, c2⟩ := (HA.out.below hbl) k hlt
      have HOW := Lib.hid hown
      have HAT := Lib.hid hat
      have HBL := Lib.hid hbl
      have hsn := snoc_cases c
      have HADD := Lib.hid (fun h => HAT.out.add HRI.out hlt h)
      have HGROW : Hid (∀ d q, c = d ++ [q] → ¬ q.2 < (r.getD k (0, 0)).1 → CoverAt r (k + 1) (d ++ [(q.1, max q.2 (r.getD k (0, 0)).2)])) := fun d q e h => CoverAt.grow HRI.out (e ▸ HAT.out) hlt h
      clear hown hat hbl HL
      unfold spCell at c1 c2
      dsimp only at c1 c2
      generalize r.getD k (0, 0) = s at *
      rcases hsn with rfl | ⟨d, q, rfl⟩
      · obtain ⟨B, cb, rfl⟩ := own_shape HOW.out
        have HO1 := Lib.hid (HOW.out.alloc (.cells #[.int .i64 s.1, .int .i64 s.2] 73))
        go_wp2_with fail
        go_quiet (fail)
        go_wp2_with (at_builtin; refine push_own spans_t rfl (.tmp 29) (.tmp 31) rfl w1.heap.size _ _ _ rfl ((HO1.out.drewN _).alloc (.cells #[.int .i64 s.1, .int .i64 s.2] 73)) _ 1 [.int .i64 s.1, .int .i64 s.2] rfl rfl ?h1a two_cells ?h1b ?_)
        case h1a => exact raw_at (by show (wr.alloc _).heap.size = _; simp) #[.int .i64 s.1, .int .i64 s.2] _
        case h1b => simp <;> omega
        intro v2 w2 ho2 hb2 hgr2
        have HO2 := Lib.hid ho2
        have HB2 := Lib.hid (below_drawn HBL.out hb2)
        clear ho2 hb2 hgr2
        go_wp2_with fail
        exact ⟨⟨k + 1, _, rfl, by go_num, by omega, [] ++ [s], HO2.out.cast (by simp) (by rw [svals_append]; rfl), HADD.out (fun x h => by simp at h), by simp, HB2.out⟩, by simp [RowKit.intOf] <;> omega⟩
      · have hck2 : d.length + 1 ≤ k := by simpa using hck
        have HOQ : Hid (OwnN 73 2 w1.heap.size wr o (d.length + 1) (svals (d ++ [q]))) := by
          have h := HOW.out
          rw [List.length_append, List.length_singleton] at h
          exact h
        obtain ⟨g, cap, hv, hg1, hg2, hgc, hgf⟩ := own_there HOQ.out
        have ce := hgc _ _ (svals_end d q)
        have cf := hgf (d.length * 2 + 1)
        clear hgc hgf
        subst hv
        have q0 : (0 : Int) ≤ (d.length : Int) := Int.natCast_nonneg _
        have q1 : (d.length : Int) < (d.length : Int) + 1 := by omega
        have q2 : IntKind.i64.wrap ((d.length : Int) + 1 - 1) = (d.length : Int) := by rw [IntKind.wrap_i64]; omega
        by_cases hx : q.2 < s.1
        · have hx2 : decide (q.2 < s.1) = true := decide_eq_true hx
          have HA2 := Lib.hid (HADD.out (last_all HAT.out.1 hx))
          have HO1 := Lib.hid (HOQ.out.alloc (.cells #[.int .i64 s.1, .int .i64 s.2] 73))
          go_wp2_with fail
          go_quiet (fail)
          go_wp2_with (at_builtin; refine push_own spans_t rfl (.tmp 29) (.tmp 31) rfl w1.heap.size _ _ _ rfl ((HO1.out.drewN _).alloc (.cells #[.int .i64 s.1, .int .i64 s.2] 73)) _ 1 [.int .i64 s.1, .int .i64 s.2] rfl rfl ?h2a two_cells ?h2b ?_)
          case h2a => exact raw_at (by show (wr.alloc _).heap.size = _; simp) #[.int .i64 s.1, .int .i64 s.2] _
          case h2b => simp <;> omega
          intro v2 w2 ho2 hb2 hgr2
          have HO2 := Lib.hid ho2
          have HB2 := Lib.hid (below_drawn HBL.out hb2)
          clear ho2 hb2 hgr2
          go_wp2_with fail
          exact ⟨⟨k + 1, _, rfl, by go_num, by omega, (d ++ [q]) ++ [s], HO2.out.cast (by simp) (by rw [svals_append (d ++ [q])]; rfl), HA2.out, by simp <;> omega, HB2.out⟩, by simp [RowKit.intOf] <;> omega⟩
        · have hx2 : decide (q.2 < s.1) = false := decide_eq_false hx
          go_wp2_with fail
          go_quiet (fail)
          go_wp2_with fail
          have HG := Lib.hid (HGROW.out d q rfl hx)
          have HB5 := Lib.hid (below_drewN (HBL.out.alloc HBL.out.size (.cells #[.int .i64 s.1, .int .i64 s.2] 73)) nq)
          have HO5 := Lib.hid ((HOQ.out.alloc (.cells #[.int .i64 s.1, .int .i64 s.2] 73)).drewN nq)
          obtain ⟨x0, x1, x2, x3, x4⟩ := (Box2.new wr (.int .i64 s.1) (.int .i64 s.2) 73).drewN nq
          have e1 : ((wr.alloc (.cells #[.int .i64 s.1, .int .i64 s.2] 73)).drewN nq).cell? ⟨g, d.length * 2 + 1, none⟩ = some (.int .i64 q.2) := ((below_alloc wr (.cells #[.int .i64 s.1, .int .i64 s.2] 73)).cell (p := ⟨g, d.length * 2 + 1, none⟩) hg2).trans ce
          have e2 : ((wr.alloc (.cells #[.int .i64 s.1, .int .i64 s.2] 73)).drewN nq).frozen? ⟨g, d.length * 2 + 1, none⟩ = false := ((below_alloc wr (.cells #[.int .i64 s.1, .int .i64 s.2] 73)).frozen (p := ⟨g, d.length * 2 + 1, none⟩) hg2).trans cf
          generalize (wr.alloc (.cells #[.int .i64 s.1, .int .i64 s.2] 73)).drewN nq = W at *
          clear x3 x4 c1 c2 ce cf x1
          go_region
          go_wp2_with fail
          exact ⟨⟨k + 1, _, rfl, by go_num, by omega, d ++ [(q.1, max q.2 s.2)], ((HO5.out.set (d.length * 2 + 1) (.int .i64 (max q.2 s.2))).drew).cast (by simp) (svals_last d q _), HG.out, by simpa using (by omega : d.length + 1 ≤ k + 1), ((HB5.out.setCell (p := ⟨g, d.length * 2 + 1, none⟩) hg1 _).drew)⟩, by simp [RowKit.intOf] <;> omega⟩
    · go_wp2_with fail
      go_ret
      obtain ⟨c, hown, hat, hck, hbl⟩ := HL.out
      exact ⟨_, c, rfl, OwnN.spans hown rfl, hat.less (by omega) HT.out, HB1.out.trans (hbl.mono HB1.out.size), own_room hown⟩
end Go.Proofs.Ytjjigkomiidipaa.SpanWalk
namespace Go.Proofs.Ytjjigkomiidipaa.SpanWalk
open Go.RowKit Go.Proofs.Ytjjigkomiidipaa.SpanPlain Go.Proofs.Ytjjigkomiidipaa.Mem Go.Proofs.Ytjjigkomiidipaa.SpanMem Go.Proofs.Ytjjigkomiidipaa.SpanRef
theorem cover_is (l : List Sp) (v : Value) (w : World) (hv : SpansIs l w v) (hl : l.length ≤ 2000) : Calls Try.prog 57 #[v] w (CoverIs l w) :=
  cover_of l v w hl (risS l v w hv (by omega))
end Go.Proofs.Ytjjigkomiidipaa.SpanWalk
