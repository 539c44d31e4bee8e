/-
  The walks of the statements of layer 14: WindowTogether.
-/
import Derived.Test.YtkaepadkdohmpaaWinLawC
namespace Go.Proofs.Ytkaepadkdohmpaa.WinWalk
open Go.RowKit Go.Proofs.Ytkaepadkdohmpaa.SpanPlain Go.Proofs.Ytkaepadkdohmpaa.StepPlain Go.Proofs.Ytkaepadkdohmpaa.JobPlain Go.Proofs.Ytkaepadkdohmpaa.WinPlain Go.Proofs.Ytkaepadkdohmpaa.Mem Go.Proofs.Ytkaepadkdohmpaa.SpanMem Go.Proofs.Ytkaepadkdohmpaa.StepMem Go.Proofs.Ytkaepadkdohmpaa.JobMem Go.Proofs.Ytkaepadkdohmpaa.OrdMem
theorem busys_t : ElemT Try.prog 48 50 3 24 := ElemT.mk_ (.agg #[.int .i64 0, .int .i64 0, .int .i64 0]) Try.underlying48 (by kernel_rfl) rfl (by decide) (by decide)
theorem three_cells {i j k : IntKind} {a b c : Int} : ∀ u ∈ [Value.int i a, Value.int j b, Value.int k c], u.oneCell' = true := by
  intro u hu
  simp at hu
  rcases hu with rfl | rfl | rfl <;> rfl
/-- Busy times from 0 on. -/
def zeroB (b : By) : By := (0, b.2.1, b.2.2)
def zerosB (l : List By) : List By := l.map zeroB
theorem zeros_next {l : List By} {q : Nat} (h : q < l.length) : bvals (zerosB (l.take (q + 1))) = bvals (zerosB (l.take q)) ++ [.int .i64 0, .int .i64 (byCell l q).2.1, .int .i64 (byCell l q).2.2] := by
  have e : byCell l q = l[q] := by simp [byCell, h]
  rw [List.take_succ_eq_append_getElem h, e]
  unfold zerosB bvals
  rw [List.map_append, List.flatMap_append]
  rfl
theorem out_ways (p n m : Int) : (decide (p < 1) = true) ∨ (decide (p < 1) = false ∧ decide (256 < p) = true) ∨ (decide (p < 1) = false ∧ decide (256 < p) = false ∧ decide (60 < n) = true) ∨ (decide (p < 1) = false ∧ decide (256 < p) = false ∧ decide (60 < n) = false ∧ decide (m < 1) = true) ∨
    (decide (p < 1) = false ∧ decide (256 < p) = false ∧ decide (60 < n) = false ∧ decide (m < 1) = false ∧ decide (12 < m) = true) ∨ (decide (p < 1) = false ∧ decide (256 < p) = false ∧ decide (60 < n) = false ∧ decide (m < 1) = false ∧ decide (12 < m) = false) := by
  cases decide (p < 1) <;> cases decide (256 < p) <;> cases decide (60 < n) <;> cases decide (m < 1) <;> cases decide (12 < m) <;> simp
set_option maxRecDepth 100000 in
set_option maxHeartbeats 2400000 in
theorem windowTogether_any (p : Int) (bl : List By) (jobs : List Jb) (vb vj : Value) (w : World) (hb : BusyIs bl w vb) (hj : JobsIs jobs w vj) (hjf : ∀ j ∈ jobs, Fit j) :
    Calls Try.prog 4 #[.int .i64 p, vb, vj] w (TrueW w) := by
  have HAW := Lib.hid (fun W => awake14 W)
  have HJ := Lib.hid hj
  have HJF := Lib.hid hjf
  obtain ⟨Ab, cb, rfl, htr⟩ := hb.open_
  obtain ⟨Aj, cj, rfl, _, _⟩ := hj.open_
  have HT := Lib.hid htr
  clear hb hj htr hjf
  rcases out_ways p (bl.length : Int) (jobs.length : Int) with d1 | ⟨d1, d2⟩ | ⟨d1, d2, d3⟩ | ⟨d1, d2, d3, d4⟩ | ⟨d1, d2, d3, d4, d5⟩ | ⟨d1, d2, d3, d4, d5⟩
  case inr.inr.inr.inr.inr =>
    have hl1 : bl.length ≤ 60 := by have := of_decide_eq_false d3; omega
    have hl2 : 1 ≤ jobs.length := by have := of_decide_eq_false d4; omega
    have hl3 : jobs.length ≤ 12 := by have := of_decide_eq_false d5; omega
    have q4 : ¬ (jobs.length : Int) < 1 := of_decide_eq_false d4
    go_enter Try.func4, Try.ntmps4
    go_wp2_with fail
    go_loopw [7, 8] (fun o i wr => ∃ (q : Nat) (v : Value), v = o ∧ i = .int .i64 q ∧ q ≤ bl.length ∧ Hid (OwnR 50 3 w.heap.size wr v q (bvals (zerosB (bl.take q)))) ∧ Hid (Below w.heap.size w wr)) (fun _ i _ => bl.length - (intOf i).toNat)
    case atStart => exact ⟨0, _, rfl, rfl, Nat.zero_le _, OwnR.new w _ 3, below_box _ _⟩
    case round =>
      obtain ⟨q, o, hov, rfl, hq, HO, HB⟩ := hrel
      subst hov
      obtain ⟨g, cg, rfl, _⟩ := HO.out.form
      by_cases hlt : q < bl.length
      · obtain ⟨a, rfl, hab, _, _, _⟩ := HT.out q hlt
        obtain ⟨a', ha', hbl, h1, h2, h3⟩ := HT.out.below HB.out q hlt
        injection ha' with ha'
        subst ha'
        have HNX := Lib.hid (zeros_next hlt)
        have hlw : (a.add (q * 3)).block < w.heap.size := by rw [add_block]; exact hab
        have b1 : (q : Int) < (bl.length : Int) := by omega
        have b2 : (0 : Int) ≤ (q : Int) := by omega
        generalize byCell bl q = y at *
        have HO5 := Lib.hid ((HO.out.alloc (.cells #[.int .i64 0, .int .i64 y.2.1, .int .i64 y.2.2] 50)).drew)
        have HB5 := Lib.hid ((HB.out.alloc HB.out.size (.cells #[.int .i64 0, .int .i64 y.2.1, .int .i64 y.2.2] 50)).drew)
        have HR5 : Hid (Raw (wr.alloc (.cells #[.int .i64 0, .int .i64 y.2.1, .int .i64 y.2.2] 50)).drew ⟨wr.heap.size, 0, none⟩ [.int .i64 0, .int .i64 y.2.1, .int .i64 y.2.2]) := (Raw.alloc wr #[.int .i64 0, .int .i64 y.2.1, .int .i64 y.2.2] 50).below (Below.refl _ _).drew
        go_upto_region 7 with fail
        go_region_held3 (fun w' => w'.cell? ⟨(a.add (q * 3)).block, (a.add (q * 3)).off + 1, none⟩ = some (.int .i64 y.2.1) ∧ w'.cell? ⟨(a.add (q * 3)).block, (a.add (q * 3)).off + 2, none⟩ = some (.int .i64 y.2.2))
          (first | go_keep | (go_split_ands; exact ⟨(hb6.cell (p := ⟨(a.add (q * 3)).block, (a.add (q * 3)).off + 1, none⟩) hlw).trans (by assumption), (hb6.cell (p := ⟨(a.add (q * 3)).block, (a.add (q * 3)).off + 2, none⟩) hlw).trans (by assumption)⟩))
          (first
            | (refine step_push busys_t (by rfl) (.tmp 38) (.tmp 50) (by rfl) w.heap.size _ _ _ (by rfl) HO5.out _ 1 1 [.int .i64 0, .int .i64 y.2.1, .int .i64 y.2.2] (by rfl) (by rfl) HR5.out three_cells (by omega) ?_; intro v6 w6 ho6 hb6))
        all_goals
          have HO6 : Hid (OwnR 50 3 w.heap.size w6 v6 (q + 1) (bvals (zerosB (bl.take (q + 1))))) := Lib.hid (by rw [HNX.out]; exact ho6)
          have HB6 : Hid (Below w.heap.size w w6) := Lib.hid (HB5.out.trans hb6)
          clear ho6 hb6 h1 h2 h3 HO5 HB5 HR5 HO HB
          obtain ⟨g6, c6, h6, _⟩ := HO6.out.form
          subst h6
          go_wp2_with fail
          exact ⟨⟨q + 1, _, rfl, by go_num, by omega, HO6, HB6⟩, by simp [intOf] <;> omega⟩
      · have eq : q = bl.length := by omega
        subst eq
        have hzl : (zerosB bl).length = bl.length := by simp [zerosB]
        have hbz : BusyIs (zerosB bl) wr (.slice (some ⟨g, 0, none⟩) bl.length cg) := by
          have h1 := HO.out
          rw [List.take_length] at h1
          obtain ⟨g', c', e, _, _, _, _, h5, _⟩ := h1.form
          injection e with e1 _ e3
          injection e1 with e1
          injection e1 with e1
          subst e1 e3
          exact .inr ⟨_, _, by rw [hzl], h5⟩
        have C := Lib.hid (together_any p (zerosB bl) jobs _ _ wr hbz (fun x hx => by obtain ⟨z, _, rfl⟩ := List.mem_map.1 hx; rfl) (by omega) (HJ.out.below HB.out) HJF.out hl2 hl3)
        clear hzl hbz HO
        go_wp2_with fail
        refine C.out.mono ?_
        rintro e w4 ⟨rfl, hb4⟩
        have HB4 := Lib.hid (below_then HB.out hb4)
        clear hb4
        go_wp2_with fail
        refine (HAW.out _).mono ?_
        rintro e w5 ⟨rfl, hb5⟩
        have HB5 := Lib.hid (below_then HB4.out hb5)
        clear hb5
        go_wp2_with fail
        go_ret
        exact ⟨rfl, HB5.out⟩
  all_goals
    go_enter Try.func4, Try.ntmps4
    go_wp2_with fail
    refine (HAW.out _).mono ?_
    rintro e w4 ⟨rfl, hb4⟩
    have HB4 := Lib.hid hb4
    clear hb4
    go_wp2_with fail
    go_ret
    exact ⟨rfl, HB4.out⟩
end Go.Proofs.Ytkaepadkdohmpaa.WinWalk
