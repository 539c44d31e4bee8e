/-
  The walks of layer 8's code: the library's slices.Grow and slices.Concat at jobs.
-/
import Derived.Test.YtkoadlgjehmkcaaOrdWalkB
import Derived.Test.YtkoadlgjehmkcaaOrdRefD
import Derived.Lib.AppendZerosOnto
import Derived.Lib.AppendZeros
namespace Go.Proofs.Ytkoadlgjehmkcaa.OrdWalk
open Go.RowKit Go.Lib Go.Sort Go.Proofs.Ytkoadlgjehmkcaa.JobPlain Go.Proofs.Ytkoadlgjehmkcaa.OrdPlain Go.Proofs.Ytkoadlgjehmkcaa.Mem Go.Proofs.Ytkoadlgjehmkcaa.JobMem Go.Proofs.Ytkoadlgjehmkcaa.OrdMem Go.Proofs.Ytkoadlgjehmkcaa.OrdRef
def GrowIs (w : World) (e : Ending) (w' : World) : Prop := ∃ v', e = .returned v' ∧ OwnR 24 9 w.heap.size w' v' 0 [] ∧ Below w.heap.size w w'
set_option maxRecDepth 100000 in
set_option maxHeartbeats 1600000 in
theorem growS (n : Nat) (w : World) (h0 : 0 < n) (hn : n ≤ 100000) : Calls Try.prog 29 #[.slice none 0 0, .int .i64 n] w (GrowIs w) := by
  obtain ⟨i0, z, hi0, hz0, hs9, hbt, hzs⟩ := jobs_t.info
  have hb : n * i0.bytes ≤ 140737488355328 := by rw [hbt]; omega
  have hrz : ∀ ty, (Builtin.append_ #[22, 3] ty #[.slice none 0 0, .int .i64 (n : Int)]).run Try.prog w =
      .ok (.slice (some ⟨w.heap.size, 0, none⟩) n (grownCap w n 0 24)) (w.drew.alloc (.cells (#[] ++ Builtin.zeroCells z.cells n ++ Builtin.zeroCells z.cells (grownCap w n 0 24 - n)) 24)) := fun ty => by
    have h := Lib.run_append_grow_zeros w 22 3 ty 24 i0 z .i64 .i64 Try.underlying22 Try.underlying3 hi0 hz0 none 0 0 [] (run_firstCells_none w.drew i0.size 0 0 0) n h0 (by omega) (by omega) (by omega) (by omega)
      (by rw [Nat.zero_add]; exact growslice_fits h0 hb)
    rw [Nat.zero_add] at h
    exact h
  have hG := grownCap_ge w n 0 24
  have hGm := grownCap_le_maxLen w n 0 24 (by unfold maxLen; omega)
  obtain ⟨G, hGe⟩ : ∃ G, G = grownCap w n 0 24 := ⟨_, rfl⟩
  rw [← hGe] at hrz hG hGm
  have hsz : (#[] ++ Builtin.zeroCells z.cells n ++ Builtin.zeroCells z.cells (G - n) : Array Value).size = G * 9 := by
    simp only [Array.size_append, size_zeroCells, hzs]
    have : n * 9 + (G - n) * 9 = G * 9 := by omega
    simpa using this
  generalize (#[] ++ Builtin.zeroCells z.cells n ++ Builtin.zeroCells z.cells (G - n) : Array Value) = cur at *
  have HO : Hid (OwnR 24 9 w.heap.size (w.drew.alloc (.cells cur 24)) (.slice (some ⟨w.heap.size, 0, none⟩) 0 G) 0 []) :=
    ⟨⟨rfl, .inr ⟨w.heap.size, G, cur, rfl, Nat.le_refl _, by show (w.heap.push (.cells cur 24))[w.heap.size]? = _; simp, Nat.zero_le _, hGm, hsz, by simp⟩⟩, by simp, by simp⟩
  have HB : Hid (Below w.heap.size w (w.drew.alloc (.cells cur 24))) := (Below.refl _ _).drew.alloc (Nat.le_refl _) _
  have hG63 : G ≤ 9223372036854775807 := by unfold maxLen at hGm; omega
  clear hb hbt hi0 hz0 hs9 hzs hGe hsz hGm
  go_enter Try.func29, Try.ntmps29
  go_wp2_with (at_builtin; refine Lib.wpList_append_run _ rfl _ _ _ _ rfl _ _ rfl rfl _ _ (hrz _) ?_)
  all_goals (go_ret; exact ⟨_, rfl, HO.out, HB.out⟩)
/-- The first k of some rows in a row. -/
def catTo (L : Nat → List Jb) : Nat → List Jb
  | 0 => []
  | k + 1 => catTo L k ++ L k
theorem catTo_le (L : Nat → List Jb) {k m : Nat} (h : k ≤ m) : (catTo L k).length ≤ (catTo L m).length := by
  induction m with
  | zero => rw [show k = 0 by omega]; exact Nat.le_refl _
  | succ m ih =>
    by_cases e : k = m + 1
    · subst e; exact Nat.le_refl _
    · have := ih (by omega)
      show _ ≤ (catTo L m ++ L m).length
      rw [List.length_append]; omega
def ConcatIs (l : List Jb) (w : World) (e : Ending) (w' : World) : Prop := ∃ v', e = .returned v' ∧ OwnR 24 9 w.heap.size w' v' l.length (jvals l) ∧ Below w.heap.size w w'
set_option maxRecDepth 100000 in
set_option maxHeartbeats 3200000 in
theorem concatS (g : Nat) (L : Nat → List Jb) (V : Nat → Value) (w : World) (hg : g < w.heap.size) (hc : ∀ k, k < 3 → w.cell? ⟨g, k, none⟩ = some (V k)) (hV : ∀ k, k < 3 → ∃ A c, V k = .slice A (L k).length c)
    (hs : ∀ k, k < 3 → Mem.Src w (V k) (L k).length (jvals (L k))) (h0 : 0 < (catTo L 3).length) (hn : (catTo L 3).length ≤ 100000) :
    Calls Try.prog 23 #[.slice (some ⟨g, 0, none⟩) 3 3] w (ConcatIs (catTo L 3) w) := by
  have HC := Lib.hid hc
  have HV := Lib.hid hV
  have HSS := Lib.hid hs
  have HLE : Hid (∀ k, k < 3 → (catTo L (k + 1)).length = (catTo L k).length + (L k).length ∧ (catTo L k).length + (L k).length ≤ (catTo L 3).length) := fun k hk => by
    have e : (catTo L (k + 1)).length = (catTo L k).length + (L k).length := by show (catTo L k ++ L k).length = _; rw [List.length_append]
    exact ⟨e, by rw [← e]; exact catTo_le L (by omega)⟩
  clear hc hV hs
  go_enter Try.func23, Try.ntmps23
  go_wp2_with fail
  go_loop [3, 11] (fun s i => ∃ k : Nat, k ≤ 3 ∧ i = .int .i64 k ∧ s = .int .i64 ((catTo L k).length : Nat)) (fun _ i => 3 - (intOf i).toNat)
  case atStart => exact ⟨0, by omega, rfl, rfl⟩
  case round =>
    obtain ⟨k, hk, rfl, rfl⟩ := hrel
    by_cases hlt : k < 3
    · obtain ⟨e1, e2⟩ := HLE.out k hlt
      obtain ⟨A, c, hv⟩ := HV.out k hlt
      have c0 := HC.out k hlt
      rw [hv] at c0
      have i1 : (k : Int) < 3 := by omega
      have hb3 : (catTo L k).length + (L k).length ≤ 100000 := by omega
      have HE1 := Lib.hid e1
      clear e1 hv
      generalize (catTo L k).length = p at *
      generalize (L k).length = m at *
      have j1 : decide (((p : Int) + (m : Int)) < 0) = false := decide_eq_false (by omega)
      have j2 : ¬ ((p : Int) + (m : Int)) < 0 := by omega
      go_wp2_with fail
      exact ⟨⟨k + 1, by omega, by go_num, by rw [show (catTo L (k + 1)).length = p + m by have := HE1.out; omega]; go_num⟩, by simp [intOf] <;> omega⟩
    · have e : k = 3 := by omega
      subst e
      have C1 := Lib.hid (growS (catTo L 3).length w h0 hn)
      have HT : Hid ((catTo L 3).length = (catTo L 3).length) := rfl
      go_wp2_with fail
      refine C1.out.mono ?_
      rintro e w1 ⟨v1, rfl, ho1, hb1⟩
      have HO1 := Lib.hid ho1
      have HB1 := Lib.hid hb1
      clear ho1 hb1 C1
      go_wp2_with fail
      go_loopw [6, 27] (fun o i wr => ∃ (k : Nat) (v : Value), v = o ∧ i = .int .i64 k ∧ k ≤ 3 ∧ Hid (OwnR 24 9 w.heap.size wr v (catTo L k).length (jvals (catTo L k))) ∧ Hid (Below w.heap.size w wr)) (fun _ i _ => 3 - (intOf i).toNat)
      case atStart => exact ⟨0, v1, rfl, rfl, by omega, HO1.out, HB1.out⟩
      case round =>
        clear HO1 HB1
        obtain ⟨k, o, hov, rfl, hk, HO, HB⟩ := hrel
        subst hov
        by_cases hlt : k < 3
        · obtain ⟨e1, e2⟩ := HLE.out k hlt
          obtain ⟨A, c, hv⟩ := HV.out k hlt
          have hsr := (HSS.out k hlt).below HB.out
          have c0 : wr.cell? ⟨g, k, none⟩ = some (V k) := (HB.out.cell (p := ⟨g, k, none⟩) hg).trans (HC.out k hlt)
          rw [hv] at c0 hsr
          have i1 : (k : Int) < 3 := by omega
          have HE : Hid (jvals (catTo L (k + 1)) = jvals (catTo L k) ++ jvals (L k)) := Lib.hid (jvals_append _ _)
          have HSR := Lib.hid hsr
          have HE1 := Lib.hid e1
          have HLN : Hid ((catTo L k).length + (L k).length ≤ 1099511627776) := Lib.hid (by omega)
          have HL9 := Lib.hid (jvals_len (L k))
          have H1 := Lib.hid (jvals_cell (L k))
          obtain ⟨g0, cg, rfl, _⟩ := HO.out.form
          clear hsr e1 hv e2
          go_wp2_with (at_builtin; refine push_src jobs_t rfl (.tmp 31) (.tmp 32) rfl w.heap.size _ _ _ rfl HO.out _ _ _ rfl HL9.out HSR.out H1.out HLN.out ?_)
          intro v6 w6 ho6 hb6
          have HO6 : Hid (OwnR 24 9 w.heap.size w6 v6 (catTo L (k + 1)).length (jvals (catTo L (k + 1)))) := Lib.hid (ho6.cast (by rw [HE1.out]) (by rw [HE.out]))
          have HB6 : Hid (Below w.heap.size w w6) := HB.out.trans hb6
          clear ho6 hb6
          obtain ⟨g6, c6, rfl, _⟩ := HO6.out.form
          go_wp2_with fail
          exact ⟨⟨k + 1, _, rfl, by go_num, by omega, HO6, HB6⟩, by simp [intOf] <;> omega⟩
        · have e : k = 3 := by omega
          subst e
          obtain ⟨g0, cg, rfl, _⟩ := HO.out.form
          go_wp2_with fail
          go_ret
          exact ⟨_, rfl, HO.out, HB.out⟩
end Go.Proofs.Ytkoadlgjehmkcaa.OrdWalk
