/-
  The walks of the statements of layer 9: what all of them begin and end with (light, awake).
-/
import Derived.Test.YtmggmaackgnicaaQueWalk
namespace Go.Proofs.Ytmggmaackgnicaa.QueWalk
open Go.RowKit Go.Proofs.Ytmggmaackgnicaa.JobPlain Go.Proofs.Ytmggmaackgnicaa.ApiPlain Go.Proofs.Ytmggmaackgnicaa.QuePlain Go.Proofs.Ytmggmaackgnicaa.Mem Go.Proofs.Ytmggmaackgnicaa.ApiMem Go.Proofs.Ytmggmaackgnicaa.OrdMem Go.Proofs.Ytmggmaackgnicaa.QueRef
theorem ex_is {w : World} {n : Nat} (h : Boxed w n (clC exA ++ clC exB)) : clL.Is exL w (.slice (some ⟨n, 0, none⟩) 2 2) :=
  .inr ⟨⟨n, 0, none⟩, 2, rfl, fun i u hu => ⟨h.lt, by rw [add_flat]; exact h.c i u hu⟩, by decide⟩
theorem ex_is4 {w : World} {n : Nat} (h : Boxed w n (clC exA ++ clC exB4)) : clL.Is exL4 w (.slice (some ⟨n, 0, none⟩) 2 2) :=
  .inr ⟨⟨n, 0, none⟩, 2, rfl, fun i u hu => ⟨h.lt, by rw [add_flat]; exact h.c i u hu⟩, by decide⟩
set_option maxRecDepth 100000 in
set_option maxHeartbeats 3200000 in
theorem awake9 (w : World) : Calls Try.prog 6 #[] w (TrueIs w) := by
  have HX := Lib.hid (Boxed.new w #[.string ⟨#[97]⟩, .int .i64 1, .int .i64 4, .int .i64 1, .int .i64 9, .string ⟨#[98]⟩, .int .i64 5, .int .i64 8, .int .i64 1, .int .i64 9] 32)
  have HB := Lib.hid (box_below w (.cells #[.string ⟨#[97]⟩, .int .i64 1, .int .i64 4, .int .i64 1, .int .i64 9, .string ⟨#[98]⟩, .int .i64 5, .int .i64 8, .int .i64 1, .int .i64 9] 32))
  have CF := Lib.hid (findS exL 6 3 (.slice (some ⟨w.heap.size, 0, none⟩) 2 2) _ (ex_is HX.out) ex_short (by decide))
  unfold FindSays at CF
  rw [ex_findN, ex_findB] at CF
  go_enter Try.func6, Try.ntmps6
  go_upto_region 2 with fail
  generalize w.alloc (.cells #[.string ⟨#[97]⟩, .int .i64 1, .int .i64 4, .int .i64 1, .int .i64 9, .string ⟨#[98]⟩, .int .i64 5, .int .i64 8, .int .i64 1, .int .i64 9] 32) = w0 at *
  go_wp2_with fail
  refine CF.out.mono ?_
  rintro e w1 ⟨rfl, hb1⟩
  have HX1 := Lib.hid (HX.out.below hb1)
  have HB1 := Lib.hid (below_then HB.out hb1)
  have x6 := HX1.out.c 6 _ rfl
  have f6 := HX1.out.f 6 _ rfl
  clear hb1 CF HX HB
  go_upto_region 4 with fail
  have HX2 : Hid (Boxed (w1.setCell ⟨w.heap.size, 6, none⟩ (.int .i64 4)) w.heap.size (clC exA ++ clC exB4)) := HX1.out.set 6 (.int .i64 4)
  have HB2 := Lib.hid (HB1.out.setCell (p := ⟨w.heap.size, 6, none⟩) (Nat.le_refl _) (.int .i64 4))
  clear x6 f6 HX1 HB1
  generalize w1.setCell ⟨w.heap.size, 6, none⟩ (.int .i64 4) = w2 at *
  have CC : Hid (∀ p : Lull w2, Calls Try.prog 10 #[.slice (some ⟨w.heap.size, 0, none⟩) 2 2] p.u (IntC 7 p.u)) := fun p => by
    have h := checkS exL4 (.slice (some ⟨w.heap.size, 0, none⟩) 2 2) p.u (ex_is4 (HX2.out.below p.h)) ex_short4 (by decide)
    rw [ex_there] at h
    exact h
  have CM : Hid (∀ W, Calls Try.prog 13 #[.agg #[.string ⟨#[97]⟩, .int .i64 1, .int .i64 4, .int .i64 1, .int .i64 9], .agg #[.string ⟨#[98]⟩, .int .i64 4, .int .i64 8, .int .i64 1, .int .i64 9]] W (BoolC true W)) := fun W => by
    have h := meetS exA exB4 W ⟨by decide, by decide, by decide, by decide, by decide⟩ ⟨by decide, by decide, by decide, by decide, by decide⟩
    rw [ex_meets] at h
    exact h
  have P0 := calm_cell (a := ⟨w.heap.size, 0, none⟩) HX2.out.lt (HX2.out.c 0 _ rfl)
  have P1 := calm_cell (a := ⟨w.heap.size, 1, none⟩) HX2.out.lt (HX2.out.c 1 _ rfl)
  have P2 := calm_cell (a := ⟨w.heap.size, 2, none⟩) HX2.out.lt (HX2.out.c 2 _ rfl)
  have P3 := calm_cell (a := ⟨w.heap.size, 3, none⟩) HX2.out.lt (HX2.out.c 3 _ rfl)
  have P4 := calm_cell (a := ⟨w.heap.size, 4, none⟩) HX2.out.lt (HX2.out.c 4 _ rfl)
  have P5 := calm_cell (a := ⟨w.heap.size, 5, none⟩) HX2.out.lt (HX2.out.c 5 _ rfl)
  have P6 := calm_cell (a := ⟨w.heap.size, 6, none⟩) HX2.out.lt (HX2.out.c 6 _ rfl)
  have P7 := calm_cell (a := ⟨w.heap.size, 7, none⟩) HX2.out.lt (HX2.out.c 7 _ rfl)
  have P8 := calm_cell (a := ⟨w.heap.size, 8, none⟩) HX2.out.lt (HX2.out.c 8 _ rfl)
  have P9 := calm_cell (a := ⟨w.heap.size, 9, none⟩) HX2.out.lt (HX2.out.c 9 _ rfl)
  refine wp_region_calm (by kernel_rfl) (by kernel_rfl) ?_
  repeat (first | go_big_quiet_step (((first | (go_at_call 10; exact calm_of (v := .int .i64 7) (CC.out _)) | (go_at_call 13; exact calm_of (v := .bool true) (CM.out _))))) | quiet_step (((first | (go_at_call 10; exact calm_of (v := .int .i64 7) (CC.out _)) | (go_at_call 13; exact calm_of (v := .bool true) (CM.out _))))))
  refine wpQuiet_nil ?_
  intro w3 hw
  have hb3 := lull_below hw
  clear hw
  have HB3 := Lib.hid (below_then HB2.out hb3)
  clear hb3 P0 P1 P2 P3 P4 P5 P6 P7 P8 P9
  go_wp2_with fail
  go_ret
  exact ⟨rfl, HB3.out⟩
/-- Are names not too long? -/
def LightTo (l : List Cl) (k : Nat) : Prop := ∀ i, i < k → i < l.length → (nthC l i).name.size ≤ 100
def lightB (l : List Cl) : Bool := decide (l.length ≤ 30) && l.all fun c => decide (c.name.size ≤ 100)
def BoolQ (b : Bool) (w : World) (e : Ending) (w' : World) : Prop := e = .returned (.bool b) ∧ w = w'
theorem light_long {l : List Cl} (h : ¬ l.length ≤ 30) : lightB l = false := by unfold lightB; rw [decide_eq_false h]; rfl
theorem light_no {l : List Cl} {k : Nat} (hk : k < l.length) (h : ¬ (nthC l k).name.size ≤ 100) : lightB l = false := by
  unfold lightB
  have : (l.all fun c => decide (c.name.size ≤ 100)) = false := by
    rw [List.all_eq_false]
    exact ⟨nthC l k, by rw [nthC_at hk]; exact List.getElem_mem hk, by rw [decide_eq_false h]; decide⟩
  rw [this, Bool.and_false]
theorem light_yes {l : List Cl} {k : Nat} (h1 : l.length ≤ 30) (hk : l.length ≤ k) (h : LightTo l k) : lightB l = true := by
  unfold lightB
  rw [decide_eq_true h1, Bool.true_and, List.all_eq_true]
  intro c hc
  obtain ⟨i, hi, rfl⟩ := List.mem_iff_getElem.1 hc
  rw [← nthC_at hi]
  exact decide_eq_true (h i (by omega) hi)
theorem light_len {l : List Cl} (h : lightB l = true) : l.length ≤ 30 := by
  unfold lightB at h
  rw [Bool.and_eq_true, decide_eq_true_eq] at h
  exact h.1
set_option maxRecDepth 100000 in
set_option maxHeartbeats 1600000 in
theorem light9 (l : List Cl) (v : Value) (w : World) (hv : clL.Is l w v) : Calls Try.prog 5 #[v] w (BoolQ (lightB l) w) := by
  obtain ⟨A, c, rfl, hn, hA⟩ := cls_open hv
  have HA := Lib.hid hA
  clear hA hv
  go_enter Try.func5, Try.ntmps5
  go_wp2_with fail
  go_loop [3] (fun i => ∃ k : Nat, i = .int .i64 k ∧ k ≤ 31 ∧ k ≤ l.length ∧ Hid (LightTo l k)) (fun i => l.length - (intOf i).toNat)
  case atStart => exact ⟨0, rfl, by decide, Nat.zero_le _, fun i hi => absurd hi (Nat.not_lt_zero _)⟩
  case round =>
    obtain ⟨k, rfl, h31, hk, HL⟩ := hrel
    by_cases hlt : k < l.length
    · have d1 : decide ((k : Int) < (l.length : Int)) = true := decide_eq_true (by omega)
      by_cases h30 : k ≤ 30
      · have d2 : decide ((k : Int) ≤ 30) = true := decide_eq_true (by omega)
        obtain ⟨ad, rfl, ⟨p, p0, _, _, _, _⟩⟩ := cls_nth HA.out (Below.refl _ _) hlt
        have HNO := Lib.hid (fun h => light_no hlt h)
        have HNX : Hid ((nthC l k).name.size ≤ 100 → LightTo l (k + 1)) := fun h i hi hl => by
          rcases Nat.lt_or_ge i k with h1 | h1
          · exact HL.out i h1 hl
          · obtain rfl : i = k := by omega
            exact h
        have i0 : (0 : Int) ≤ (k : Int) := Int.natCast_nonneg _
        have i1 : (k : Int) < (l.length : Int) := by omega
        generalize nthC l k = x at *
        by_cases hx : x.name.size ≤ 100
        · have d3 : decide ((100 : Int) < (x.name.size : Int)) = false := decide_eq_false (by omega)
          have HX := Lib.hid (HNX.out hx)
          go_wp2_with fail
          exact ⟨⟨k + 1, by go_num, by omega, by omega, HX.out⟩, by simp [intOf] <;> omega⟩
        · have d3 : decide ((100 : Int) < (x.name.size : Int)) = true := decide_eq_true (by omega)
          have HX := Lib.hid (HNO.out hx)
          go_wp2_with fail
          go_ret
          exact ⟨by rw [HX.out]; rfl, rfl⟩
      · have d2 : decide ((k : Int) ≤ 30) = false := decide_eq_false (by omega)
        have d3 : decide ((l.length : Int) ≤ 30) = false := decide_eq_false (by omega)
        have HX := Lib.hid (light_long (l := l) (by omega))
        go_wp2_with fail
        go_ret
        exact ⟨by rw [HX.out]; rfl, rfl⟩
    · have d1 : decide ((k : Int) < (l.length : Int)) = false := decide_eq_false (by omega)
      by_cases h30 : l.length ≤ 30
      · have d3 : decide ((l.length : Int) ≤ 30) = true := decide_eq_true (by omega)
        have HX := Lib.hid (light_yes h30 (Nat.le_of_not_lt hlt) HL.out)
        go_wp2_with fail
        go_ret
        exact ⟨by rw [HX.out]; rfl, rfl⟩
      · have d3 : decide ((l.length : Int) ≤ 30) = false := decide_eq_false (by omega)
        have HX := Lib.hid (light_long h30)
        go_wp2_with fail
        go_ret
        exact ⟨by rw [HX.out]; rfl, rfl⟩
end Go.Proofs.Ytmggmaackgnicaa.QueWalk
