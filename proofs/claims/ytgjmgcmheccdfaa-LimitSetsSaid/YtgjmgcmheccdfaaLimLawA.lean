/-
  The walks of the statements of layer 10: what all of them begin and end with (light, awake).
-/
import Derived.Test.YtgjmgcmheccdfaaLimWalk
namespace Go.Proofs.Ytgjmgcmheccdfaa.LimWalk
open Go.RowKit Go.Proofs.Ytgjmgcmheccdfaa.JobPlain Go.Proofs.Ytgjmgcmheccdfaa.ApiPlain Go.Proofs.Ytgjmgcmheccdfaa.LimPlain Go.Proofs.Ytgjmgcmheccdfaa.Mem Go.Proofs.Ytgjmgcmheccdfaa.ApiMem Go.Proofs.Ytgjmgcmheccdfaa.JobMem Go.Proofs.Ytgjmgcmheccdfaa.LimRef
set_option maxRecDepth 100000 in
set_option maxHeartbeats 3200000 in
theorem awake10 (w : World) : Calls Try.prog 6 #[] w (TrueIs w) := by
  have CS := Lib.hid (setS [] exX (.slice none 0 0) w (Lay.Is.nil _ _) (fun x hx => by cases hx) ex_fitX (by decide))
  rw [ex_setR, ex_setE] at CS
  have CM := Lib.hid (fun W v (h : limL.Is [exX] W v) => mayS [exX] [] exQ v (.slice none 0 0) W h (Lay.Is.nil _ _) ex_fitL (fun x hx => by cases hx) ex_fitJ (by decide) (by decide))
  have CN := Lib.hid (fun W v u (h : limL.Is [exX] W v) (hu : useL.Is [exU] W u) => mayS [exX] [exU] exQ v u W h hu ex_fitL ex_fitU ex_fitJ (by decide) (by decide))
  rw [ex_may] at CM
  rw [ex_not] at CN
  unfold limV exX at CS
  unfold jobV jobA exQ at CM CN
  dsimp only at CS CM CN
  go_enter Try.func6, Try.ntmps6
  go_wp2_with fail
  refine CS.out.mono ?_
  rintro e w1 ⟨v1, rfl, hv1, hb1⟩
  have HV1 := Lib.hid (show limL.Is [exX] w1 v1 from hv1)
  have HB1 := Lib.hid hb1
  have HX := Lib.hid (JobBox.new w1 exQ 36)
  unfold exQ at HX
  dsimp only at HX
  have HBJ := Lib.hid (below_new w1 (.cells #[.int .i64 1, .string ⟨#[97, 110, 110]⟩, .int .i64 2, .int .i64 9, .int .i64 0, .int .i64 0, .int .i64 1, .int .i64 0, .int .i64 0] 36))
  obtain ⟨A1, c1, rfl, _, _⟩ := lims_open hv1
  clear hv1 hb1 CS
  go_upto_region 3 with fail
  have HV2 := Lib.hid (HV1.out.below HBJ.out)
  have HB2 := Lib.hid (below_then HB1.out HBJ.out)
  generalize w1.alloc (.cells #[.int .i64 1, .string ⟨#[97, 110, 110]⟩, .int .i64 2, .int .i64 9, .int .i64 0, .int .i64 0, .int .i64 1, .int .i64 0, .int .i64 0] 36) = w2 at *
  obtain ⟨y, y0, y1, y2, y3, y4, y5, y6, y7, y8, _, _, _, _, _, _, _, _, _⟩ := HX.out
  dsimp only at y0 y1 y2 y3 y4 y5 y6 y7 y8
  go_wp2_with fail
  refine (CM.out _ _ HV2.out).mono ?_
  rintro e w3 ⟨rfl, hb3⟩
  have HX3 := Lib.hid (HX.out.below hb3)
  have HV3 := Lib.hid (HV2.out.below hb3)
  have HB3 := Lib.hid (below_then HB2.out hb3)
  clear hb3 CM HX HV2 HB2 y y0 y1 y2 y3 y4 y5 y6 y7 y8
  have HX4 := Lib.hid (HX3.out.alloc (.cells #[.string ⟨#[97, 110, 110]⟩, .int .i64 1, .int .i64 3] 41))
  have HU4 := Lib.hid (show useL.Is [exU] (w3.alloc (.cells #[.string ⟨#[97, 110, 110]⟩, .int .i64 1, .int .i64 3] 41)) (.slice (some ⟨w3.heap.size, 0, none⟩) 1 1) from .inr ⟨_, 1, rfl, Raw.alloc w3 #[.string ⟨#[97, 110, 110]⟩, .int .i64 1, .int .i64 3] 41, by decide⟩)
  have HBU := Lib.hid (below_new w3 (.cells #[.string ⟨#[97, 110, 110]⟩, .int .i64 1, .int .i64 3] 41))
  obtain ⟨y, y0, y1, y2, y3, y4, y5, y6, y7, y8, _, _, _, _, _, _, _, _, _⟩ := HX4.out
  dsimp only at y0 y1 y2 y3 y4 y5 y6 y7 y8
  go_wp2_with fail
  refine (CN.out _ _ _ (HV3.out.below HBU.out) HU4.out).mono ?_
  rintro e w5 ⟨rfl, hb5⟩
  have HB5 := Lib.hid (below_then (below_then HB3.out HBU.out) hb5)
  clear hb5
  go_wp2_with fail
  go_ret
  exact ⟨rfl, HB5.out⟩
/-- Are names not too long? -/
def LightTo (l : List Lim) (k : Nat) : Prop := ∀ i, i < k → i < l.length → (nthL l i).user.size ≤ 100
def lightB (l : List Lim) (s : ByteArray) : Bool := (decide (l.length ≤ 60) && decide (s.size ≤ 100)) && l.all fun c => decide (c.user.size ≤ 100)
def BoolQ (b : Bool) (w : World) (e : Ending) (w' : World) : Prop := e = .returned (.bool b) ∧ w = w'
theorem light_long {l : List Lim} {s : ByteArray} (h : ¬ l.length ≤ 60) : lightB l s = false := by unfold lightB; rw [decide_eq_false h]; rfl
theorem light_text {l : List Lim} {s : ByteArray} (h : ¬ s.size ≤ 100) : lightB l s = false := by unfold lightB; rw [decide_eq_false h, Bool.and_false]; rfl
theorem light_no {l : List Lim} {s : ByteArray} {k : Nat} (hk : k < l.length) (h : ¬ (nthL l k).user.size ≤ 100) : lightB l s = false := by
  unfold lightB
  have : (l.all fun c => decide (c.user.size ≤ 100)) = false := by
    rw [List.all_eq_false]
    exact ⟨nthL l k, by rw [nthL_at hk]; exact List.getElem_mem hk, by rw [decide_eq_false h]; decide⟩
  rw [this, Bool.and_false]
theorem light_yes {l : List Lim} {s : ByteArray} {k : Nat} (h1 : l.length ≤ 60) (h2 : s.size ≤ 100) (hk : l.length ≤ k) (h : LightTo l k) : lightB l s = true := by
  unfold lightB
  rw [decide_eq_true h1, decide_eq_true h2, Bool.true_and, Bool.true_and, List.all_eq_true]
  intro c hc
  obtain ⟨i, hi, rfl⟩ := List.mem_iff_getElem.1 hc
  rw [← nthL_at hi]
  exact decide_eq_true (h i (by omega) hi)
theorem light_len {l : List Lim} {s : ByteArray} (h : lightB l s = true) : l.length ≤ 60 ∧ s.size ≤ 100 := by
  unfold lightB at h
  rw [Bool.and_eq_true, Bool.and_eq_true, decide_eq_true_eq, decide_eq_true_eq] at h
  exact h.1
set_option maxRecDepth 100000 in
set_option maxHeartbeats 1600000 in
theorem light10 (l : List Lim) (s : ByteArray) (v : Value) (w : World) (hv : limL.Is l w v) (hs : s.size ≤ 9223372036854775807) : Calls Try.prog 5 #[v, .string s] w (BoolQ (lightB l s) w) := by
  obtain ⟨A, c, rfl, hn, hA⟩ := lims_open hv
  have HA := Lib.hid hA
  clear hA hv
  go_enter Try.func5, Try.ntmps5
  go_wp2_with fail
  go_loop [5] (fun i => ∃ k : Nat, i = .int .i64 k ∧ k ≤ 61 ∧ k ≤ l.length ∧ Hid (LightTo l k)) (fun i => l.length - (intOf i).toNat)
  case atStart => exact ⟨0, rfl, by decide, Nat.zero_le _, fun i hi => absurd hi (Nat.not_lt_zero _)⟩
  case round =>
    obtain ⟨k, rfl, h31, hk, HL⟩ := hrel
    by_cases hlt : k < l.length
    · have d1 : decide ((k : Int) < (l.length : Int)) = true := decide_eq_true (by omega)
      by_cases h30 : k ≤ 60
      · have d2 : decide ((k : Int) ≤ 60) = true := decide_eq_true (by omega)
        obtain ⟨ad, rfl, ⟨p, p0, _, _⟩⟩ := lims_nth HA.out (Below.refl _ _) hlt
        have HNO := Lib.hid (fun h => light_no (s := s) hlt h)
        have HNX : Hid ((nthL l k).user.size ≤ 100 → LightTo l (k + 1)) := fun h i hi hl => by
          rcases Nat.lt_or_ge i k with h1 | h1
          · exact HL.out i h1 hl
          · obtain rfl : i = k := by omega
            exact h
        have i0 : (0 : Int) ≤ (k : Int) := Int.natCast_nonneg _
        have i1 : (k : Int) < (l.length : Int) := by omega
        generalize nthL l k = x at *
        by_cases hx : x.user.size ≤ 100
        · have d3 : decide ((100 : Int) < (x.user.size : Int)) = false := decide_eq_false (by omega)
          have HX := Lib.hid (HNX.out hx)
          go_wp2_with fail
          exact ⟨⟨k + 1, by go_num, by omega, by omega, HX.out⟩, by simp [intOf] <;> omega⟩
        · have d3 : decide ((100 : Int) < (x.user.size : Int)) = true := decide_eq_true (by omega)
          have HX := Lib.hid (HNO.out hx)
          go_wp2_with fail
          go_ret
          exact ⟨by rw [HX.out]; rfl, rfl⟩
      · have d2 : decide ((k : Int) ≤ 60) = false := decide_eq_false (by omega)
        have d3 : decide ((l.length : Int) ≤ 60) = false := decide_eq_false (by omega)
        have HX := Lib.hid (light_long (l := l) (s := s) (by omega))
        go_wp2_with fail
        go_ret
        exact ⟨by rw [HX.out]; rfl, rfl⟩
    · have d1 : decide ((k : Int) < (l.length : Int)) = false := decide_eq_false (by omega)
      by_cases h30 : l.length ≤ 60
      · have d3 : decide ((l.length : Int) ≤ 60) = true := decide_eq_true (by omega)
        by_cases hz : s.size ≤ 100
        · have d4 : decide ((s.size : Int) ≤ 100) = true := decide_eq_true (by omega)
          have HX := Lib.hid (light_yes h30 hz (Nat.le_of_not_lt hlt) HL.out)
          go_wp2_with fail
          go_ret
          exact ⟨by rw [HX.out]; rfl, rfl⟩
        · have d4 : decide ((s.size : Int) ≤ 100) = false := decide_eq_false (by omega)
          have HX := Lib.hid (light_text (l := l) hz)
          go_wp2_with fail
          go_ret
          exact ⟨by rw [HX.out]; rfl, rfl⟩
      · have d3 : decide ((l.length : Int) ≤ 60) = false := decide_eq_false (by omega)
        have HX := Lib.hid (light_long (s := s) h30)
        go_wp2_with fail
        go_ret
        exact ⟨by rw [HX.out]; rfl, rfl⟩
end Go.Proofs.Ytgjmgcmheccdfaa.LimWalk
