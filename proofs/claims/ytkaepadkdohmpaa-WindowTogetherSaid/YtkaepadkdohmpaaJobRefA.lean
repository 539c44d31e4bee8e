/-
  The walks of the document's answers for layer 7: Name. The walks of the document's answers for layer 7: May.
-/
import Derived.Test.YtkaepadkdohmpaaJobMem
import Derived.Deep.CutBlock
import Derived.Deep.DeepCutAuto
namespace Go.Proofs.Ytkaepadkdohmpaa.JobRef
open Go.RowKit Go.Proofs.Ytkaepadkdohmpaa.JobPlain Go.Proofs.Ytkaepadkdohmpaa.Mem Go.Proofs.Ytkaepadkdohmpaa.JobMem
def BoolQ (b : Bool) (w : World) (e : Ending) (w' : World) : Prop := e = .returned (.bool b) ∧ w = w'
/-- The first k bytes are letters. -/
def LetTo (s : ByteArray) (k : Nat) : Prop := ∀ c ∈ s.data.toList.take k, letB c = true
theorem LetTo.zero (s : ByteArray) : LetTo s 0 := fun c hc => by simp at hc
theorem let_take (s : ByteArray) (k : Nat) (h : k < s.size) : s.data.toList.take (k + 1) = s.data.toList.take k ++ [s[k]] := by
  have h1 : k < s.data.toList.length := by simpa using h
  rw [List.take_succ_eq_append_getElem h1]; rfl
theorem LetTo.succ {s : ByteArray} {k : Nat} (h : LetTo s k) (hk : k < s.size) (hd : letB s[k] = true) : LetTo s (k + 1) := fun c hc => by
  rw [let_take s k hk] at hc
  rcases List.mem_append.1 hc with hc | hc
  · exact h c hc
  · simp at hc; subst hc; exact hd
theorem LetTo.all {s : ByteArray} {k : Nat} (h : LetTo s k) (hk : s.size ≤ k) : s.data.toList.all letB = true := by
  rw [List.all_eq_true]
  exact fun c hc => h c (by rwa [List.take_of_length_le (by simpa using hk)])
theorem name_no {s : ByteArray} {k : Nat} (hk : k < s.size) (hd : letB s[k] = false) : nameB s = false := by
  unfold nameB
  have : s.data.toList.all letB = false := by
    rw [List.all_eq_false]
    exact ⟨s[k], by rw [show s[k] = s.data.toList[k]'(by simpa using hk) from rfl]; exact List.getElem_mem _, by rw [hd]; decide⟩
  rw [this]; rfl
theorem let_ways (c : UInt8) : (decide ((c.toNat : Int) < 97) = true ∧ letB c = false) ∨ (decide ((c.toNat : Int) < 97) = false ∧ decide (122 < (c.toNat : Int)) = true ∧ letB c = false) ∨ (decide ((c.toNat : Int) < 97) = false ∧ decide (122 < (c.toNat : Int)) = false ∧ letB c = true) := by
  unfold letB
  by_cases h1 : (c.toNat : Int) < 97
  · exact .inl ⟨decide_eq_true h1, by rw [decide_eq_false (by omega)]; rfl⟩
  · by_cases h2 : 122 < (c.toNat : Int)
    · exact .inr (.inl ⟨decide_eq_false h1, decide_eq_true h2, by rw [decide_eq_false (p := c.toNat ≤ 122) (by omega), Bool.and_false]⟩)
    · exact .inr (.inr ⟨decide_eq_false h1, decide_eq_false h2, by rw [decide_eq_true (by omega), decide_eq_true (by omega)]; rfl⟩)
theorem name_ways (s : ByteArray) (h : s.data.toList.all letB = true) : (decide ((1 : Int) ≤ (s.size : Int)) = false ∧ nameB s = false) ∨ (decide ((1 : Int) ≤ (s.size : Int)) = true ∧ decide ((s.size : Int) ≤ 16) = false ∧ nameB s = false) ∨ (decide ((1 : Int) ≤ (s.size : Int)) = true ∧ decide ((s.size : Int) ≤ 16) = true ∧ nameB s = true) := by
  unfold nameB
  rw [h]
  by_cases h1 : (1 : Int) ≤ (s.size : Int)
  · by_cases h2 : (s.size : Int) ≤ 16
    · exact .inr (.inr ⟨decide_eq_true h1, decide_eq_true h2, by rw [decide_eq_true (by omega), decide_eq_true (by omega)]; rfl⟩)
    · exact .inr (.inl ⟨decide_eq_true h1, decide_eq_false h2, by rw [decide_eq_false (p := s.size ≤ 16) (by omega), Bool.and_false]; rfl⟩)
  · exact .inl ⟨decide_eq_false h1, by rw [decide_eq_false (p := 1 ≤ s.size) (by omega)]; rfl⟩
set_option maxHeartbeats 800000 in
theorem name7 (s : ByteArray) (w : World) (hs : s.size ≤ 9223372036854775807) : Calls Try.prog 44 #[.string s] w (BoolQ (nameB s) w) := by
  go_enter Try.func44, Try.ntmps44
  go_wp2_with fail
  go_loop [3] (fun i => ∃ k : Nat, k ≤ s.size ∧ i = .int .i64 k ∧ Hid (LetTo s k)) (fun i => s.size - (intOf i).toNat)
  case atStart => exact ⟨0, Nat.zero_le _, rfl, LetTo.zero s⟩
  case round =>
    obtain ⟨k, hk, rfl, HD⟩ := hrel
    by_cases hlt : k < s.size
    · have hways := let_ways s[k]
      have HNO := Lib.hid (fun h => name_no hlt h)
      have HNX := Lib.hid (fun h => HD.out.succ hlt h)
      rcases hways with ⟨h1, h2⟩ | ⟨h1, h3, h2⟩ | ⟨h1, h3, h2⟩
      all_goals
        have HR := Lib.hid h2
        clear h2
        go_wp2_with fail
        first
          | exact ⟨⟨k + 1, by omega, by go_num, HNX.out HR.out⟩, by simp [intOf]; omega⟩
          | (go_ret; rw [HNO.out HR.out]; exact ⟨rfl, rfl⟩)
    · have hways := name_ways s (HD.out.all (by omega))
      rcases hways with ⟨h1, h2⟩ | ⟨h1, h3, h2⟩ | ⟨h1, h3, h2⟩
      all_goals
        have HR := Lib.hid h2
        clear h2
        go_wp2_with fail
        go_ret
        rw [HR.out]
        exact ⟨rfl, rfl⟩
end Go.Proofs.Ytkaepadkdohmpaa.JobRef
namespace Go.Proofs.Ytkaepadkdohmpaa.JobRef
open Go.RowKit Go.Proofs.Ytkaepadkdohmpaa.JobPlain Go.Proofs.Ytkaepadkdohmpaa.Mem Go.Proofs.Ytkaepadkdohmpaa.JobMem
def BoolIs (b : Bool) (w : World) (e : Ending) (w' : World) : Prop := e = .returned (.bool b) ∧ Below w.heap.size w w'
theorem over_ways (j : Jb) (h : Fit j) (hs : 0 ≤ j.sub) : (ranB j = false ∧ overB j = false) ∨ (ranB j = true ∧ decide (j.start ≤ j.fin) = false ∧ overB j = false) ∨
    (ranB j = true ∧ decide (j.start ≤ j.fin) = true ∧ IntKind.i64.wrap (j.fin - j.start) = j.fin - j.start ∧ decide (j.fin - j.start ≤ j.est) = overB j) := by
  obtain ⟨h1, h2, _⟩ := h
  unfold overB
  cases hr : ranB j with
  | false => exact .inl ⟨rfl, rfl⟩
  | true =>
    have h3 := (ran_iff j).1 hr
    by_cases h4 : j.start ≤ j.fin
    · refine .inr (.inr ⟨rfl, decide_eq_true h4, by rw [IntKind.wrap_i64]; omega, ?_⟩)
      rw [decide_eq_true h4]; rfl
    · exact .inr (.inl ⟨rfl, decide_eq_false h4, by rw [decide_eq_false h4]; rfl⟩)
theorem over_wrap {j : Jb} (h : Fit j) (hs : 0 ≤ j.sub) (ho : overB j = true) : IntKind.i64.wrap (j.fin - j.start) = j.fin - j.start := by
  rcases over_ways j h hs with ⟨_, h1⟩ | ⟨_, _, h1⟩ | ⟨_, _, h1, _⟩
  · rw [ho] at h1; cases h1
  · rw [ho] at h1; cases h1
  · exact h1
theorem switch_ways (j : Jb) : ((j.state == 0) = true ∧ stateB j = noneB j) ∨ ((j.state == 0) = false ∧ (j.state == 1) = true ∧ stateB j = noneB j) ∨ ((j.state == 0) = false ∧ (j.state == 1) = false ∧ (j.state == 2) = true ∧ stateB j = (ranB j && (j.fin == 0))) ∨
    ((j.state == 0) = false ∧ (j.state == 1) = false ∧ (j.state == 2) = false ∧ (j.state == 3) = true ∧ stateB j = overB j) ∨
    ((j.state == 0) = false ∧ (j.state == 1) = false ∧ (j.state == 2) = false ∧ (j.state == 3) = false ∧ (j.state == 4) = true ∧ stateB j = (overB j && (j.fin - j.start == j.est))) ∨
    ((j.state == 0) = false ∧ (j.state == 1) = false ∧ (j.state == 2) = false ∧ (j.state == 3) = false ∧ (j.state == 4) = false ∧ (j.state == 5) = true ∧ stateB j = (noneB j || overB j)) ∨
    ((j.state == 0) = false ∧ (j.state == 1) = false ∧ (j.state == 2) = false ∧ (j.state == 3) = false ∧ (j.state == 4) = false ∧ (j.state == 5) = false ∧ stateB j = false) := by
  unfold stateB
  by_cases h0 : j.state = 0
  · exact .inl ⟨by simp [h0], by rw [if_pos h0]⟩
  by_cases h1 : j.state = 1
  · exact .inr (.inl ⟨by simp [h1], by simp [h1], by rw [if_neg h0, if_pos h1]⟩)
  by_cases h2 : j.state = 2
  · exact .inr (.inr (.inl ⟨by simp [h2], by simp [h2], by simp [h2], by rw [if_neg h0, if_neg h1, if_pos h2]⟩))
  by_cases h3 : j.state = 3
  · exact .inr (.inr (.inr (.inl ⟨by simp [h3], by simp [h3], by simp [h3], by simp [h3], by rw [if_neg h0, if_neg h1, if_neg h2, if_pos h3]⟩)))
  by_cases h4 : j.state = 4
  · exact .inr (.inr (.inr (.inr (.inl ⟨by simp [h4], by simp [h4], by simp [h4], by simp [h4], by simp [h4], by rw [if_neg h0, if_neg h1, if_neg h2, if_neg h3, if_pos h4]⟩))))
  by_cases h5 : j.state = 5
  · exact .inr (.inr (.inr (.inr (.inr (.inl ⟨by simp [h5], by simp [h5], by simp [h5], by simp [h5], by simp [h5], by simp [h5], by rw [if_neg h0, if_neg h1, if_neg h2, if_neg h3, if_neg h4, if_pos h5]⟩)))))
  · exact .inr (.inr (.inr (.inr (.inr (.inr ⟨by simpa using h0, by simpa using h1, by simpa using h2, by simpa using h3, by simpa using h4, by simpa using h5, by rw [if_neg h0, if_neg h1, if_neg h2, if_neg h3, if_neg h4, if_neg h5]⟩)))))
theorem may_no {j : Jb} (h : baseB j = false) : mayJ j = false := by unfold mayJ; rw [h]; rfl
set_option maxRecDepth 100000 in
set_option maxHeartbeats 6400000 in
theorem may7 (j : Jb) (w : World) (hf : Fit j) : Calls Try.prog 24 #[jobV j] w (BoolIs (mayJ j) w) := by
  have CN := Lib.hid (fun W => name7 j.user W hf.2.2)
  have HX := Lib.hid (JobBox.new w j 39)
  have HB := Lib.hid ((Below.refl w.heap.size w).alloc (Nat.le_refl _) (.cells #[.int .i64 j.id, .string j.user, .int .i64 j.width, .int .i64 j.est, .int .i64 j.prio, .int .i64 j.sub, .int .i64 j.state, .int .i64 j.start, .int .i64 j.fin] 39))
  have HF := Lib.hid hf
  have hbw := base_ways j
  unfold jobV jobA
  clear hf
  rcases hbw with ⟨a1, hb⟩ | ⟨a1, a2, hb⟩ | ⟨a1, a2, a3, hb⟩ | ⟨a1, a2, a3, a4, hb⟩ | ⟨a1, a2, a3, a4, a5, hb⟩ | ⟨a1, a2, a3, a4, a5, a6, hb⟩ | ⟨a1, a2, a3, a4, a5, a6, a7, hb⟩ | ⟨a1, a2, a3, a4, a5, a6, a7, a8, hb⟩ | ⟨a1, a2, a3, a4, a5, a6, a7, a8, a9, hb⟩ | ⟨a1, a2, a3, a4, a5, a6, a7, a8, a9, a10, hb⟩ | ⟨a1, a2, a3, a4, a5, a6, a7, a8, a9, a10, a11, hb⟩ | ⟨a1, a2, a3, a4, a5, a6, a7, a8, a9, a10, a11, hb⟩
  all_goals
    have HBB := Lib.hid hb
    clear hb
    try rw [a3] at CN
  all_goals try
    go_enter Try.func24, Try.ntmps24
    go_upto_region 1 with fail
    obtain ⟨y, y0, y1, y2, y3, y4, y5, y6, y7, y8, _, _, _, _, _, _, _, _, _⟩ := HX.out
    generalize w.alloc (.cells #[.int .i64 j.id, .string j.user, .int .i64 j.width, .int .i64 j.est, .int .i64 j.prio, .int .i64 j.sub, .int .i64 j.state, .int .i64 j.start, .int .i64 j.fin] 39) = W at *
    go_wp2_with (go_at_call 44; refine (CN.out _).mono ?_; rintro e w1 ⟨rfl, rfl⟩)
    go_ret
    rw [may_no HBB.out]
    exact ⟨rfl, HB.out⟩
  have HBS := Lib.hid ((base_iff j).1 HBB.out)
  have hs1 := HBS.out.s1
  have HMJ : Hid (mayJ j = stateB j) := by have := HBB.out; unfold mayJ; rw [this]; rfl
  have hst : (∃ N R O K : Bool, N = noneB j ∧ R = ranB j ∧ O = overB j ∧ K = (j.fin - j.start == j.est)) := ⟨_, _, _, _, rfl, rfl, rfl, rfl⟩
  go_enter Try.func24, Try.ntmps24
  go_upto_region 1 with fail
  obtain ⟨y, y0, y1, y2, y3, y4, y5, y6, y7, y8, _, _, _, _, _, _, _, _, _⟩ := HX.out
  generalize w.alloc (.cells #[.int .i64 j.id, .string j.user, .int .i64 j.width, .int .i64 j.est, .int .i64 j.prio, .int .i64 j.sub, .int .i64 j.state, .int .i64 j.start, .int .i64 j.fin] 39) = W at *
  go_upto_region 3 with (go_at_call 44; refine (CN.out _).mono ?_; rintro e w1 ⟨rfl, rfl⟩)
  clear a1 a2 a3 a4 a5 a6 a7 a8 a9 a10 a11 CN
  go_cut [3] (fun c wc => c = .bool (noneB j) ∧ W = wc)
  case first =>
    rcases and_ways (j.start == 0) (j.fin == 0) with ⟨h1, h2⟩ | ⟨h1, h3, h2⟩ | ⟨h1, h3, h2⟩
    all_goals
      have HR := Lib.hid h2
      clear h2
      go_wp2_with fail
      go_meet
      exact ⟨by unfold noneB; rw [HR.out], rfl⟩
  case rest =>
    obtain ⟨rfl, rfl⟩ := hcut
    go_upto_region 4 with fail
    go_cut [4] (fun c wc => c = .bool (ranB j) ∧ W = wc)
    case first =>
      rcases and_ways (decide (j.sub ≤ j.start)) (decide (j.start ≤ 1125899906842624)) with ⟨h1, h2⟩ | ⟨h1, h3, h2⟩ | ⟨h1, h3, h2⟩
      all_goals
        have HR := Lib.hid h2
        clear h2
        go_wp2_with fail
        go_meet
        exact ⟨by unfold ranB; rw [HR.out], rfl⟩
    case rest =>
      obtain ⟨rfl, rfl⟩ := hcut
      go_upto_region 5 with fail
      go_cut [5] (fun c wc => c = .bool (overB j) ∧ W = wc)
      case first =>
        have hways := over_ways j HF.out hs1
        generalize overB j = O at *
        generalize ranB j = R at *
        rcases hways with ⟨rfl, rfl⟩ | ⟨rfl, h1, rfl⟩ | ⟨rfl, h1, h2, h3⟩
        all_goals
          go_wp2_with fail
          go_meet
          exact ⟨rfl, rfl⟩
      case rest =>
        obtain ⟨rfl, rfl⟩ := hcut
        have hsw := switch_ways j
        have HOW := Lib.hid (fun h => over_wrap HF.out hs1 h)
        clear hst
        generalize noneB j = N at *
        generalize ranB j = R at *
        generalize overB j = O at *
        rcases hsw with ⟨s0, hs⟩ | ⟨s0, s1, hs⟩ | ⟨s0, s1, s2, hs⟩ | ⟨s0, s1, s2, s3, hs⟩ | ⟨s0, s1, s2, s3, s4, hs⟩ | ⟨s0, s1, s2, s3, s4, s5, hs⟩ | ⟨s0, s1, s2, s3, s4, s5, hs⟩
        · have HS := Lib.hid (HMJ.out.trans hs)
          clear hs
          go_wp2_with fail
          go_ret
          exact ⟨by rw [HS.out]; rfl, HB.out⟩
        · have HS := Lib.hid (HMJ.out.trans hs)
          clear hs
          go_wp2_with fail
          go_ret
          exact ⟨by rw [HS.out]; rfl, HB.out⟩
        · have HS := Lib.hid (HMJ.out.trans hs)
          clear hs
          cases R
          all_goals
            go_wp2_with fail
            go_ret
            exact ⟨by rw [HS.out]; rfl, HB.out⟩
        · have HS := Lib.hid (HMJ.out.trans hs)
          clear hs
          go_wp2_with fail
          go_ret
          exact ⟨by rw [HS.out]; rfl, HB.out⟩
        · have HS := Lib.hid (HMJ.out.trans hs)
          clear hs
          cases O
          · go_wp2_with fail
            go_ret
            exact ⟨by rw [HS.out]; rfl, HB.out⟩
          · have hw := HOW.out rfl
            go_wp2_with fail
            go_ret
            exact ⟨by rw [HS.out]; rfl, HB.out⟩
        · have HS := Lib.hid (HMJ.out.trans hs)
          clear hs
          cases N
          all_goals
            go_wp2_with fail
            go_ret
            exact ⟨by rw [HS.out]; rfl, HB.out⟩
        · have HS := Lib.hid (HMJ.out.trans hs)
          clear hs
          go_wp2_with fail
          go_ret
          exact ⟨by rw [HS.out]; rfl, HB.out⟩
end Go.Proofs.Ytkaepadkdohmpaa.JobRef
