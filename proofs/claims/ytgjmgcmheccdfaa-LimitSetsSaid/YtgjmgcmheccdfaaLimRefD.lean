/-
  The walk of the document's answer for layer 10: Left, of limits that may be.
-/
import Derived.Test.YtgjmgcmheccdfaaLimRefA
import Derived.Deep.RegionHeld3
namespace Go.Proofs.Ytgjmgcmheccdfaa.LimRef
open Go.RowKit Go.Proofs.Ytgjmgcmheccdfaa.JobPlain Go.Proofs.Ytgjmgcmheccdfaa.ApiPlain Go.Proofs.Ytgjmgcmheccdfaa.LimPlain Go.Proofs.Ytgjmgcmheccdfaa.Mem Go.Proofs.Ytgjmgcmheccdfaa.ApiMem
def nthU (u : List Use) (k : Nat) : Use := u.getD k noUse
theorem nthU_at {u : List Use} {k : Nat} (h : k < u.length) : nthU u k = u[k] := by unfold nthU; simp [List.getD, h]
theorem uses_nth {l : List Use} {w w' : World} {A : Option Addr} (h : ∀ i (hi : i < l.length), ∃ a, A = some a ∧ UseAt w (a.add (i * 3)) l[i]) (hb : Below w.heap.size w w') {k : Nat} (hk : k < l.length) : ∃ a, A = some a ∧ UseAt w' (a.add (k * 3)) (nthU l k) := by
  obtain ⟨a, ea, h1⟩ := h k hk
  exact ⟨a, ea, by rw [nthU_at hk]; exact h1.below hb⟩
theorem limOf_some {l : List Lim} (hg : goodTo l l.length = true) {m : Nat} (hm : m < l.length) {s : ByteArray} (h : sameU (nthL l m).user s = true) : limOf l s = some (nthL l m) := by
  cases hy : limOf l s with
  | none =>
    unfold limOf at hy
    rw [List.find?_eq_none] at hy
    have := hy (nthL l m) (by rw [nthL_at hm]; exact List.getElem_mem hm)
    rw [h] at this
    exact absurd rfl this
  | some y =>
    unfold limOf at hy
    have h1 := List.find?_some hy
    have h2 := List.mem_of_find?_eq_some hy
    obtain ⟨i, hi, rfl⟩ := List.mem_iff_getElem.1 h2
    rw [← nthL_at hi] at h1
    have := good_one hg hi hm h1 h
    subst this
    rw [nthL_at hi]
theorem limOf_none {l : List Lim} {s : ByteArray} (h : ∀ i, i < l.length → sameU (nthL l i).user s = false) : limOf l s = none := by
  unfold limOf
  rw [List.find?_eq_none]
  intro y hy
  obtain ⟨i, hi, rfl⟩ := List.mem_iff_getElem.1 hy
  rw [← nthL_at hi, h i hi]
  decide
def NoUse (u : List Use) (s : ByteArray) (j : Nat) : Prop := ∀ i, i < j → i < u.length → sameU (nthU u i).user s = false
theorem NoUse.next {u : List Use} {s : ByteArray} {j : Nat} (h : NoUse u s j) (hj : sameU (nthU u j).user s = false) : NoUse u s (j + 1) := fun i hi hl => by
  rcases Nat.lt_or_ge i j with h1 | h1
  · exact h i h1 hl
  · obtain rfl : i = j := by omega
    exact hj
theorem NoUse.none_ {u : List Use} {s : ByteArray} {j : Nat} (h : NoUse u s j) (hj : u.length ≤ j) : useOf u s = none := by
  unfold useOf
  rw [List.find?_eq_none]
  intro y hy
  obtain ⟨i, hi, rfl⟩ := List.mem_iff_getElem.1 hy
  rw [← nthU_at hi, h i (by omega) hi]
  decide
theorem NoUse.some_ {u : List Use} {s : ByteArray} {j : Nat} (h : NoUse u s j) (hj : j < u.length) (hs : sameU (nthU u j).user s = true) : useOf u s = some (nthU u j) := by
  unfold useOf
  rw [List.find?_eq_some_iff_append]
  refine ⟨hs, u.take j, u.drop (j + 1), ?_, fun y hy => ?_⟩
  · rw [nthU_at hj, List.getElem_cons_drop, List.take_append_drop]
  · obtain ⟨i, hi, rfl⟩ := List.mem_iff_getElem.1 hy
    rw [List.length_take] at hi
    rw [List.getElem_take, ← nthU_at (by omega), h i (by omega) (by omega)]
    rfl
/-- How Left stands. -/
def LeftAt (l : List Lim) (u : List Use) (s : ByteArray) (k : Nat) (J P : Int) : Prop :=
  ((∀ i, i < k → i < l.length → sameU (nthL l i).user s = false) ∧ J = 100 ∧ P = 256) ∨ ∃ m, m < k ∧ m < l.length ∧ sameU (nthL l m).user s = true ∧ useOf u s = none ∧ J = (nthL l m).jobs ∧ P = (nthL l m).procs
theorem LeftAt.skip {l : List Lim} {u : List Use} {s : ByteArray} {k : Nat} {J P : Int} (h : LeftAt l u s k J P) (hk : sameU (nthL l k).user s = false) : LeftAt l u s (k + 1) J P := by
  rcases h with ⟨h1, h2⟩ | ⟨m, h1, h2⟩
  · refine .inl ⟨fun i hi hl => ?_, h2⟩
    rcases Nat.lt_or_ge i k with h3 | h3
    · exact h1 i h3 hl
    · obtain rfl : i = k := by omega
      exact hk
  · exact .inr ⟨m, by omega, h2⟩
theorem left_done {l : List Lim} {u : List Use} {s : ByteArray} {J P : Int} (hg : goodTo l l.length = true) (h : LeftAt l u s l.length J P) : leftL l u s = (J, P) := by
  unfold leftL
  rcases h with ⟨h1, rfl, rfl⟩ | ⟨m, h1, h2, h3, h4, rfl, rfl⟩
  · rw [limOf_none (fun i hi => h1 i hi hi)]
  · rw [limOf_some hg h2 h3, h4]
theorem left_use {l : List Lim} {u : List Use} {s : ByteArray} (hg : goodTo l l.length = true) {m j : Nat} (hm : m < l.length) (h : sameU (nthL l m).user s = true) (hu : useOf u s = some (nthU u j)) : leftL l u s = (lessN (nthL l m).jobs (nthU u j).jobs, lessN (nthL l m).procs (nthU u j).procs) := by
  unfold leftL
  rw [limOf_some hg hm h, hu]
def TwoSays (p : Int × Int) (w : World) (e : Ending) (w' : World) : Prop := e = .returned (.tuple #[.int .i64 p.1, .int .i64 p.2]) ∧ Below w.heap.size w w'
theorem two_of {p : Int × Int} {a b : Int} (h : p = (a, b)) {w w' : World} (hb : Below w.heap.size w w') : TwoSays p w (.returned (.tuple #[.int .i64 a, .int .i64 b])) w' := by subst h; exact ⟨rfl, hb⟩
set_option maxRecDepth 100000 in
set_option maxHeartbeats 6400000 in
theorem left10 (l : List Lim) (us : List Use) (s : ByteArray) (v u : Value) (w : World) (hv : limL.Is l w v) (hu : useL.Is us w u) (hl : l.length ≤ 1000) (hul : us.length ≤ 1000) (hg : goodTo l l.length = true) : Calls Try.prog 16 #[v, u, .string s] w (TwoSays (leftL l us s) w) := by
  obtain ⟨A, c, rfl, hn, hA⟩ := lims_open hv
  obtain ⟨B, d, rfl, hm, hB⟩ := uses_open hu
  have HA := Lib.hid hA
  have HBU := Lib.hid hB
  have HG := Lib.hid hg
  have HD := Lib.hid (fun J P h => left_done (u := us) (s := s) (J := J) (P := P) hg h)
  clear hA hB hv hu hg
  generalize hL : leftL l us s = R at *
  have HL := Lib.hid hL
  clear hL
  go_enter Try.func16, Try.ntmps16
  go_wp2_with fail
  go_loopw [8, 9, 10] (fun a b i wr => ∃ (k : Nat) (J P : Int), a = .int .i64 J ∧ b = .int .i64 P ∧ i = .int .i64 k ∧ k ≤ l.length ∧ Hid (LeftAt l us s k J P) ∧ Hid (Below w.heap.size w wr)) (fun _ _ i _ => l.length - (intOf i).toNat)
  case atStart => exact ⟨0, 100, 256, rfl, rfl, rfl, Nat.zero_le _, .inl ⟨fun i hi => absurd hi (Nat.not_lt_zero _), rfl, rfl⟩, Below.refl _ _⟩
  case round =>
    obtain ⟨k, J, P, rfl, rfl, rfl, hk, HLA, HBL⟩ := hrel
    by_cases hlt : k < l.length
    · obtain ⟨ad, rfl, hat⟩ := lims_nth HA.out HBL.out hlt
      have HAT := Lib.hid hat
      have hone := (oneL_iff _).1 (good_is HG.out hlt)
      obtain ⟨_, o1, o2, o3, o4⟩ := hone
      have i0 : (0 : Int) ≤ (k : Int) := Int.natCast_nonneg _
      have i1 : (k : Int) < (l.length : Int) := by omega
      have HSKIP := Lib.hid (fun h => HLA.out.skip h)
      have HNONE : Hid (sameU (nthL l k).user s = true → useOf us s = none → LeftAt l us s (k + 1) (nthL l k).jobs (nthL l k).procs) := fun h h2 => .inr ⟨k, by omega, hlt, h, h2, rfl, rfl⟩
      have HUSE : Hid (sameU (nthL l k).user s = true → ∀ j, useOf us s = some (nthU us j) → R = (lessN (nthL l k).jobs (nthU us j).jobs, lessN (nthL l k).procs (nthU us j).procs)) := fun h j h2 => HL.out.symm.trans (left_use HG.out hlt h h2)
      clear HLA HL HG HD hat
      generalize nthL l k = y at *
      obtain ⟨p, p0, p1, p2⟩ := HAT.out
      cases hS : (y.user.toList == s.toList) with
      | false =>
        have HX := Lib.hid (HSKIP.out hS)
        clear HSKIP HNONE HUSE
        go_wp2_with fail
        exact ⟨⟨k + 1, J, P, rfl, rfl, by go_num, by omega, HX.out, HBL.out⟩, by simp [intOf] <;> omega⟩
      | true =>
        have HNONE := Lib.hid (HNONE.out hS)
        have HUSE := Lib.hid (HUSE.out hS)
        clear HSKIP
        go_wp2_with fail
        go_quiet (fail)
        have HBQ := Lib.hid (below_drewN HBL.out nq)
        generalize wr.drewN nq = wo at *
        clear p p0 p1 p2 HAT HBL
        go_wp2_with fail
        go_loopw [11] (fun j wr => ∃ m : Nat, j = .int .i64 m ∧ m ≤ us.length ∧ Hid (NoUse us s m) ∧ Hid (Below w.heap.size w wr)) (fun j _ => us.length - (intOf j).toNat)
        case atStart => exact ⟨0, rfl, Nat.zero_le _, fun i hi => absurd hi (Nat.not_lt_zero _), HBQ.out⟩
        case round =>
          obtain ⟨m, rfl, hm2, HNU, HBI⟩ := hrel
          by_cases hml : m < us.length
          · obtain ⟨ad2, rfl, hat⟩ := uses_nth HBU.out HBI.out hml
            have HAT := Lib.hid hat
            have HNX := Lib.hid (fun h => HNU.out.next h)
            have HSO := Lib.hid (fun h => HUSE.out m (HNU.out.some_ hml h))
            have i2 : (0 : Int) ≤ (m : Int) := Int.natCast_nonneg _
            have i3 : (m : Int) < (us.length : Int) := by omega
            clear hat HNU
            generalize nthU us m = z at *
            obtain ⟨q, q0, q1, q2⟩ := HAT.out
            cases hS2 : (z.user.toList == s.toList) with
            | false =>
              have HX := Lib.hid (HNX.out hS2)
              clear HNX HSO
              go_wp2_with fail
              exact ⟨⟨m + 1, by go_num, by omega, HX.out, HBI.out⟩, by simp [intOf] <;> omega⟩
            | true =>
              have HX := Lib.hid (HSO.out hS2)
              have C1 := Lib.hid (fun W => less10 y.jobs z.jobs W ⟨o1, by omega⟩)
              have C2 := Lib.hid (fun W => less10 y.procs z.procs W ⟨o3, by omega⟩)
              have Q1 := calm_cell (a := ⟨_, _, none⟩) q q1
              have Q2 := calm_cell (a := ⟨_, _, none⟩) q q2
              generalize lessN y.jobs z.jobs = N1 at *
              generalize lessN y.procs z.procs = N2 at *
              clear HNX HSO
              go_wp2_with fail
              refine wp_region_calm (by kernel_rfl) (by kernel_rfl) ?_
              repeat (first | go_big_quiet_step ((first | (go_at_call_of 27 (Value.int .i64 y.jobs); exact calm_same (v := .int .i64 N1) (C1.out _)) | (go_at_call_of 27 (Value.int .i64 y.procs); exact calm_same (v := .int .i64 N2) (C2.out _)))) | quiet_step ((first | (go_at_call_of 27 (Value.int .i64 y.jobs); exact calm_same (v := .int .i64 N1) (C1.out _)) | (go_at_call_of 27 (Value.int .i64 y.procs); exact calm_same (v := .int .i64 N2) (C2.out _)))))
              refine wpQuiet_nil ?_
              intro w1 hw
              have hb1 := lull_below hw
              clear hw
              have HB1 := Lib.hid (HBI.out.trans (hb1.mono HBI.out.size))
              clear hb1 Q1 Q2
              go_wp2_with fail
              go_ret2
              exact two_of HX.out HB1.out
          · have HX := Lib.hid (HNONE.out (HNU.out.none_ (by omega)))
            go_wp2_with fail
            exact ⟨⟨k + 1, _, _, rfl, rfl, by go_num, by omega, HX.out, HBI.out⟩, by simp [intOf] <;> omega⟩
    · obtain rfl : k = l.length := by omega
      have HX := Lib.hid (HD.out J P HLA.out)
      go_wp2_with fail
      go_ret2
      exact two_of HX.out HBL.out
end Go.Proofs.Ytgjmgcmheccdfaa.LimRef
