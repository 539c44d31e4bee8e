/-
  The walks of package num's Get and of the document's Get and Begin.
-/
import Derived.Test.YtmcbbgelgoblhaaNumWalkD
namespace Go.Proofs.Ytmcbbgelgoblhaa.NumWalk
open Go.RowKit Go.Proofs.Ytmcbbgelgoblhaa.NumPlain

def formB (l : List UInt8) : Bool := !l.isEmpty && (l.all isDig && !(decide (1 < l.length) && l.head? == some 48))
theorem formB_iff (l : List UInt8) : formB l = true ↔ form l := by
  unfold formB form
  cases l with
  | nil => simp
  | cons a r =>
    simp only [List.isEmpty_cons, Bool.not_false, Bool.true_and, Bool.and_eq_true, List.all_eq_true, ne_eq, reduceCtorEq, not_false_eq_true, true_and]
    refine and_congr_right fun _ => ?_
    cases r with
    | nil => simp
    | cons b q => simp
theorem formB_yes {l : List UInt8} (h : form l) : formB l = true := (formB_iff l).2 h
theorem formB_no {l : List UInt8} (h : ¬ form l) : formB l = false := by
  cases hb : formB l with
  | false => rfl
  | true => exact absurd ((formB_iff l).1 hb) h
/-- What Get tells of a text. -/
def getE (l : List UInt8) : Int := if formB l then (if val l ≤ lim then 0 else 6) else 2
def getV (l : List UInt8) : Nat := if formB l then (if val l ≤ lim then val l else 0) else 0
theorem getE_bad {l : List UInt8} (h : ¬ form l) : getE l = 2 := by unfold getE; rw [formB_no h]; rfl
theorem getV_bad {l : List UInt8} (h : ¬ form l) : getV l = 0 := by unfold getV; rw [formB_no h]; rfl
theorem getE_ok {l : List UInt8} (h : ok l) : getE l = 0 := by unfold getE; rw [formB_yes h.1, if_pos rfl, if_pos h.2]
theorem getV_ok {l : List UInt8} (h : ok l) : getV l = val l := by unfold getV; rw [formB_yes h.1, if_pos rfl, if_pos h.2]
theorem getE_over {l : List UInt8} (h : form l) (g : lim < val l) : getE l = 6 := by unfold getE; rw [formB_yes h, if_pos rfl, if_neg (by omega)]
theorem getV_over {l : List UInt8} (h : form l) (g : lim < val l) : getV l = 0 := by unfold getV; rw [formB_yes h, if_pos rfl, if_neg (by omega)]
theorem getE_zero {l : List UInt8} : getE l = 0 ↔ ok l := by
  constructor
  · intro h
    by_cases hf : form l
    · by_cases hv : val l ≤ lim
      · exact ⟨hf, hv⟩
      · rw [getE_over hf (by omega)] at h; omega
    · rw [getE_bad hf] at h; omega
  · exact getE_ok

theorem areDigits_yes (s : ByteArray) (w : World) (hs : s.size ≤ maxLen) (h : form s.data.toList) :
    Calls Try.prog 15 #[.string s] w fun e w' => e = .returned (.bool true) ∧ w = w' :=
  (areDigits_is s w hs).mono fun _ _ ⟨b, he, hb, hw⟩ => ⟨by rw [he, hb.2 h], hw⟩
theorem areDigits_no (s : ByteArray) (w : World) (hs : s.size ≤ maxLen) (h : ¬ form s.data.toList) :
    Calls Try.prog 15 #[.string s] w fun e w' => e = .returned (.bool false) ∧ w = w' :=
  (areDigits_is s w hs).mono fun _ _ ⟨b, he, hb, hw⟩ => ⟨by
    cases b with
    | false => exact he
    | true => exact absurd (hb.1 rfl) h, hw⟩

theorem cut_end (s : ByteArray) : s.extract s.size s.size = ⟨#[]⟩ := by
  apply ByteArray.ext
  simp

theorem upto_whole (s : ByteArray) (w : World) (hs : s.size ≤ maxLen) (h : ok s.data.toList) :
    Calls Try.prog 12 #[.string s] w fun e w' => e = .returned (.tuple #[.int .i64 (val s.data.toList : Nat), .string ⟨#[]⟩]) ∧ ∃ n, w' = w.drewN n :=
  (upto_is s w hs).mono fun _ _ ⟨k, hk, he, hw⟩ => ⟨by
    have e1 : k = s.size := by rw [← len_data]; exact (upto_all hk h.1).2 h.2
    rw [he, e1, cut_end, List.take_of_length_le (by rw [len_data]; exact Nat.le_refl _)], hw⟩
theorem upto_over (s : ByteArray) (w : World) (hs : s.size ≤ maxLen) (h : form s.data.toList) (g : lim < val s.data.toList) :
    Calls Try.prog 12 #[.string s] w fun e w' => ∃ (v : Nat) (r : ByteArray), 0 < r.size ∧ e = .returned (.tuple #[.int .i64 v, .string r]) ∧ ∃ n, w' = w.drewN n :=
  (upto_is s w hs).mono fun _ _ ⟨k, hk, he, hw⟩ => ⟨_, _, by
    have h1 : k ≤ s.size := by rw [← len_data]; exact hk.1
    have h2 : k ≠ s.size := fun e => by
      have := (upto_all hk h).1 (by rw [len_data]; exact e)
      omega
    simp
    omega, he, hw⟩

set_option maxHeartbeats 400000 in
theorem get_is (s : ByteArray) (w : World) (hs : s.size ≤ maxLen) :
    Calls Try.prog 8 #[.string s] w fun e w' => e = .returned (.tuple #[.int .i64 (getV s.data.toList : Nat), .int .i64 (getE s.data.toList)]) ∧ ∃ n, w' = w.drewN n := by
  by_cases hf : form s.data.toList
  · by_cases hv : val s.data.toList ≤ lim
    · rw [getV_ok ⟨hf, hv⟩, getE_ok ⟨hf, hv⟩]
      have c1 := fun w => areDigits_yes s w hs hf
      have c2 := fun w => upto_whole s w hs ⟨hf, hv⟩
      have C1 := Lib.hid c1
      have C2 := Lib.hid c2
      clear c1 c2 hf hv
      go_enter Try.func8, Try.ntmps8
      go_wp2_with fail
      refine (C1.out _).mono ?_
      rintro e w' ⟨rfl, rfl⟩
      go_wp2_with fail
      refine (C2.out _).mono ?_
      rintro e w' ⟨rfl, n, rfl⟩
      go_wp2_with fail
      go_ret2
      exact ⟨rfl, _, rfl⟩
    · have hv' : lim < val s.data.toList := by omega
      rw [getV_over hf hv', getE_over hf hv']
      have c1 := fun w => areDigits_yes s w hs hf
      have c2 := fun w => upto_over s w hs hf hv'
      have C1 := Lib.hid c1
      have C2 := Lib.hid c2
      clear c1 c2 hf hv hv'
      go_enter Try.func8, Try.ntmps8
      go_wp2_with fail
      refine (C1.out _).mono ?_
      rintro e w' ⟨rfl, rfl⟩
      go_wp2_with fail
      refine (C2.out _).mono ?_
      rintro e w' ⟨v, r, hr, rfl, n, rfl⟩
      have hr2 := toList_ne hr
      go_wp2_with fail
      go_ret2
      exact ⟨rfl, _, rfl⟩
  · rw [getV_bad hf, getE_bad hf]
    have c1 := fun w => areDigits_no s w hs hf
    have C1 := Lib.hid c1
    clear c1 hf
    go_enter Try.func8, Try.ntmps8
    go_wp2_with fail
    refine (C1.out _).mono ?_
    rintro e w' ⟨rfl, rfl⟩
    go_wp2_with fail
    go_ret2
    exact ⟨rfl, 0, rfl⟩

/-- What the document's Get has found: the first k bytes are worth v. -/
def SumAt (s : ByteArray) (k v : Nat) : Prop := v = val (s.data.toList.take k)
theorem SumAt.succ {s : ByteArray} {k v : Nat} (h : SumAt s k v) (hk : k < s.size) : SumAt s (k + 1) (10 * v + (s[k].toNat - 48)) := by
  unfold SumAt; rw [take_data s k hk, val_snoc, h]
theorem SumAt.le {s : ByteArray} {k v : Nat} (h : SumAt s k v) (hd : ∀ c ∈ s.data.toList, isDig c = true) (hk : k ≤ 16) : v < 10000000000000000 := by
  rw [h]
  have h1 := val_bound (s.data.toList.take k) (fun c hc => hd c (List.mem_of_mem_take hc))
  have h2 : (s.data.toList.take k).length ≤ 16 := by rw [List.length_take]; omega
  have h3 := pow_mono_le h2
  have h4 : (10 : Nat) ^ 16 = 10000000000000000 := by decide
  omega
theorem SumAt.all {s : ByteArray} {k v : Nat} (h : SumAt s k v) (hk : s.size ≤ k) : v = val s.data.toList := by
  rw [h, List.take_of_length_le (by rw [len_data]; exact hk)]
theorem all_at {s : ByteArray} (h : ∀ c ∈ s.data.toList, isDig c = true) {k : Nat} (hk : k < s.size) : isDig s[k] = true := h _ (by
  rw [← at_data s k hk]; exact List.getElem_mem _)
theorem ret_ii {a b c d : Int} (h : a = b) (g : c = d) : Ending.returned (.tuple #[.int .i64 a, .int .i64 c]) = Ending.returned (.tuple #[.int .i64 b, .int .i64 d]) := by rw [h, g]

def RGetIs (s : ByteArray) (w : World) (e : Ending) (w' : World) : Prop :=
  e = .returned (.tuple #[.int .i64 (getV s.data.toList : Nat), .int .i64 (getE s.data.toList)]) ∧ w = w'
theorem RGetIs.bad {s : ByteArray} {w : World} (h : ¬ form s.data.toList) : RGetIs s w (.returned (.tuple #[.int .i64 0, .int .i64 2])) w :=
  ⟨by rw [getV_bad h, getE_bad h]; rfl, rfl⟩

set_option maxHeartbeats 800000 in
theorem rget_is (s : ByteArray) (w : World) (hs : s.size ≤ maxLen) :
    Calls Try.prog 11 #[.string s] w (RGetIs s w) := by
  unfold maxLen at hs
  go_enter Try.func11, Try.ntmps11
  go_wp2_with fail
  go_loop [4] (fun i => ∃ k : Nat, k ≤ s.size ∧ i = .int .i64 k ∧ Hid (DigTo s k)) (fun i => s.size - (intOf i).toNat)
  case atStart => exact ⟨0, Nat.zero_le _, rfl, DigTo.zero s⟩
  case round =>
    obtain ⟨k, hk, rfl, HD⟩ := hrel
    by_cases hlt : k < s.size
    · by_cases hd : isDig s[k] = true
      · have HDD := Lib.hid hd
        obtain ⟨hd1, hd2⟩ := dig_bounds hd
        clear hd
        go_wp2
        exact ⟨⟨k + 1, by omega, by go_num, HD.out.succ hlt HDD.out⟩, by simp [intOf]; omega⟩
      · have HDD := Lib.hid hd
        have hd1 := not_dig hd
        clear hd
        by_cases hd2 : (s[k].toNat : Int) < 48
        · clear hd1
          go_wp2
          go_ret2
          exact RGetIs.bad (not_form_at hlt HDD.out)
        · have hd3 : 57 < (s[k].toNat : Int) := by omega
          clear hd1
          go_wp2
          go_ret2
          exact RGetIs.bad (not_form_at hlt HDD.out)
    · have HA : Hid (∀ c ∈ s.data.toList, isDig c = true) := HD.out.all (by omega)
      have HK := Lib.hid hk
      clear HD
      by_cases h0 : 0 < s.size
      · have h0b : ((s.size : Int) == 0) = false := by rw [beq_eq_false_iff_ne]; omega
        by_cases hz : 1 < s.size ∧ ((s[0].toNat : Int) == 48) = true
        · obtain ⟨hz1, hz2⟩ := hz
          have hz3 : (1 : Int) < (s.size : Int) := by omega
          go_wp2_with fail
          go_ret2
          exact RGetIs.bad (fun h => absurd (h.2.2 (by simpa using hz1)) (by rw [head_data s h0, byte_eq hz2]; simp))
        · have HZ : Hid (form s.data.toList) := by
            refine ⟨data_ne h0, HA.out, fun h1 => ?_⟩
            rw [head_data s h0]
            intro h2
            simp only [Option.some.injEq] at h2
            exact hz ⟨by simpa using h1, by rw [h2]; rfl⟩
          have hcase : (s.size : Int) ≤ 1 ∨ ((1 : Int) < (s.size : Int) ∧ ((s[0].toNat : Int) == 48) = false) := by
            by_cases h1 : 1 < s.size
            · right
              refine ⟨by omega, ?_⟩
              cases hb : ((s[0].toNat : Int) == 48) with
              | false => rfl
              | true => exact absurd ⟨h1, hb⟩ hz
            · left; omega
          clear hz
          by_cases hlong : 16 < s.size
          · have hl2 : (16 : Int) < (s.size : Int) := by omega
            rcases hcase with hcase | ⟨hcase, hz⟩
            · exfalso; omega
            · go_wp2_with fail
              go_ret2
              have hv := val_long HZ.out (by rw [len_data]; exact hlong)
              exact ⟨ret_ii (by rw [getV_over HZ.out hv]; rfl) (by rw [getE_over HZ.out hv]), rfl⟩
          · have hl2 : ¬ (16 : Int) < (s.size : Int) := by omega
            rcases hcase with hcase | ⟨hcase, hz⟩
            all_goals
              go_wp2_with fail
              go_loop [5, 6] (fun a i => ∃ k v : Nat, k ≤ s.size ∧ a = .int .i64 v ∧ i = .int .i64 k ∧ v < 10000000000000000 ∧ Hid (SumAt s k v)) (fun _ i => s.size - (intOf i).toNat)
              case atStart => exact ⟨0, 0, Nat.zero_le _, rfl, rfl, by omega, rfl⟩
              case round =>
                obtain ⟨k, v, hk, rfl, rfl, hv, HS⟩ := hrel
                by_cases hlt : k < s.size
                · obtain ⟨hd1, hd2⟩ := dig_bounds (all_at HA.out hlt)
                  have hn : 10 * v + (s[k].toNat - 48) < 10000000000000000 := (HS.out.succ hlt).le HA.out (by omega)
                  go_wp2_with fail
                  exact ⟨⟨k + 1, 10 * v + (s[k].toNat - 48), by omega, by congr 1; omega, by go_num, hn, HS.out.succ hlt⟩, by simp [intOf]; omega⟩
                · by_cases hbig : 1125899906842624 < v
                  · have hb2 : (1125899906842624 : Int) < (v : Int) := by omega
                    go_wp2_with fail
                    go_ret2
                    have e := HS.out.all (by omega)
                    have hv := e ▸ hbig
                    exact ⟨ret_ii (by rw [getV_over HZ.out hv]; rfl) (by rw [getE_over HZ.out hv]), rfl⟩
                  · have hb2 : ¬ (1125899906842624 : Int) < (v : Int) := by omega
                    go_wp2_with fail
                    go_ret2
                    have e := HS.out.all (by omega)
                    have hv : val s.data.toList ≤ lim := by rw [← e]; show v ≤ 1125899906842624; omega
                    exact ⟨ret_ii (by rw [getV_ok ⟨HZ.out, hv⟩, ← e]) (by rw [getE_ok ⟨HZ.out, hv⟩]), rfl⟩
      · have := size_zero h0
        subst this
        go_wp2
        go_ret2
        exact RGetIs.bad (fun h => h.1 rfl)
end Go.Proofs.Ytmcbbgelgoblhaa.NumWalk
