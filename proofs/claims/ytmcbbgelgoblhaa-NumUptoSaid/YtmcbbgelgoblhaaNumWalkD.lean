/-
  The walk of package num's Upto: the number that a text begins with, and what is left.
-/
import Derived.Test.YtmcbbgelgoblhaaNumWalkC
namespace Go.Proofs.Ytmcbbgelgoblhaa.NumWalk
open Go.RowKit Go.Proofs.Ytmcbbgelgoblhaa.NumPlain

/-- Where Upto stands: the first k bytes are worth v. -/
def UpAt (s : ByteArray) (k v : Nat) : Prop := v = val (s.data.toList.take k) ∧ (k = 0 ∨ (ok (s.data.toList.take k) ∧ s.data.toList.head? ≠ some 48))

theorem UpAt.start (s : ByteArray) : UpAt s 0 0 := ⟨rfl, .inl rfl⟩
theorem UpAt.le {s : ByteArray} {k v : Nat} (h : UpAt s k v) : v ≤ 1125899906842624 := by
  obtain ⟨h1, h2⟩ := h
  rcases h2 with h2 | h2
  · subst h2; rw [h1]; exact Nat.zero_le _
  · rw [h1]; exact h2.1.2
theorem UpAt.next {s : ByteArray} {k v : Nat} (h : UpAt s k v) (hk : k < s.size) : val (s.data.toList.take (k + 1)) = 10 * v + (s[k].toNat - 48) := by
  rw [take_data s k hk, val_snoc, h.1]
theorem UpAt.zero_of {s : ByteArray} {k : Nat} (h : UpAt s k 0) : k = 0 := by
  rcases h.2 with h2 | h2
  · exact h2
  · by_cases hk : k = 0
    · exact hk
    · exfalso
      have hf := h2.1.1
      have h3 : (s.data.toList.take k).head? = s.data.toList.head? := by
        rw [List.head?_take, if_neg hk]
      have := val_pos hf.2.1 hf.1 (by rw [h3]; exact h2.2)
      rw [← h.1] at this
      omega
theorem UpAt.step {s : ByteArray} {k v : Nat} (h : UpAt s k v) (hk : k < s.size) (hd : isDig s[k] = true) (hv : 10 * v + (s[k].toNat - 48) ≤ 1125899906842624) (hp : ¬ 10 * v + (s[k].toNat - 48) = 0) :
    UpAt s (k + 1) (10 * v + (s[k].toNat - 48)) := by
  have hh : s.data.toList.head? ≠ some 48 := by
    rcases h.2 with h2 | h2
    · subst h2
      intro e
      rw [head_data s hk] at e
      have e2 : s[0] = 48 := by simpa using e
      have h0 := h.1
      simp [val] at h0
      subst h0
      apply hp
      rw [e2]
      rfl
    · exact h2.2
  refine ⟨(h.next hk).symm, .inr ⟨⟨⟨take_ne (by omega) (by rw [len_data]; omega), ?_, ?_⟩, by rw [h.next hk]; exact hv⟩, hh⟩⟩
  · intro c hc
    rw [take_data s k hk] at hc
    rcases List.mem_append.1 hc with hc | hc
    · rcases h.2 with h2 | h2
      · subst h2; simp at hc
      · exact h2.1.1.2.1 c hc
    · simp at hc; subst hc; exact hd
  · intro _
    rw [List.head?_take, if_neg (by omega)]
    exact hh
theorem UpAt.here {s : ByteArray} {k v : Nat} (h : UpAt s k v) (hk : k ≤ s.size) (hno : k < s.size → ¬ ok (s.data.toList.take (k + 1))) : Upto s.data.toList k := by
  refine ⟨by simpa using hk, ?_, fun g => hno (by simpa using g)⟩
  rcases h.2 with h2 | h2
  · exact .inl h2
  · exact .inr h2.1
theorem no_dig {s : ByteArray} {k : Nat} (hk : k < s.size) (hd : ¬ isDig s[k] = true) : ¬ ok (s.data.toList.take (k + 1)) := fun h => hd (h.1.2.1 _ (by
  rw [take_data s k hk]; simp))
theorem no_big {s : ByteArray} {k v : Nat} (h : UpAt s k v) (hk : k < s.size) (hv : 1125899906842624 < 10 * v + (s[k].toNat - 48)) : ¬ ok (s.data.toList.take (k + 1)) := fun g => by
  have h1 := g.2
  rw [h.next hk] at h1
  unfold lim at h1
  omega
theorem lone_zero {s : ByteArray} (hk : 0 < s.size) (hd : isDig s[0] = true) (hz : s[0].toNat - 48 = 0) : Upto s.data.toList 1 ∧ val (s.data.toList.take 1) = 0 := by
  have hb := dig_bounds hd
  have e48 : s[0] = 48 := eq_of_toNat (by show s[0].toNat = 48; omega)
  have ht : s.data.toList.take 1 = [48] := by
    have := take_data s 0 hk
    rw [this, e48]; rfl
  refine ⟨⟨by simp; omega, .inr ?_, fun h1 g => ?_⟩, by rw [ht]; rfl⟩
  · rw [ht]
    exact ⟨⟨by simp, fun c hc => by simp at hc; subst hc; rfl, fun h => by simp at h⟩, by decide⟩
  · refine g.1.2.2 ?_ ?_
    · rw [List.length_take]
      have : s.data.toList.length = s.size := len_data s
      omega
    · rw [List.head?_take, if_neg (by omega), head_data s hk, e48]

theorem ret2 {a b : Int} {s : ByteArray} (h : a = b) : Ending.returned (.tuple #[.int .i64 a, .string s]) = Ending.returned (.tuple #[.int .i64 b, .string s]) := by rw [h]

/-- What Upto answers. -/
def UptoIs (s : ByteArray) (w : World) (e : Ending) (w' : World) : Prop :=
  ∃ k, Upto s.data.toList k ∧ e = .returned (.tuple #[.int .i64 (val (s.data.toList.take k) : Nat), .string (s.extract k s.size)]) ∧ ∃ n, w' = w.drewN n

set_option maxHeartbeats 400000 in
theorem upto_is (s : ByteArray) (w : World) (hs : s.size ≤ maxLen) :
    Calls Try.prog 12 #[.string s] w (UptoIs s w) := by
  unfold maxLen at hs
  go_enter Try.func12, Try.ntmps12
  go_wp2_with fail
  go_loop [2, 4] (fun a i => ∃ k v : Nat, k ≤ s.size ∧ a = .int .i64 v ∧ i = .int .i64 k ∧ v ≤ 1125899906842624 ∧ Hid (UpAt s k v)) (fun _ i => s.size - (intOf i).toNat)
  case atStart => exact ⟨0, 0, Nat.zero_le _, rfl, rfl, by omega, UpAt.start s⟩
  case round =>
    obtain ⟨k, v, hk, rfl, rfl, hv, HU⟩ := hrel
    by_cases hlt : k < s.size
    · by_cases hd : isDig s[k] = true
      · have HDD := Lib.hid hd
        obtain ⟨hd1, hd2⟩ := dig_bounds hd
        clear hd
        by_cases hbig : 1125899906842624 < 10 * v + (s[k].toNat - 48)
        · have hno := no_big HU.out hlt hbig
          have HN := Lib.hid hno
          clear hno
          have hbig2 : 1125899906842624 < (v : Int) * 10 + ((s[k].toNat : Int) - 48) := by omega
          go_wp2_with (go_at_call 17; refine (isDigit_yes _ _ (by omega) (by omega)).mono ?_; rintro e w' ⟨rfl, rfl⟩)
          go_quiet (fail)
          go_wp2
          go_ret2
          exact ⟨k, HU.out.here hk (fun _ => HN.out), by rw [← HU.out.1]; rfl, _, rfl⟩
        · have hbig2 : (v : Int) * 10 + ((s[k].toNat : Int) - 48) ≤ 1125899906842624 := by omega
          by_cases hz : 10 * v + (s[k].toNat - 48) = 0
          · have hv0 : v = 0 := by omega
            subst hv0
            have hk0 := HU.out.zero_of
            subst hk0
            have HZ := Lib.hid (lone_zero hlt HDD.out (by omega))
            have hc48 : s[0].toNat = 48 := by omega
            have HC := Lib.hid hc48
            have hc1 : s[0].toNat ≤ 48 := by omega
            clear hz hc48 hbig hbig2
            go_wp2_with (go_at_call 17; refine (isDigit_yes _ _ (by omega) (by omega)).mono ?_; rintro e w' ⟨rfl, rfl⟩)
            go_quiet (fail)
            go_wp2
            go_ret2
            exact ⟨1, HZ.out.1, ret2 (by rw [HZ.out.2]; have := HC.out; omega), _, rfl⟩
          · have HZ := Lib.hid hz
            have hz2 : ((v : Int) * 10 + ((s[k].toNat : Int) - 48) == 0) = false := by rw [beq_eq_false_iff_ne]; omega
            clear hz
            go_wp2_with (go_at_call 17; refine (isDigit_yes _ _ (by omega) (by omega)).mono ?_; rintro e w' ⟨rfl, rfl⟩)
            exact ⟨⟨k + 1, 10 * v + (s[k].toNat - 48), by omega, by congr 1; omega, by go_num, by omega, HU.out.step hlt HDD.out (by omega) HZ.out⟩, by simp [intOf]; omega⟩
      · have HDD := Lib.hid hd
        have hd1 := not_dig hd
        clear hd
        go_wp2_with (go_at_call 17; refine (isDigit_no _ _ (by omega)).mono ?_; rintro e w' ⟨rfl, rfl⟩)
        go_quiet (fail)
        go_wp2
        go_ret2
        exact ⟨k, HU.out.here hk (fun _ => no_dig hlt HDD.out), by rw [← HU.out.1]; rfl, _, rfl⟩
    · go_wp2_with fail
      go_quiet (fail)
      go_wp2
      go_ret2
      exact ⟨k, HU.out.here hk (fun g => absurd g hlt), by rw [← HU.out.1]; rfl, _, rfl⟩
end Go.Proofs.Ytmcbbgelgoblhaa.NumWalk
