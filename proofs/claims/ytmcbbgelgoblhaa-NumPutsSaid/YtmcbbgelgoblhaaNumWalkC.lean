/-
  The walks of package num's areDigits and Upto, and of the document's Get: which texts are a number's digits, and how many bytes at a text's beginning are.
-/
import Derived.Test.YtmcbbgelgoblhaaNumWalkB
import Derived.Lib.Bytealg
import Derived.Lib.IndexBytes
namespace Go.Proofs.Ytmcbbgelgoblhaa.NumWalk
open Go.RowKit Go.Proofs.Ytmcbbgelgoblhaa.NumPlain

theorem len_data (s : ByteArray) : s.data.toList.length = s.size := by simp
theorem at_data (s : ByteArray) (k : Nat) (h : k < s.size) : s.data.toList[k]'(by simpa using h) = s[k] := rfl
theorem take_data (s : ByteArray) (k : Nat) (h : k < s.size) : s.data.toList.take (k + 1) = s.data.toList.take k ++ [s[k]] := take_snoc _ k (by simpa using h)
theorem head_data (s : ByteArray) (h : 0 < s.size) : s.data.toList.head? = some s[0] := by
  rw [List.head?_eq_getElem?]; exact List.getElem?_eq_getElem (by simpa using h)
theorem data_ne {s : ByteArray} (h : 0 < s.size) : s.data.toList ≠ [] := fun e => by
  have := congrArg List.length e
  rw [len_data, List.length_nil] at this
  omega
theorem toList_ne {s : ByteArray} (h : 0 < s.size) : s.toList.isEmpty = false := by
  rw [ByteArray.toList_eq]
  cases hl : s.data.toList with
  | nil => exact absurd hl (data_ne h)
  | cons a r => rfl
theorem size_zero {s : ByteArray} (h : ¬ 0 < s.size) : s = ⟨#[]⟩ := by
  apply ByteArray.ext
  apply Array.eq_empty_of_size_eq_zero
  show s.size = 0
  omega
theorem byte_eq {c : UInt8} (h : ((c.toNat : Int) == 48) = true) : c = 48 := eq_of_toNat (by have := beq_iff_eq.1 h; show c.toNat = 48; omega)
theorem byte_ne {c : UInt8} (h : ((c.toNat : Int) == 48) = false) : c ≠ 48 := fun e => by subst e; simp at h
theorem not_dig {c : UInt8} (h : ¬ isDig c = true) : (c.toNat : Int) < 48 ∨ 57 < (c.toNat : Int) := by
  have : ¬ (48 ≤ c.toNat ∧ c.toNat ≤ 57) := fun g => h (dig_of g.1 g.2)
  omega

/-- The first k bytes are digits. -/
def DigTo (s : ByteArray) (k : Nat) : Prop := ∀ c ∈ s.data.toList.take k, isDig c = true
theorem DigTo.zero (s : ByteArray) : DigTo s 0 := fun c hc => by simp at hc
theorem DigTo.succ {s : ByteArray} {k : Nat} (h : DigTo s k) (hk : k < s.size) (hd : isDig s[k] = true) : DigTo s (k + 1) := fun c hc => by
  rw [take_data s k hk] at hc
  rcases List.mem_append.1 hc with hc | hc
  · exact h c hc
  · simp at hc; subst hc; exact hd
theorem DigTo.all {s : ByteArray} {k : Nat} (h : DigTo s k) (hk : s.size ≤ k) : ∀ c ∈ s.data.toList, isDig c = true := fun c hc => h c (by rwa [List.take_of_length_le (by simpa using hk)])
theorem not_form_at {s : ByteArray} {k : Nat} (hk : k < s.size) (hd : ¬ isDig s[k] = true) : ¬ form s.data.toList := fun h => hd (h.2.1 _ (by
  rw [← at_data s k hk]; exact List.getElem_mem _))

/-- Is a text in the form of a number's digits? -/
def FormIs (s : ByteArray) (b : Bool) : Prop := (b = true ↔ form s.data.toList)

theorem FormIs.no {s : ByteArray} (h : ¬ form s.data.toList) : FormIs s false := Iff.intro (fun e => absurd e (by simp)) (fun g => absurd g h)
theorem FormIs.yes {s : ByteArray} (h : form s.data.toList) : FormIs s true := ⟨fun _ => h, fun _ => rfl⟩

def AreIs (s : ByteArray) (w : World) (e : Ending) (w' : World) : Prop := ∃ b, e = .returned (.bool b) ∧ FormIs s b ∧ w = w'

set_option maxHeartbeats 400000 in
theorem areDigits_is (s : ByteArray) (w : World) (hs : s.size ≤ maxLen) :
    Calls Try.prog 15 #[.string s] w (AreIs s w) := by
  unfold maxLen at hs
  by_cases h0 : 0 < s.size
  · have he := toList_ne h0
    by_cases hz : 1 < s.size ∧ ((s[0].toNat : Int) == 48) = true
    · obtain ⟨hz1, hz2⟩ := hz
      have hz3 : (1 : Int) < (s.size : Int) := by omega
      go_enter Try.func15, Try.ntmps15
      go_wp2_with fail
      go_ret
      exact ⟨false, rfl, FormIs.no (fun h => absurd (h.2.2 (by simpa using hz1)) (by rw [head_data s h0, byte_eq hz2]; simp)), rfl⟩
    · have HZ : Hid (1 < s.data.toList.length → s.data.toList.head? ≠ some 48) := fun h1 => by
        rw [head_data s h0]
        intro h2
        simp only [Option.some.injEq] at h2
        exact hz ⟨by simpa using h1, by rw [h2]; rfl⟩
      have hcase : (s.size : Int) ≤ 1 ∨ ((1 : Int) < (s.size : Int) ∧ ((s[0].toNat : Int) == 48) = false) := by
        by_cases h1 : 1 < s.size
        · right
          refine ⟨by omega, ?_⟩
          cases hb : ((s[0].toNat : Int) == 48) with
          | false => rfl
          | true => exact absurd ⟨h1, hb⟩ hz
        · left; omega
      clear hz
      rcases hcase with hcase | ⟨hcase, hz⟩
      all_goals
        go_enter Try.func15, Try.ntmps15
        go_wp2_with fail
        go_loop [18] (fun i => ∃ k : Nat, k ≤ s.size ∧ i = .int .i64 k ∧ Hid (DigTo s k)) (fun i => s.size - (intOf i).toNat)
        case atStart => exact ⟨0, Nat.zero_le _, rfl, DigTo.zero s⟩
        case round =>
          obtain ⟨k, hk, rfl, HD⟩ := hrel
          by_cases hlt : k < s.size
          · by_cases hd : isDig s[k] = true
            · have HDD := Lib.hid hd
              obtain ⟨hd1, hd2⟩ := dig_bounds hd
              clear hd
              go_wp2_with (go_at_call 17; refine (isDigit_yes _ _ (by omega) (by omega)).mono ?_; rintro e w' ⟨rfl, rfl⟩)
              exact ⟨⟨k + 1, by omega, by go_num, HD.out.succ hlt HDD.out⟩, by simp [intOf]; omega⟩
            · have HDD := Lib.hid hd
              have hd1 := not_dig hd
              clear hd
              go_wp2_with (go_at_call 17; refine (isDigit_no _ _ (by omega)).mono ?_; rintro e w' ⟨rfl, rfl⟩)
              go_ret
              exact ⟨false, rfl, FormIs.no (not_form_at hlt HDD.out), rfl⟩
          · go_wp2
            go_ret
            exact ⟨true, rfl, FormIs.yes ⟨data_ne h0, HD.out.all (by omega), HZ.out⟩, rfl⟩
  · have := size_zero h0
    subst this
    go_enter Try.func15, Try.ntmps15
    go_wp2
    go_ret
    exact ⟨false, rfl, FormIs.no (fun h => h.1 rfl), rfl⟩
end Go.Proofs.Ytmcbbgelgoblhaa.NumWalk
