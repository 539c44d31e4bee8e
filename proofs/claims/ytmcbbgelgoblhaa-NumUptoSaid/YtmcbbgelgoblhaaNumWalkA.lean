/-
  The walks of the small functions of package num and of the document's answers: isDigit, digit, Text.
-/
import Derived.Test.YtmcbbgelgoblhaaRows
import Derived.Test.YtmcbbgelgoblhaaNumPlain
import Derived.WalkKit
import Derived.WalkSpells
import Derived.WalkLawsBesides
import Derived.Lib.Hide
namespace Go.Proofs.Ytmcbbgelgoblhaa.NumWalk
open Go.RowKit Go.Proofs.Ytmcbbgelgoblhaa.NumPlain

set_option maxHeartbeats 400000 in
theorem isDigit_yes (b : Int) (w : World) (h0 : 48 ≤ b) (h1 : b ≤ 57) :
    Calls Try.prog 17 #[.int .u8 b] w fun e w' => e = .returned (.bool true) ∧ w = w' := by
  go_enter Try.func17, Try.ntmps17
  go_wp2
  go_ret
  exact ⟨by simp, rfl⟩

set_option maxHeartbeats 400000 in
theorem isDigit_no (b : Int) (w : World) (h : b < 48 ∨ 57 < b) :
    Calls Try.prog 17 #[.int .u8 b] w fun e w' => e = .returned (.bool false) ∧ w = w' := by
  by_cases h0 : 48 ≤ b
  · have h1 : 57 < b := by omega
    clear h
    go_enter Try.func17, Try.ntmps17
    go_wp2
    go_ret
    exact ⟨by simp; omega, rfl⟩
  · have h1 : b < 48 := by omega
    clear h h0
    go_enter Try.func17, Try.ntmps17
    go_wp2
    go_ret
    exact ⟨rfl, rfl⟩

set_option maxHeartbeats 400000 in
theorem digit_any (n : Int) (w : World) (h0 : 0 ≤ n) (h1 : n ≤ 1125899906842624) :
    Calls Try.prog 18 #[.int .i64 n] w fun e w' => e = .returned (.int .u8 (48 + n % 10)) ∧ w = w' := by
  go_enter Try.func18, Try.ntmps18
  go_wp2
  go_ret
  exact ⟨rfl, rfl⟩

def allDigits : ByteArray := ⟨#[48, 49, 50, 51, 52, 53, 54, 55, 56, 57]⟩
theorem cut_digits : ∀ k : Fin 10, allDigits.extract k.val (k.val + 1) = ⟨#[dByte k.val]⟩ := by decide +kernel
theorem cut_digit (n : Nat) : (⟨#[48, 49, 50, 51, 52, 53, 54, 55, 56, 57]⟩ : ByteArray).extract (n % 10) (n % 10 + 1) = ⟨#[dByte n]⟩ := by
  have h := cut_digits ⟨n % 10, Nat.mod_lt _ (by omega)⟩
  have e : dByte (n % 10) = dByte n := by unfold dByte; rw [Nat.mod_mod]
  simp only [allDigits, e] at h
  exact h

theorem mk_append (a b : List UInt8) : (⟨a.toArray⟩ ++ ⟨b.toArray⟩ : ByteArray) = ⟨(a ++ b).toArray⟩ := by
  apply ByteArray.ext
  simp

set_option maxHeartbeats 400000 in
theorem text_any (n : Nat) (w : World) (h1 : n ≤ 1125899906842624) :
    Calls Try.prog 7 #[.int .i64 n] w fun e w' => e = .returned (.string ⟨(txt n).toArray⟩) ∧ w = w' := by
  go_enter Try.func7, Try.ntmps7
  go_wp2
  go_loop [0, 4] (fun a t => ∃ (m : Nat) (l : List UInt8), m ≤ n ∧ a = .int .i64 m ∧ t = .string ⟨l.toArray⟩ ∧ txt n = preL m ++ l) (fun a _ => (intOf a).toNat)
  case atStart => exact ⟨n, [dByte n], Nat.le_refl _, rfl, by rw [cut_digit], pre_start n⟩
  case round =>
    obtain ⟨m, l, hm, rfl, rfl, hl⟩ := hrel
    have HL := Lib.hid hl
    clear hl
    have hlen : l.length ≤ 16 := by
      have h2 := txt_len (n := n) h1
      rw [HL.out, List.length_append] at h2
      omega
    by_cases h : 10 ≤ m
    · go_wp2
      have e := HL.out
      rw [pre_step h] at e
      exact ⟨⟨m / 10, dByte (m / 10) :: l, by omega, by go_num, by rw [cut_digit, mk_append]; rfl, e⟩, by simp [intOf]; omega⟩
    · go_wp2
      go_ret
      have e := HL.out
      rw [pre_end (by omega)] at e
      exact ⟨by rw [e]; rfl, rfl⟩
end Go.Proofs.Ytmcbbgelgoblhaa.NumWalk
