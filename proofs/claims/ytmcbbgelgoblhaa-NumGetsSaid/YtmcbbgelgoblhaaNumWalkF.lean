/-
  The walks of the document's Begin and of package num's Pad.
-/
import Derived.Test.YtmcbbgelgoblhaaNumWalkE
import Derived.Test.YtmcbbgelgoblhaaShelf
namespace Go.Proofs.Ytmcbbgelgoblhaa.NumWalk
open Go.RowKit Go.Proofs.Ytmcbbgelgoblhaa.NumPlain

theorem cut_data (s : ByteArray) (k : Nat) : (s.extract 0 k).data.toList = s.data.toList.take k := by simp
theorem rget_cut (s : ByteArray) (k : Nat) (w : World) (hs : s.size ≤ maxLen) :
    Calls Try.prog 11 #[.string (s.extract 0 k)] w fun e w' =>
      e = .returned (.tuple #[.int .i64 (getV (s.data.toList.take k) : Nat), .int .i64 (getE (s.data.toList.take k))]) ∧ w = w' := by
  have h := rget_is (s.extract 0 k) w (by simp; omega)
  unfold RGetIs at h
  rw [cut_data] at h
  exact h

def BestAt (s : ByteArray) (b i : Nat) : Prop := b < i ∧ b ≤ s.size ∧ (b = 0 ∨ ok (s.data.toList.take b)) ∧ ∀ j, b < j → j < i → ¬ ok (s.data.toList.take j)
theorem BestAt.start (s : ByteArray) : BestAt s 0 1 := ⟨by omega, by omega, .inl rfl, fun j h1 h2 => by omega⟩
theorem BestAt.hit {s : ByteArray} {b i : Nat} (_h : BestAt s b i) (hi : i ≤ s.size) (ho : ok (s.data.toList.take i)) : BestAt s i (i + 1) := ⟨by omega, hi, .inr ho, fun j h1 h2 => by omega⟩
theorem BestAt.miss {s : ByteArray} {b i : Nat} (h : BestAt s b i) (ho : ¬ ok (s.data.toList.take i)) : BestAt s b (i + 1) :=
  ⟨by have := h.1; omega, h.2.1, h.2.2.1, fun j h1 h2 => by
    by_cases e : j = i
    · rw [e]; exact ho
    · exact h.2.2.2 j h1 (by omega)⟩
theorem BestAt.done {s : ByteArray} {b i : Nat} (h : BestAt s b i) (hi : s.size < i ∨ 16 < i) : Best s.data.toList b :=
  ⟨by rw [len_data]; exact h.2.1, h.2.2.1, fun j h1 h2 h3 => h.2.2.2 j h1 (by rw [len_data] at h2; omega)⟩

def BeginIs (s : ByteArray) (w : World) (e : Ending) (w' : World) : Prop := ∃ k : Nat, Best s.data.toList k ∧ e = .returned (.int .i64 k) ∧ w = w'

set_option maxHeartbeats 400000 in
theorem begin_is (s : ByteArray) (w : World) (hs : s.size ≤ maxLen) :
    Calls Try.prog 13 #[.string s] w (BeginIs s w) := by
  have c1 := fun k w => rget_cut s k w hs
  have C1 := Lib.hid c1
  clear c1
  unfold maxLen at hs
  go_enter Try.func13, Try.ntmps13
  go_wp2_with fail
  go_loop [3, 4] (fun a i => ∃ b k : Nat, 1 ≤ k ∧ k ≤ 17 ∧ a = .int .i64 b ∧ i = .int .i64 k ∧ Hid (BestAt s b k)) (fun _ i => 17 - (intOf i).toNat)
  case atStart => exact ⟨0, 1, by omega, by omega, rfl, rfl, BestAt.start s⟩
  case round =>
    obtain ⟨b, k, hk0, hk, rfl, rfl, HB⟩ := hrel
    by_cases hlt : k ≤ s.size ∧ k ≤ 16
    · obtain ⟨h1, h2⟩ := hlt
      go_wp2_with fail
      refine (C1.out _ _).mono ?_
      rintro e w' ⟨rfl, rfl⟩
      by_cases ho : ok (s.data.toList.take k)
      · have he : (getE (s.data.toList.take k) == 0) = true := by rw [getE_ok ho]; rfl
        generalize getE (s.data.toList.take k) = E at he
        generalize getV (s.data.toList.take k) = V
        have HO := Lib.hid ho
        clear ho
        go_wp2_with fail
        exact ⟨⟨k, k + 1, by omega, by omega, rfl, by go_num, HB.out.hit h1 HO.out⟩, by simp [intOf]; omega⟩
      · have he : (getE (s.data.toList.take k) == 0) = false := by
          rw [beq_eq_false_iff_ne]
          intro h
          exact ho (getE_zero.1 h)
        generalize getE (s.data.toList.take k) = E at he
        generalize getV (s.data.toList.take k) = V
        have HO := Lib.hid ho
        clear ho
        go_wp2_with fail
        exact ⟨⟨b, k + 1, by omega, by omega, rfl, by go_num, HB.out.miss HO.out⟩, by simp [intOf]; omega⟩
    · have HD : Hid (Best s.data.toList b) := HB.out.done (by omega)
      by_cases h1 : k ≤ s.size
      · have h2 : ¬ (k : Int) ≤ 16 := by omega
        clear hlt
        go_wp2_with fail
        go_ret
        exact ⟨b, HD.out, rfl, rfl⟩
      · clear hlt
        go_wp2_with fail
        go_ret
        exact ⟨b, HD.out, rfl, rfl⟩

theorem repeat_blank (c : Nat) : Lib.repeatL [32] c = blanks c := by
  induction c with
  | zero => rfl
  | succ c ih => rw [Lib.repeatL, ih]; rfl
theorem blanks_any (c : Int) (w : World) (h0 : 0 ≤ c) (h1 : c ≤ 40) :
    Calls Try.prog 16 #[.string ⟨#[32]⟩, .int .i64 c] w fun e w' => e = .returned (.string ⟨(blanks c.toNat).toArray⟩) ∧ Below w.heap.size w w' := by
  obtain ⟨k, rfl⟩ := Int.eq_ofNat_of_zero_le h0
  have h := Try.strings_Repeat ⟨#[32]⟩ k w (by omega) (by show 1 * k ≤ _; omega)
  rw [Int.toNat_natCast, ← repeat_blank]
  exact h

/-- A text with blanks ahead, so wide at least (wide counts as 40 at most). -/
def padded (l : List UInt8) (wide : Int) : List UInt8 := blanks (max (min (max wide 0) 40 - (l.length : Int)) 0).toNat ++ l
theorem blanks_len (k : Nat) : (blanks k).length = k := by simp [blanks]

set_option maxHeartbeats 400000 in
theorem pad_of (n wide : Int) (l : List UInt8) (hl : l.length ≤ 16) (w : World) (errno : Int) (t : ByteArray)
    (hcase : (errno = 0 ∧ t = ⟨l.toArray⟩) ∨ (errno = 6 ∧ l = [63]))
    (c1 : ∀ w, Calls Try.prog 6 #[.int .i64 n] w fun e w' => e = .returned (.tuple #[.string t, .int .i64 errno]) ∧ Below w.heap.size w w') :
    Calls Try.prog 9 #[.int .i64 n, .int .i64 wide] w fun e w' => e = .returned (.string ⟨(padded l wide).toArray⟩) ∧ Below w.heap.size w w' := by
  have C1 := Lib.hid c1
  clear c1
  rcases hcase with ⟨rfl, rfl⟩ | ⟨rfl, rfl⟩
  · go_enter Try.func9, Try.ntmps9
    go_wp2_with fail
    refine (C1.out _).mono ?_
    rintro e w' ⟨rfl, hb⟩
    go_wp2_with fail
    refine (blanks_any _ _ (by omega) (by omega)).mono ?_
    rintro e w'' ⟨rfl, hb2⟩
    have hlen := blanks_len (max (min (max wide 0) 40 - (l.length : Int)) 0).toNat
    have HP : Hid (padded l wide = blanks (max (min (max wide 0) 40 - (l.length : Int)) 0).toNat ++ l) := rfl
    have hle : (blanks (max (min (max wide 0) 40 - (l.length : Int)) 0).toNat).length ≤ 40 := by omega
    generalize blanks (max (min (max wide 0) 40 - (l.length : Int)) 0).toNat = q at *
    clear hlen
    go_wp2_with fail
    go_ret
    exact ⟨by rw [HP.out, ← mk_append]; rfl, hb.trans (hb2.mono hb.size)⟩
  · go_enter Try.func9, Try.ntmps9
    go_wp2_with fail
    refine (C1.out _).mono ?_
    rintro e w' ⟨rfl, hb⟩
    go_wp2_with fail
    refine (blanks_any _ _ (by omega) (by omega)).mono ?_
    rintro e w'' ⟨rfl, hb2⟩
    have hlen := blanks_len (max (min (max wide 0) 40 - 1) 0).toNat
    have HP : Hid (padded [63] wide = blanks (max (min (max wide 0) 40 - 1) 0).toNat ++ [63]) := rfl
    have hle : (blanks (max (min (max wide 0) 40 - 1) 0).toNat).length ≤ 40 := by omega
    generalize blanks (max (min (max wide 0) 40 - 1) 0).toNat = q at *
    clear hlen
    go_wp2_with fail
    go_ret
    exact ⟨by rw [HP.out, ← mk_append]; rfl, hb.trans (hb2.mono hb.size)⟩

theorem pad_yes (n : Nat) (wide : Int) (w : World) (h1 : n ≤ 1125899906842624) :
    Calls Try.prog 9 #[.int .i64 n, .int .i64 wide] w fun e w' => e = .returned (.string ⟨(padded (txt n) wide).toArray⟩) ∧ Below w.heap.size w w' :=
  pad_of n wide (txt n) (txt_len h1) w 0 _ (.inl ⟨rfl, rfl⟩) (fun w => put_yes n w h1)
theorem pad_no (n : Int) (wide : Int) (w : World) (h : n < 0 ∨ 1125899906842624 < n) :
    Calls Try.prog 9 #[.int .i64 n, .int .i64 wide] w fun e w' => e = .returned (.string ⟨(padded [63] wide).toArray⟩) ∧ Below w.heap.size w w' :=
  pad_of n wide [63] (by simp) w 6 _ (.inr ⟨rfl, rfl⟩) (fun w => (put_no n w h).mono fun _ _ ⟨he, hw⟩ => ⟨he, hw ▸ Below.refl _ _⟩)
end Go.Proofs.Ytmcbbgelgoblhaa.NumWalk
