/-
  The walks of the statements on numbers as digits: awake, NumGets, NumUpto, NumPuts: each answers true.
-/
import Derived.Test.YtmcbbgelgoblhaaNumWalkF
namespace Go.Proofs.Ytmcbbgelgoblhaa.NumWalk
open Go.RowKit Go.Proofs.Ytmcbbgelgoblhaa.NumPlain

theorem below_drewN {B : Nat} {a w : World} (h : Below B a w) (n : Nat) : Below B a (w.drewN n) := ⟨h.os, h.tape, h.output, h.size, h.block⟩

theorem get_below (s : ByteArray) (w : World) (hs : s.size ≤ maxLen) :
    Calls Try.prog 8 #[.string s] w fun e w' => e = .returned (.tuple #[.int .i64 (getV s.data.toList : Nat), .int .i64 (getE s.data.toList)]) ∧ Below w.heap.size w w' :=
  (get_is s w hs).mono fun _ _ ⟨he, n, hw⟩ => ⟨he, hw ▸ below_drewN (Below.refl _ _) n⟩

theorem str_eq {a b : ByteArray} (h : a = b) : Value.string a = Value.string b := by rw [h]
theorem txt_105 : txt 105 = [49, 48, 53] := by
  rw [txt_big (by omega), txt_big (by omega), txt_small (by omega)]; rfl
theorem put_105 (w : World) : Calls Try.prog 6 #[.int .i64 105] w fun e w' => e = .returned (.tuple #[.string ⟨#[49, 48, 53]⟩, .int .i64 0]) ∧ Below w.heap.size w w' := by
  have h := put_yes 105 w (by omega)
  rw [txt_105] at h
  exact h
theorem get_105 (w : World) : Calls Try.prog 8 #[.string ⟨#[49, 48, 53]⟩] w fun e w' => e = .returned (.tuple #[.int .i64 105, .int .i64 0]) ∧ Below w.heap.size w w' :=
  get_below ⟨#[49, 48, 53]⟩ w (by decide)
theorem get_05 (w : World) : Calls Try.prog 8 #[.string ⟨#[48, 53]⟩] w fun e w' => e = .returned (.tuple #[.int .i64 0, .int .i64 2]) ∧ Below w.heap.size w w' :=
  get_below ⟨#[48, 53]⟩ w (by decide)
theorem pad_7 (w : World) : Calls Try.prog 9 #[.int .i64 7, .int .i64 3] w fun e w' => e = .returned (.string ⟨#[32, 32, 55]⟩) ∧ Below w.heap.size w w' := by
  have h := pad_yes 7 3 w (by omega)
  rw [txt_small (by omega)] at h
  exact h

set_option maxHeartbeats 400000 in
theorem awake_any (w : World) : Calls Try.prog 10 #[] w fun e w' => e = .returned (.bool true) ∧ Below w.heap.size w w' := by
  go_enter Try.func10, Try.ntmps10
  go_wp2_with fail
  refine (put_105 _).mono ?_
  rintro e w1 ⟨rfl, hb1⟩
  go_wp2_with fail
  refine (get_105 _).mono ?_
  rintro e w2 ⟨rfl, hb2⟩
  go_wp2_with fail
  refine (get_05 _).mono ?_
  rintro e w3 ⟨rfl, hb3⟩
  go_wp2_with fail
  refine (pad_7 _).mono ?_
  rintro e w4 ⟨rfl, hb4⟩
  go_wp2_with fail
  go_ret
  exact ⟨rfl, ((hb1.trans (hb2.mono hb1.size)).trans (hb3.mono (Nat.le_trans hb1.size hb2.size))).trans (hb4.mono (Nat.le_trans (Nat.le_trans hb1.size hb2.size) hb3.size))⟩

set_option maxHeartbeats 400000 in
theorem gets_any (s : ByteArray) (w : World) (hs : s.size ≤ maxLen) :
    Calls Try.prog 4 #[.string s] w fun e w' => e = .returned (.bool true) ∧ Below w.heap.size w w' := by
  by_cases hl : 200 < s.size
  · unfold maxLen at hs
    have hl2 : (200 : Int) < (s.size : Int) := by omega
    go_enter Try.func4, Try.ntmps4
    go_wp2_with fail
    refine (awake_any _).mono ?_
    rintro e w1 ⟨rfl, hb1⟩
    go_wp2_with fail
    go_ret
    exact ⟨rfl, hb1⟩
  · have hl2 : ¬ (200 : Int) < (s.size : Int) := by omega
    have C1 := Lib.hid (fun w => get_below s w hs)
    have C2 := Lib.hid (fun w => rget_is s w hs)
    by_cases ho : ok s.data.toList
    · have HT : Hid (s = ⟨(txt (val s.data.toList)).toArray⟩) := by
        rw [txt_val_of ho.1]; rfl
      have e1 := getE_ok ho
      have e2 := getV_ok ho
      unfold RGetIs at C2
      rw [e1, e2] at C1 C2
      have hv : val s.data.toList ≤ 1125899906842624 := ho.2
      clear e1 e2 ho
      generalize val s.data.toList = v at *
      go_enter Try.func4, Try.ntmps4
      go_wp2_with fail
      refine (C1.out _).mono ?_
      rintro e w1 ⟨rfl, hb1⟩
      go_wp2_with fail
      refine (C2.out _).mono ?_
      rintro e w2 ⟨rfl, rfl⟩
      go_wp2_with fail
      refine (text_any v _ hv).mono ?_
      rintro e w2 ⟨rfl, rfl⟩
      rw [← HT.out]
      go_wp2_with fail
      refine (awake_any _).mono ?_
      rintro e w3 ⟨rfl, hb3⟩
      go_wp2_with fail
      go_ret
      exact ⟨rfl, hb1.trans (hb3.mono hb1.size)⟩
    · have he : (getE s.data.toList != 0) = true := by
        rw [bne_iff_ne]
        intro h
        exact ho (getE_zero.1 h)
      unfold RGetIs at C2
      clear ho
      generalize getE s.data.toList = E at *
      generalize getV s.data.toList = V at *
      go_enter Try.func4, Try.ntmps4
      go_wp2_with fail
      refine (C1.out _).mono ?_
      rintro e w1 ⟨rfl, hb1⟩
      go_wp2_with fail
      refine (C2.out _).mono ?_
      rintro e w2 ⟨rfl, rfl⟩
      go_wp2_with fail
      refine (awake_any _).mono ?_
      rintro e w3 ⟨rfl, hb3⟩
      go_wp2_with fail
      go_ret
      exact ⟨rfl, hb1.trans (hb3.mono hb1.size)⟩

set_option maxHeartbeats 400000 in
theorem upto_any (s : ByteArray) (w : World) (hs : s.size ≤ maxLen) :
    Calls Try.prog 5 #[.string s] w fun e w' => e = .returned (.bool true) ∧ Below w.heap.size w w' := by
  by_cases hl : 200 < s.size
  · unfold maxLen at hs
    have hl2 : (200 : Int) < (s.size : Int) := by omega
    go_enter Try.func5, Try.ntmps5
    go_wp2_with fail
    refine (awake_any _).mono ?_
    rintro e w1 ⟨rfl, hb1⟩
    go_wp2_with fail
    go_ret
    exact ⟨rfl, hb1⟩
  · have hl2 : ¬ (200 : Int) < (s.size : Int) := by omega
    have C1 := Lib.hid (fun w => upto_is s w hs)
    have C2 := Lib.hid (fun w => begin_is s w hs)
    have C3 := Lib.hid (fun k w => rget_cut s k w hs)
    clear hs
    go_enter Try.func5, Try.ntmps5
    go_wp2_with fail
    refine (C1.out _).mono ?_
    rintro e w1 ⟨k, hk, rfl, n, rfl⟩
    have hle : k ≤ s.size := by rw [← len_data]; exact hk.1
    have HK := Lib.hid hk
    clear hk
    go_wp2_with fail
    refine (C2.out _).mono ?_
    rintro e w2 ⟨k2, hk2, rfl, rfl⟩
    obtain rfl : k = k2 := upto_best HK.out hk2
    clear hk2
    go_wp2_with fail
    refine (C3.out k _).mono ?_
    rintro e w2 ⟨rfl, rfl⟩
    have e1 : getV (s.data.toList.take k) = val (s.data.toList.take k) := by
      rcases HK.out.2.1 with h | h
      · rw [h]; rfl
      · exact getV_ok h
    rw [e1]
    clear e1
    generalize getE (s.data.toList.take k) = E at *
    generalize val (s.data.toList.take k) = V at *
    go_wp2_with fail
    refine (awake_any _).mono ?_
    rintro e w3 ⟨rfl, hb3⟩
    go_wp2_with fail
    go_ret
    exact ⟨rfl, (below_drewN (Below.refl _ _) n).trans hb3⟩

set_option maxHeartbeats 400000 in
theorem puts_yes (n : Nat) (wide : Int) (w : World) (h1 : n ≤ 1125899906842624) :
    Calls Try.prog 3 #[.int .i64 n, .int .i64 wide] w fun e w' => e = .returned (.bool true) ∧ Below w.heap.size w w' := by
  have C1 := Lib.hid (fun w => put_yes n w h1)
  have C2 := Lib.hid (fun w => text_any n w h1)
  have C3 := Lib.hid (fun w => pad_yes n wide w h1)
  have hlen := txt_len h1
  have g := fun w => get_below ⟨(txt n).toArray⟩ w (by show (txt n).toArray.size ≤ maxLen; unfold maxLen; simp; omega)
  have ho : ok (txt n) := txt_ok h1
  rw [getE_ok ho, getV_ok ho, txt_val] at g
  have C4 := Lib.hid g
  clear g ho
  generalize txt n = L at *
  go_enter Try.func3, Try.ntmps3
  go_wp2_with fail
  refine (C1.out _).mono ?_
  rintro e w1 ⟨rfl, hb1⟩
  go_wp2_with fail
  refine (C2.out _).mono ?_
  rintro e w2 ⟨rfl, rfl⟩
  go_wp2_with fail
  refine (C4.out _).mono ?_
  rintro e w2 ⟨rfl, hb2⟩
  go_wp2_with fail
  go_loop [7, 10] (fun a i => ∃ k : Nat, k ≤ 40 ∧ a = .string ⟨(blanks k ++ L).toArray⟩ ∧ i = .int .i64 ((L.length : Int) + (k : Int)) ∧ Hid (k = 0 ∨ ((L.length : Int) + (k : Int) ≤ wide ∧ L.length + k ≤ 40))) (fun _ i => 40 - (intOf i).toNat)
  case atStart => exact ⟨0, by omega, rfl, by go_num, .inl rfl⟩
  case round =>
    obtain ⟨k, hk, rfl, rfl, HK⟩ := hrel
    have hql := blanks_len k
    by_cases hc : (L.length : Int) + (k : Int) < wide ∧ L.length + k < 40
    · obtain ⟨h1, h2⟩ := hc
      have HS := Lib.hid (blanks_succ k L)
      have hle : (blanks k ++ L).length ≤ 60 := by rw [List.length_append]; omega
      generalize blanks k ++ L = q at *
      clear hql
      go_wp2_with fail
      exact ⟨⟨k + 1, by omega, by rw [← HS.out]; exact str_eq (mk_append [32] q), by go_num, .inr ⟨by omega, by omega⟩⟩, by simp [intOf]; omega⟩
    · have HP : Hid (padded L wide = blanks k ++ L) := by
        have hk2 := HK.out
        unfold padded
        have e : (max (min (max wide 0) 40 - (L.length : Int)) 0).toNat = k := by omega
        rw [e]; rfl
      have hcase : ¬ (L.length : Int) + (k : Int) < wide ∨ ((L.length : Int) + (k : Int) < wide ∧ ¬ (L.length : Int) + (k : Int) < 40) := by omega
      rw [HP.out] at C3
      generalize blanks k ++ L = q at *
      clear hql hc
      rcases hcase with hcase | ⟨hcase, hcase2⟩
      all_goals
        go_wp2_with fail
        refine (C3.out _).mono ?_
        rintro e w3 ⟨rfl, hb3⟩
        go_wp2_with fail
        refine (awake_any _).mono ?_
        rintro e w4 ⟨rfl, hb4⟩
        go_wp2_with fail
        go_ret
        exact ⟨rfl, ((hb1.trans (hb2.mono hb1.size)).trans (hb3.mono (Nat.le_trans hb1.size hb2.size))).trans (hb4.mono (Nat.le_trans (Nat.le_trans hb1.size hb2.size) hb3.size))⟩

set_option maxHeartbeats 400000 in
theorem puts_no (n : Int) (wide : Int) (w : World) (h : n < 0 ∨ 1125899906842624 < n) :
    Calls Try.prog 3 #[.int .i64 n, .int .i64 wide] w fun e w' => e = .returned (.bool true) ∧ Below w.heap.size w w' := by
  have C1 := Lib.hid (fun w => put_no n w h)
  have C3 := Lib.hid (fun w => pad_no n wide w h)
  have hcase : n < 0 ∨ (0 ≤ n ∧ 1125899906842624 < n) := by omega
  clear h
  rcases hcase with h0 | ⟨h0, h1⟩
  all_goals
    go_enter Try.func3, Try.ntmps3
    go_wp2_with fail
    refine (C1.out _).mono ?_
    rintro e w1 ⟨rfl, rfl⟩
    go_wp2_with fail
    go_loop [7, 10] (fun a i => ∃ k : Nat, k ≤ 40 ∧ a = .string ⟨(blanks k ++ [63]).toArray⟩ ∧ i = .int .i64 (1 + (k : Int)) ∧ Hid (k = 0 ∨ (1 + (k : Int) ≤ wide ∧ 1 + k ≤ 40))) (fun _ i => 40 - (intOf i).toNat)
    case atStart => exact ⟨0, by omega, rfl, rfl, .inl rfl⟩
    case round =>
      obtain ⟨k, hk, rfl, rfl, HK⟩ := hrel
      have hql := blanks_len k
      by_cases hc : 1 + (k : Int) < wide ∧ 1 + k < 40
      · obtain ⟨h1, h2⟩ := hc
        have HS := Lib.hid (blanks_succ k [63])
        have hle : (blanks k ++ [63]).length ≤ 60 := by rw [List.length_append]; simp; omega
        generalize blanks k ++ [63] = q at *
        clear hql
        go_wp2_with fail
        exact ⟨⟨k + 1, by omega, by rw [← HS.out]; exact str_eq (mk_append [32] q), by go_num, .inr ⟨by omega, by omega⟩⟩, by simp [intOf]; omega⟩
      · have HP : Hid (padded [63] wide = blanks k ++ [63]) := by
          have hk2 := HK.out
          unfold padded
          have e : (max (min (max wide 0) 40 - (([63] : List UInt8).length : Int)) 0).toNat = k := by
            have e1 : (([63] : List UInt8).length : Int) = 1 := rfl
            omega
          rw [e]; rfl
        have hcase : ¬ 1 + (k : Int) < wide ∨ (1 + (k : Int) < wide ∧ ¬ 1 + (k : Int) < 40) := by omega
        rw [HP.out] at C3
        generalize blanks k ++ [63] = q at *
        clear hql hc
        rcases hcase with hcase | ⟨hcase, hcase2⟩
        all_goals
          go_wp2_with fail
          refine (C3.out _).mono ?_
          rintro e w3 ⟨rfl, hb3⟩
          go_wp2_with fail
          refine (awake_any _).mono ?_
          rintro e w4 ⟨rfl, hb4⟩
          go_wp2_with fail
          go_ret
          exact ⟨rfl, hb3.trans (hb4.mono hb3.size)⟩

theorem puts_any (n wide : Int) (w : World) :
    Calls Try.prog 3 #[.int .i64 n, .int .i64 wide] w fun e w' => e = .returned (.bool true) ∧ Below w.heap.size w w' := by
  by_cases h : 0 ≤ n ∧ n ≤ 1125899906842624
  · obtain ⟨m, rfl⟩ := Int.eq_ofNat_of_zero_le h.1
    exact puts_yes m wide w (by omega)
  · exact puts_no n wide w (by omega)
end Go.Proofs.Ytmcbbgelgoblhaa.NumWalk
