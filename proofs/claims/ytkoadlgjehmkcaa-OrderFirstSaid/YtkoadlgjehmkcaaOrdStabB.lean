/-
  The library's slices.SortStableFunc at jobs, walked: a rotation.
-/
import Derived.Test.YtkoadlgjehmkcaaOrdStabA
namespace Go.Proofs.Ytkoadlgjehmkcaa.OrdStab
open Go.Shelf Go.RowKit Go.Lib Go.Sort Go.Proofs.Ytkoadlgjehmkcaa.JobPlain Go.Proofs.Ytkoadlgjehmkcaa.OrdPlain Go.Proofs.Ytkoadlgjehmkcaa.Mem Go.Proofs.Ytkoadlgjehmkcaa.JobMem Go.Proofs.Ytkoadlgjehmkcaa.OrdMem Go.Proofs.Ytkoadlgjehmkcaa.Swap
theorem sub_wrap (a b c : Nat) (h : c + b = a) (ha : a ≤ 200000) : wrap64 ((a : Int) - (b : Int)) = (c : Int) := by unfold wrap64; omega
theorem sub_plain (a b c : Nat) (h : c + b = a) : (a : Int) - (b : Int) = (c : Int) := by omega
theorem add_wrap (a b c : Nat) (h : a + b = c) (ha : c ≤ 200000) : wrap64 ((a : Int) + (b : Int)) = (c : Int) := by unfold wrap64; omega
theorem add_plain (a b c : Nat) (h : a + b = c) : (a : Int) + (b : Int) = (c : Int) := by omega
theorem ways_right (m i j n : Nat) (h1 : i ≤ m) (h2 : m + j ≤ n) (h3 : ¬ j < i) (h4 : ¬ i = j) (hn : n ≤ 100000) : ∃ p q r s, p = m - i ∧ q = m + j - i ∧ r = j - i ∧ p + i = m ∧ m + j = s ∧ q + i = s ∧ r + i = j ∧ m ≤ 200000 ∧ s ≤ 200000 ∧ j ≤ 200000 ∧ p + i ≤ n ∧ q + i ≤ n ∧ 0 < r ∧ i + r < i + j ∨ i = 0 :=
  if h0 : i = 0 then ⟨0, 0, 0, 0, Or.inr h0⟩ else ⟨m - i, m + j - i, j - i, m + j, Or.inl ⟨rfl, rfl, rfl, by omega, rfl, by omega, by omega, by omega, by omega, by omega, by omega, by omega, by omega, by omega⟩⟩
set_option maxRecDepth 100000 in
set_option maxHeartbeats 3200000 in
theorem rotate_core (g : Nat) (cb : Array Value) (cap blk a m b x y n : Nat) (P L R Q d0 : List Jb) (w0 w : World) (hn : d0.length = n) (hR : RowIs w0 blk n) (S : Hold w0 blk d0 w) (A : RotAt P L R Q m x y d0)
    (hx : 0 < x) (hy : 0 < y) (ha : a + x = m) (hb : m + y = b) (hbn : b ≤ n) (hl : n ≤ 100000) :
    Calls Try.prog 33 #[.slice (some ⟨blk, 0, none⟩) n cap, .int .i64 a, .int .i64 m, .int .i64 b, .func (.func g) #[] cb] w (Done w0 blk (P ++ (R ++ (L ++ Q)))) := by
  have HS := Lib.hid S
  have A0 := Lib.hid A
  have HD : Hid (d0.length = n) := Lib.hid hn
  have C : ∀ (i j k : Nat) (d : List Jb) (wz : World), Hid (d.length = n → Hold w0 blk d wz → i + k ≤ n → j + k ≤ n → Calls Try.prog 34 #[.slice (some ⟨blk, 0, none⟩) n cap, .int .i64 i, .int .i64 j, .int .i64 k, .func (.func g) #[] cb] wz (Done w0 blk (swapN d i j k))) := by
    intro i j k d wz
    refine Lib.hid fun hd hS h1 h2 => ?_
    subst hd
    exact swap_any g cb cap blk i j k d w0 wz hR hS h1 h2 hl
  clear S A hR hn
  have w1 : IntKind.i64.wrap ((m : Int) - (a : Int)) = (x : Int) := by rw [IntKind.wrap_i64]; omega
  have w2 : IntKind.i64.wrap ((b : Int) - (m : Int)) = (y : Int) := by rw [IntKind.wrap_i64]; omega
  have v1 : wrap64 ((m : Int) - (a : Int)) = (x : Int) := by unfold wrap64; omega
  have v2 : wrap64 ((b : Int) - (m : Int)) = (y : Int) := by unfold wrap64; omega
  have u1 : (m : Int) - (a : Int) = (x : Int) := by omega
  have u2 : (b : Int) - (m : Int) = (y : Int) := by omega
  go_enter Try.func33, Try.ntmps33
  go_wp2_with fail
  go_loopw [10, 11] (fun s10 s11 wr => ∃ (i j : Nat) (d : List Jb), s10 = .int .i64 i ∧ s11 = .int .i64 j ∧ 0 < i ∧ 0 < j ∧ Hid (d.length = n) ∧ Hid (RotAt P L R Q m i j d) ∧ Hid (Hold w0 blk d wr)) (fun s t _ => (intOf s).toNat + (intOf t).toNat)
  case atStart => exact ⟨x, y, d0, by go_num, by go_num, hx, hy, HD, A0, HS⟩
  case round =>
    clear HS A0 w1 w2 v1 v2 u1 u2
    obtain ⟨i, j, d, rfl, rfl, hi, hj, Hd, HA, HK⟩ := hrel
    have hfit := HA.out.fits
    rw [Hd.out] at hfit
    obtain ⟨hf1, hf2, -⟩ := hfit
    have i0 : (0 : Int) ≤ (i : Int) := Int.natCast_nonneg _
    have j0 : (0 : Int) ≤ (j : Int) := Int.natCast_nonneg _
    by_cases heq : i = j
    · subst heq
      have r1 : wrap64 ((m : Int) - (i : Int)) = ((m - i : Nat) : Int) := by unfold wrap64; omega
      have r2 : (m : Int) - (i : Int) = ((m - i : Nat) : Int) := by omega
      have C1 := Lib.hid ((C (m - i) m i d wr).out Hd.out HK.out (by omega) (by omega))
      have HE : Hid (swapN d (m - i) m i = P ++ (R ++ (L ++ Q))) := Lib.hid HA.out.end_
      go_wp2_with fail
      refine (C1.out).mono ?_
      rintro e w3 ⟨rfl, h3⟩
      rw [HE.out] at h3
      go_wp2_with fail
      go_end0
      exact ⟨rfl, h3⟩
    · by_cases hlt : j < i
      · have t1 : decide ((i : Int) > (j : Int)) = true := by simp; omega
        have ne1 : ¬ (i : Int) = (j : Int) := by omega
        have r1 : wrap64 ((m : Int) - (i : Int)) = ((m - i : Nat) : Int) := by unfold wrap64; omega
        have r2 : (m : Int) - (i : Int) = ((m - i : Nat) : Int) := by omega
        have r3 : wrap64 ((i : Int) - (j : Int)) = ((i - j : Nat) : Int) := by unfold wrap64; omega
        have r4 : (i : Int) - (j : Int) = ((i - j : Nat) : Int) := by omega
        have C1 := Lib.hid ((C (m - i) m j d wr).out Hd.out HK.out (by omega) (by omega))
        have HE : Hid (RotAt P L R Q m (i - j) j (swapN d (m - i) m j)) := Lib.hid (HA.out.left hlt)
        have HF : Hid ((swapN d (m - i) m j).length = n) := Lib.hid (by rw [swapN_len]; exact Hd.out)
        go_wp2_with fail
        refine (C1.out).mono ?_
        rintro e w3 ⟨rfl, h3⟩
        have H3 := Lib.hid h3
        clear h3
        go_wp2_with fail
        exact ⟨⟨i - j, j, swapN d (m - i) m j, by go_num, rfl, by omega, hj, HF, HE, H3⟩, by simp only [intOf]; omega⟩
      · have hlt2 : i < j := Nat.lt_of_le_of_ne (Nat.le_of_not_lt hlt) heq
        have t1 : decide ((i : Int) > (j : Int)) = false := decide_eq_false (by omega)
        have ne1 : ¬ (i : Int) = (j : Int) := by omega
        obtain ⟨p, q, r, s, hw | h0⟩ := ways_right m i j n hf1 hf2 hlt heq hl
        case inr => exact absurd hi (by rw [h0]; exact Nat.lt_irrefl 0)
        obtain ⟨hp, hq, hr, e1, e2, e3, e4, b1, b2, b3, f1, f2, hr0, hrj⟩ := hw
        have r1 := sub_wrap m i p e1 b1
        have r2 := sub_plain m i p e1
        have r5 := add_wrap m j s e2 b2
        have r8 := add_plain m j s e2
        have r6 := sub_wrap s i q e3 b2
        have r7 := sub_plain s i q e3
        have r3 := sub_wrap j i r e4 b3
        have r4 := sub_plain j i r e4
        have C1 := Lib.hid ((C p q i d wr).out Hd.out HK.out f1 f2)
        have HE : Hid (RotAt P L R Q m i r (swapN d p q i)) := Lib.hid (by rw [hr, hp, hq]; exact HA.out.right hlt2)
        have HF : Hid ((swapN d p q i).length = n) := Lib.hid (by rw [swapN_len]; exact Hd.out)
        clear hp hq hr hlt hlt2 e1 e2 e3 e4 b1 b2 b3 f1 f2
        generalize swapN d p q i = d2 at C1 HE HF
        go_wp2_with fail
        refine (C1.out).mono ?_
        rintro e w3 ⟨rfl, h3⟩
        have H3 := Lib.hid h3
        clear h3
        go_wp2_with fail
        exact ⟨⟨i, r, d2, rfl, rfl, hi, hr0, HF, HE, H3⟩, by simp only [intOf]; omega⟩
theorem rotate_any (g : Nat) (cb : Array Value) (cap blk a m b n : Nat) (P L R Q : List Jb) (w0 w : World) (hn : (P ++ (L ++ (R ++ Q))).length = n) (hR : RowIs w0 blk n) (S : Hold w0 blk (P ++ (L ++ (R ++ Q))) w)
    (ha : P.length = a) (hm : a + L.length = m) (hb : m + R.length = b) (hx : 0 < L.length) (hy : 0 < R.length) (hl : n ≤ 100000) :
    Calls Try.prog 33 #[.slice (some ⟨blk, 0, none⟩) n cap, .int .i64 a, .int .i64 m, .int .i64 b, .func (.func g) #[] cb] w (Done w0 blk (P ++ (R ++ (L ++ Q)))) :=
  rotate_core g cb cap blk a m b L.length R.length n P L R Q _ w0 w hn hR S (RotAt.start (by omega) rfl rfl) hx hy hm hb (by subst hn; simp; omega) hl
end Go.Proofs.Ytkoadlgjehmkcaa.OrdStab
