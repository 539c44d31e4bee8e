/-
  The library's slices.SortStableFunc at jobs, walked: blocks exchanged, a rotation. The library's slices.SortStableFunc at jobs, walked: a rotation.
-/
import Derived.Test.YtjegkddpaampmaaOrdMem
import Derived.Test.YtjegkddpaampmaaStab
import Derived.Shelf.SlSortCmp.KitK
import Derived.Lib.Hide
namespace Go.Proofs.Ytjegkddpaampmaa.OrdStab
open Go.Shelf Go.RowKit Go.Lib Go.Sort Go.Proofs.Ytjegkddpaampmaa.JobPlain Go.Proofs.Ytjegkddpaampmaa.OrdPlain Go.Proofs.Ytjegkddpaampmaa.Mem Go.Proofs.Ytjegkddpaampmaa.JobMem Go.Proofs.Ytjegkddpaampmaa.OrdMem Go.Proofs.Ytjegkddpaampmaa.Swap
instance : Inhabited Jb := ⟨noJb⟩
theorem get_list (d : Array Jb) (i : Nat) : d[i]! = d.toList[i]! := by
  by_cases h : i < d.size
  · rw [getElem!_pos d i h, getElem!_pos d.toList i (by simpa using h)]; rfl
  · rw [getElem!_neg d i h, getElem!_neg d.toList i (by simpa using h)]
theorem swp_list (d : Array Jb) (i j : Nat) (hi : i < d.size) (hj : j < d.size) : swp d i j = (swL d.toList i j).toArray := by
  apply Array.ext'
  unfold swL
  simp [swp, get_list]
/-- The row of a sort holds these jobs. -/
def Hold (w0 : World) (blk : Nat) (l : List Jb) (W : World) : Prop := SWK jobC 9 w0 blk 0 l.toArray W
def RowIs (w0 : World) (blk : Nat) (n : Nat) : Prop := ∃ d0 : Array Jb, d0.size = n ∧ RowK jobC 9 w0 blk 0 d0
def Done (w0 : World) (blk : Nat) (l : List Jb) (e : Ending) (w' : World) : Prop := e = .returned (.tuple #[]) ∧ Hold w0 blk l w'
theorem job_agg (w : World) : (isAgg 28).run Try.prog w = .ok true w := by kernel_rfl
theorem job_size (w : World) : (Go.sizeOf 28).run Try.prog w = .ok 9 w := by kernel_rfl
theorem load_at (T K : Nat) (hT : T = 28) (hK : K = 9) : (Op.load 28 = Op.load T ∧ Op.store 28 = Op.store T) ∧ (∀ w, (isAgg T).run Try.prog w = .ok true w) ∧ (∀ w, (Go.sizeOf T).run Try.prog w = .ok K w) := by
  subst hT hK
  exact ⟨⟨rfl, rfl⟩, job_agg, job_size⟩
set_option maxRecDepth 100000 in
set_option maxHeartbeats 3200000 in
theorem swap_any (g : Nat) (cb : Array Value) (cap blk a b n : Nat) (l : List Jb) (w0 w : World) (hR : RowIs w0 blk l.length) (S : Hold w0 blk l w) (ha : a + n ≤ l.length) (hb : b + n ≤ l.length) (hl : l.length ≤ 100000) :
    Calls Try.prog 79 #[.slice (some ⟨blk, 0, none⟩) l.length cap, .int .i64 a, .int .i64 b, .int .i64 n, .func (.func g) #[] cb] w (Done w0 blk (swapN l a b n)) := by
  obtain ⟨d0, hd0, R⟩ := hR
  have HS := Lib.hid S
  have HL := Lib.hid hl
  have HLE := Lib.hid (And.intro ha hb)
  clear S hl
  go_enter Try.func79, Try.ntmps79
  go_wp2_with fail
  go_loopw [10] (fun i wr => ∃ k : Nat, i = .int .i64 k ∧ k ≤ n ∧ Hid (Hold w0 blk (swapN l a b k) wr)) (fun i _ => n - (intOf i).toNat)
  case atStart => exact ⟨0, rfl, Nat.zero_le _, HS.out⟩
  case round =>
    clear HS
    obtain ⟨k, rfl, hk, HK⟩ := hrel
    have i0 : (0 : Int) ≤ (k : Int) := Int.natCast_nonneg _
    have a0 : (0 : Int) ≤ (a : Int) := Int.natCast_nonneg _
    have b0 : (0 : Int) ≤ (b : Int) := Int.natCast_nonneg _
    by_cases hlt : k < n
    · have i1 : (k : Int) < (n : Int) := by omega
      have hlen : (swapN l a b k).length = l.length := swapN_len _ _ _ _
      have HNX : Hid (swapN l a b (k + 1) = swL (swapN l a b k) (a + k) (b + k)) := rfl
      have S1 := HK.out
      have hll := HL.out
      unfold Hold at S1
      generalize hD : swapN l a b k = D at *
      have hsz : D.toArray.size = l.length := by simp [hlen]
      have ea : ((a : Int) + (k : Int)).toNat = a + k := by omega
      have pa : (0 : Int) ≤ (a : Int) + (k : Int) := by omega
      have ba : (a : Int) + (k : Int) < (l.length : Int) := by omega
      have ra : IntKind.i64.wrap ((a : Int) + (k : Int)) = (a : Int) + (k : Int) := by rw [IntKind.wrap_i64]; omega
      have eb : ((b : Int) + (k : Int)).toNat = b + k := by omega
      have pb : (0 : Int) ≤ (b : Int) + (k : Int) := by omega
      have bb : (b : Int) + (k : Int) < (l.length : Int) := by omega
      have rb : IntKind.i64.wrap ((b : Int) + (k : Int)) = (b : Int) + (k : Int) := by rw [IntKind.wrap_i64]; omega
      have S2 := Lib.hid (S1.swapped R (a + k) (b + k) (by omega) (by omega))
      have l1 := S1.ld1 R (by omega) Try.prog (a + k) (by omega)
      have l2 := S1.ld1 R (by omega) Try.prog (b + k) (by omega)
      have s1 := S1.st1 R (by omega) Try.prog (a + k) (by omega) D.toArray[b + k]!
      have s2 := S1.st2 R (by omega) Try.prog (a + k) (b + k) (by omega) (by omega) D.toArray[b + k]! D.toArray[a + k]!
      simp only [Nat.zero_add] at l1 l2 s1 s2 S2
      have n1 : (jobC D.toArray[a + k]!).length = 9 := rfl
      have n2 : (jobC D.toArray[b + k]!).length = 9 := rfl
      have HD2 : Hid (swp D.toArray (a + k) (b + k) = (swapN l a b (k + 1)).toArray) := Lib.hid ((swp_list _ _ _ (by omega) (by omega)).trans (by rw [HNX.out]))
      clear hD hlen hsz hll S1 HK HNX
      generalize jobC D.toArray[a + k]! = cI at S2 l1 s2 n1
      generalize jobC D.toArray[b + k]! = cJ at S2 l2 s1 s2 n2
      have mixed : Try.prog.follows .mixedOrders = true := by kernel_rfl
      go_wp2_with fail
      obtain ⟨T, hT⟩ : ∃ T : TypeId, T = 28 := ⟨_, rfl⟩
      obtain ⟨K, hK⟩ : ∃ K : Nat, K = 9 := ⟨_, rfl⟩
      obtain ⟨⟨eL, eS⟩, aE, zE⟩ := load_at T K hT hK
      have m1 : Sem.run Try.prog (loadCellsFrom ⟨blk, (a + k) * 9, none⟩ 0 K #[]) wr.drew = .ok cI.toArray wr.drew := by rw [hK]; exact l1
      have m2 : Sem.run Try.prog (loadCellsFrom ⟨blk, (b + k) * 9, none⟩ 0 K #[]) wr.drew = .ok cJ.toArray wr.drew := by rw [hK]; exact l2
      have q1 : cI.length = K := by rw [hK]; exact n1
      have q2 : cJ.length = K := by rw [hK]; exact n2
      rw [eL, eS]
      clear eL eS hT hK l1 l2 n1 n2
      go_big_region_o
      clear m1 m2 s1 s2
      generalize (wr.drew.setCells blk ((a + k) * 9) cJ).setCells blk ((b + k) * 9) cI = w2 at S2 ⊢
      have HK2 : Hid (Hold w0 blk (swapN l a b (k + 1)) w2) := Lib.hid (by unfold Hold; rw [← HD2.out]; exact S2.out)
      have rk : IntKind.i64.wrap ((k : Int) + 1) = (k : Int) + 1 := by have := HL.out; have := HLE.out; rw [IntKind.wrap_i64]; omega
      go_wp2_with fail
      exact ⟨⟨k + 1, by go_num, by omega, HK2.out⟩, by simp [intOf] <;> omega⟩
    · have hkn : k = n := by omega
      subst hkn
      go_wp2_with fail
      go_end0
      exact ⟨rfl, HK.out⟩
end Go.Proofs.Ytjegkddpaampmaa.OrdStab
namespace Go.Proofs.Ytjegkddpaampmaa.OrdStab
open Go.Shelf Go.RowKit Go.Lib Go.Sort Go.Proofs.Ytjegkddpaampmaa.JobPlain Go.Proofs.Ytjegkddpaampmaa.OrdPlain Go.Proofs.Ytjegkddpaampmaa.Mem Go.Proofs.Ytjegkddpaampmaa.JobMem Go.Proofs.Ytjegkddpaampmaa.OrdMem Go.Proofs.Ytjegkddpaampmaa.Swap
theorem sub_wrap (a b c : Nat) (h : c + b = a) (ha : a ≤ 200000) : wrap64 ((a : Int) - (b : Int)) = (c : Int) := by unfold wrap64; omega
theorem sub_plain (a b c : Nat) (h : c + b = a) : (a : Int) - (b : Int) = (c : Int) := by omega
theorem add_wrap (a b c : Nat) (h : a + b = c) (ha : c ≤ 200000) : wrap64 ((a : Int) + (b : Int)) = (c : Int) := by unfold wrap64; omega
theorem add_plain (a b c : Nat) (h : a + b = c) : (a : Int) + (b : Int) = (c : Int) := by omega
theorem ways_right (m i j n : Nat) (h1 : i ≤ m) (h2 : m + j ≤ n) (h3 : ¬ j < i) (h4 : ¬ i = j) (hn : n ≤ 100000) : ∃ p q r s, p = m - i ∧ q = m + j - i ∧ r = j - i ∧ p + i = m ∧ m + j = s ∧ q + i = s ∧ r + i = j ∧ m ≤ 200000 ∧ s ≤ 200000 ∧ j ≤ 200000 ∧ p + i ≤ n ∧ q + i ≤ n ∧ 0 < r ∧ i + r < i + j ∨ i = 0 :=
  if h0 : i = 0 then ⟨0, 0, 0, 0, Or.inr h0⟩ else ⟨m - i, m + j - i, j - i, m + j, Or.inl ⟨rfl, rfl, rfl, by omega, rfl, by omega, by omega, by omega, by omega, by omega, by omega, by omega, by omega, by omega⟩⟩
set_option maxRecDepth 100000 in
set_option maxHeartbeats 3200000 in
theorem rotate_core (g : Nat) (cb : Array Value) (cap blk a m b x y n : Nat) (P L R Q d0 : List Jb) (w0 w : World) (hn : d0.length = n) (hR : RowIs w0 blk n) (S : Hold w0 blk d0 w) (A : RotAt P L R Q m x y d0)
    (hx : 0 < x) (hy : 0 < y) (ha : a + x = m) (hb : m + y = b) (hbn : b ≤ n) (hl : n ≤ 100000) :
    Calls Try.prog 78 #[.slice (some ⟨blk, 0, none⟩) n cap, .int .i64 a, .int .i64 m, .int .i64 b, .func (.func g) #[] cb] w (Done w0 blk (P ++ (R ++ (L ++ Q)))) := by
  have HS := Lib.hid S
  have A0 := Lib.hid A
  have HD : Hid (d0.length = n) := Lib.hid hn
  have C : ∀ (i j k : Nat) (d : List Jb) (wz : World), Hid (d.length = n → Hold w0 blk d wz → i + k ≤ n → j + k ≤ n → Calls Try.prog 79 #[.slice (some ⟨blk, 0, none⟩) n cap, .int .i64 i, .int .i64 j, .int .i64 k, .func (.func g) #[] cb] wz (Done w0 blk (swapN d i j k))) := by
    intro i j k d wz
    refine Lib.hid fun hd hS h1 h2 => ?_
    subst hd
    exact swap_any g cb cap blk i j k d w0 wz hR hS h1 h2 hl
  clear S A hR hn
  have w1 : IntKind.i64.wrap ((m : Int) - (a : Int)) = (x : Int) := by rw [IntKind.wrap_i64]; omega
  have w2 : IntKind.i64.wrap ((b : Int) - (m : Int)) = (y : Int) := by rw [IntKind.wrap_i64]; omega
  have v1 : wrap64 ((m : Int) - (a : Int)) = (x : Int) := by unfold wrap64; omega
  have v2 : wrap64 ((b : Int) - (m : Int)) = (y : Int) := by unfold wrap64; omega
  have u1 : (m : Int) - (a : Int) = (x : Int) := by omega
  have u2 : (b : Int) - (m : Int) = (y : Int) := by omega
  go_enter Try.func78, Try.ntmps78
  go_wp2_with fail
  go_loopw [10, 11] (fun s10 s11 wr => ∃ (i j : Nat) (d : List Jb), s10 = .int .i64 i ∧ s11 = .int .i64 j ∧ 0 < i ∧ 0 < j ∧ Hid (d.length = n) ∧ Hid (RotAt P L R Q m i j d) ∧ Hid (Hold w0 blk d wr)) (fun s t _ => (intOf s).toNat + (intOf t).toNat)
  case atStart => exact ⟨x, y, d0, by go_num, by go_num, hx, hy, HD, A0, HS⟩
  case round =>
    clear HS A0 w1 w2 v1 v2 u1 u2
    obtain ⟨i, j, d, rfl, rfl, hi, hj, Hd, HA, HK⟩ := hrel
    have hfit := HA.out.fits
    rw [Hd.out] at hfit
    obtain ⟨hf1, hf2, -⟩ := hfit
    have i0 : (0 : Int) ≤ (i : Int) := Int.natCast_nonneg _
    have j0 : (0 : Int) ≤ (j : Int) := Int.natCast_nonneg _
    by_cases heq : i = j
    · subst heq
      have r1 : wrap64 ((m : Int) - (i : Int)) = ((m - i : Nat) : Int) := by unfold wrap64; omega
      have r2 : (m : Int) - (i : Int) = ((m - i : Nat) : Int) := by omega
      have C1 := Lib.hid ((C (m - i) m i d wr).out Hd.out HK.out (by omega) (by omega))
      have HE : Hid (swapN d (m - i) m i = P ++ (R ++ (L ++ Q))) := Lib.hid HA.out.end_
      go_wp2_with fail
      refine (C1.out).mono ?_
      rintro e w3 ⟨rfl, h3⟩
      rw [HE.out] at h3
      go_wp2_with fail
      go_end0
      exact ⟨rfl, h3⟩
    · by_cases hlt : j < i
      · have t1 : decide ((i : Int) > (j : Int)) = true := by simp; omega
        have ne1 : ¬ (i : Int) = (j : Int) := by omega
        have r1 : wrap64 ((m : Int) - (i : Int)) = ((m - i : Nat) : Int) := by unfold wrap64; omega
        have r2 : (m : Int) - (i : Int) = ((m - i : Nat) : Int) := by omega
        have r3 : wrap64 ((i : Int) - (j : Int)) = ((i - j : Nat) : Int) := by unfold wrap64; omega
        have r4 : (i : Int) - (j : Int) = ((i - j : Nat) : Int) := by omega
        have C1 := Lib.hid ((C (m - i) m j d wr).out Hd.out HK.out (by omega) (by omega))
        have HE : Hid (RotAt P L R Q m (i - j) j (swapN d (m - i) m j)) := Lib.hid (HA.out.left hlt)
        have HF : Hid ((swapN d (m - i) m j).length = n) := Lib.hid (by rw [swapN_len]; exact Hd.out)
        go_wp2_with fail
        refine (C1.out).mono ?_
        rintro e w3 ⟨rfl, h3⟩
        have H3 := Lib.hid h3
        clear h3
        go_wp2_with fail
        exact ⟨⟨i - j, j, swapN d (m - i) m j, by go_num, rfl, by omega, hj, HF, HE, H3⟩, by simp only [intOf]; omega⟩
      · have hlt2 : i < j := Nat.lt_of_le_of_ne (Nat.le_of_not_lt hlt) heq
        have t1 : decide ((i : Int) > (j : Int)) = false := decide_eq_false (by omega)
        have ne1 : ¬ (i : Int) = (j : Int) := by omega
        obtain ⟨p, q, r, s, hw | h0⟩ := ways_right m i j n hf1 hf2 hlt heq hl
        case inr => exact absurd hi (by rw [h0]; exact Nat.lt_irrefl 0)
        obtain ⟨hp, hq, hr, e1, e2, e3, e4, b1, b2, b3, f1, f2, hr0, hrj⟩ := hw
        have r1 := sub_wrap m i p e1 b1
        have r2 := sub_plain m i p e1
        have r5 := add_wrap m j s e2 b2
        have r8 := add_plain m j s e2
        have r6 := sub_wrap s i q e3 b2
        have r7 := sub_plain s i q e3
        have r3 := sub_wrap j i r e4 b3
        have r4 := sub_plain j i r e4
        have C1 := Lib.hid ((C p q i d wr).out Hd.out HK.out f1 f2)
        have HE : Hid (RotAt P L R Q m i r (swapN d p q i)) := Lib.hid (by rw [hr, hp, hq]; exact HA.out.right hlt2)
        have HF : Hid ((swapN d p q i).length = n) := Lib.hid (by rw [swapN_len]; exact Hd.out)
        clear hp hq hr hlt hlt2 e1 e2 e3 e4 b1 b2 b3 f1 f2
        generalize swapN d p q i = d2 at C1 HE HF
        go_wp2_with fail
        refine (C1.out).mono ?_
        rintro e w3 ⟨rfl, h3⟩
        have H3 := Lib.hid h3
        clear h3
        go_wp2_with fail
        exact ⟨⟨i, r, d2, rfl, rfl, hi, hr0, HF, HE, H3⟩, by simp only [intOf]; omega⟩
theorem rotate_any (g : Nat) (cb : Array Value) (cap blk a m b n : Nat) (P L R Q : List Jb) (w0 w : World) (hn : (P ++ (L ++ (R ++ Q))).length = n) (hR : RowIs w0 blk n) (S : Hold w0 blk (P ++ (L ++ (R ++ Q))) w)
    (ha : P.length = a) (hm : a + L.length = m) (hb : m + R.length = b) (hx : 0 < L.length) (hy : 0 < R.length) (hl : n ≤ 100000) :
    Calls Try.prog 78 #[.slice (some ⟨blk, 0, none⟩) n cap, .int .i64 a, .int .i64 m, .int .i64 b, .func (.func g) #[] cb] w (Done w0 blk (P ++ (R ++ (L ++ Q)))) :=
  rotate_core g cb cap blk a m b L.length R.length n P L R Q _ w0 w hn hR S (RotAt.start (by omega) rfl rfl) hx hy hm hb (by subst hn; simp; omega) hl
end Go.Proofs.Ytjegkddpaampmaa.OrdStab
