/-
  The library's slices.SortStableFunc at jobs, walked: blocks exchanged, a rotation.
-/
import Derived.Test.YtkoadlgjehmkcaaOrdMem
import Derived.Test.YtkoadlgjehmkcaaSwap
import Derived.Test.YtkoadlgjehmkcaaStab
import Derived.Shelf.SlSortCmp.KitK
import Derived.Lib.Hide
namespace Go.Proofs.Ytkoadlgjehmkcaa.OrdStab
open Go.Shelf Go.RowKit Go.Lib Go.Sort Go.Proofs.Ytkoadlgjehmkcaa.JobPlain Go.Proofs.Ytkoadlgjehmkcaa.OrdPlain Go.Proofs.Ytkoadlgjehmkcaa.Mem Go.Proofs.Ytkoadlgjehmkcaa.JobMem Go.Proofs.Ytkoadlgjehmkcaa.OrdMem Go.Proofs.Ytkoadlgjehmkcaa.Swap
instance : Inhabited Jb := ⟨noJb⟩
theorem get_list (d : Array Jb) (i : Nat) : d[i]! = d.toList[i]! := by
  by_cases h : i < d.size
  · rw [getElem!_pos d i h, getElem!_pos d.toList i (by simpa using h)]; rfl
  · rw [getElem!_neg d i h, getElem!_neg d.toList i (by simpa using h)]
theorem swp_list (d : Array Jb) (i j : Nat) (hi : i < d.size) (hj : j < d.size) : swp d i j = (swL d.toList i j).toArray := by
  apply Array.ext'
  unfold swL
  simp [swp, get_list]
/-- The row of a sort holds these jobs. -/
def Hold (w0 : World) (blk : Nat) (l : List Jb) (W : World) : Prop := SWK jobC 9 w0 blk 0 l.toArray W
def RowIs (w0 : World) (blk : Nat) (n : Nat) : Prop := ∃ d0 : Array Jb, d0.size = n ∧ RowK jobC 9 w0 blk 0 d0
def Done (w0 : World) (blk : Nat) (l : List Jb) (e : Ending) (w' : World) : Prop := e = .returned (.tuple #[]) ∧ Hold w0 blk l w'
theorem job_agg (w : World) : (isAgg 24).run Try.prog w = .ok true w := by kernel_rfl
theorem job_size (w : World) : (Go.sizeOf 24).run Try.prog w = .ok 9 w := by kernel_rfl
theorem load_at (T K : Nat) (hT : T = 24) (hK : K = 9) : (Op.load 24 = Op.load T ∧ Op.store 24 = Op.store T) ∧ (∀ w, (isAgg T).run Try.prog w = .ok true w) ∧ (∀ w, (Go.sizeOf T).run Try.prog w = .ok K w) := by
  subst hT hK
  exact ⟨⟨rfl, rfl⟩, job_agg, job_size⟩
set_option maxRecDepth 100000 in
set_option maxHeartbeats 3200000 in
theorem swap_any (g : Nat) (cb : Array Value) (cap blk a b n : Nat) (l : List Jb) (w0 w : World) (hR : RowIs w0 blk l.length) (S : Hold w0 blk l w) (ha : a + n ≤ l.length) (hb : b + n ≤ l.length) (hl : l.length ≤ 100000) :
    Calls Try.prog 34 #[.slice (some ⟨blk, 0, none⟩) l.length cap, .int .i64 a, .int .i64 b, .int .i64 n, .func (.func g) #[] cb] w (Done w0 blk (swapN l a b n)) := by
  obtain ⟨d0, hd0, R⟩ := hR
  have HS := Lib.hid S
  have HL := Lib.hid hl
  have HLE := Lib.hid (And.intro ha hb)
  clear S hl
  go_enter Try.func34, Try.ntmps34
  go_wp2_with fail
  go_loopw [10] (fun i wr => ∃ k : Nat, i = .int .i64 k ∧ k ≤ n ∧ Hid (Hold w0 blk (swapN l a b k) wr)) (fun i _ => n - (intOf i).toNat)
  case atStart => exact ⟨0, rfl, Nat.zero_le _, HS.out⟩
  case round =>
    clear HS
    obtain ⟨k, rfl, hk, HK⟩ := hrel
    have i0 : (0 : Int) ≤ (k : Int) := Int.natCast_nonneg _
    have a0 : (0 : Int) ≤ (a : Int) := Int.natCast_nonneg _
    have b0 : (0 : Int) ≤ (b : Int) := Int.natCast_nonneg _
    by_cases hlt : k < n
    · have i1 : (k : Int) < (n : Int) := by omega
      have hlen : (swapN l a b k).length = l.length := swapN_len _ _ _ _
      have HNX : Hid (swapN l a b (k + 1) = swL (swapN l a b k) (a + k) (b + k)) := rfl
      have S1 := HK.out
      have hll := HL.out
      unfold Hold at S1
      generalize hD : swapN l a b k = D at *
      have hsz : D.toArray.size = l.length := by simp [hlen]
      have ea : ((a : Int) + (k : Int)).toNat = a + k := by omega
      have pa : (0 : Int) ≤ (a : Int) + (k : Int) := by omega
      have ba : (a : Int) + (k : Int) < (l.length : Int) := by omega
      have ra : IntKind.i64.wrap ((a : Int) + (k : Int)) = (a : Int) + (k : Int) := by rw [IntKind.wrap_i64]; omega
      have eb : ((b : Int) + (k : Int)).toNat = b + k := by omega
      have pb : (0 : Int) ≤ (b : Int) + (k : Int) := by omega
      have bb : (b : Int) + (k : Int) < (l.length : Int) := by omega
      have rb : IntKind.i64.wrap ((b : Int) + (k : Int)) = (b : Int) + (k : Int) := by rw [IntKind.wrap_i64]; omega
      have S2 := Lib.hid (S1.swapped R (a + k) (b + k) (by omega) (by omega))
      have l1 := S1.ld1 R (by omega) Try.prog (a + k) (by omega)
      have l2 := S1.ld1 R (by omega) Try.prog (b + k) (by omega)
      have s1 := S1.st1 R (by omega) Try.prog (a + k) (by omega) D.toArray[b + k]!
      have s2 := S1.st2 R (by omega) Try.prog (a + k) (b + k) (by omega) (by omega) D.toArray[b + k]! D.toArray[a + k]!
      simp only [Nat.zero_add] at l1 l2 s1 s2 S2
      have n1 : (jobC D.toArray[a + k]!).length = 9 := rfl
      have n2 : (jobC D.toArray[b + k]!).length = 9 := rfl
      have HD2 : Hid (swp D.toArray (a + k) (b + k) = (swapN l a b (k + 1)).toArray) := Lib.hid ((swp_list _ _ _ (by omega) (by omega)).trans (by rw [HNX.out]))
      clear hD hlen hsz hll S1 HK HNX
      generalize jobC D.toArray[a + k]! = cI at S2 l1 s2 n1
      generalize jobC D.toArray[b + k]! = cJ at S2 l2 s1 s2 n2
      have mixed : Try.prog.follows .mixedOrders = true := by kernel_rfl
      go_wp2_with fail
      obtain ⟨T, hT⟩ : ∃ T : TypeId, T = 24 := ⟨_, rfl⟩
      obtain ⟨K, hK⟩ : ∃ K : Nat, K = 9 := ⟨_, rfl⟩
      obtain ⟨⟨eL, eS⟩, aE, zE⟩ := load_at T K hT hK
      have m1 : Sem.run Try.prog (loadCellsFrom ⟨blk, (a + k) * 9, none⟩ 0 K #[]) wr.drew = .ok cI.toArray wr.drew := by rw [hK]; exact l1
      have m2 : Sem.run Try.prog (loadCellsFrom ⟨blk, (b + k) * 9, none⟩ 0 K #[]) wr.drew = .ok cJ.toArray wr.drew := by rw [hK]; exact l2
      have q1 : cI.length = K := by rw [hK]; exact n1
      have q2 : cJ.length = K := by rw [hK]; exact n2
      rw [eL, eS]
      clear eL eS hT hK l1 l2 n1 n2
      go_big_region_o
      clear m1 m2 s1 s2
      generalize (wr.drew.setCells blk ((a + k) * 9) cJ).setCells blk ((b + k) * 9) cI = w2 at S2 ⊢
      have HK2 : Hid (Hold w0 blk (swapN l a b (k + 1)) w2) := Lib.hid (by unfold Hold; rw [← HD2.out]; exact S2.out)
      have rk : IntKind.i64.wrap ((k : Int) + 1) = (k : Int) + 1 := by have := HL.out; have := HLE.out; rw [IntKind.wrap_i64]; omega
      go_wp2_with fail
      exact ⟨⟨k + 1, by go_num, by omega, HK2.out⟩, by simp [intOf] <;> omega⟩
    · have hkn : k = n := by omega
      subst hkn
      go_wp2_with fail
      go_end0
      exact ⟨rfl, HK.out⟩
end Go.Proofs.Ytkoadlgjehmkcaa.OrdStab
