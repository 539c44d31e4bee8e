/-
  The library's slices.SortStableFunc at jobs, walked: a symmetric merge where one of the two rows is one job.
-/
import Derived.Test.YtjegkddpaampmaaOrdStabA
import Derived.Test.YtjegkddpaampmaaOrdWalkA
import Derived.Test.YtjegkddpaampmaaStab
import Derived.Shelf.Abstract
namespace Go.Proofs.Ytjegkddpaampmaa.OrdStab
open Go.Shelf Go.RowKit Go.Lib Go.Sort Go.Proofs.Ytjegkddpaampmaa.JobPlain Go.Proofs.Ytjegkddpaampmaa.OrdPlain Go.Proofs.Ytjegkddpaampmaa.Mem Go.Proofs.Ytjegkddpaampmaa.JobMem Go.Proofs.Ytjegkddpaampmaa.OrdMem Go.Proofs.Ytjegkddpaampmaa.OrdWalk Go.Proofs.Ytjegkddpaampmaa.Swap Go.Proofs.Ytjegkddpaampmaa.Stab Go.Proofs.Ytjegkddpaampmaa.Ins Go.Proofs.Ytjegkddpaampmaa.Symm
theorem swo : Swo aheadB := ⟨ahead_self, ahead_trans, no_trans⟩
theorem half_facts (i j n : Nat) (hi : i ≤ n) (hj : j ≤ n) (hn : n ≤ 100000) (hij : i < j) : ∃ h : Nat, h = (i + j) / 2 ∧ i ≤ h ∧ h < j ∧ h < n ∧ IntKind.u64.wrap ((i : Int) + (j : Int)) = (i : Int) + (j : Int) ∧ ((i : Int) + (j : Int)) / 2 ^ 1 = (h : Int) ∧ ((i : Int) + (j : Int)) / 2 = (h : Int) :=
  ⟨(i + j) / 2, rfl, by omega, by omega, by omega, by unfold IntKind.wrap; simp [IntKind.bits, IntKind.signed]; omega, by omega, by omega⟩
theorem test_facts (i n : Nat) (hi : i < n) (hn : n ≤ 100000) : ((i : Int)).toNat = i ∧ (0 : Int) ≤ (i : Int) ∧ (i : Int) < (n : Int) ∧ IntKind.i64.wrap (i : Int) = (i : Int) := ⟨by omega, by omega, by omega, by rw [IntKind.wrap_i64]; omega⟩
theorem up_facts (i j n : Nat) (h : j = i + 1) (hi : j < n) (hn : n ≤ 100000) : ((i : Int) + 1).toNat = j ∧ (0 : Int) ≤ (i : Int) + 1 ∧ (i : Int) + 1 < (n : Int) ∧ IntKind.i64.wrap ((i : Int) + 1) = (i : Int) + 1 := ⟨by omega, by omega, by omega, by rw [IntKind.wrap_i64]; omega⟩
theorem down_facts (i j n : Nat) (h : i = j + 1) (hi : i < n) (hn : n ≤ 100000) : ((i : Int) - 1).toNat = j ∧ (0 : Int) ≤ (i : Int) - 1 ∧ (i : Int) - 1 < (n : Int) ∧ IntKind.i64.wrap ((i : Int) - 1) = (i : Int) - 1 := ⟨by omega, by omega, by omega, by rw [IntKind.wrap_i64]; omega⟩
/-- How the search stands in the second row: the one before i is less, the one at j is not. -/
def OneAt (d : List Jb) (a m b i j : Nat) : Prop := (i = m ∨ aheadB d[i - 1]! d[a]! = true) ∧ (j = b ∨ aheadB d[j]! d[a]! = false)
/-- How the search stands in the first row. -/
def TwoAt (d : List Jb) (a m i j : Nat) : Prop := (i = a ∨ aheadB d[m]! d[i - 1]! = false) ∧ (j = m ∨ aheadB d[m]! d[j]! = true)
theorem up_next {P M T : List Jb} {x : Jb} {a p p1 : Nat} (ha : P.length = a) (h : a ≤ p) (hp : p1 = p + 1) (hM : p - a < M.length) : swL (UpAt P M T x (p - a)) p p1 = UpAt P M T x (p1 - a) := by
  have e := UpAt.next (P := P) (L := M) (Q := T) (x := x) hM
  rw [show P.length + (p - a) = p by omega, show p - a + 1 = p1 - a by omega] at e
  rw [hp] at e ⊢
  exact e
theorem down_next {P M T : List Jb} {x : Jb} {i p p0 : Nat} (ha : P.length = i) (h : i ≤ p0) (hp : p = p0 + 1) (hM : p0 - i < M.length) : swL (UpAt P M T x (p - i)) p p0 = UpAt P M T x (p0 - i) := by
  have e := UpAt.down (P := P) (L := M) (Q := T) (x := x) hM
  rw [show P.length + (p0 - i) = p0 by omega, show p0 - i + 1 = p - i by omega, ← hp] at e
  exact e
set_option maxRecDepth 100000 in
set_option maxHeartbeats 6400000 in
theorem symm_one (cap blk a m b n : Nat) (P L R Q d : List Jb) (w0 w : World) (H : Pair aheadB P L R Q d a m b) (hn : d.length = n) (hR : RowIs w0 blk n) (S : Hold w0 blk d w) (hm : m = a + 1) (hmb : m < b) (hl : n ≤ 100000) :
    Calls Try.prog 76 #[.slice (some ⟨blk, 0, none⟩) n cap, .int .i64 a, .int .i64 m, .int .i64 b, .func (.func 50) #[] #[]] w (Done w0 blk (P ++ (mg aheadB L R ++ Q))) := by
  have hbn : b ≤ n := by have := H.len; omega
  have hA := H.ea
  have hLm := H.em
  have hRm := H.eb
  obtain ⟨d0, hd0, RR⟩ := hR
  have HS := Lib.hid S
  have HP := Lib.hid H
  have HN := Lib.hid hn
  have HC := Lib.hid (fun x y W => compare_grow x y W)
  have u1 : wrap64 ((m : Int) - (a : Int)) = 1 := by unfold wrap64; omega
  have u2 : (m : Int) - (a : Int) = 1 := by omega
  have HM := Lib.hid hm
  have hmn : m ≤ n := by omega
  have han : a < n := by omega
  clear S H hn hm hA hLm hRm
  go_enter Try.func76, Try.ntmps76
  go_upto_block 0 with fail
  go_cut [10] (fun o wc => ∃ i : Nat, o = .int .i64 i ∧ m ≤ i ∧ i ≤ b ∧ Hid (OneAt d a m b i i) ∧ Hid (Hold w0 blk d wc))
  case first =>
    go_wp2_with fail
    go_loopw [10, 11] (fun o q wr => ∃ i j : Nat, o = .int .i64 i ∧ q = .int .i64 j ∧ m ≤ i ∧ i ≤ j ∧ j ≤ b ∧ Hid (OneAt d a m b i j) ∧ Hid (Hold w0 blk d wr)) (fun i j _ => (intOf j).toNat - (intOf i).toNat)
    case atStart => exact ⟨m, b, rfl, rfl, Nat.le_refl _, by omega, Nat.le_refl _, ⟨.inl rfl, .inl rfl⟩, HS.out⟩
    case round =>
      clear HS
      obtain ⟨i, j, rfl, rfl, hmi, hij, hjb, HA, HK⟩ := hrel
      by_cases hlt : i < j
      · obtain ⟨h, hh, hih, hhj, hhn, f3, f4, f5⟩ := half_facts i j n (by omega) (by omega) hl hlt
        clear hh
        cases hB : aheadB d[h]! d[a]!
        · have HB2 : Hid (OneAt d a m b i h) := ⟨HA.out.1, .inr hB⟩
          have hsz : d.toArray.size = d0.size := by rw [hd0]; simpa using HN.out
          have l1 := HK.out.ld RR hsz Try.prog h (by rw [hsz, hd0]; exact hhn)
          have l2 := HK.out.ld RR hsz Try.prog a (by rw [hsz, hd0]; exact han)
          simp only [Nat.zero_add, get_arr] at l1 l2
          obtain ⟨ea, pa, ba, ra⟩ := test_facts h n hhn hl
          obtain ⟨ec, pc, bc, rc⟩ := test_facts a n han hl
          have hc : ∀ (u : Nat) (os : Array Obj), Calls Try.prog 50 #[.agg (jobC d[h]!).toArray, .agg (jobC d[a]!).toArray] (grow (wr.drewN u) os) fun e w' => e = .returned (.int .i64 (cmp3 d[h]! d[a]!)) ∧ ∃ u' os', w' = grow ((grow (wr.drewN u) os).drewN u') os' := fun u os => HC.out _ _ _
          have hd := cmp3_ahead d[h]! d[a]!
          rw [hB] at hd
          generalize cmp3 d[h]! d[a]! = cv at hc hd
          have hd2 := of_decide_eq_false hd
          generalize jobC d[h]! = cI at l1 hc
          generalize jobC d[a]! = cJ at l2 hc
          clear hsz
          go_upto_region 5 with fail
          obtain ⟨T, hT⟩ : ∃ T : TypeId, T = 28 := ⟨_, rfl⟩
          obtain ⟨K, hK⟩ : ∃ K : Nat, K = 9 := ⟨_, rfl⟩
          obtain ⟨⟨eL, eS⟩, aE, zE⟩ := load_at T K hT hK
          have m1 : ∀ (u : Nat) (os : Array Obj), Sem.run Try.prog (loadCellsFrom ⟨blk, h * 9, none⟩ 0 K #[]) (grow (wr.drewN u) os) = .ok cI.toArray (grow (wr.drewN u) os) := by rw [hK]; exact l1
          have m2 : ∀ (u : Nat) (os : Array Obj), Sem.run Try.prog (loadCellsFrom ⟨blk, a * 9, none⟩ 0 K #[]) (grow (wr.drewN u) os) = .ok cJ.toArray (grow (wr.drewN u) os) := by rw [hK]; exact l2
          rw [eL]
          clear eL eS hT hK l1 l2
          have mixed : Try.prog.follows .mixedOrders = true := by kernel_rfl
          go_quiet_grown (first | (go_at_call 50; refine Calls.grown_of (hc _ _)))
          have S2 : Hid (Hold w0 blk d (grow (wr.drewN nq) osq)) := HK.out.grown nq osq
          clear m1 m2 hc
          generalize grow (wr.drewN nq) osq = w2 at S2 ⊢
          clear nq osq
          go_wp2_with fail
          exact ⟨⟨i, h, rfl, rfl, hmi, hih, by omega, HB2, S2⟩, by simp only [intOf]; omega⟩
        · have HB2 : Hid (OneAt d a m b (h + 1) j) := ⟨.inr hB, HA.out.2⟩
          have hsz : d.toArray.size = d0.size := by rw [hd0]; simpa using HN.out
          have l1 := HK.out.ld RR hsz Try.prog h (by rw [hsz, hd0]; exact hhn)
          have l2 := HK.out.ld RR hsz Try.prog a (by rw [hsz, hd0]; exact han)
          simp only [Nat.zero_add, get_arr] at l1 l2
          obtain ⟨ea, pa, ba, ra⟩ := test_facts h n hhn hl
          obtain ⟨ec, pc, bc, rc⟩ := test_facts a n han hl
          have hc : ∀ (u : Nat) (os : Array Obj), Calls Try.prog 50 #[.agg (jobC d[h]!).toArray, .agg (jobC d[a]!).toArray] (grow (wr.drewN u) os) fun e w' => e = .returned (.int .i64 (cmp3 d[h]! d[a]!)) ∧ ∃ u' os', w' = grow ((grow (wr.drewN u) os).drewN u') os' := fun u os => HC.out _ _ _
          have hd := cmp3_ahead d[h]! d[a]!
          rw [hB] at hd
          generalize cmp3 d[h]! d[a]! = cv at hc hd
          have hd2 := of_decide_eq_true hd
          generalize jobC d[h]! = cI at l1 hc
          generalize jobC d[a]! = cJ at l2 hc
          clear hsz
          go_upto_region 5 with fail
          obtain ⟨T, hT⟩ : ∃ T : TypeId, T = 28 := ⟨_, rfl⟩
          obtain ⟨K, hK⟩ : ∃ K : Nat, K = 9 := ⟨_, rfl⟩
          obtain ⟨⟨eL, eS⟩, aE, zE⟩ := load_at T K hT hK
          have m1 : ∀ (u : Nat) (os : Array Obj), Sem.run Try.prog (loadCellsFrom ⟨blk, h * 9, none⟩ 0 K #[]) (grow (wr.drewN u) os) = .ok cI.toArray (grow (wr.drewN u) os) := by rw [hK]; exact l1
          have m2 : ∀ (u : Nat) (os : Array Obj), Sem.run Try.prog (loadCellsFrom ⟨blk, a * 9, none⟩ 0 K #[]) (grow (wr.drewN u) os) = .ok cJ.toArray (grow (wr.drewN u) os) := by rw [hK]; exact l2
          rw [eL]
          clear eL eS hT hK l1 l2
          have mixed : Try.prog.follows .mixedOrders = true := by kernel_rfl
          go_quiet_grown (first | (go_at_call 50; refine Calls.grown_of (hc _ _)))
          have S2 : Hid (Hold w0 blk d (grow (wr.drewN nq) osq)) := HK.out.grown nq osq
          clear m1 m2 hc
          generalize grow (wr.drewN nq) osq = w2 at S2 ⊢
          clear nq osq
          go_wp2_with fail
          exact ⟨⟨h + 1, j, by go_num, rfl, by omega, by omega, hjb, HB2, S2⟩, by simp only [intOf]; omega⟩
      · have e : i = j := by omega
        subst e
        go_wp2_with fail
        go_meet
        exact ⟨i, rfl, hmi, hjb, HA, HK⟩
  case rest =>
    clear HS
    obtain ⟨i, rfl, hmi, hib, HA, HK⟩ := hcut
    obtain ⟨x, M, T, ed, eg, hML, hdl⟩ := HP.out.one swo HM.out hmi hib HA.out.1 HA.out.2
    have hPa := HP.out.ea
    have HE := Lib.hid eg
    have hm2 := HM.out
    have hdn := HN.out
    have HK0 : Hid (Hold w0 blk (UpAt P M T x (a - a)) wc) := by rw [Nat.sub_self, ← ed]; exact HK
    have HML := Lib.hid hML
    have HPA := Lib.hid hPa
    have HUN : Hid (∀ k, (UpAt P M T x k).length = n) := fun k => by rw [up_len]; omega
    obtain ⟨z, hz⟩ : ∃ z : Nat, z + 1 = i := ⟨i - 1, by omega⟩
    have HZ := Lib.hid hz
    have haz : a ≤ z := by omega
    have hzn : z < n := by omega
    have z1 : wrap64 ((i : Int) - 1) = (z : Int) := by unfold wrap64; omega
    have z2 : (i : Int) - 1 = (z : Int) := by omega
    clear eg ed HK HA HN hdl hz hm2 hML hPa hdn
    go_wp2_with fail
    go_loopw [13] (fun k wr => ∃ p : Nat, k = .int .i64 p ∧ a ≤ p ∧ p ≤ z ∧ Hid (Hold w0 blk (UpAt P M T x (p - a)) wr)) (fun k _ => z - (intOf k).toNat)
    case atStart => exact ⟨a, rfl, Nat.le_refl _, haz, HK0⟩
    case round =>
      clear HK0
      obtain ⟨p, rfl, hap, hpz, HK⟩ := hrel
      by_cases hlt : p < z
      · have i1 : (p : Int) < (z : Int) := by omega
        obtain ⟨p1, hp1⟩ : ∃ p1 : Nat, p1 = p + 1 := ⟨_, rfl⟩
        have hpn : p < n := by omega
        have hp1n : p1 < n := by omega
        have HDN : Hid ((UpAt P M T x (p - a)).length = n) := HUN.out _
        have HSW : Hid (swL (UpAt P M T x (p - a)) p p1 = UpAt P M T x (p1 - a)) := Lib.hid (up_next HPA.out hap hp1 (by have := HML.out; have := HZ.out; have := HM.out; omega))
        obtain ⟨ea, pa, ba, ra⟩ := test_facts p n hpn hl
        obtain ⟨ec, pc, bc, rc⟩ := up_facts p p1 n hp1 hp1n hl
        have HP1 := Lib.hid hp1
        clear hp1
        generalize UpAt P M T x (p - a) = D at *
        generalize hD2 : UpAt P M T x (p1 - a) = D2 at *
        have HD3 := Lib.hid hD2
        clear hD2
        have hsz : D.toArray.size = d0.size := by rw [hd0]; simpa using HDN.out
        have hsn : D.toArray.size = n := hsz.trans hd0
        have S2 := Lib.hid (HK.out.swapped RR p p1 (by rw [hsn]; exact hpn) (by rw [hsn]; exact hp1n))
        have l1 := HK.out.ld1 RR hsz Try.prog p (by rw [hsn]; exact hpn)
        have l2 := HK.out.ld1 RR hsz Try.prog p1 (by rw [hsn]; exact hp1n)
        have s1 := HK.out.st1 RR hsz Try.prog p (by rw [hsn]; exact hpn) D.toArray[p1]!
        have s2 := HK.out.st2 RR hsz Try.prog p p1 (by rw [hsn]; exact hpn) (by rw [hsn]; exact hp1n) D.toArray[p1]! D.toArray[p]!
        simp only [Nat.zero_add] at l1 l2 s1 s2 S2
        have n1 : (jobC D.toArray[p]!).length = 9 := rfl
        have n2 : (jobC D.toArray[p1]!).length = 9 := rfl
        have HD2 : Hid (swp D.toArray p p1 = (D2).toArray) := Lib.hid ((swp_list _ _ _ (by rw [hsn]; exact hpn) (by rw [hsn]; exact hp1n)).trans (by rw [HSW.out]))
        clear hsz hsn
        generalize jobC D.toArray[p]! = cI at S2 l1 s2 n1
        generalize jobC D.toArray[p1]! = cJ at S2 l2 s1 s2 n2
        have mixed : Try.prog.follows .mixedOrders = true := by kernel_rfl
        go_upto_region 11 with fail
        obtain ⟨T, hT⟩ : ∃ T : TypeId, T = 28 := ⟨_, rfl⟩
        obtain ⟨K, hK⟩ : ∃ K : Nat, K = 9 := ⟨_, rfl⟩
        obtain ⟨⟨eL, eS⟩, aE, zE⟩ := load_at T K hT hK
        have m1 : Sem.run Try.prog (loadCellsFrom ⟨blk, p * 9, none⟩ 0 K #[]) wr.drew = .ok cI.toArray wr.drew := by rw [hK]; exact l1
        have m2 : Sem.run Try.prog (loadCellsFrom ⟨blk, p1 * 9, none⟩ 0 K #[]) wr.drew = .ok cJ.toArray wr.drew := by rw [hK]; exact l2
        have q1 : cI.length = K := by rw [hK]; exact n1
        have q2 : cJ.length = K := by rw [hK]; exact n2
        rw [eL, eS]
        clear eL eS hT hK l1 l2 n1 n2
        go_big_region_o
        clear m1 m2 s1 s2
        generalize (wr.drew.setCells blk (p * 9) cJ).setCells blk (p1 * 9) cI = w2 at S2 ⊢
        have S3 : Hid (Hold w0 blk (D2) w2) := Lib.hid (by unfold Hold; rw [← HD2.out]; exact S2.out)
        clear S2 HD2
        go_wp2_with fail
        have hq := HP1.out
        exact ⟨⟨p1, by rw [hq]; go_num, by omega, by omega, by rw [HD3.out]; exact S3⟩, by simp only [intOf]; omega⟩
      · have e : p = z := by omega
        subst e
        have HF : Hid (UpAt P M T x (p - a) = P ++ (mg aheadB L R ++ Q)) := Lib.hid (by rw [HE.out]; congr 1; have := HML.out; have := HZ.out; have := HM.out; omega)
        go_wp2_with fail
        go_end0
        exact ⟨rfl, by rw [← HF.out]; exact HK.out⟩
set_option maxRecDepth 100000 in
set_option maxHeartbeats 6400000 in
theorem symm_two (cap blk a m b n : Nat) (P L R Q d : List Jb) (w0 w : World) (H : Pair aheadB P L R Q d a m b) (hn : d.length = n) (hR : RowIs w0 blk n) (S : Hold w0 blk d w) (ham : a + 1 < m) (hm : b = m + 1) (hl : n ≤ 100000) :
    Calls Try.prog 76 #[.slice (some ⟨blk, 0, none⟩) n cap, .int .i64 a, .int .i64 m, .int .i64 b, .func (.func 50) #[] #[]] w (Done w0 blk (P ++ (mg aheadB L R ++ Q))) := by
  have hbn : b ≤ n := by have := H.len; omega
  have hA := H.ea
  have hLm := H.em
  have hRm := H.eb
  obtain ⟨d0, hd0, RR⟩ := hR
  have HS := Lib.hid S
  have HP := Lib.hid H
  have HN := Lib.hid hn
  have HC := Lib.hid (fun x y W => compare_grow x y W)
  have u1 : wrap64 ((m : Int) - (a : Int)) = (m : Int) - (a : Int) := by unfold wrap64; omega
  have u2 : ((m : Int) - (a : Int) == 1) = false := by simp; omega
  have u3 : wrap64 ((b : Int) - (m : Int)) = 1 := by unfold wrap64; omega
  have u4 : (b : Int) - (m : Int) = 1 := by omega
  have HM := Lib.hid hm
  have hmn : m < n := by omega
  have han : a < n := by omega
  clear S H hn hm hA hLm hRm
  go_enter Try.func76, Try.ntmps76
  go_upto_block 4 with fail
  clear u1 u2 u3 u4
  go_cut [14] (fun o wc => ∃ i : Nat, o = .int .i64 i ∧ a ≤ i ∧ i ≤ m ∧ Hid (TwoAt d a m i i) ∧ Hid (Hold w0 blk d wc))
  case first =>
    go_wp2_with fail
    go_loopw [14, 15] (fun o q wr => ∃ i j : Nat, o = .int .i64 i ∧ q = .int .i64 j ∧ a ≤ i ∧ i ≤ j ∧ j ≤ m ∧ Hid (TwoAt d a m i j) ∧ Hid (Hold w0 blk d wr)) (fun i j _ => (intOf j).toNat - (intOf i).toNat)
    case atStart => exact ⟨a, m, rfl, rfl, Nat.le_refl _, by omega, Nat.le_refl _, ⟨.inl rfl, .inl rfl⟩, HS.out⟩
    case round =>
      clear HS
      obtain ⟨i, j, rfl, rfl, hmi, hij, hjb, HA, HK⟩ := hrel
      by_cases hlt : i < j
      · obtain ⟨h, hh, hih, hhj, hhn, f3, f4, f5⟩ := half_facts i j n (by omega) (by omega) hl hlt
        clear hh
        cases hB : aheadB d[m]! d[h]!
        · have HB2 : Hid (TwoAt d a m (h + 1) j) := ⟨.inr hB, HA.out.2⟩
          have hsz : d.toArray.size = d0.size := by rw [hd0]; simpa using HN.out
          have l1 := HK.out.ld RR hsz Try.prog m (by rw [hsz, hd0]; exact hmn)
          have l2 := HK.out.ld RR hsz Try.prog h (by rw [hsz, hd0]; exact hhn)
          simp only [Nat.zero_add, get_arr] at l1 l2
          obtain ⟨ea, pa, ba, ra⟩ := test_facts m n hmn hl
          obtain ⟨ec, pc, bc, rc⟩ := test_facts h n hhn hl
          have hc : ∀ (u : Nat) (os : Array Obj), Calls Try.prog 50 #[.agg (jobC d[m]!).toArray, .agg (jobC d[h]!).toArray] (grow (wr.drewN u) os) fun e w' => e = .returned (.int .i64 (cmp3 d[m]! d[h]!)) ∧ ∃ u' os', w' = grow ((grow (wr.drewN u) os).drewN u') os' := fun u os => HC.out _ _ _
          have hd := cmp3_ahead d[m]! d[h]!
          rw [hB] at hd
          generalize cmp3 d[m]! d[h]! = cv at hc hd
          have hd2 := of_decide_eq_false hd
          generalize jobC d[m]! = cI at l1 hc
          generalize jobC d[h]! = cJ at l2 hc
          clear hsz
          go_upto_region 17 with fail
          obtain ⟨T, hT⟩ : ∃ T : TypeId, T = 28 := ⟨_, rfl⟩
          obtain ⟨K, hK⟩ : ∃ K : Nat, K = 9 := ⟨_, rfl⟩
          obtain ⟨⟨eL, eS⟩, aE, zE⟩ := load_at T K hT hK
          have m1 : ∀ (u : Nat) (os : Array Obj), Sem.run Try.prog (loadCellsFrom ⟨blk, m * 9, none⟩ 0 K #[]) (grow (wr.drewN u) os) = .ok cI.toArray (grow (wr.drewN u) os) := by rw [hK]; exact l1
          have m2 : ∀ (u : Nat) (os : Array Obj), Sem.run Try.prog (loadCellsFrom ⟨blk, h * 9, none⟩ 0 K #[]) (grow (wr.drewN u) os) = .ok cJ.toArray (grow (wr.drewN u) os) := by rw [hK]; exact l2
          rw [eL]
          clear eL eS hT hK l1 l2
          have mixed : Try.prog.follows .mixedOrders = true := by kernel_rfl
          go_quiet_grown (first | (go_at_call 50; refine Calls.grown_of (hc _ _)))
          have S2 : Hid (Hold w0 blk d (grow (wr.drewN nq) osq)) := HK.out.grown nq osq
          clear m1 m2 hc
          generalize grow (wr.drewN nq) osq = w2 at S2 ⊢
          clear nq osq
          go_wp2_with fail
          exact ⟨⟨h + 1, j, by go_num, rfl, by omega, by omega, hjb, HB2, S2⟩, by simp only [intOf]; omega⟩
        · have HB2 : Hid (TwoAt d a m i h) := ⟨HA.out.1, .inr hB⟩
          have hsz : d.toArray.size = d0.size := by rw [hd0]; simpa using HN.out
          have l1 := HK.out.ld RR hsz Try.prog m (by rw [hsz, hd0]; exact hmn)
          have l2 := HK.out.ld RR hsz Try.prog h (by rw [hsz, hd0]; exact hhn)
          simp only [Nat.zero_add, get_arr] at l1 l2
          obtain ⟨ea, pa, ba, ra⟩ := test_facts m n hmn hl
          obtain ⟨ec, pc, bc, rc⟩ := test_facts h n hhn hl
          have hc : ∀ (u : Nat) (os : Array Obj), Calls Try.prog 50 #[.agg (jobC d[m]!).toArray, .agg (jobC d[h]!).toArray] (grow (wr.drewN u) os) fun e w' => e = .returned (.int .i64 (cmp3 d[m]! d[h]!)) ∧ ∃ u' os', w' = grow ((grow (wr.drewN u) os).drewN u') os' := fun u os => HC.out _ _ _
          have hd := cmp3_ahead d[m]! d[h]!
          rw [hB] at hd
          generalize cmp3 d[m]! d[h]! = cv at hc hd
          have hd2 := of_decide_eq_true hd
          generalize jobC d[m]! = cI at l1 hc
          generalize jobC d[h]! = cJ at l2 hc
          clear hsz
          go_upto_region 17 with fail
          obtain ⟨T, hT⟩ : ∃ T : TypeId, T = 28 := ⟨_, rfl⟩
          obtain ⟨K, hK⟩ : ∃ K : Nat, K = 9 := ⟨_, rfl⟩
          obtain ⟨⟨eL, eS⟩, aE, zE⟩ := load_at T K hT hK
          have m1 : ∀ (u : Nat) (os : Array Obj), Sem.run Try.prog (loadCellsFrom ⟨blk, m * 9, none⟩ 0 K #[]) (grow (wr.drewN u) os) = .ok cI.toArray (grow (wr.drewN u) os) := by rw [hK]; exact l1
          have m2 : ∀ (u : Nat) (os : Array Obj), Sem.run Try.prog (loadCellsFrom ⟨blk, h * 9, none⟩ 0 K #[]) (grow (wr.drewN u) os) = .ok cJ.toArray (grow (wr.drewN u) os) := by rw [hK]; exact l2
          rw [eL]
          clear eL eS hT hK l1 l2
          have mixed : Try.prog.follows .mixedOrders = true := by kernel_rfl
          go_quiet_grown (first | (go_at_call 50; refine Calls.grown_of (hc _ _)))
          have S2 : Hid (Hold w0 blk d (grow (wr.drewN nq) osq)) := HK.out.grown nq osq
          clear m1 m2 hc
          generalize grow (wr.drewN nq) osq = w2 at S2 ⊢
          clear nq osq
          go_wp2_with fail
          exact ⟨⟨i, h, rfl, rfl, hmi, hih, by omega, HB2, S2⟩, by simp only [intOf]; omega⟩
      · have e : i = j := by omega
        subst e
        go_wp2_with fail
        go_meet
        exact ⟨i, rfl, hmi, hjb, HA, HK⟩
  case rest =>
    clear HS
    obtain ⟨i, rfl, hmi, hib, HA, HK⟩ := hcut
    obtain ⟨x, U, M, T, ed, eg, hUi, hML, hdl⟩ := HP.out.two swo HM.out hmi hib HA.out.1 HA.out.2
    have HE := Lib.hid eg
    have hdn := HN.out
    have HK0 : Hid (Hold w0 blk (UpAt U M T x (m - i)) wc) := by rw [← hML, ← ed]; exact HK
    have HML := Lib.hid hML
    have HPA := Lib.hid hUi
    have HUN : Hid (∀ k, (UpAt U M T x k).length = n) := fun k => by rw [up_len]; omega
    clear eg ed HK HA HN hdl hML hUi hdn
    go_wp2_with fail
    go_loopw [17] (fun k wr => ∃ p : Nat, k = .int .i64 p ∧ i ≤ p ∧ p ≤ m ∧ Hid (Hold w0 blk (UpAt U M T x (p - i)) wr)) (fun k _ => (intOf k).toNat)
    case atStart => exact ⟨m, rfl, hib, Nat.le_refl _, HK0⟩
    case round =>
      clear HK0
      obtain ⟨p, rfl, hap, hpz, HK⟩ := hrel
      by_cases hlt : i < p
      · have i1 : (i : Int) < (p : Int) := by omega
        obtain ⟨p0, hp0⟩ : ∃ p0 : Nat, p = p0 + 1 := ⟨p - 1, by omega⟩
        have hpn : p < n := by omega
        have hp0n : p0 < n := by omega
        have HDN : Hid ((UpAt U M T x (p - i)).length = n) := HUN.out _
        have HSW : Hid (swL (UpAt U M T x (p - i)) p p0 = UpAt U M T x (p0 - i)) := Lib.hid (down_next HPA.out (by omega) hp0 (by have := HML.out; omega))
        obtain ⟨ea, pa, ba, ra⟩ := test_facts p n hpn hl
        obtain ⟨ec, pc, bc, rc⟩ := down_facts p p0 n hp0 hpn hl
        have HP0 := Lib.hid hp0
        clear hp0
        generalize UpAt U M T x (p - i) = D at *
        generalize hD2 : UpAt U M T x (p0 - i) = D2 at *
        have HD3 := Lib.hid hD2
        clear hD2
        have hsz : D.toArray.size = d0.size := by rw [hd0]; simpa using HDN.out
        have hsn : D.toArray.size = n := hsz.trans hd0
        have S2 := Lib.hid (HK.out.swapped RR p p0 (by rw [hsn]; exact hpn) (by rw [hsn]; exact hp0n))
        have l1 := HK.out.ld1 RR hsz Try.prog p (by rw [hsn]; exact hpn)
        have l2 := HK.out.ld1 RR hsz Try.prog p0 (by rw [hsn]; exact hp0n)
        have s1 := HK.out.st1 RR hsz Try.prog p (by rw [hsn]; exact hpn) D.toArray[p0]!
        have s2 := HK.out.st2 RR hsz Try.prog p p0 (by rw [hsn]; exact hpn) (by rw [hsn]; exact hp0n) D.toArray[p0]! D.toArray[p]!
        simp only [Nat.zero_add] at l1 l2 s1 s2 S2
        have n1 : (jobC D.toArray[p]!).length = 9 := rfl
        have n2 : (jobC D.toArray[p0]!).length = 9 := rfl
        have HD2 : Hid (swp D.toArray p p0 = (D2).toArray) := Lib.hid ((swp_list _ _ _ (by rw [hsn]; exact hpn) (by rw [hsn]; exact hp0n)).trans (by rw [HSW.out]))
        clear hsz hsn
        generalize jobC D.toArray[p]! = cI at S2 l1 s2 n1
        generalize jobC D.toArray[p0]! = cJ at S2 l2 s1 s2 n2
        have mixed : Try.prog.follows .mixedOrders = true := by kernel_rfl
        go_upto_region 23 with fail
        obtain ⟨T, hT⟩ : ∃ T : TypeId, T = 28 := ⟨_, rfl⟩
        obtain ⟨K, hK⟩ : ∃ K : Nat, K = 9 := ⟨_, rfl⟩
        obtain ⟨⟨eL, eS⟩, aE, zE⟩ := load_at T K hT hK
        have m1 : Sem.run Try.prog (loadCellsFrom ⟨blk, p * 9, none⟩ 0 K #[]) wr.drew = .ok cI.toArray wr.drew := by rw [hK]; exact l1
        have m2 : Sem.run Try.prog (loadCellsFrom ⟨blk, p0 * 9, none⟩ 0 K #[]) wr.drew = .ok cJ.toArray wr.drew := by rw [hK]; exact l2
        have q1 : cI.length = K := by rw [hK]; exact n1
        have q2 : cJ.length = K := by rw [hK]; exact n2
        rw [eL, eS]
        clear eL eS hT hK l1 l2 n1 n2
        go_big_region_o
        clear m1 m2 s1 s2
        generalize (wr.drew.setCells blk (p * 9) cJ).setCells blk (p0 * 9) cI = w2 at S2 ⊢
        have S3 : Hid (Hold w0 blk (D2) w2) := Lib.hid (by unfold Hold; rw [← HD2.out]; exact S2.out)
        clear S2 HD2
        go_wp2_with fail
        have hq := HP0.out
        exact ⟨⟨p0, by rw [hq]; go_num, by omega, by omega, by rw [HD3.out]; exact S3⟩, by simp only [intOf]; omega⟩
      · have e : p = i := by omega
        subst e
        have HF : Hid (UpAt U M T x (p - p) = P ++ (mg aheadB L R ++ Q)) := Lib.hid (by rw [HE.out, Nat.sub_self])
        go_wp2_with fail
        go_end0
        exact ⟨rfl, by rw [← HF.out]; exact HK.out⟩
end Go.Proofs.Ytjegkddpaampmaa.OrdStab
