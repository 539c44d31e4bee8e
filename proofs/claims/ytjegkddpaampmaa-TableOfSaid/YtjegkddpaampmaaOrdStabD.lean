/-
  The library's slices.SortStableFunc at jobs, walked: a symmetric merge: the cut, and the whole by induction.
-/
import Derived.Test.YtjegkddpaampmaaOrdStabC
namespace Go.Proofs.Ytjegkddpaampmaa.OrdStab
open Go.Shelf Go.RowKit Go.Lib Go.Sort Go.Proofs.Ytjegkddpaampmaa.JobPlain Go.Proofs.Ytjegkddpaampmaa.OrdPlain Go.Proofs.Ytjegkddpaampmaa.Mem Go.Proofs.Ytjegkddpaampmaa.JobMem Go.Proofs.Ytjegkddpaampmaa.OrdMem Go.Proofs.Ytjegkddpaampmaa.OrdWalk Go.Proofs.Ytjegkddpaampmaa.Swap Go.Proofs.Ytjegkddpaampmaa.Stab Go.Proofs.Ytjegkddpaampmaa.Ins Go.Proofs.Ytjegkddpaampmaa.Symm
/-- How the search of the cut stands. -/
structure CutAt (d : List Jb) (a m b mid n0 s r : Nat) : Prop where
  lo : a ≤ s
  sr : s ≤ r
  hi : r ≤ mid
  hm : r ≤ m
  nb : n0 ≤ b + s
  one : s = a ∨ n0 - s = b ∨ aheadB d[n0 - s]! d[s - 1]! = false
  two : r = m ∨ n0 - r = m ∨ aheadB d[n0 - r - 1]! d[r]! = true
theorem half_wrap (a b n mid : Nat) (ha : a ≤ n) (hb : b ≤ n) (hn : n ≤ 100000) (h : mid = (a + b) / 2) : IntKind.u64.wrap ((a : Int) + (b : Int)) = (a : Int) + (b : Int) ∧ ((a : Int) + (b : Int)) / 2 ^ 1 = (mid : Int) ∧ ((a : Int) + (b : Int)) / 2 = (mid : Int) :=
  ⟨by unfold IntKind.wrap; simp [IntKind.bits, IntKind.signed]; omega, by omega, by omega⟩
theorem not_one (a m : Nat) (h : a + 1 < m) : ((m : Int) - (a : Int) == 1) = false := by simp; omega
theorem cut_start {d : List Jb} {a m b mid n0 : Nat} (ham : a < m) (hmb : m < b) (hmid : mid = (a + b) / 2) (hn0 : n0 = mid + m) :
    (mid < m → ∃ s, s + b = n0 ∧ s ≤ n0 ∧ CutAt d a m b mid n0 s mid) ∧ (¬ mid < m → CutAt d a m b mid n0 a m) := by
  refine ⟨fun h => ⟨n0 - b, by omega, by omega, ⟨by omega, by omega, by omega, by omega, by omega, .inr (.inl (by omega)), .inr (.inl (by omega))⟩⟩, fun h => ⟨by omega, by omega, by omega, by omega, by omega, .inl rfl, .inl rfl⟩⟩
theorem CutAt.left {d : List Jb} {a m b mid n0 s r c q : Nat} (h : CutAt d a m b mid n0 s r) (hc : s ≤ c) (hr : c < r) (hq : q + c + 1 = n0) (hB : aheadB d[q]! d[c]! = false) : CutAt d a m b mid n0 (c + 1) r :=
  ⟨by have := h.lo; omega, by omega, h.hi, h.hm, by have := h.nb; omega, .inr (.inr (by rw [show n0 - (c + 1) = q by omega, show c + 1 - 1 = c by omega]; exact hB)), h.two⟩
theorem CutAt.right {d : List Jb} {a m b mid n0 s r c q : Nat} (h : CutAt d a m b mid n0 s r) (hc : s ≤ c) (hr : c < r) (hq : q + c + 1 = n0) (hB : aheadB d[q]! d[c]! = true) : CutAt d a m b mid n0 s c :=
  ⟨h.lo, hc, by have := h.hi; omega, by have := h.hm; omega, h.nb, h.one, .inr (.inr (by rw [show n0 - c - 1 = q by omega]; exact hB))⟩
theorem cut_all (a m b n : Nat) (ham : a + 1 < m) (hmb : m + 1 < b) (hb : b ≤ n) (hn : n ≤ 100000) : ∃ mid n0 p : Nat, mid = (a + b) / 2 ∧ n0 = mid + m ∧ p + 1 = n0 ∧ n0 ≤ 200000 ∧ mid ≤ n :=
  ⟨(a + b) / 2, (a + b) / 2 + m, (a + b) / 2 + m - 1, rfl, rfl, by omega, by omega, by omega⟩
theorem q_facts (p c q : Nat) (h : q + c = p) : (p : Int) - (c : Int) = (q : Int) := by omega
theorem add_facts (x y z : Nat) (h : x + y = z) : (x : Int) + (y : Int) = (z : Int) := by omega
theorem one_facts (x z : Nat) (h : z + 1 = x) : (x : Int) - 1 = (z : Int) := by omega
/-- What a merge of two rows asks and does. -/
def Merges (cap blk n : Nat) (w0 : World) (N : Nat) : Prop := ∀ (a m b : Nat) (P L R Q d : List Jb) (w : World), b - a < N → a < m → m < b → Pair aheadB P L R Q d a m b → d.length = n → Hold w0 blk d w →
  Calls Try.prog 76 #[.slice (some ⟨blk, 0, none⟩) n cap, .int .i64 a, .int .i64 m, .int .i64 b, .func (.func 50) #[] #[]] w (Done w0 blk (P ++ (mg aheadB L R ++ Q)))
set_option maxRecDepth 100000 in
set_option maxHeartbeats 6400000 in
theorem symm_cut (cap blk a m b n : Nat) (P L R Q d : List Jb) (w0 w : World) (H : Pair aheadB P L R Q d a m b) (hn : d.length = n) (hR : RowIs w0 blk n) (S : Hold w0 blk d w) (ham : a + 1 < m) (hmb : m + 1 < b) (hl : n ≤ 100000) (N : Nat) (IH : Merges cap blk n w0 N) (hN : b - a ≤ N) :
    Calls Try.prog 76 #[.slice (some ⟨blk, 0, none⟩) n cap, .int .i64 a, .int .i64 m, .int .i64 b, .func (.func 50) #[] #[]] w (Done w0 blk (P ++ (mg aheadB L R ++ Q))) := by
  have hbn : b ≤ n := by have := H.len; omega
  have hA := H.ea
  have hLm := H.em
  have hRm := H.eb
  obtain ⟨d0, hd0, RR⟩ := hR
  have HS := Lib.hid S
  have HP := Lib.hid H
  have HN := Lib.hid hn
  have HC := Lib.hid (fun x y W => compare_grow x y W)
  have hmn : m < n := by omega
  have han : a < n := by omega
  have HIH := Lib.hid IH
  have HRI : Hid (RowIs w0 blk n) := ⟨d0, hd0, RR⟩
  obtain ⟨mid, n0, p, hmid, hn0, hp, hn02, hmidn⟩ := cut_all a m b n ham hmb hbn hl
  have HST := Lib.hid (cut_start (d := d) (show a < m by omega) (show m < b by omega) hmid hn0)
  have HMID := Lib.hid hmid
  have HN0 := Lib.hid hn0
  have HPP := Lib.hid hp
  have HLN := Lib.hid (And.intro ham (And.intro hmb hN))
  have HU := Lib.hid (And.intro (not_one a m ham) (And.intro (not_one m b hmb) (And.intro (half_wrap a b n mid (by omega) hbn hl hmid) (And.intro (add_facts mid m n0 hn0.symm) (one_facts n0 p hp)))))
  clear S H hn hA hLm hRm IH hmid hn0 hp hN ham hmb
  have ham2 : a < m := by have := HLN.out; omega
  have hmb2 : m < b := by have := HLN.out; omega
  obtain ⟨u2, u4, ⟨f3, f4, f5⟩, f7, f9⟩ := HU.out
  go_enter Try.func76, Try.ntmps76
  go_upto_if 140 with fail
  clear u2 u4 f3 f4 f5 f7
  go_cut [20, 21] (fun o q wc => ∃ s r : Nat, o = .int .i64 s ∧ q = .int .i64 r ∧ Hid (CutAt d a m b mid n0 s r) ∧ w = wc)
  case first =>
    by_cases hmm : mid < m
    · obtain ⟨s, hs, hsn, hcut⟩ := HST.out.1 hmm
      have HG := Lib.hid (q_facts n0 b s hs)
      have HCUT := Lib.hid hcut
      clear hcut hs hsn
      have t1 : (mid : Int) < (m : Int) := by omega
      have hsle : s ≤ n := by have := HCUT.out.hm; have := HCUT.out.sr; omega
      have g2 := HG.out
      go_wp2_with fail
      go_meet
      exact ⟨s, mid, rfl, rfl, HCUT, rfl⟩
    · have HCUT := Lib.hid (HST.out.2 hmm)
      have t1 : ¬ (mid : Int) < (m : Int) := by omega
      go_wp2_with fail
      go_meet
      exact ⟨a, m, rfl, rfl, HCUT, rfl⟩
  case rest =>
    obtain ⟨s, r, rfl, rfl, HC0, rfl⟩ := hcut
    clear HST
    go_upto_block 8 with fail
    clear f9
    go_cut [20] (fun o wc => ∃ s : Nat, o = .int .i64 s ∧ Hid (CutAt d a m b mid n0 s s) ∧ Hid (Hold w0 blk d wc))
    case first =>
      go_wp2_with fail
      go_loopw [20, 21] (fun o q wr => ∃ s r : Nat, o = .int .i64 s ∧ q = .int .i64 r ∧ Hid (CutAt d a m b mid n0 s r) ∧ Hid (Hold w0 blk d wr)) (fun i j _ => (intOf j).toNat - (intOf i).toNat)
      case atStart => exact ⟨s, r, rfl, rfl, HC0, HS⟩
      case round =>
        clear HS HC0 s r
        obtain ⟨s, r, rfl, rfl, HA, HK⟩ := hrel
        by_cases hlt : s < r
        · have hsr : r ≤ n := by have := HA.out.hm; omega
          obtain ⟨c, hcc, hsc, hcr, hcn, f3, f4, f5⟩ := half_facts s r n (by omega) hsr hl hlt
          obtain ⟨q, hq⟩ : ∃ q : Nat, q + c = p := ⟨p - c, by have := HA.out.hi; have := HPP.out; have := HN0.out; omega⟩
          have hqn : q < n := by have := HA.out.nb; have := HPP.out; omega
          have hp2 : p ≤ 200000 := by have := HPP.out; omega
          have HG := Lib.hid (q_facts p c q hq)
          have HHW := Lib.hid (And.intro f3 (And.intro f4 f5))
          have HQ : Hid (q + c + 1 = n0) := Lib.hid (by rw [hq]; exact HPP.out)
          clear hcc hq f3 f4 f5
          cases hB : aheadB d[q]! d[c]!
          · have HB2 : Hid (CutAt d a m b mid n0 (c + 1) r) := Lib.hid (HA.out.left hsc hcr HQ.out hB)
            have hsz : d.toArray.size = d0.size := by rw [hd0]; simpa using HN.out
            have l1 := HK.out.ld RR hsz Try.prog q (by rw [hsz, hd0]; exact hqn)
            have l2 := HK.out.ld RR hsz Try.prog c (by rw [hsz, hd0]; exact hcn)
            simp only [Nat.zero_add, get_arr] at l1 l2
            obtain ⟨ea, pa, ba, ra⟩ := test_facts q n hqn hl
            obtain ⟨ec, pc, bc, rc⟩ := test_facts c n hcn hl
            have hc : ∀ (u : Nat) (os : Array Obj), Calls Try.prog 50 #[.agg (jobC d[q]!).toArray, .agg (jobC d[c]!).toArray] (grow (wr.drewN u) os) fun e w' => e = .returned (.int .i64 (cmp3 d[q]! d[c]!)) ∧ ∃ u' os', w' = grow ((grow (wr.drewN u) os).drewN u') os' := fun u os => HC.out _ _ _
            have hd := cmp3_ahead d[q]! d[c]!
            rw [hB] at hd
            generalize cmp3 d[q]! d[c]! = cv at hc hd
            have hd2 := of_decide_eq_false hd
            generalize jobC d[q]! = cI at l1 hc
            generalize jobC d[c]! = cJ at l2 hc
            clear hsz
            have g2 := HG.out
            obtain ⟨f3, f4, f5⟩ := HHW.out
            go_upto_region 35 with fail
            obtain ⟨T, hT⟩ : ∃ T : TypeId, T = 28 := ⟨_, rfl⟩
            obtain ⟨K, hK⟩ : ∃ K : Nat, K = 9 := ⟨_, rfl⟩
            obtain ⟨⟨eL, eS⟩, aE, zE⟩ := load_at T K hT hK
            have m1 : ∀ (u : Nat) (os : Array Obj), Sem.run Try.prog (loadCellsFrom ⟨blk, q * 9, none⟩ 0 K #[]) (grow (wr.drewN u) os) = .ok cI.toArray (grow (wr.drewN u) os) := by rw [hK]; exact l1
            have m2 : ∀ (u : Nat) (os : Array Obj), Sem.run Try.prog (loadCellsFrom ⟨blk, c * 9, none⟩ 0 K #[]) (grow (wr.drewN u) os) = .ok cJ.toArray (grow (wr.drewN u) os) := by rw [hK]; exact l2
            rw [eL]
            clear eL eS hT hK l1 l2
            have mixed : Try.prog.follows .mixedOrders = true := by kernel_rfl
            go_quiet_grown (first | (go_at_call 50; refine Calls.grown_of (hc _ _)))
            have S2 : Hid (Hold w0 blk d (grow (wr.drewN nq) osq)) := HK.out.grown nq osq
            clear m1 m2 hc
            clear g2 f3 f4 f5
            generalize grow (wr.drewN nq) osq = w2 at S2 ⊢
            clear nq osq
            go_wp2_with fail
            exact ⟨⟨c + 1, r, by go_num, rfl, HB2, S2⟩, by simp only [intOf]; omega⟩
          · have HB2 : Hid (CutAt d a m b mid n0 s c) := Lib.hid (HA.out.right hsc hcr HQ.out hB)
            have hsz : d.toArray.size = d0.size := by rw [hd0]; simpa using HN.out
            have l1 := HK.out.ld RR hsz Try.prog q (by rw [hsz, hd0]; exact hqn)
            have l2 := HK.out.ld RR hsz Try.prog c (by rw [hsz, hd0]; exact hcn)
            simp only [Nat.zero_add, get_arr] at l1 l2
            obtain ⟨ea, pa, ba, ra⟩ := test_facts q n hqn hl
            obtain ⟨ec, pc, bc, rc⟩ := test_facts c n hcn hl
            have hc : ∀ (u : Nat) (os : Array Obj), Calls Try.prog 50 #[.agg (jobC d[q]!).toArray, .agg (jobC d[c]!).toArray] (grow (wr.drewN u) os) fun e w' => e = .returned (.int .i64 (cmp3 d[q]! d[c]!)) ∧ ∃ u' os', w' = grow ((grow (wr.drewN u) os).drewN u') os' := fun u os => HC.out _ _ _
            have hd := cmp3_ahead d[q]! d[c]!
            rw [hB] at hd
            generalize cmp3 d[q]! d[c]! = cv at hc hd
            have hd2 := of_decide_eq_true hd
            generalize jobC d[q]! = cI at l1 hc
            generalize jobC d[c]! = cJ at l2 hc
            clear hsz
            have g2 := HG.out
            obtain ⟨f3, f4, f5⟩ := HHW.out
            go_upto_region 35 with fail
            obtain ⟨T, hT⟩ : ∃ T : TypeId, T = 28 := ⟨_, rfl⟩
            obtain ⟨K, hK⟩ : ∃ K : Nat, K = 9 := ⟨_, rfl⟩
            obtain ⟨⟨eL, eS⟩, aE, zE⟩ := load_at T K hT hK
            have m1 : ∀ (u : Nat) (os : Array Obj), Sem.run Try.prog (loadCellsFrom ⟨blk, q * 9, none⟩ 0 K #[]) (grow (wr.drewN u) os) = .ok cI.toArray (grow (wr.drewN u) os) := by rw [hK]; exact l1
            have m2 : ∀ (u : Nat) (os : Array Obj), Sem.run Try.prog (loadCellsFrom ⟨blk, c * 9, none⟩ 0 K #[]) (grow (wr.drewN u) os) = .ok cJ.toArray (grow (wr.drewN u) os) := by rw [hK]; exact l2
            rw [eL]
            clear eL eS hT hK l1 l2
            have mixed : Try.prog.follows .mixedOrders = true := by kernel_rfl
            go_quiet_grown (first | (go_at_call 50; refine Calls.grown_of (hc _ _)))
            have S2 : Hid (Hold w0 blk d (grow (wr.drewN nq) osq)) := HK.out.grown nq osq
            clear m1 m2 hc
            clear g2 f3 f4 f5
            generalize grow (wr.drewN nq) osq = w2 at S2 ⊢
            clear nq osq
            go_wp2_with fail
            exact ⟨⟨s, c, rfl, rfl, HB2, S2⟩, by simp only [intOf]; omega⟩
        · have e : s = r := by have := HA.out.sr; omega
          subst e
          go_wp2_with fail
          go_meet
          exact ⟨s, rfl, HA, HK⟩
    case rest =>
      clear HS HC0 s r
      obtain ⟨s, rfl, HA, HK⟩ := hcut
      obtain ⟨e, he⟩ : ∃ e : Nat, e + s = n0 := ⟨n0 - s, by have := HA.out.hm; have := HN0.out; omega⟩
      have hsm : s ≤ m := HA.out.hm
      have hsmid : s ≤ mid := HA.out.hi
      have hoa := HA.out.one
      have hob := HA.out.two
      rw [show n0 - s = e by omega] at hoa hob
      have heb : e ≤ b := by have := HA.out.nb; omega
      obtain ⟨L1, L2, R1, R2, ed, l1, l2, l3, hmg, l4, l5, v1, v2, v3, v4, l6, l7, l8⟩ := HP.out.cut swo HMID.out (by have := HN0.out; omega) HA.out.lo hsm hsmid heb hoa hob
      have las := HA.out.lo
      have HG := Lib.hid (q_facts n0 s e he)
      have hme : m ≤ e := by omega
      have hle : d.length = (P ++ L1).length + L2.length + R1.length + R2.length + Q.length := by rw [ed]; simp only [List.length_append]; omega
      have HK1 : Hid (Hold w0 blk ((P ++ L1) ++ (L2 ++ (R1 ++ (R2 ++ Q)))) wc) := by rw [← ed]; exact HK
      have HMG := Lib.hid hmg
      have hnd := HN.out
      have hPa := HP.out.ea
      have C1 : Hid (∀ W, s < m → m < e → Hold w0 blk ((P ++ L1) ++ (L2 ++ (R1 ++ (R2 ++ Q)))) W → Calls Try.prog 78 #[.slice (some ⟨blk, 0, none⟩) n cap, .int .i64 s, .int .i64 m, .int .i64 e, .func (.func 50) #[] #[]] W (Done w0 blk ((P ++ L1) ++ (R1 ++ (L2 ++ (R2 ++ Q)))))) :=
        fun W x1 x2 hW => rotate_any 50 #[] cap blk s m e n (P ++ L1) L2 R1 (R2 ++ Q) w0 W (by rw [← ed]; exact hnd) HRI.out hW l1 l2 l3 (by omega) (by omega) hl
      have C2 : Hid (∀ W, a < s → s < mid → Hold w0 blk ((P ++ L1) ++ (R1 ++ (L2 ++ (R2 ++ Q)))) W → Calls Try.prog 76 #[.slice (some ⟨blk, 0, none⟩) n cap, .int .i64 a, .int .i64 s, .int .i64 mid, .func (.func 50) #[] #[]] W (Done w0 blk (P ++ (mg aheadB L1 R1 ++ (L2 ++ (R2 ++ Q)))))) :=
        fun W x1 x2 hW => HIH.out a s mid P L1 R1 (L2 ++ (R2 ++ Q)) _ W (by have := HLN.out; have := HMID.out; omega) x1 x2 ⟨by simp, hPa, l6, l7, v1, v3⟩ (by have := hnd; simp only [List.length_append] at hle ⊢; omega) hW
      have C3 : Hid (∀ W, mid < e → e < b → Hold w0 blk (P ++ (mg aheadB L1 R1 ++ (L2 ++ (R2 ++ Q)))) W → Calls Try.prog 76 #[.slice (some ⟨blk, 0, none⟩) n cap, .int .i64 mid, .int .i64 e, .int .i64 b, .func (.func 50) #[] #[]] W (Done w0 blk ((P ++ mg aheadB L1 R1) ++ (mg aheadB L2 R2 ++ Q)))) :=
        fun W x1 x2 hW => HIH.out mid e b (P ++ mg aheadB L1 R1) L2 R2 Q _ W (by have := HLN.out; have := HMID.out; omega) x1 x2 ⟨by simp, by simp only [List.length_append]; omega, l8, l5, v2, v4⟩ (by have := mg_len (lt := aheadB) R1 L1; simp only [List.length_append] at hle ⊢; omega) hW
      have E1 : Hid (¬ (s < m ∧ m < e) → (P ++ L1) ++ (L2 ++ (R1 ++ (R2 ++ Q))) = (P ++ L1) ++ (R1 ++ (L2 ++ (R2 ++ Q)))) := fun h => by
        by_cases x1 : s < m
        · have : R1 = [] := List.eq_nil_of_length_eq_zero (by omega)
          rw [this]; rfl
        · have : L2 = [] := List.eq_nil_of_length_eq_zero (by omega)
          rw [this]; rfl
      have E2 : Hid (¬ (a < s ∧ s < mid) → (P ++ L1) ++ (R1 ++ (L2 ++ (R2 ++ Q))) = P ++ (mg aheadB L1 R1 ++ (L2 ++ (R2 ++ Q)))) := fun h => by
        by_cases x1 : a < s
        · have : R1 = [] := List.eq_nil_of_length_eq_zero (by omega)
          rw [this]; simp [mg]
        · have : L1 = [] := List.eq_nil_of_length_eq_zero (by omega)
          rw [this, mg_nil swo v3]; simp
      have E3 : Hid (¬ (mid < e ∧ e < b) → P ++ (mg aheadB L1 R1 ++ (L2 ++ (R2 ++ Q))) = (P ++ mg aheadB L1 R1) ++ (mg aheadB L2 R2 ++ Q)) := fun h => by
        by_cases x1 : mid < e
        · have : R2 = [] := List.eq_nil_of_length_eq_zero (by omega)
          rw [this]; simp [mg]
        · have : L2 = [] := List.eq_nil_of_length_eq_zero (by omega)
          rw [this, mg_nil swo v4]; simp
      have E4 : Hid ((P ++ mg aheadB L1 R1) ++ (mg aheadB L2 R2 ++ Q) = P ++ (mg aheadB L R ++ Q)) := Lib.hid (by rw [hmg]; simp)
      generalize (P ++ L1) ++ (L2 ++ (R1 ++ (R2 ++ Q))) = D1 at *
      generalize (P ++ L1) ++ (R1 ++ (L2 ++ (R2 ++ Q))) = D2 at *
      generalize P ++ (mg aheadB L1 R1 ++ (L2 ++ (R2 ++ Q))) = D3 at *
      generalize (P ++ mg aheadB L1 R1) ++ (mg aheadB L2 R2 ++ Q) = D4 at *
      clear l1 l2 l3 hmg l4 l5 v1 v2 v3 v4 l6 l7 l8 hoa hob ed hle he HK HP HN hnd hPa HIH HMG HA
      have hen : e ≤ n := by omega
      obtain ⟨B1, hB1⟩ : ∃ B1 : Bool, B1 = decide (s < m ∧ m < e) := ⟨_, rfl⟩
      have HBT1 : Hid (B1 = true → s < m ∧ m < e) := fun h => by rw [hB1] at h; exact of_decide_eq_true h
      have HBF1 : Hid (B1 = false → ¬ (s < m ∧ m < e)) := fun h => by rw [hB1] at h; exact of_decide_eq_false h
      have HBB1 := Lib.hid hB1
      clear hB1
      have g2 := HG.out
      go_upto_region 39 with fail
      obtain ⟨W1, hW1⟩ : ∃ W1, W1 = wc := ⟨_, rfl⟩
      rw [← hW1]
      go_cut [185] from 178 to 184 (fun v wx => v = .bool B1 ∧ W1 = wx)
      case first =>
        by_cases x1 : s < m
        · by_cases x2 : m < e
          · have t1 : decide ((s : Int) < (m : Int)) = true := decide_eq_true (by omega)
            have t2 : decide ((m : Int) < (e : Int)) = true := decide_eq_true (by omega)
            have hb : B1 = true := by rw [HBB1.out]; exact decide_eq_true ⟨x1, x2⟩
            clear HBT1 HBF1 HBB1
            subst hb
            go_wp2_with fail
            go_meet
            exact ⟨rfl, by first | rfl | exact hW1⟩
          · have t1 : decide ((s : Int) < (m : Int)) = true := decide_eq_true (by omega)
            have t2 : decide ((m : Int) < (e : Int)) = false := decide_eq_false (by omega)
            have hb : B1 = false := by rw [HBB1.out]; exact decide_eq_false (fun h => x2 h.2)
            clear HBT1 HBF1 HBB1
            subst hb
            go_wp2_with fail
            go_meet
            exact ⟨rfl, by first | rfl | exact hW1⟩
        · have t1 : decide ((s : Int) < (m : Int)) = false := decide_eq_false (by omega)
          have hb : B1 = false := by rw [HBB1.out]; exact decide_eq_false (fun h => x1 h.1)
          clear HBT1 HBF1 HBB1
          subst hb
          go_wp2_with fail
          go_meet
          exact ⟨rfl, by first | rfl | exact hW1⟩
      case rest =>
        obtain ⟨rfl, rfl⟩ := hcut
        clear HBB1
        go_upto_if 185 with fail
        go_cut [] from 186 to 191 (fun wx => Hid (Hold w0 blk D2 wx))
        case first =>
          cases B1
          · have HE := E1.out (HBF1.out rfl)
            rw [hW1]
            go_wp2_with fail
            go_meet
            rw [← HE]
            exact HK1
          · have C1b := Lib.hid (C1.out _ (HBT1.out rfl).1 (HBT1.out rfl).2 HK1.out)
            rw [hW1]
            go_wp2_with fail
            refine C1b.out.mono ?_
            rintro en w3 ⟨rfl, h3⟩
            have H3 := Lib.hid h3
            clear h3
            go_wp2_with fail
            go_meet
            exact H3
        case rest =>
          have HD2 : Hid (Hold w0 blk D2 wc) := hcut
          clear hcut C1 E1 HK1 HBT1 HBF1 hW1
          obtain ⟨B2, hB2⟩ : ∃ B2 : Bool, B2 = decide (a < s ∧ s < mid) := ⟨_, rfl⟩
          have HBT2 : Hid (B2 = true → a < s ∧ s < mid) := fun h => by rw [hB2] at h; exact of_decide_eq_true h
          have HBF2 : Hid (B2 = false → ¬ (a < s ∧ s < mid)) := fun h => by rw [hB2] at h; exact of_decide_eq_false h
          have HBB2 := Lib.hid hB2
          clear hB2
          go_upto_region 41 with fail
          obtain ⟨W1, hW1⟩ : ∃ W1, W1 = wc := ⟨_, rfl⟩
          rw [← hW1]
          go_cut [199] from 192 to 198 (fun v wx => v = .bool B2 ∧ W1 = wx)
          case first =>
            by_cases x1 : a < s
            · by_cases x2 : s < mid
              · have t1 : decide ((a : Int) < (s : Int)) = true := decide_eq_true (by omega)
                have t2 : decide ((s : Int) < (mid : Int)) = true := decide_eq_true (by omega)
                have hb : B2 = true := by rw [HBB2.out]; exact decide_eq_true ⟨x1, x2⟩
                clear HBT2 HBF2 HBB2
                subst hb
                go_wp2_with fail
                go_meet
                exact ⟨rfl, by first | rfl | exact hW1⟩
              · have t1 : decide ((a : Int) < (s : Int)) = true := decide_eq_true (by omega)
                have t2 : decide ((s : Int) < (mid : Int)) = false := decide_eq_false (by omega)
                have hb : B2 = false := by rw [HBB2.out]; exact decide_eq_false (fun h => x2 h.2)
                clear HBT2 HBF2 HBB2
                subst hb
                go_wp2_with fail
                go_meet
                exact ⟨rfl, by first | rfl | exact hW1⟩
            · have t1 : decide ((a : Int) < (s : Int)) = false := decide_eq_false (by omega)
              have hb : B2 = false := by rw [HBB2.out]; exact decide_eq_false (fun h => x1 h.1)
              clear HBT2 HBF2 HBB2
              subst hb
              go_wp2_with fail
              go_meet
              exact ⟨rfl, by first | rfl | exact hW1⟩
          case rest =>
            obtain ⟨rfl, rfl⟩ := hcut
            clear HBB2
            go_upto_if 199 with fail
            go_cut [] from 200 to 205 (fun wx => Hid (Hold w0 blk D3 wx))
            case first =>
              cases B2
              · have HE := E2.out (HBF2.out rfl)
                rw [hW1]
                go_wp2_with fail
                go_meet
                rw [← HE]
                exact HD2
              · have C1b := Lib.hid (C2.out _ (HBT2.out rfl).1 (HBT2.out rfl).2 HD2.out)
                rw [hW1]
                go_wp2_with fail
                refine C1b.out.mono ?_
                rintro en w3 ⟨rfl, h3⟩
                have H3 := Lib.hid h3
                clear h3
                go_wp2_with fail
                go_meet
                exact H3
            case rest =>
              have HD3 : Hid (Hold w0 blk D3 wc) := hcut
              clear hcut C2 E2 HD2 HBT2 HBF2 hW1
              obtain ⟨B3, hB3⟩ : ∃ B3 : Bool, B3 = decide (mid < e ∧ e < b) := ⟨_, rfl⟩
              have HBT3 : Hid (B3 = true → mid < e ∧ e < b) := fun h => by rw [hB3] at h; exact of_decide_eq_true h
              have HBF3 : Hid (B3 = false → ¬ (mid < e ∧ e < b)) := fun h => by rw [hB3] at h; exact of_decide_eq_false h
              have HBB3 := Lib.hid hB3
              clear hB3
              go_upto_region 43 with fail
              obtain ⟨W1, hW1⟩ : ∃ W1, W1 = wc := ⟨_, rfl⟩
              rw [← hW1]
              go_cut [213] from 206 to 212 (fun v wx => v = .bool B3 ∧ W1 = wx)
              case first =>
                by_cases x1 : mid < e
                · by_cases x2 : e < b
                  · have t1 : decide ((mid : Int) < (e : Int)) = true := decide_eq_true (by omega)
                    have t2 : decide ((e : Int) < (b : Int)) = true := decide_eq_true (by omega)
                    have hb : B3 = true := by rw [HBB3.out]; exact decide_eq_true ⟨x1, x2⟩
                    clear HBT3 HBF3 HBB3
                    subst hb
                    go_wp2_with fail
                    go_meet
                    exact ⟨rfl, by first | rfl | exact hW1⟩
                  · have t1 : decide ((mid : Int) < (e : Int)) = true := decide_eq_true (by omega)
                    have t2 : decide ((e : Int) < (b : Int)) = false := decide_eq_false (by omega)
                    have hb : B3 = false := by rw [HBB3.out]; exact decide_eq_false (fun h => x2 h.2)
                    clear HBT3 HBF3 HBB3
                    subst hb
                    go_wp2_with fail
                    go_meet
                    exact ⟨rfl, by first | rfl | exact hW1⟩
                · have t1 : decide ((mid : Int) < (e : Int)) = false := decide_eq_false (by omega)
                  have hb : B3 = false := by rw [HBB3.out]; exact decide_eq_false (fun h => x1 h.1)
                  clear HBT3 HBF3 HBB3
                  subst hb
                  go_wp2_with fail
                  go_meet
                  exact ⟨rfl, by first | rfl | exact hW1⟩
              case rest =>
                obtain ⟨rfl, rfl⟩ := hcut
                clear HBB3
                cases B3
                · have HE := E3.out (HBF3.out rfl)
                  rw [hW1]
                  go_wp2_with fail
                  go_end0
                  exact ⟨rfl, by rw [← E4.out, ← HE]; exact HD3.out⟩
                · have C1b := Lib.hid (C3.out _ (HBT3.out rfl).1 (HBT3.out rfl).2 HD3.out)
                  rw [hW1]
                  go_wp2_with fail
                  refine C1b.out.mono ?_
                  rintro en w3 ⟨rfl, h3⟩
                  have H3 := Lib.hid h3
                  clear h3
                  go_wp2_with fail
                  go_end0
                  exact ⟨rfl, by rw [← E4.out]; exact H3.out⟩
theorem symm_any (cap blk n : Nat) (w0 : World) (hR : RowIs w0 blk n) (hl : n ≤ 100000) : ∀ N, Merges cap blk n w0 N := by
  intro N
  induction N with
  | zero => intro a m b P L R Q d w h; exact absurd h (Nat.not_lt_zero _)
  | succ N IH =>
    intro a m b P L R Q d w h ham hmb H hn S
    by_cases h1 : m = a + 1
    · exact symm_one cap blk a m b n P L R Q d w0 w H hn hR S h1 hmb hl
    · by_cases h2 : b = m + 1
      · exact symm_two cap blk a m b n P L R Q d w0 w H hn hR S (by omega) h2 hl
      · exact symm_cut cap blk a m b n P L R Q d w0 w H hn hR S (by omega) (by omega) hl N IH (by omega)
end Go.Proofs.Ytjegkddpaampmaa.OrdStab
