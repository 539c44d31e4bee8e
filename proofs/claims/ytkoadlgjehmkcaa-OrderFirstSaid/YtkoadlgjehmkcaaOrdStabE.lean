/-
  The library's slices.SortStableFunc at jobs, walked: the insertions, the passes, the whole.
-/
import Derived.Test.YtkoadlgjehmkcaaOrdStabD
import Derived.Test.YtkoadlgjehmkcaaBlk
import Derived.Test.YtkoadlgjehmkcaaShelfG
namespace Go.Proofs.Ytkoadlgjehmkcaa.OrdStab
open Go.Shelf Go.RowKit Go.Lib Go.Sort Go.Proofs.Ytkoadlgjehmkcaa.JobPlain Go.Proofs.Ytkoadlgjehmkcaa.OrdPlain Go.Proofs.Ytkoadlgjehmkcaa.Mem Go.Proofs.Ytkoadlgjehmkcaa.JobMem Go.Proofs.Ytkoadlgjehmkcaa.OrdMem Go.Proofs.Ytkoadlgjehmkcaa.OrdWalk Go.Proofs.Ytkoadlgjehmkcaa.Swap Go.Proofs.Ytkoadlgjehmkcaa.Stab Go.Proofs.Ytkoadlgjehmkcaa.Ins Go.Proofs.Ytkoadlgjehmkcaa.Symm
theorem lt_cmp : ltOf cmp3 = aheadB := by
  funext x y
  exact cmp3_ahead x y
theorem swo3 : SWO (ltOf cmp3) where
  irrefl x := by rw [lt_cmp]; exact ahead_self x
  trans x y z h1 h2 := by rw [lt_cmp] at *; exact ahead_trans h1 h2
  ntrans x y z h1 h2 := by rw [lt_cmp] at *; exact no_trans h1 h2
theorem insert_any (cap blk a b n : Nat) (P B Q d : List Jb) (w0 w : World) (hd : d = P ++ (B ++ Q)) (ha : P.length = a) (hb : a + B.length = b) (hn : d.length = n) (hR : RowIs w0 blk n) (S : Hold w0 blk d w) (hl : n ≤ 100000) :
    Calls Try.prog 30 #[.slice (some ⟨blk, 0, none⟩) n cap, .int .i64 a, .int .i64 b, .func (.func 20) #[] #[]] w (Done w0 blk (P ++ (sortBy aheadB B ++ Q))) := by
  obtain ⟨d0, hd0, R⟩ := hR
  subst hd ha hb hn
  have eg : ∀ args w, (callFunc 20 args).run Try.prog w = .ok (.enter 20 args) w := enters_of Try.func20 (by kernel_rfl) rfl
  have hcon := AnyQ.insertionSortCmpFunc_w Try.insJ 9 Try.isAgg24 Try.sizeOf24 jobC cmp3 20 #[] blk 0 cap P.length (P.length + B.length) d0 (P ++ (B ++ Q)).toArray w0 w eg (fun m os dk _ x y => compare_grow x y _) R (by rw [hd0]; simp) S swo3 (by omega) (by simp only [List.size_toArray, List.length_append]; omega) (by have := hl; simp only [List.size_toArray]; omega)
  rw [lt_cmp, ins_sort swo] at hcon
  have e : (P ++ (B ++ Q)).toArray.size = (P ++ (B ++ Q)).length := by simp
  rw [e] at hcon
  exact hcon
set_option maxRecDepth 100000 in
set_option maxHeartbeats 6400000 in
theorem stable_any (cap blk n : Nat) (l : List Jb) (w0 w : World) (hn : l.length = n) (hR : RowIs w0 blk n) (S : Hold w0 blk l w) (hl : n ≤ 100000) :
    Calls Try.prog 26 #[.slice (some ⟨blk, 0, none⟩) n cap, .int .i64 n, .func (.func 20) #[] #[]] w (Done w0 blk (sortBy aheadB l)) := by
  have CI : Hid (∀ (a b : Nat) (P B Q : List Jb) (W : World), P.length = a → a + B.length = b → (P ++ (B ++ Q)).length = n → Hold w0 blk (P ++ (B ++ Q)) W → Calls Try.prog 30 #[.slice (some ⟨blk, 0, none⟩) n cap, .int .i64 a, .int .i64 b, .func (.func 20) #[] #[]] W (Done w0 blk (P ++ (sortBy aheadB B ++ Q)))) :=
    fun a b P B Q W h1 h2 h3 h4 => insert_any cap blk a b n P B Q _ w0 W rfl h1 h2 h3 hR h4 hl
  have CM : Hid (∀ (a m b : Nat) (P L R Q : List Jb) (W : World), a < m → m < b → Pair aheadB P L R Q (P ++ (L ++ (R ++ Q))) a m b → (P ++ (L ++ (R ++ Q))).length = n → Hold w0 blk (P ++ (L ++ (R ++ Q))) W → Calls Try.prog 31 #[.slice (some ⟨blk, 0, none⟩) n cap, .int .i64 a, .int .i64 m, .int .i64 b, .func (.func 20) #[] #[]] W (Done w0 blk (P ++ (mg aheadB L R ++ Q)))) :=
    fun a m b P L R Q W h1 h2 h3 h4 h5 => symm_any cap blk n w0 hR hl (b - a + 1) a m b P L R Q _ W (by omega) h1 h2 h3 h4 h5
  have HN := Lib.hid hn
  have HS := Lib.hid S
  clear S hR hn
  go_enter Try.func26, Try.ntmps26
  go_upto_block 0 with fail
  go_cut [7] (fun o wc => ∃ a : Nat, o = .int .i64 a ∧ a ≤ n ∧ ∃ P X, Hid (n < a + 20 ∧ InsAt aheadB l 20 a P X) ∧ Hid (Hold w0 blk (P ++ X) wc))
  case first =>
    go_wp2_with fail
    go_loopw [7, 8] (fun o q wr => ∃ a b : Nat, o = .int .i64 a ∧ q = .int .i64 b ∧ b = a + 20 ∧ a ≤ n ∧ ∃ P X, Hid (InsAt aheadB l 20 a P X) ∧ Hid (Hold w0 blk (P ++ X) wr)) (fun i _ _ => n - (intOf i).toNat)
    case atStart => exact ⟨0, 20, rfl, rfl, rfl, Nat.zero_le _, [], l, InsAt.start l 20, HS.out⟩
    case round =>
      clear HS
      obtain ⟨a, b, rfl, rfl, hb, han, P, X, HA, HK⟩ := hrel
      have HB := Lib.hid hb
      by_cases hlt : b ≤ n
      · have hx := HA.out.x
        have hnn := HN.out
        obtain ⟨h1, h2⟩ := HA.out.next (by omega : 0 < 20) (by omega)
        have C1 := Lib.hid (CI.out a b P (X.take 20) (X.drop 20) wr HA.out.p (by omega) (by rw [List.take_append_drop, List.length_append, HA.out.p]; omega) (by rw [List.take_append_drop]; exact HK.out))
        have HA2 : Hid (InsAt aheadB l 20 b (P ++ sortBy aheadB (X.take 20)) (X.drop 20)) := by rw [hb]; exact h2
        have hbb : b ≤ n := hlt
        clear hx h1 h2 HA HK hb hnn
        go_wp2_with fail
        refine C1.out.mono ?_
        rintro e w3 ⟨rfl, h3⟩
        rw [← List.append_assoc] at h3
        have H3 := Lib.hid h3
        clear h3
        go_wp2_with fail
        have hq := HB.out
        exact ⟨⟨b, b + 20, rfl, by go_num, rfl, hbb, _, _, HA2, H3⟩, by simp only [intOf]; omega⟩
      · clear hb
        go_wp2_with fail
        go_meet
        exact ⟨a, rfl, han, P, X, ⟨by have := HB.out; omega, HA.out⟩, HK⟩
  case rest =>
    clear HS
    obtain ⟨a, rfl, han, P, X, HA, HK⟩ := hcut
    have C1 := Lib.hid (CI.out a n P X [] wc HA.out.2.p (by have := HA.out.2.x; have := HN.out; omega) (by rw [List.append_nil, List.length_append, HA.out.2.p]; have := HA.out.2.x; have := HN.out; omega) (by rw [List.append_nil]; exact HK.out))
    have HE : Hid (P ++ (sortBy aheadB X ++ []) = blocks aheadB 20 l) := Lib.hid (by rw [List.append_nil]; exact (HA.out.2.end_ (by have := HA.out.1; have := HN.out; omega)).symm)
    clear HA HK CI
    go_wp2_with fail
    refine C1.out.mono ?_
    rintro e w3 ⟨rfl, h3⟩
    rw [HE.out] at h3
    have H3 := Lib.hid h3
    clear h3 HE C1
    go_wp2_with fail
    go_loopw [6] (fun o wr => ∃ s : Nat, o = .int .i64 s ∧ 20 ≤ s ∧ s ≤ 200000 ∧ Hid (Hold w0 blk (blocks aheadB s l) wr)) (fun i _ => n - (intOf i).toNat)
    case atStart => exact ⟨20, rfl, Nat.le_refl _, by omega, H3.out⟩
    case round =>
      clear H3
      obtain ⟨s, rfl, hs20, hs2, HK⟩ := hrel
      by_cases hlt : s < n
      · have hs0 : 0 < s := by omega
        have HS0 := Lib.hid hs0
        go_upto_block 4 with fail
        go_cut [7] (fun o wc => ∃ a : Nat, o = .int .i64 a ∧ a ≤ n ∧ ∃ P X, Hid (n < a + 2 * s ∧ MgAt aheadB l s a P X) ∧ Hid (Hold w0 blk (P ++ blocks aheadB s X) wc))
        case first =>
          go_wp2_with fail
          go_loopw [7, 8] (fun o q wr => ∃ a b : Nat, o = .int .i64 a ∧ q = .int .i64 b ∧ b = a + 2 * s ∧ a ≤ n ∧ ∃ P X, Hid (MgAt aheadB l s a P X) ∧ Hid (Hold w0 blk (P ++ blocks aheadB s X) wr)) (fun i _ _ => n - (intOf i).toNat)
          case atStart => exact ⟨0, 2 * s, rfl, by go_num, by omega, Nat.zero_le _, [], l, MgAt.start l s, HK⟩
          case round =>
            clear HK
            obtain ⟨a, b, rfl, rfl, hb, han, P, X, HA, HK⟩ := hrel
            have HB := Lib.hid hb
            by_cases hlt2 : b ≤ n
            · have hnn := HN.out
              obtain ⟨L, R, e1, l1, l2, s1, s2, e2, hM⟩ := HA.out.next swo hs0 (by omega)
              have hlen := HA.out.len hs0
              obtain ⟨m, hm⟩ : ∃ m : Nat, m = a + s := ⟨_, rfl⟩
              have hm2 : (a : Int) + (s : Int) = (m : Int) := by omega
              have C1 := Lib.hid (CM.out a m b P L R (blocks aheadB s (X.drop (2 * s))) wr (by omega) (by omega) ⟨rfl, HA.out.p, by omega, by omega, s1, s2⟩ (by rw [← e1]; omega) (by rw [← e1]; exact HK.out))
              have HA2 : Hid (MgAt aheadB l s b (P ++ mg aheadB L R) (X.drop (2 * s))) := by rw [hb]; exact hM
              have HE := Lib.hid e2
              have hmn : m ≤ n := by omega
              clear e1 l1 l2 s1 s2 e2 hM hlen HA HK hb hnn hm
              go_wp2_with fail
              refine C1.out.mono ?_
              rintro e w3 ⟨rfl, h3⟩
              rw [HE.out] at h3
              have H3 := Lib.hid h3
              clear h3 hm2
              go_wp2_with fail
              have hq := HB.out
              exact ⟨⟨b, b + 2 * s, rfl, by go_num, rfl, hlt2, _, _, HA2, H3⟩, by simp only [intOf]; omega⟩
            · clear hb
              go_wp2_with fail
              go_meet
              exact ⟨a, rfl, han, P, X, ⟨by have := HB.out; omega, HA.out⟩, HK⟩
        case rest =>
          clear HK
          obtain ⟨a, rfl, han, P, X, HA, HK⟩ := hcut
          obtain ⟨m, hm⟩ : ∃ m : Nat, m = a + s := ⟨_, rfl⟩
          have hm2 : (a : Int) + (s : Int) = (m : Int) := by omega
          have hm3 : m ≤ 300000 := by omega
          have HM := Lib.hid hm
          by_cases hmn : m < n
          · have hnn := HN.out
            obtain ⟨L, R, e1, l1, l2, s1, s2, e2⟩ := HA.out.2.last swo hs0 (by have := HA.out.1; omega) (by omega)
            have hlen := HA.out.2.len hs0
            have C1 := Lib.hid (CM.out a m n P L R [] wc (by omega) (by omega) ⟨rfl, HA.out.2.p, by omega, by omega, s1, s2⟩ (by rw [← e1]; omega) (by rw [← e1]; exact HK.out))
            have HE : Hid (P ++ (mg aheadB L R ++ []) = blocks aheadB (s * 2) l) := Lib.hid (by rw [e2, Nat.mul_comm])
            clear e1 l1 l2 s1 s2 e2 hlen HA HK hnn hm CM
            go_wp2_with fail
            refine C1.out.mono ?_
            rintro e w3 ⟨rfl, h3⟩
            rw [HE.out] at h3
            have H3 := Lib.hid h3
            clear h3 hm2
            go_wp2_with fail
            exact ⟨⟨s * 2, by go_num, by omega, by omega, H3⟩, by simp only [intOf]; omega⟩
          · have HE : Hid (P ++ blocks aheadB s X = blocks aheadB (s * 2) l) := Lib.hid (by rw [HA.out.2.rest (by have := HN.out; omega), Nat.mul_comm])
            have H3 : Hid (Hold w0 blk (blocks aheadB (s * 2) l) wc) := by rw [← HE.out]; exact HK
            clear HA HK hm CM HE
            go_wp2_with fail
            exact ⟨⟨s * 2, by go_num, by omega, by omega, H3⟩, by simp only [intOf]; omega⟩
      · have HF : Hid (blocks aheadB s l = sortBy aheadB l) := Lib.hid (blocks_one (by have := HN.out; omega))
        go_wp2_with fail
        go_end0
        exact ⟨rfl, by rw [← HF.out]; exact HK.out⟩
end Go.Proofs.Ytkoadlgjehmkcaa.OrdStab
