/-
  What the theorem uses of the texts below it.
-/
import Derived.Below
import Derived.Laws.OwnMore
import Derived.Deep.Draws
import Derived.Deep.OwnRows
import Derived.Lib.Hide
import Derived.OwnWalk
import Derived.Deep.QuietTactic
import Derived.BigQuiet
import Derived.Lib.SliceRun
import Derived.Test.YtophhiejggnaeaaRows
import Derived.WalkKit
import Derived.WalkSpells
import Derived.WalkLawsBesides
import Derived.Laws.StructEq
import Derived.LoopTactic
import Derived.Deep.CutBlock
import Derived.Deep.DeepCutAuto
import Derived.Deep.RegionHeld3
import Derived.ArgAppend
import Derived.Deep.RegionLaw
import Derived.Lib.AppendIntMem
import Derived.StillTailTactics
import Derived.Maps.RangeWalk
import Derived.Shelf.Small.Bits
import Derived.Shelf.Small.Wraps
import Derived.Shelf.Strconv.Itoa0
import Derived.Test.YtophhiejggnaeaaProg
import Derived.Shelf.SlSortCmp.NoneTotal
import Derived.Shelf.SlicesG.Cmp
import Derived.Lib.OwnBridge
import Derived.BigRegion
import Derived.Laws.RangeAny
import Derived.WalkSmall
import Derived.Shelf.Abstract
import Derived.OpenShut
import Derived.Lib.SmallJoins
import Derived.Deep.Strs
import Derived.ChangeMaps5
import Derived.Test.YtophhiejggnaeaaPa10
namespace Go.Proofs.Ytophhiejggnaeaa.MulWalk
open Go.RowKit Go.Proofs.Ytophhiejggnaeaa.SpanPlain Go.Proofs.Ytophhiejggnaeaa.StepPlain Go.Proofs.Ytophhiejggnaeaa.GapPlain Go.Proofs.Ytophhiejggnaeaa.JobPlain Go.Proofs.Ytophhiejggnaeaa.OrdPlain Go.Proofs.Ytophhiejggnaeaa.ApiPlain Go.Proofs.Ytophhiejggnaeaa.QuePlain Go.Proofs.Ytophhiejggnaeaa.ShaPlain Go.Proofs.Ytophhiejggnaeaa.SlaPlain Go.Proofs.Ytophhiejggnaeaa.TogPlain Go.Proofs.Ytophhiejggnaeaa.PasPlain Go.Proofs.Ytophhiejggnaeaa.MulPlain Go.Proofs.Ytophhiejggnaeaa.Mem Go.Proofs.Ytophhiejggnaeaa.SpanMem Go.Proofs.Ytophhiejggnaeaa.StepMem Go.Proofs.Ytophhiejggnaeaa.JobMem Go.Proofs.Ytophhiejggnaeaa.OrdMem Go.Proofs.Ytophhiejggnaeaa.ApiMem Go.Proofs.Ytophhiejggnaeaa.StepRef Go.Proofs.Ytophhiejggnaeaa.ShaRef Go.Proofs.Ytophhiejggnaeaa.SlaRef Go.Proofs.Ytophhiejggnaeaa.QueRef Go.Proofs.Ytophhiejggnaeaa.OrdTake Go.Proofs.Ytophhiejggnaeaa.MulRef Go.Proofs.Ytophhiejggnaeaa.QueLight
theorem sizes2 (a b : Nat) : (decide ((100 : Int) < (a : Int)) = true) ∨ (decide ((100 : Int) < (a : Int)) = false ∧ decide ((20 : Int) < (b : Int)) = true) ∨ (decide ((100 : Int) < (a : Int)) = false ∧ decide ((20 : Int) < (b : Int)) = false ∧ a ≤ 100 ∧ b ≤ 20) := by
  by_cases h1 : (100 : Int) < (a : Int)
  · exact .inl (decide_eq_true h1)
  · by_cases h2 : (20 : Int) < (b : Int)
    · exact .inr (.inl ⟨decide_eq_false h1, decide_eq_true h2⟩)
    · exact .inr (.inr ⟨decide_eq_false h1, decide_eq_false h2, by omega, by omega⟩)
theorem c16_now {s : List Sp} {now : Int} {n : Nat} (h : c16 s now n = 0) : Chk s ∧ 0 ≤ now ∧ n ≤ 100 := by
  unfold c16 at h
  split at h
  · rename_i hh
    have hc := (chk_iff s).1 hh.1
    have := hc.lo
    split at h
    · omega
    · exact ⟨hc, by omega, by omega⟩
  · omega
def ntT (l : List (Int × Jb)) (i : Nat) : Int × Jb := l.getD i (0, noJb)
theorem ntT_at {l : List (Int × Jb)} {i : Nat} (h : i < l.length) : ntT l i = l[i] := by unfold ntT; simp [List.getD, h]
set_option maxRecDepth 100000 in
set_option maxHeartbeats 3200000 in
theorem heads_any (s : List Sp) (js : List Jb) (cl : List Cl) (ov : List Bool) (now : Int) (v u q o : Value) (w : World) (hv : SpansIs s w v) (hu : JobsIs js w u) (hq : clL.Is cl w q) (ho : boolL.Is ov w o) (hsh : Short cl) (hid : PasWalk.IdsFit js) :
    Calls Try.prog 3 #[v, .int .i64 now, .agg #[u, q, o]] w (TrueIs w) := by
  have HV := Lib.hid hv
  have HU := Lib.hid hu
  have HQ := Lib.hid hq
  have HOV := Lib.hid ho
  obtain ⟨A, c, rfl, _⟩ := hv.open_
  obtain ⟨B, d, rfl, _, hB⟩ := hu.open_
  obtain ⟨D, f, rfl, _, _⟩ := cls_open hq
  obtain ⟨E, g, rfl, _⟩ := ho.open_
  have HBJ := Lib.hid hB
  clear hv hu hq ho hB
  have HAW := Lib.hid (fun w => awake_any w)
  have HX0 := Lib.hid (Trio.new w (.slice B js.length d) (.slice D cl.length f) (.slice E ov.length g) 29)
  have HB0 := Lib.hid (box_s w (.cells #[.slice B js.length d, .slice D cl.length f, .slice E ov.length g] 29))
  have CL : Hid (∀ W, Below w.heap.size w W → Calls Try.prog 5 #[.slice D cl.length f] W (BoolQ (lightB cl) W)) := fun W hW => light21 cl _ W (HQ.out.below hW)
  rcases sizes2 s.length js.length with g1 | ⟨g1, g2⟩ | ⟨g1, g2, hs, hj⟩
  iterate 2
    · clear CL
      go_enter Try.func3, Try.ntmps3
      go_upto_region 1 with fail
      generalize w.alloc (.cells #[.slice B js.length d, .slice D cl.length f, .slice E ov.length g] 29) = w0 at *
      obtain ⟨x, x0, x1, x2, _, _, _⟩ := HX0.out
      go_wp2_with fail
      refine (HAW.out _).mono ?_
      rintro e w1 ⟨rfl, hb1⟩
      have HB1 := Lib.hid (thenS HB0.out hb1)
      clear hb1
      go_wp2_with fail
      go_ret
      exact ⟨rfl, HB1.out⟩
  cases hli : lightB cl with
  | false =>
    rw [hli] at CL
    clear hli
    go_enter Try.func3, Try.ntmps3
    go_upto_region 1 with fail
    generalize w.alloc (.cells #[.slice B js.length d, .slice D cl.length f, .slice E ov.length g] 29) = w0 at *
    obtain ⟨x, x0, x1, x2, _, _, _⟩ := HX0.out
    go_wp2_with fail
    refine (CL.out _ HB0.out).mono ?_
    rintro e w1 ⟨rfl, rfl⟩
    go_wp2_with fail
    refine (HAW.out _).mono ?_
    rintro e w1 ⟨rfl, hb1⟩
    have HB1 := Lib.hid (thenS HB0.out hb1)
    clear hb1
    go_wp2_with fail
    go_ret
    exact ⟨rfl, HB1.out⟩
  | true =>
    have hcl := light_len hli
    rw [hli] at CL
    clear hli
    have C6 : Hid (∀ W, Below w.heap.size w W → Calls Try.prog 6 #[.slice A s.length c, .int .i64 now, .slice B js.length d, .slice D cl.length f] W (IntM (c21 s now js cl) W)) := fun W hW => check21 s now js cl _ _ _ W (HV.out.below hW) (by omega) (HU.out.below hW) (HQ.out.below hW) hsh (by omega)
    by_cases hc : c21 s now js cl = 0
    · have HC := Lib.hid hc
      have h16 := c16_now (c21_zero hc).1
      have HND := Lib.hid (unlike_nodup (c21_zero hc).2.2)
      rw [hc] at C6
      have CP : Hid (∀ W, Below w.heap.size w W → Calls Try.prog 8 #[.slice A s.length c, .int .i64 now, .slice B js.length d, .agg #[.slice D cl.length f, .slice E ov.length g]] W (PlanSays 0 (mulP cl ov s now js) W)) := fun W hW => by
        have h := passM s now js cl ov _ _ _ _ W (HV.out.below hW) (HU.out.below hW) (HQ.out.below hW) (HOV.out.below hW) hs hj hsh (by omega) hid
        rwa [hc] at h
      have hok : PasOk s now (mulP cl ov s now js) := mul_all_ok h16.2.1 h16.1
      have HSQ := Lib.hid hok.seq2
      have HLN : Hid ((seqT (mulP cl ov s now js) now).length ≤ 20) := by
        show _ ≤ _
        rw [hok.lenT]
        exact Nat.le_trans mul_len hj
      have HMEM : Hid (∀ q ∈ seqT (mulP cl ov s now js) now, q.2 ∈ js) := fun q hq => mul_all_mem q (hok.mem hq)
      have HUN := Lib.hid (mul_all_unlike (cls := cl) (over := ov) (now := now) (s := s) (js := js))
      have HPR := Lib.hid (fun i (h1 : i < (mulP cl ov s now js).P.length) h2 => seqT_prom (x := mulP cl ov s now js) (now := now) h1 h2)
      have HST := Lib.hid (fun i (h1 : (mulP cl ov s now js).P.length ≤ i) h2 h3 => seqT_start (x := mulP cl ov s now js) (now := now) h1 h2 h3)
      have HTL := Lib.hid (seqT_len (mulP cl ov s now js) now)
      have HQT : Hid (∀ i, i < (mulP cl ov s now js).P.length → (seqT (mulP cl ov s now js) now)[i]? = (mulP cl ov s now js).Q[i]?) := fun i hi => List.getElem?_append_left (by rwa [P_len] at hi)
      have HQL := Lib.hid (P_len (mulP cl ov s now js))
      clear hc h16 hok
      generalize mulP cl ov s now js = X at *
      obtain ⟨T, hT⟩ : ∃ T, seqT X now = T := ⟨_, rfl⟩
      have HT0 := Lib.hid hT
      replace HSQ : Hid (SeqOk s T) := by rw [← hT]; exact HSQ.out
      rw [hT] at HLN HMEM HTL
      go_enter Try.func3, Try.ntmps3
      go_upto_region 1 with fail
      generalize w.alloc (.cells #[.slice B js.length d, .slice D cl.length f, .slice E ov.length g] 29) = w0 at *
      obtain ⟨x, x0, x1, x2, _, _, _⟩ := HX0.out
      go_wp2_with fail
      refine (CL.out _ HB0.out).mono ?_
      rintro e w1 ⟨rfl, rfl⟩
      clear CL
      go_wp2_with fail
      refine (C6.out _ HB0.out).mono ?_
      rintro e w2 ⟨rfl, hb2⟩
      have HB2 := Lib.hid (thenS HB0.out hb2)
      have HX2 := Lib.hid (HX0.out.below hb2)
      clear hb2 C6 x x0 x1 x2 HX0 HB0
      obtain ⟨x, x0, x1, x2, _, _, _⟩ := HX2.out
      go_wp2_with fail
      refine (CP.out _ HB2.out).mono ?_
      rintro e w3 ⟨a1, b1, c1, st, P, t, rfl, ha1, hb1, ht1, hcase, hw1⟩
      obtain ⟨rfl, rfl, _⟩ : st = X.st ∧ P = X.P ∧ True := by
        rcases hcase with ⟨_, h1, h2, _⟩ | ⟨h, _⟩
        · exact ⟨h1, h2, trivial⟩
        · exact absurd rfl h
      have HB3 := Lib.hid (thenS HB2.out hw1)
      have HX3 := Lib.hid (HX2.out.below hw1)
      obtain ⟨A1, k1, rfl, _, hcl1⟩ := ha1
      have HCL := Lib.hid hcl1
      obtain ⟨A2, k2, rfl, _, hpl⟩ := prms_open hb1
      have HPL := Lib.hid hpl
      obtain ⟨A3, k3, rfl, _⟩ := ht1.open_
      have hsum := HTL.out
      generalize hst : X.st = st at *
      generalize hP : X.P = P at *
      have HST0 := Lib.hid hst
      have HP0 := Lib.hid hP
      clear hst hP
      have HY3 := Lib.hid (Box2.new w3 (.slice A1 st.length k1) (.slice A2 P.length k2) 37)
      have HZ3 := Lib.hid (box_s w3 (.cells #[.slice A1 st.length k1, .slice A2 P.length k2] 37))
      have HX4 := Lib.hid (HX3.out.below HZ3.out)
      have HB4 := Lib.hid (thenS HB3.out HZ3.out)
      have HLT := Lib.hid HLN.out
      have hln := HLN.out
      clear hcase hw1 hb1 ht1 hcl1 hpl CP x x0 x1 x2 HX2 HB2 HX3 HB3 hT
      go_upto_region 4 with fail
      generalize w3.alloc (.cells #[.slice A1 st.length k1, .slice A2 P.length k2] 37) = W4 at *
      obtain ⟨x, x0, x1, x2, _, _, _⟩ := HX4.out
      obtain ⟨y, y0, y1, _, _⟩ := HY3.out
      have HV4 := Lib.hid (HV.out.below HB4.out)
      go_wp2_with fail
      go_loopw [0, 10] (fun o i wr => ∃ (k : Nat) (v : Value), v = o ∧ i = .int .i64 k ∧ k ≤ T.length ∧ Hid (SpansIs (laidL s (T.take k)) wr v ∧ Below W4.heap.size W4 wr)) (fun _ i _ => T.length - (intOf i).toNat)
      case atStart => exact ⟨0, _, rfl, rfl, Nat.zero_le _, HV4.out, Below.refl _ _⟩
      case round =>
        obtain ⟨k, ov9, hov, rfl, hk, HR⟩ := hrel
        subst hov
        clear x x0 x1 x2 y y0 y1
        have HBW := Lib.hid (thenS HB4.out HR.out.2)
        have HXW := Lib.hid (HX4.out.below HR.out.2)
        have HYW := Lib.hid (HY3.out.below HR.out.2)
        have HZW := Lib.hid (thenS HZ3.out HR.out.2)
        have HRS := Lib.hid HR.out.1
        obtain ⟨A9, c9, hv9, _⟩ := HR.out.1.open_
        subst hv9
        obtain ⟨x, x0, x1, x2, _, _, _⟩ := HXW.out
        obtain ⟨y, y0, y1, _, _⟩ := HYW.out
        by_cases hlt : k < T.length
        · obtain ⟨kk, hkk, hfind, hnth⟩ := find_there HND.out (show (ntT T k).2 ∈ js by rw [ntT_at hlt]; exact HMEM.out _ (List.getElem_mem hlt))
          obtain ⟨ad, rfl, hat⟩ := HBJ.out kk hkk
          rw [← nthJ_at hkk, hnth] at hat
          have HAT := Lib.hid hat
          have hseq := seq_at HSQ.out hlt
          rw [← ntT_at hlt] at hseq
          have HNXT := Lib.hid hseq.2
          have hok := hseq.1
          have HPK : Hid (∀ h : k < P.length, P[k] = ⟨(ntT T k).2.id, (ntT T k).1, 0⟩) := fun h => by
            have hT0 := HT0.out
            have hP0 := HP0.out
            subst hT0
            subst hP0
            rw [ntT_at hlt]
            exact HPR.out k h hlt
          have HSK : Hid (∀ h : P.length ≤ k, ∀ h2 : k - P.length < st.length, st[k - P.length] = (ntT T k).2.id ∧ (ntT T k).1 = now) := fun h h2 => by
            have hT0 := HT0.out
            have hP0 := HP0.out
            have hS0 := HST0.out
            subst hT0
            subst hP0
            subst hS0
            rw [ntT_at hlt]
            exact HST.out k h hlt h2
          have hllen : (laidL s (T.take k)).length ≤ 160 := by
            have h := laid_len (seq_take k HSQ.out)
            rw [List.length_take] at h
            omega
          have i0 : (0 : Int) ≤ (k : Int) := Int.natCast_nonneg _
          have i1 : (k : Int) < (P.length : Int) + (st.length : Int) := by omega
          have i2 : IntKind.i64.wrap ((P.length : Int) + (st.length : Int)) = (P.length : Int) + (st.length : Int) := by rw [IntKind.wrap_i64]; omega
          have j0 : (0 : Int) ≤ (kk : Int) := Int.natCast_nonneg _
          have j1 : (kk : Int) < (js.length : Int) := by omega
          have j2 : decide ((kk : Int) < 0) = false := decide_eq_false (by omega)
          clear hat hseq hnth
          generalize ntT T k = q at *
          obtain ⟨at_, j⟩ := q
          dsimp only at *
          have CF : Hid (∀ W, Below w.heap.size w W → Calls Try.prog 9 #[.slice (some ad) js.length d, .int .i64 j.id] W (OrdRef.IntQ (kk : Int) W)) := fun W hW => by
            have h := OrdRef.find8 js j.id _ W (HU.out.below hW) (by omega)
            rwa [hfind] at h
          have CK : Hid (∀ W, SpansIs (laidL s (T.take k)) W (.slice A9 (laidL s (T.take k)).length c9) → Calls Try.prog 10 #[.slice A9 (laidL s (T.take k)).length c9, .int .i64 at_, jobV j] W (BoolS true W)) := fun W hW => by
            have h := ok15 (laidL s (T.take k)) at_ j _ W hW (by omega)
            rwa [hok] at h
          have CY : Hid (∀ W, SpansIs (laidL s (T.take k)) W (.slice A9 (laidL s (T.take k)).length c9) → Calls Try.prog 11 #[.slice A9 (laidL s (T.take k)).length c9, .int .i64 at_, jobV j] W (LayTells (laidL s (T.take k)) at_ j W)) := fun W hW => lay15 (laidL s (T.take k)) at_ j _ W hW (by omega) hok
          have HNL : Hid (∀ r, AddIs (laidL s (T.take k)) (runS at_ j) (-j.width) r → r = laidL s (T.take (k + 1))) := fun r h => by rw [HNXT.out]; exact layL_of hok h
          clear hok hfind HNXT
          generalize hL2 : laidL s (T.take (k + 1)) = L2 at *
          have HL2 := Lib.hid hL2
          clear hL2
          generalize laidL s (T.take k) = L1 at *
          unfold jobV jobA at CK CY
          go_upto_if 75 with fail
          go_cut [11, 12] (fun a b wc => a = .int .i64 j.id ∧ b = .int .i64 at_ ∧ ∃ n, wc = wr.drewN n)
          case first =>
            by_cases hkp : k < P.length
            · obtain ⟨ap, rfl, hpp⟩ := HPL.out k hkp
              rw [HPK.out hkp] at hpp
              obtain ⟨b, b0, b1, _⟩ := hpp.below HZW.out
              have d1 : decide ((k : Int) < (P.length : Int)) = true := decide_eq_true (by omega)
              have d2 : (k : Int) < (P.length : Int) := by omega
              dsimp only at b0 b1
              clear hpp
              go_wp2_with fail
              go_quiet (fail)
              go_wp2_with fail
              go_meet
              exact ⟨rfl, rfl, nq, rfl⟩
            · have hlk : k - P.length < st.length := by omega
              obtain ⟨e1, e2⟩ := HSK.out (by omega) hlk
              obtain ⟨ai, rfl, _, hci⟩ := (HCL.out.below HZW.out).at hlk
              have hci2 : wr.cell? (ai.add (k - P.length)) = some (.int .i64 j.id) := by
                rw [← e1]
                have : st[k - P.length] = st.getD (k - P.length) 0 := by simp [List.getD, hlk]
                rw [this]
                exact hci
              have d1 : decide ((k : Int) < (P.length : Int)) = false := decide_eq_false (by omega)
              have d2 : ¬ (k : Int) < (P.length : Int) := by omega
              have d3 : (k : Int) - (P.length : Int) = ((k - P.length : Nat) : Int) := by omega
              have d4 : ((k - P.length : Nat) : Int) < (st.length : Int) := by omega
              have d5 : (0 : Int) ≤ ((k - P.length : Nat) : Int) := Int.natCast_nonneg _
              have E2 := Lib.hid e2
              clear hci e1 e2
              go_wp2_with fail
              go_meet
              exact ⟨rfl, by rw [E2.out], 0, rfl⟩
          case rest =>
            obtain ⟨rfl, rfl, n, rfl⟩ := hcut
            have HB5 := Lib.hid (below_drewN HBW.out n)
            have HR5 := Lib.hid (below_drewN HR.out.2 n)
            have HX5 := Lib.hid (HXW.out.drewN n)
            have HS5 : Hid (SpansIs L1 (wr.drewN n) (.slice A9 L1.length c9)) := HRS.out.below (below_drewN (Below.refl _ _) n)
            clear x x0 x1 x2 y y0 y1 HXW HYW HRS HR HZW HBW
            generalize wr.drewN n = W5 at *
            obtain ⟨x, x0, x1, x2, _, _, _⟩ := HX5.out
            obtain ⟨z, z0, z1, z2, z3, z4, z5, z6, z7, z8⟩ := HAT.out.below HB5.out
            go_wp2_with fail
            refine (CF.out _ HB5.out).mono ?_
            rintro e w6 ⟨rfl, rfl⟩
            go_wp2_with fail
            refine (CK.out _ HS5.out).mono ?_
            rintro e w6 ⟨rfl, hb6⟩
            have HB6 := Lib.hid (thenS HB5.out hb6)
            have HR6 := Lib.hid (thenS HR5.out hb6)
            have HX6 := Lib.hid (HX5.out.below hb6)
            have HS6 := Lib.hid (HS5.out.below hb6)
            clear hb6 x x0 x1 x2 z z0 z1 z2 z3 z4 z5 z6 z7 z8 HS5 HX5 HB5 HR5
            obtain ⟨x, x0, x1, x2, _, _, _⟩ := HX6.out
            obtain ⟨z, z0, z1, z2, z3, z4, z5, z6, z7, z8⟩ := HAT.out.below HB6.out
            go_wp2_with fail
            refine (CY.out _ HS6.out).mono ?_
            rintro e w7 ⟨v7, r7, rfl, hs7, ha7, hb7, _⟩
            obtain rfl := HNL.out r7 ha7
            have HS7 := Lib.hid hs7
            have HR7 := Lib.hid (thenS HR6.out hb7)
            clear hb7 hs7 ha7
            go_wp2_with fail
            exact ⟨⟨k + 1, _, rfl, by go_num, by omega, by rw [HL2.out]; exact HS7.out, HR7.out⟩, by simp [intOf] <;> omega⟩
        · obtain rfl : k = T.length := by omega
          have i1 : ¬ ((T.length : Int) < (P.length : Int) + (st.length : Int)) := by omega
          have i2 : IntKind.i64.wrap ((P.length : Int) + (st.length : Int)) = (P.length : Int) + (st.length : Int) := by rw [IntKind.wrap_i64]; omega
          go_wp2_with fail
          have HV9 := Lib.hid HR.out.2
          clear HR HRS
          go_loopw [14] (fun i wi => ∃ k : Nat, i = .int .i64 k ∧ k ≤ P.length ∧ Hid (Below wr.heap.size wr wi)) (fun i _ => P.length - (intOf i).toNat)
          case atStart => exact ⟨0, rfl, Nat.zero_le _, Below.refl _ _⟩
          case round =>
            obtain ⟨wo, hwo⟩ : ∃ wo : World, wo = wr := ⟨_, rfl⟩
            subst hwo
            obtain ⟨i, rfl, hi, HI⟩ := hrel
            clear x x0 x1 x2 y y0 y1
            have HBI := Lib.hid (thenS HBW.out HI.out)
            have HXI := Lib.hid (HXW.out.below HI.out)
            have HYI := Lib.hid (HYW.out.below HI.out)
            have HZI := Lib.hid (thenS HZW.out HI.out)
            obtain ⟨x, x0, x1, x2, _, _, _⟩ := HXI.out
            obtain ⟨y, y0, y1, _, _⟩ := HYI.out
            by_cases hli : i < P.length
            · have hiT : i < T.length := by omega
              have i0' : (0 : Int) ≤ (i : Int) := Int.natCast_nonneg _
              have i1' : (i : Int) < (P.length : Int) := by omega
              have hpi : P[i] = ⟨(ntT T i).2.id, (ntT T i).1, 0⟩ := by
                have hT0 := HT0.out
                have hP0 := HP0.out
                subst hT0
                subst hP0
                rw [ntT_at hiT]
                exact HPR.out i hli hiT
              obtain ⟨ka, hka, hfa, hna⟩ := find_there HND.out (show (ntT T i).2 ∈ js by rw [ntT_at hiT]; exact HMEM.out _ (List.getElem_mem hiT))
              obtain ⟨ad, rfl, hat⟩ := HBJ.out ka hka
              rw [← nthJ_at hka, hna] at hat
              obtain ⟨z, z0, z1, z2, z3, z4, z5, z6, z7, z8⟩ := hat.below HBI.out
              obtain ⟨ap, rfl, hpp⟩ := HPL.out i hli
              rw [hpi] at hpp
              obtain ⟨b, b0, b1, _⟩ := hpp.below HZI.out
              dsimp only at b0 b1
              have a0' : (0 : Int) ≤ (ka : Int) := Int.natCast_nonneg _
              have a1' : (ka : Int) < (js.length : Int) := by omega
              have CF : Hid (∀ W, Below w.heap.size w W → Calls Try.prog 9 #[.slice (some ad) js.length d, .int .i64 (ntT T i).2.id] W (OrdRef.IntQ (ka : Int) W)) := fun W hW => by
                have h := OrdRef.find8 js (ntT T i).2.id _ W (HU.out.below hW) (by omega)
                rwa [hfa] at h
              have HNE : Hid (∀ m, m < i → ofC cl (ntT T m).2.width (ntT T m).2.est ≠ ofC cl (ntT T i).2.width (ntT T i).2.est) := Lib.hid fun m hm => by
                have hT0 := HT0.out
                subst hT0
                have h1 := HQT.out i hli
                have h2 := HQT.out m (by omega)
                have hl := HQL.out
                have hmT : m < (seqT X now).length := by omega
                rw [List.getElem?_eq_getElem hiT, List.getElem?_eq_getElem (by omega)] at h1
                rw [List.getElem?_eq_getElem hmT, List.getElem?_eq_getElem (by omega)] at h2
                have hp := List.pairwise_iff_getElem.1 HUN.out m i (by omega) (by omega) hm
                rw [← Option.some.inj h1, ← Option.some.inj h2] at hp
                rw [ofE_eq, ofE_eq, ntT_at hiT, ntT_at hmT]
                exact hp
              obtain ⟨ja, hja⟩ : ∃ ja, (ntT T i).2 = ja := ⟨_, rfl⟩
              rw [hja] at CF hat hpp HNE
              have HAT := Lib.hid hat
              have HPP := Lib.hid hpp
              clear hat hpp hpi hfa hna hja
              go_upto_region 20 with fail
              clear b b0 b1 z z0 z1 z2 z3 z4 z5 z6 z7 z8 x x0 x1 x2 y y0 y1
              have HK20 : Hid (∀ W, Below wo.heap.size wo W → W.cell? ⟨w.heap.size, 0, none⟩ = some (.slice (some ad) js.length d) ∧ W.cell? ⟨w3.heap.size, 1, none⟩ = some (.slice (some ap) P.length k2) ∧ W.cell? (ap.add (i * 3)) = some (.int .i64 ja.id) ∧ W.cell? (ad.add (ka * 9)) = some (.int .i64 ja.id) ∧ W.cell? ⟨(ad.add (ka * 9)).block, (ad.add (ka * 9)).off + 1, none⟩ = some (.string ja.user) ∧ W.cell? ⟨(ad.add (ka * 9)).block, (ad.add (ka * 9)).off + 2, none⟩ = some (.int .i64 ja.width) ∧ W.cell? ⟨(ad.add (ka * 9)).block, (ad.add (ka * 9)).off + 3, none⟩ = some (.int .i64 ja.est) ∧ W.cell? ⟨(ad.add (ka * 9)).block, (ad.add (ka * 9)).off + 4, none⟩ = some (.int .i64 ja.prio) ∧ W.cell? ⟨(ad.add (ka * 9)).block, (ad.add (ka * 9)).off + 5, none⟩ = some (.int .i64 ja.sub) ∧ W.cell? ⟨(ad.add (ka * 9)).block, (ad.add (ka * 9)).off + 6, none⟩ = some (.int .i64 ja.state) ∧ W.cell? ⟨(ad.add (ka * 9)).block, (ad.add (ka * 9)).off + 7, none⟩ = some (.int .i64 ja.start) ∧ W.cell? ⟨(ad.add (ka * 9)).block, (ad.add (ka * 9)).off + 8, none⟩ = some (.int .i64 ja.fin)) := Lib.hid fun W hW => by
                obtain ⟨x, x0, x1, x2, _, _, _⟩ := HXI.out.below hW
                obtain ⟨y, y0, y1, _, _⟩ := HYI.out.below hW
                obtain ⟨b, b0, b1, _⟩ := HPP.out.below (thenS HZI.out hW)
                obtain ⟨z, z0, z1, z2, z3, z4, z5, z6, z7, z8⟩ := HAT.out.below (thenS HBI.out hW)
                exact ⟨x0, y1, b0, z0, z1, z2, z3, z4, z5, z6, z7, z8⟩
              have HRF : Hid (Below wo.heap.size wo wo) := Lib.hid (Below.refl _ _)
              have HDR : Hid (Below wo.heap.size wo wo.drew) := Lib.hid HRF.out.drew
              have HAC : Hid (∀ c, Below wo.heap.size wo (wo.drew.alloc c)) := Lib.hid fun c => HDR.out.alloc HDR.out.size c
              have HAC2 : Hid (∀ c, Below wo.heap.size wo (wo.drew.alloc c).drew) := Lib.hid fun c => (HAC.out c).drew
              have HAL : Hid (∀ c, Below wo.heap.size wo (wo.alloc c)) := Lib.hid fun c => HRF.out.alloc HRF.out.size c
              have HALD : Hid (∀ c, Below wo.heap.size wo (wo.alloc c).drew) := Lib.hid fun c => (HAL.out c).drew
              go_cut [15] (fun a wc => a = .pointer (some ⟨wo.heap.size, 0, none⟩) ∧ Hid (JobBox wc wo.heap.size ja ∧ Below wo.heap.size wo wc))
              case first =>
                go_region_held3 (fun w' => w'.cell? ⟨w.heap.size, 0, none⟩ = some (.slice (some ad) js.length d) ∧ w'.cell? ⟨w3.heap.size, 1, none⟩ = some (.slice (some ap) P.length k2) ∧ w'.cell? (ap.add (i * 3)) = some (.int .i64 ja.id) ∧ w'.cell? (ad.add (ka * 9)) = some (.int .i64 ja.id) ∧ w'.cell? ⟨(ad.add (ka * 9)).block, (ad.add (ka * 9)).off + 1, none⟩ = some (.string ja.user) ∧ w'.cell? ⟨(ad.add (ka * 9)).block, (ad.add (ka * 9)).off + 2, none⟩ = some (.int .i64 ja.width) ∧ w'.cell? ⟨(ad.add (ka * 9)).block, (ad.add (ka * 9)).off + 3, none⟩ = some (.int .i64 ja.est) ∧ w'.cell? ⟨(ad.add (ka * 9)).block, (ad.add (ka * 9)).off + 4, none⟩ = some (.int .i64 ja.prio) ∧ w'.cell? ⟨(ad.add (ka * 9)).block, (ad.add (ka * 9)).off + 5, none⟩ = some (.int .i64 ja.sub) ∧ w'.cell? ⟨(ad.add (ka * 9)).block, (ad.add (ka * 9)).off + 6, none⟩ = some (.int .i64 ja.state) ∧ w'.cell? ⟨(ad.add (ka * 9)).block, (ad.add (ka * 9)).off + 7, none⟩ = some (.int .i64 ja.start) ∧ w'.cell? ⟨(ad.add (ka * 9)).block, (ad.add (ka * 9)).off + 8, none⟩ = some (.int .i64 ja.fin))
                  (first | exact HK20.out _ HDR.out | exact HK20.out _ (HAC.out _) | exact HK20.out _ (HAL.out _) | exact HK20.out _ (HALD.out _) | exact HK20.out _ (HAC2.out _) | go_keep)
                  (first
                    | (go_at_call 9; refine (CF.out _ (thenS HBI.out HDR.out)).mono ?_; rintro e w9 ⟨rfl, rfl⟩)
                    | (go_at_call 9; refine (CF.out _ (thenS HBI.out (HAC.out _))).mono ?_; rintro e w9 ⟨rfl, rfl⟩)
                    | (go_at_call 9; refine (CF.out _ (thenS HBI.out (HALD.out _))).mono ?_; rintro e w9 ⟨rfl, rfl⟩))
                all_goals
                  go_wp2_with fail
                  go_meet
                  exact ⟨rfl, (JobBox.new wo ja _).below (Below.refl _ _).drew, HALD.out _⟩
              case rest =>
                obtain ⟨rfl, HC⟩ := hcut
                clear HK20 HRF HDR HAC HAC2 HAL HALD CF HXW HYW HAT HPP
                have HJA := Lib.hid HC.out.1
                have HB5 := Lib.hid (thenS HBI.out HC.out.2)
                have HX5 := Lib.hid (HXI.out.below HC.out.2)
                have HY5 := Lib.hid (HYI.out.below HC.out.2)
                have HZ5 := Lib.hid (thenS HZI.out HC.out.2)
                have HI5 := Lib.hid (thenS HI.out HC.out.2)
                clear HC HXI HYI HZI HBI HI
                generalize wo.heap.size = nb at *
                go_wp2_with fail
                go_loopw [16] (fun q wq => ∃ m : Nat, q = .int .i64 m ∧ m ≤ i ∧ Hid (Below wc.heap.size wc wq)) (fun q _ => i - (intOf q).toNat)
                case atStart => exact ⟨0, rfl, Nat.zero_le _, Below.refl _ _⟩
                case round =>
                  obtain ⟨wo, hwo⟩ : ∃ wo : World, wo = wr := ⟨_, rfl⟩
                  subst hwo
                  obtain ⟨m, rfl, hm, HM⟩ := hrel
                  by_cases hlm : m < i
                  · have hmT : m < T.length := by omega
                    have hmP : m < P.length := by omega
                    have HBM := Lib.hid (thenS HB5.out HM.out)
                    have HXM := Lib.hid (HX5.out.below HM.out)
                    have HYM := Lib.hid (HY5.out.below HM.out)
                    have HZM := Lib.hid (thenS HZ5.out HM.out)
                    have HJM := Lib.hid (HJA.out.below HM.out)
                    have m0' : (0 : Int) ≤ (m : Int) := Int.natCast_nonneg _
                    have m1' : (m : Int) < (P.length : Int) := by omega
                    have m2' : (m : Int) < (i : Int) := by omega
                    have hpm : P[m] = ⟨(ntT T m).2.id, (ntT T m).1, 0⟩ := by
                      have hT0 := HT0.out
                      have hP0 := HP0.out
                      subst hT0
                      subst hP0
                      rw [ntT_at hmT]
                      exact HPR.out m hmP hmT
                    obtain ⟨kb, hkb, hfb, hnb⟩ := find_there HND.out (show (ntT T m).2 ∈ js by rw [ntT_at hmT]; exact HMEM.out _ (List.getElem_mem hmT))
                    obtain ⟨ad', had', hbt⟩ := HBJ.out kb hkb
                    obtain rfl := Option.some.inj had'
                    rw [← nthJ_at hkb, hnb] at hbt
                    obtain ⟨ap', hap', hpq⟩ := HPL.out m hmP
                    obtain rfl := Option.some.inj hap'
                    rw [hpm] at hpq
                    have b0' : (0 : Int) ≤ (kb : Int) := Int.natCast_nonneg _
                    have b1' : (kb : Int) < (js.length : Int) := by omega
                    have CG : Hid (∀ W, Below w.heap.size w W → Calls Try.prog 9 #[.slice (some ad) js.length d, .int .i64 (ntT T m).2.id] W (OrdRef.IntQ (kb : Int) W)) := fun W hW => by
                      have h := OrdRef.find8 js (ntT T m).2.id _ W (HU.out.below hW) (by omega)
                      rwa [hfb] at h
                    have hne := HNE.out m hlm
                    obtain ⟨jm, hjm⟩ : ∃ jm, (ntT T m).2 = jm := ⟨_, rfl⟩
                    rw [hjm] at CG hbt hpq hne
                    have HBT := Lib.hid hbt
                    have HPQ := Lib.hid hpq
                    clear hbt hpq hpm hfb hnb hjm had' hap'
                    obtain ⟨F, hF⟩ : ∃ F : Int → Int → Int, ofC cl = F := ⟨_, rfl⟩
                    have CO : Hid (∀ (a b : Int) (W : World), Below w.heap.size w W → Calls Try.prog 12 #[.slice D cl.length f, .int .i64 a, .int .i64 b] W (IntC (F a b) W)) := fun a b W hW => by
                      rw [← hF]
                      exact of9 cl a b _ W (HQ.out.below hW) hsh (by omega)
                    rw [hF] at hne
                    have ne1 : (F ja.width ja.est == F jm.width jm.est) = false := by simpa using fun h => hne (Eq.symm h)
                    have ne2 : ¬ F ja.width ja.est = F jm.width jm.est := fun h => hne h.symm
                    have ne3 : decide (F ja.width ja.est = F jm.width jm.est) = false := decide_eq_false ne2
                    clear hF hne
                    obtain ⟨x, x0, x1, x2, _, _, _⟩ := HXM.out
                    obtain ⟨y, y0, y1, _, _⟩ := HYM.out
                    go_upto_region 24 with fail
                    clear x x0 x1 x2 y y0 y1
                    have HK24 : Hid (∀ W, Below wo.heap.size wo W → W.cell? ⟨w.heap.size, 0, none⟩ = some (.slice (some ad) js.length d) ∧ W.cell? ⟨w3.heap.size, 1, none⟩ = some (.slice (some ap) P.length k2) ∧ W.cell? (ap.add (m * 3)) = some (.int .i64 jm.id) ∧ W.cell? (ad.add (kb * 9)) = some (.int .i64 jm.id) ∧ W.cell? ⟨(ad.add (kb * 9)).block, (ad.add (kb * 9)).off + 1, none⟩ = some (.string jm.user) ∧ W.cell? ⟨(ad.add (kb * 9)).block, (ad.add (kb * 9)).off + 2, none⟩ = some (.int .i64 jm.width) ∧ W.cell? ⟨(ad.add (kb * 9)).block, (ad.add (kb * 9)).off + 3, none⟩ = some (.int .i64 jm.est) ∧ W.cell? ⟨(ad.add (kb * 9)).block, (ad.add (kb * 9)).off + 4, none⟩ = some (.int .i64 jm.prio) ∧ W.cell? ⟨(ad.add (kb * 9)).block, (ad.add (kb * 9)).off + 5, none⟩ = some (.int .i64 jm.sub) ∧ W.cell? ⟨(ad.add (kb * 9)).block, (ad.add (kb * 9)).off + 6, none⟩ = some (.int .i64 jm.state) ∧ W.cell? ⟨(ad.add (kb * 9)).block, (ad.add (kb * 9)).off + 7, none⟩ = some (.int .i64 jm.start) ∧ W.cell? ⟨(ad.add (kb * 9)).block, (ad.add (kb * 9)).off + 8, none⟩ = some (.int .i64 jm.fin)) := Lib.hid fun W hW => by
                      obtain ⟨x, x0, x1, x2, _, _, _⟩ := HXM.out.below hW
                      obtain ⟨y, y0, y1, _, _⟩ := HYM.out.below hW
                      obtain ⟨b, b0, b1, _⟩ := HPQ.out.below (thenS HZM.out hW)
                      obtain ⟨z, z0, z1, z2, z3, z4, z5, z6, z7, z8⟩ := HBT.out.below (thenS HBM.out hW)
                      exact ⟨x0, y1, b0, z0, z1, z2, z3, z4, z5, z6, z7, z8⟩
                    have HRF : Hid (Below wo.heap.size wo wo) := Lib.hid (Below.refl _ _)
                    have HDR : Hid (Below wo.heap.size wo wo.drew) := Lib.hid HRF.out.drew
                    have HAC : Hid (∀ c, Below wo.heap.size wo (wo.drew.alloc c)) := Lib.hid fun c => HDR.out.alloc HDR.out.size c
                    have HAC2 : Hid (∀ c, Below wo.heap.size wo (wo.drew.alloc c).drew) := Lib.hid fun c => (HAC.out c).drew
                    have HAL : Hid (∀ c, Below wo.heap.size wo (wo.alloc c)) := Lib.hid fun c => HRF.out.alloc HRF.out.size c
                    have HALD : Hid (∀ c, Below wo.heap.size wo (wo.alloc c).drew) := Lib.hid fun c => (HAL.out c).drew
                    go_cut [17] (fun a wc => a = .pointer (some ⟨wo.heap.size, 0, none⟩) ∧ Hid (JobBox wc wo.heap.size jm ∧ Below wo.heap.size wo wc))
                    case first =>
                      go_region_held3 (fun w' => w'.cell? ⟨w.heap.size, 0, none⟩ = some (.slice (some ad) js.length d) ∧ w'.cell? ⟨w3.heap.size, 1, none⟩ = some (.slice (some ap) P.length k2) ∧ w'.cell? (ap.add (m * 3)) = some (.int .i64 jm.id) ∧ w'.cell? (ad.add (kb * 9)) = some (.int .i64 jm.id) ∧ w'.cell? ⟨(ad.add (kb * 9)).block, (ad.add (kb * 9)).off + 1, none⟩ = some (.string jm.user) ∧ w'.cell? ⟨(ad.add (kb * 9)).block, (ad.add (kb * 9)).off + 2, none⟩ = some (.int .i64 jm.width) ∧ w'.cell? ⟨(ad.add (kb * 9)).block, (ad.add (kb * 9)).off + 3, none⟩ = some (.int .i64 jm.est) ∧ w'.cell? ⟨(ad.add (kb * 9)).block, (ad.add (kb * 9)).off + 4, none⟩ = some (.int .i64 jm.prio) ∧ w'.cell? ⟨(ad.add (kb * 9)).block, (ad.add (kb * 9)).off + 5, none⟩ = some (.int .i64 jm.sub) ∧ w'.cell? ⟨(ad.add (kb * 9)).block, (ad.add (kb * 9)).off + 6, none⟩ = some (.int .i64 jm.state) ∧ w'.cell? ⟨(ad.add (kb * 9)).block, (ad.add (kb * 9)).off + 7, none⟩ = some (.int .i64 jm.start) ∧ w'.cell? ⟨(ad.add (kb * 9)).block, (ad.add (kb * 9)).off + 8, none⟩ = some (.int .i64 jm.fin))
                        (first | exact HK24.out _ HDR.out | exact HK24.out _ (HAC.out _) | exact HK24.out _ (HAL.out _) | exact HK24.out _ (HALD.out _) | exact HK24.out _ (HAC2.out _) | go_keep)
                        (first
                          | (go_at_call 9; refine (CG.out _ (thenS HBM.out HDR.out)).mono ?_; rintro e w9 ⟨rfl, rfl⟩)
                          | (go_at_call 9; refine (CG.out _ (thenS HBM.out (HAC.out _))).mono ?_; rintro e w9 ⟨rfl, rfl⟩)
                          | (go_at_call 9; refine (CG.out _ (thenS HBM.out (HALD.out _))).mono ?_; rintro e w9 ⟨rfl, rfl⟩))
                      all_goals
                        go_wp2_with fail
                        go_meet
                        exact ⟨rfl, (JobBox.new wo jm _).below (Below.refl _ _).drew, HALD.out _⟩
                    case rest =>
                      obtain ⟨rfl, HC⟩ := hcut
                      clear HK24 HRF HDR HAC HAC2 HAL HALD CG HBT HPQ
                      have HJN := Lib.hid (HJM.out.below HC.out.2)
                      have HJ2 := Lib.hid HC.out.1
                      have HB7 := Lib.hid (thenS HBM.out HC.out.2)
                      have HX7 := Lib.hid (HXM.out.below HC.out.2)
                      have HM7 := Lib.hid (thenS HM.out HC.out.2)
                      clear HC HXM HYM HZM HBM HM HJM
                      generalize wo.heap.size = nc at *
                      have CP : Hid (∀ (a b : Int) (p : Lull wc), Calls Try.prog 12 #[.slice D cl.length f, .int .i64 a, .int .i64 b] p.u (IntC (F a b) p.u)) := fun a b p => CO.out a b p.u (thenS HB7.out p.h)
                      obtain ⟨x, x0, x1, x2, _, _, _⟩ := HX7.out
                      have P1 := calm_cell (a := ⟨w.heap.size, 1, none⟩) x x1
                      have P2 := calm_cell (a := ⟨nb, 2, none⟩) HJN.out.lt HJN.out.c2
                      have P3 := calm_cell (a := ⟨nb, 3, none⟩) HJN.out.lt HJN.out.c3
                      have P4 := calm_cell (a := ⟨nc, 2, none⟩) HJ2.out.lt HJ2.out.c2
                      have P5 := calm_cell (a := ⟨nc, 3, none⟩) HJ2.out.lt HJ2.out.c3
                      clear x x0 x1 x2 CO
                      go_upto_region 25 with fail
                      refine wp_region_calm (by kernel_rfl) (by kernel_rfl) ?_
                      repeat (first | go_big_quiet_step ((go_at_call 12; exact calm_of (v := .int .i64 (F _ _)) (CP.out _ _ _))) | quiet_step ((go_at_call 12; exact calm_of (v := .int .i64 (F _ _)) (CP.out _ _ _))))
                      refine wpQuiet_nil ?_
                      intro w6 hw
                      have hb6 := lull_below hw
                      clear hw P1 P2 P3 P4 P5 CP
                      have HM8 := Lib.hid (thenS HM7.out hb6)
                      clear hb6
                      go_wp2_with fail
                      exact ⟨⟨m + 1, by go_num, by omega, HM8.out⟩, by simp [intOf] <;> omega⟩
                  · obtain rfl : m = i := by omega
                    have HI9 := Lib.hid (thenS HI5.out HM.out)
                    go_wp2_with fail
                    exact ⟨⟨m + 1, by go_num, by omega, HI9.out⟩, by simp [intOf] <;> omega⟩
            · obtain rfl : i = P.length := by omega
              go_wp2_with fail
              refine (HAW.out _).mono ?_
              rintro e w5 ⟨rfl, hb5⟩
              have HB5 := Lib.hid (thenS HBI.out hb5)
              clear hb5
              go_wp2_with fail
              go_ret
              exact ⟨rfl, HB5.out⟩
    · have g5 : (c21 s now js cl != 0) = true := by simpa using hc
      generalize c21 s now js cl = C at *
      clear hc
      go_enter Try.func3, Try.ntmps3
      go_upto_region 1 with fail
      generalize w.alloc (.cells #[.slice B js.length d, .slice D cl.length f, .slice E ov.length g] 29) = w0 at *
      obtain ⟨x, x0, x1, x2, _, _, _⟩ := HX0.out
      go_wp2_with fail
      refine (CL.out _ HB0.out).mono ?_
      rintro e w1 ⟨rfl, rfl⟩
      go_wp2_with fail
      refine (C6.out _ HB0.out).mono ?_
      rintro e w2 ⟨rfl, hb2⟩
      have HB2 := Lib.hid (thenS HB0.out hb2)
      clear hb2
      go_wp2_with fail
      refine (HAW.out _).mono ?_
      rintro e w3 ⟨rfl, hb3⟩
      have HB3 := Lib.hid (thenS HB2.out hb3)
      clear hb3
      go_wp2_with fail
      go_ret
      exact ⟨rfl, HB3.out⟩
end Go.Proofs.Ytophhiejggnaeaa.MulWalk
namespace Go.Proofs.Ytophhiejggnaeaa.MulWalk
open Go.RowKit Go.Proofs.Ytophhiejggnaeaa.SpanPlain Go.Proofs.Ytophhiejggnaeaa.StepPlain Go.Proofs.Ytophhiejggnaeaa.GapPlain Go.Proofs.Ytophhiejggnaeaa.JobPlain Go.Proofs.Ytophhiejggnaeaa.OrdPlain Go.Proofs.Ytophhiejggnaeaa.ApiPlain Go.Proofs.Ytophhiejggnaeaa.QuePlain Go.Proofs.Ytophhiejggnaeaa.ShaPlain Go.Proofs.Ytophhiejggnaeaa.SlaPlain Go.Proofs.Ytophhiejggnaeaa.TogPlain Go.Proofs.Ytophhiejggnaeaa.PasPlain Go.Proofs.Ytophhiejggnaeaa.MulPlain Go.Proofs.Ytophhiejggnaeaa.Mem Go.Proofs.Ytophhiejggnaeaa.SpanMem Go.Proofs.Ytophhiejggnaeaa.StepMem Go.Proofs.Ytophhiejggnaeaa.JobMem Go.Proofs.Ytophhiejggnaeaa.OrdMem Go.Proofs.Ytophhiejggnaeaa.ApiMem Go.Proofs.Ytophhiejggnaeaa.StepRef Go.Proofs.Ytophhiejggnaeaa.ShaRef Go.Proofs.Ytophhiejggnaeaa.SlaRef Go.Proofs.Ytophhiejggnaeaa.QueRef Go.Proofs.Ytophhiejggnaeaa.OrdTake Go.Proofs.Ytophhiejggnaeaa.MulRef Go.Proofs.Ytophhiejggnaeaa.QueLight Go.Proofs.Ytophhiejggnaeaa.JobRef
def allC : Cl := ⟨⟨#[97, 108, 108]⟩, 1, 256, 1, 1099511627776⟩
theorem may_all : mayC allC = true := (mayC_iff _).2 ⟨by rfl, by decide, by decide, by decide, by decide, by decide, by decide⟩
theorem all_short : Short [allC] := fun c hc => by
  simp [allC] at hc
  subst hc
  exact ⟨by decide, by decide, by decide, by decide, by decide⟩
theorem all_is (w : World) : clL.Is [allC] (w.alloc (.cells #[.string ⟨#[97, 108, 108]⟩, .int .i64 1, .int .i64 256, .int .i64 1, .int .i64 1099511627776] 51)) (.slice (some ⟨w.heap.size, 0, none⟩) 1 1) := .inr ⟨_, _, rfl, Raw.alloc w _ _, Nat.le_refl _⟩
theorem in_all {j : Jb} (h : mayJ j = true) : ofE [allC] j.width j.est = 0 := by
  have b := may_base h
  have hh : hasC allC j.width j.est = true := (hasC_iff _ _ _).2 ⟨may_all, b.w1, b.w2, b.e1, b.e2⟩
  unfold ofE
  simp [List.findIdx?_cons, hh]
theorem at_all {js : List Jb} (h : ∀ m, m < js.length → mayJ (nthJ js m) = true) : ∀ j ∈ js, mayJ j = true := fun j hj => by
  obtain ⟨i, hi, rfl⟩ := List.mem_iff_getElem.1 hj
  rw [← nthJ_at hi]
  exact h i hi
set_option maxRecDepth 100000 in
set_option maxHeartbeats 1600000 in
theorem one_any (s : List Sp) (js : List Jb) (now : Int) (v u : Value) (w : World) (hv : SpansIs s w v) (hu : JobsIs js w u) (hft : ∀ j ∈ js, Fit j) (hid : PasWalk.IdsFit js) :
    Calls Try.prog 4 #[v, .int .i64 now, u] w (TrueIs w) := by
  have HV := Lib.hid hv
  have HU := Lib.hid hu
  obtain ⟨A, c, rfl, _⟩ := hv.open_
  obtain ⟨B, d, rfl, _, hB⟩ := hu.open_
  have HBJ := Lib.hid hB
  have HFT := Lib.hid hft
  clear hv hu hB hft
  have HAW := Lib.hid (fun w => awake_any w)
  rcases sizes2 s.length js.length with g1 | ⟨g1, g2⟩ | ⟨g1, g2, hs, hj⟩
  iterate 2
    · go_enter Try.func4, Try.ntmps4
      go_wp2_with fail
      refine (HAW.out _).mono ?_
      rintro e w1 ⟨rfl, hb1⟩
      go_wp2_with fail
      go_ret
      exact ⟨rfl, hb1⟩
  go_enter Try.func4, Try.ntmps4
  go_wp2_with fail
  go_loopw [7] (fun i wr => ∃ k : Nat, i = .int .i64 k ∧ k ≤ js.length ∧ Hid (∀ m, m < k → mayJ (nthJ js m) = true) ∧ Hid (Below w.heap.size w wr)) (fun i _ => js.length - (intOf i).toNat)
  case atStart => exact ⟨0, rfl, Nat.zero_le _, fun _ h => absurd h (Nat.not_lt_zero _), Below.refl _ _⟩
  case round =>
    obtain ⟨k, rfl, hk, HM, HB⟩ := hrel
    by_cases hlt : k < js.length
    · obtain ⟨ad, rfl, hat⟩ := HBJ.out k hlt
      rw [← nthJ_at hlt] at hat
      obtain ⟨z, z0, z1, z2, z3, z4, z5, z6, z7, z8⟩ := hat.below HB.out
      have hfj : Fit (nthJ js k) := by rw [nthJ_at hlt]; exact HFT.out _ (List.getElem_mem hlt)
      have i0 : (0 : Int) ≤ (k : Int) := Int.natCast_nonneg _
      have i1 : (k : Int) < (js.length : Int) := by omega
      have CM := Lib.hid (may7 (nthJ js k) wr hfj)
      unfold jobV jobA at CM
      have HNX : Hid (mayJ (nthJ js k) = true → ∀ m, m < k + 1 → mayJ (nthJ js m) = true) := Lib.hid fun h m hm => by
        by_cases e : m = k
        · rw [e]; exact h
        · exact HM.out m (by omega)
      clear hat hfj
      generalize hM : mayJ (nthJ js k) = M at *
      clear hM
      generalize nthJ js k = j at *
      cases M
      · go_wp2_with fail
        refine CM.out.mono ?_
        rintro e w1 ⟨rfl, hb1⟩
        have HB1 := Lib.hid (thenS HB.out hb1)
        clear hb1
        go_wp2_with fail
        refine (HAW.out _).mono ?_
        rintro e w2 ⟨rfl, hb2⟩
        have HB2 := Lib.hid (thenS HB1.out hb2)
        clear hb2
        go_wp2_with fail
        go_ret
        exact ⟨rfl, HB2.out⟩
      · go_wp2_with fail
        refine CM.out.mono ?_
        rintro e w1 ⟨rfl, hb1⟩
        have HB1 := Lib.hid (thenS HB.out hb1)
        clear hb1
        go_wp2_with fail
        exact ⟨⟨k + 1, by go_num, by omega, HNX.out (by trivial), HB1.out⟩, by simp [intOf] <;> omega⟩
    · obtain rfl : k = js.length := by omega
      have HALL := Lib.hid (at_all HM.out)
      have HC := Lib.hid (all_is wr)
      have HW4 := Lib.hid (box_s wr (.cells #[.string ⟨#[97, 108, 108]⟩, .int .i64 1, .int .i64 256, .int .i64 1, .int .i64 1099511627776] 51))
      have HB4 := Lib.hid (thenS HB.out HW4.out)
      clear HM HBJ HFT
      go_upto_region 9 with fail
      generalize wr.alloc (.cells #[.string ⟨#[97, 108, 108]⟩, .int .i64 1, .int .i64 256, .int .i64 1, .int .i64 1099511627776] 51) = W4 at *
      have HV4 := Lib.hid (HV.out.below HB4.out)
      have HU4 := Lib.hid (HU.out.below HB4.out)
      have C6 := Lib.hid (check21 s now js [allC] _ _ _ W4 HV4.out (by omega) HU4.out HC.out all_short (by decide))
      by_cases hc : c21 s now js [allC] = 0
      · have h16 := c16_now (c21_zero hc).1
        have hc1 := (c21_zero hc).1
        have HE : Hid (mulP [allC] [] s now js = easyP s now js true) := mul_easy rfl h16.2.1 (fun j hj => in_all (HALL.out j hj))
        have hok : PasOk s now (mulP [allC] [] s now js) := mul_all_ok h16.2.1 h16.1
        have hml : (mulP [allC] [] s now js).O.length ≤ js.length := mul_len
        have hsh := hok.short
        have hln := hok.len
        have hPl := P_len (mulP [allC] [] s now js)
        have hSl := st_len (mulP [allC] [] s now js)
        rw [hc] at C6
        have CP : Hid (∀ W, Below W4.heap.size W4 W → Calls Try.prog 8 #[.slice A s.length c, .int .i64 now, .slice B js.length d, .agg #[.slice (some ⟨wr.heap.size, 0, none⟩) 1 1, .slice none 0 0]] W (PlanSays 0 (mulP [allC] [] s now js) W)) := fun W hW => by
          have h := passM s now js [allC] [] _ _ _ (.slice none 0 0) W (HV4.out.below hW) (HU4.out.below hW) (HC.out.below hW) (.inl ⟨rfl, rfl⟩) hs hj all_short (by decide) hid
          rwa [hc] at h
        have CE : Hid (∀ W, Below W4.heap.size W4 W → Calls Try.prog 14 #[.slice A s.length c, .int .i64 now, .slice B js.length d, .bool true] W (PlanSays 0 (mulP [allC] [] s now js) W)) := fun W hW => by
          have h := passE s now js true _ _ W (HV4.out.below hW) (HU4.out.below hW) hs hj
          rwa [hc1, ← HE.out] at h
        have HSH : Hid ((mulP [allC] [] s now js).s.length ≤ 4000 ∧ (mulP [allC] [] s now js).st.length ≤ 100000 ∧ (mulP [allC] [] s now js).P.length ≤ 100000) := by
          refine ⟨?_, ?_, ?_⟩ <;> omega
        clear hc h16 hc1 hok hml hsh hln hPl hSl HE HALL
        generalize mulP [allC] [] s now js = X at *
        go_wp2_with fail
        refine C6.out.mono ?_
        rintro e w5 ⟨rfl, hb5⟩
        have HB5 := Lib.hid hb5
        clear hb5 C6
        go_wp2_with fail
        refine (CP.out _ HB5.out).mono ?_
        rintro e w6 ⟨a1, b1, c1, st, P, t, rfl, ha1, hb1, ht1, hcase, hw1⟩
        obtain ⟨rfl, rfl, rfl⟩ : st = X.st ∧ P = X.P ∧ t = X.s := by
          rcases hcase with ⟨_, h1, h2, h3⟩ | ⟨h, _⟩
          · exact ⟨h1, h2, h3⟩
          · exact absurd rfl h
        have HB6 := Lib.hid (thenS HB5.out hw1)
        have HI1 := Lib.hid ha1
        have HP1 := Lib.hid hb1
        have HT1 := Lib.hid ht1
        obtain ⟨A1, k1, rfl, _, _⟩ := ha1
        obtain ⟨A2, k2, rfl, _, _⟩ := prms_open hb1
        obtain ⟨A3, k3, rfl, _⟩ := ht1.open_
        clear hcase hw1 hb1 ht1 CP HB5
        have HX1 := Lib.hid (Box2.new w6 (.slice A1 X.st.length k1) (.slice A2 X.P.length k2) 37)
        have HN1 := Lib.hid (box_s w6 (.cells #[.slice A1 X.st.length k1, .slice A2 X.P.length k2] 37))
        have HB7 := Lib.hid (thenS HB6.out HN1.out)
        go_upto_region 12 with fail
        generalize w6.alloc (.cells #[.slice A1 X.st.length k1, .slice A2 X.P.length k2] 37) = W7 at *
        have HI7 := Lib.hid (HI1.out.below HN1.out)
        have HP7 := Lib.hid (HP1.out.below HN1.out)
        have HT7 := Lib.hid (HT1.out.below HN1.out)
        clear HI1 HP1 HT1 HN1 HB6
        generalize w6.heap.size = n6 at *
        go_wp2_with fail
        refine (CE.out _ HB7.out).mono ?_
        rintro e w8 ⟨a2, b2, c2, st, P, t, rfl, ha2, hb2, ht2, hcase, hw2⟩
        obtain ⟨rfl, rfl, rfl⟩ : st = X.st ∧ P = X.P ∧ t = X.s := by
          rcases hcase with ⟨_, h1, h2, h3⟩ | ⟨h, _⟩
          · exact ⟨h1, h2, h3⟩
          · exact absurd rfl h
        have HB8 := Lib.hid (thenS HB7.out hw2)
        have HI8 := Lib.hid (HI7.out.below hw2)
        have HP8 := Lib.hid (HP7.out.below hw2)
        have HT8 := Lib.hid (HT7.out.below hw2)
        have HX8 := Lib.hid (HX1.out.below hw2)
        have HI2 := Lib.hid ha2
        have HP2 := Lib.hid hb2
        have HT2 := Lib.hid ht2
        obtain ⟨A4, k4, rfl, _, _⟩ := ha2
        obtain ⟨A5, k5, rfl, _, _⟩ := prms_open hb2
        obtain ⟨A6, k6, rfl, _⟩ := ht2.open_
        clear hcase hw2 hb2 ht2 CE HB7 HI7 HP7 HT7 HX1
        have HY := Lib.hid (Box2.new w8 (.slice A4 X.st.length k4) (.slice A5 X.P.length k5) 37)
        have HN2 := Lib.hid (box_s w8 (.cells #[.slice A4 X.st.length k4, .slice A5 X.P.length k5] 37))
        have HX := Lib.hid (HX8.out.below HN2.out)
        have HB9 := Lib.hid (thenS HB4.out (thenS HB8.out HN2.out))
        go_upto_region 13 with fail
        generalize w8.alloc (.cells #[.slice A4 X.st.length k4, .slice A5 X.P.length k5] 37) = W9 at *
        have CS : Hid (Calls Try.prog 15 #[.agg #[.slice A1 X.st.length k1, .slice A2 X.P.length k2], .agg #[.slice A4 X.st.length k4, .slice A5 X.P.length k5]] W9 (BoolL true W9)) := same16 X.st X.P _ _ _ _ W9 (HI8.out.below HN2.out) (HP8.out.below HN2.out) (HI2.out.below HN2.out) (HP2.out.below HN2.out) HSH.out.2.1 HSH.out.2.2
        have CT : Hid (∀ W, Below W9.heap.size W9 W → Calls Try.prog 16 #[.slice A3 X.s.length k3, .slice A6 X.s.length k6] W (BoolL true W)) := fun W hW => (same4 X.s X.s _ _ W ((HT8.out.below HN2.out).below hW) ((HT2.out.below HN2.out).below hW) HSH.out.1 HSH.out.1).mono fun e w' h => by
          obtain ⟨rfl, n, rfl⟩ := h
          exact ⟨by rw [decide_eq_true rfl], below_drewN (Below.refl _ _) n⟩
        obtain ⟨x, x0, x1, _, _⟩ := HX.out
        obtain ⟨y, y0, y1, _, _⟩ := HY.out
        clear HI8 HP8 HT8 HI2 HP2 HT2 HX8 HX HY HN2 HB8 HSH
        go_wp2_with fail
        refine CS.out.mono ?_
        rintro e w10 ⟨rfl, hb10⟩
        have HB10 := Lib.hid hb10
        clear hb10 x x0 x1 y y0 y1 CS
        go_wp2_with fail
        refine (CT.out _ HB10.out).mono ?_
        rintro e w11 ⟨rfl, hb11⟩
        have HB11 := Lib.hid (thenS HB10.out hb11)
        clear hb11 CT
        go_wp2_with fail
        refine (HAW.out _).mono ?_
        rintro e w12 ⟨rfl, hb12⟩
        have HB12 := Lib.hid (thenS HB9.out (thenS HB11.out hb12))
        clear hb12
        go_wp2_with fail
        go_ret
        exact ⟨rfl, HB12.out⟩
      · have g5 : (c21 s now js [allC] != 0) = true := by simpa using hc
        generalize c21 s now js [allC] = C at *
        clear hc
        go_wp2_with fail
        refine C6.out.mono ?_
        rintro e w5 ⟨rfl, hb5⟩
        have HB5 := Lib.hid (thenS HB4.out hb5)
        clear hb5
        go_wp2_with fail
        refine (HAW.out _).mono ?_
        rintro e w6 ⟨rfl, hb6⟩
        have HB6 := Lib.hid (thenS HB5.out hb6)
        clear hb6
        go_wp2_with fail
        go_ret
        exact ⟨rfl, HB6.out⟩
end Go.Proofs.Ytophhiejggnaeaa.MulWalk
namespace Go.Proofs.Ytophhiejggnaeaa.Read
open Go.RowKit Go.Proofs.Ytophhiejggnaeaa.Mem
open Go.ChangeShapes Go.WideShapes Go.Deep
theorem cells_int1 : Try.prog.cellsOf 3 = 1 := by kernel_rfl
set_option maxRecDepth 100000 in
theorem int_val {H : Type} {enc : TypeId × Value → H} {W : World} {base : Nat} {v : Value} {d : DataW H} {p : List MemPlace} (hv : Value.okWide Try.prog W .any base 3 v)
    (_h : DataW.Trod enc Try.prog W 0 (fun _ => true) true 3 v d p) : ∃ n, v = .int .i64 n := okWide_int Try.underlying3 hv
end Go.Proofs.Ytophhiejggnaeaa.Read
namespace Go.Proofs.Ytophhiejggnaeaa.Read
open Go.RowKit Go.Proofs.Ytophhiejggnaeaa.SpanPlain Go.Proofs.Ytophhiejggnaeaa.StepPlain Go.Proofs.Ytophhiejggnaeaa.Mem Go.Proofs.Ytophhiejggnaeaa.SpanMem Go.Proofs.Ytophhiejggnaeaa.StepMem
open Go.ChangeShapes Go.WideShapes Go.Deep
set_option maxRecDepth 100000 in
theorem cells_step : Try.prog.cellsOf 59 = 2 := by kernel_rfl
set_option maxRecDepth 100000 in
theorem step_read {H : Type} {enc : TypeId × Value → H} {W : World} {sp : Nat → Bool} {base n : Nat} {cs : List Value} {y : DataW H × List MemPlace} (h : DataW.trod enc Try.prog W base sp true n 59 cs = some y) : ∃ s : Sp, cs = spCells s := by
  obtain ⟨y0, y1, n', _, hl, h0, h1⟩ := trod_struct2 Try.underlying59 h
  rw [cells_step] at hl
  match cs, hl with
  | [c0, c1], _ =>
    dsimp only at h0 h1
    rw [cells_int1] at h0 h1
    obtain ⟨x0, f0, _, _⟩ := DataW.trod_int Try.underlying3 h0
    obtain ⟨x1, f1, _, _⟩ := DataW.trod_int Try.underlying3 h1
    simp at f0 f1
    subst f0 f1
    exact ⟨(x0, x1), rfl⟩
set_option maxRecDepth 100000 in
theorem steps_read {H : Type} {enc : TypeId × Value → H} {W : World} {base : Nat} {v : Value} {d : DataW H} {p : List MemPlace} (hv : Value.okWide Try.prog W .any base 22 v)
    (h : DataW.Trod enc Try.prog W 0 (fun _ => true) true 22 v d p) : ∃ l, SpansIs l W v := by
  obtain ⟨A, len, cap, rfl⟩ := okWide_slice Try.underlying22 hv
  obtain ⟨fuel, hf⟩ := h
  rcases open_slice Try.underlying22 hf with ⟨h0, _⟩ | ⟨a, ln, cp, m, n, D, Pl, hcs, _, hl, hm, hmm, _, hi⟩
  · refine ⟨[], .inl ⟨?_, rfl⟩⟩
    simpa [Value.cells] using h0
  · simp [Value.cells] at hcs
    obtain ⟨rfl, rfl, rfl⟩ := hcs
    obtain ⟨l, hl', hp⟩ := list_of (P := fun i (s : Sp) => a.block < W.heap.size ∧ W.cell? (a.add (i * 2)) = some (.int .i64 s.1) ∧ W.cell? (a.add (i * 2 + 1)) = some (.int .i64 s.2)) len (fun i hi' => by
      obtain ⟨cs', hc, ht⟩ := hi i (by rw [hmm]; simp; omega)
      rw [cells_step] at hc
      obtain ⟨s, rfl⟩ := step_read ht
      obtain ⟨_, _, hat⟩ := World.cells?_some hc
      have h0 := hat 0 (by omega)
      have h1 := hat 1 (by omega)
      rw [Mem.add_add] at h0 h1
      have e0 : W.cell? (a.add (i * 2)) = some (.int .i64 s.1) := h0
      have e1 : W.cell? (a.add (i * 2 + 1)) = some (.int .i64 s.2) := h1
      have lt := World.block_lt_of_cell? _ _ e0
      rw [add_block] at lt
      exact ⟨s, lt, e0, e1⟩)
    subst hl'
    exact ⟨l, .inr ⟨a, cap, rfl, svals_raw hp, by omega⟩⟩
end Go.Proofs.Ytophhiejggnaeaa.Read
namespace Go.Proofs.Ytophhiejggnaeaa.Read
open Go.RowKit Go.Proofs.Ytophhiejggnaeaa.Mem
open Go.ChangeShapes Go.WideShapes Go.Deep Go.ChangeMaps
set_option maxRecDepth 100000 in
theorem cells_i : Try.prog.cellsOf 3 = 1 := by kernel_rfl
set_option maxRecDepth 100000 in
theorem cells_s : Try.prog.cellsOf 9 = 1 := by kernel_rfl
set_option maxRecDepth 100000 in
theorem wf_lim {x : Int} (h : (Lit.int .i64 x).wf = true) : -9223372036854775808 ≤ x ∧ x ≤ 9223372036854775807 := by
  simp only [Lit.wf, Bool.and_eq_true, decide_eq_true_eq] at h
  exact h
set_option maxRecDepth 100000 in
/-- A slice that lies in a struct, by its one cell. -/
theorem lay_read_cell {α : Type} (L : Lay α) {P : α → Prop} {H : Type} {enc : TypeId × Value → H} {W : World} {T E : TypeId} {c0 : Value} {fuel : Nat} {y : DataW H × List MemPlace} (hT : Try.prog.underlying T = some (.slice E)) (hk : Try.prog.cellsOf E = L.k)
    (el : ∀ {sp : Nat → Bool} {base n : Nat} {cs : List Value} {y : DataW H × List MemPlace}, DataW.trod enc Try.prog W base sp true n E cs = some y → ∃ x : α, cs = L.cs x ∧ P x)
    (hf : DataW.trod enc Try.prog W 0 (fun _ => true) true fuel T [c0] = some y) : ∃ l, L.Is l W c0 ∧ ∀ x ∈ l, P x := by
  rcases open_slice hT hf with ⟨h0, _⟩ | ⟨a, len, cap, m, n, D, Pl, hcs, _, hl, hm, hmm, _, hi⟩
  · simp at h0
    subst h0
    exact ⟨[], .inl ⟨rfl, rfl⟩, fun x hx => by cases hx⟩
  · simp at hcs
    subst hcs
    obtain ⟨l, hl', hp⟩ := list_by (P := fun i (x : α) => (a.block < W.heap.size ∧ ∀ f u, (L.cs x)[f]? = some u → W.cell? (a.add (i * L.k + f)) = some u) ∧ P x) len (fun i hi' => by
      obtain ⟨cs', hc, ht⟩ := hi i (by rw [hmm]; simp; omega)
      rw [hk] at hc
      obtain ⟨j, rfl, hj⟩ := el ht
      obtain ⟨_, _, hat⟩ := World.cells?_some hc
      have hc : ∀ f u, (L.cs j)[f]? = some u → W.cell? (a.add (i * L.k + f)) = some u := fun f u hu => by
        have hf : f < L.k := by
          have := (List.getElem?_eq_some_iff.1 hu).1
          rwa [L.len] at this
        have h0 := hat f hf
        rw [Mem.add_add] at h0
        rw [h0]
        exact hu
      have h0 : (L.cs j)[0]? = some ((L.cs j)[0]'(by rw [L.len]; exact L.pos)) := List.getElem?_eq_getElem _
      have lt := World.block_lt_of_cell? _ _ (hc 0 _ h0)
      rw [add_block] at lt
      exact ⟨j, ⟨lt, hc⟩, hj⟩)
    subst hl'
    exact ⟨l, .inr ⟨a, cap, rfl, Lay.raw_of (fun i x hx => (hp i x hx).1), by omega⟩, fun x hx => by
      obtain ⟨i, hi, rfl⟩ := List.mem_iff_getElem.1 hx
      exact (hp i l[i] (by simp [hi])).2⟩
end Go.Proofs.Ytophhiejggnaeaa.Read
namespace Go.Proofs.Ytophhiejggnaeaa.Read
open Go.RowKit Go.Proofs.Ytophhiejggnaeaa.JobPlain Go.Proofs.Ytophhiejggnaeaa.Mem Go.Proofs.Ytophhiejggnaeaa.JobMem
open Go.ChangeShapes Go.WideShapes Go.Deep Go.ChangeMaps
set_option maxRecDepth 100000 in
theorem wf_bounds {x : Int} (h : (Lit.int .i64 x).wf = true) : -9223372036854775808 ≤ x ∧ x ≤ 9223372036854775807 := by
  simp only [Lit.wf, Bool.and_eq_true, decide_eq_true_eq] at h
  exact h
set_option maxRecDepth 100000 in
theorem trod_struct9 {H : Type} {enc : TypeId × Value → H} {P : Program} {w : World} {base : Nat} {spare : Nat → Bool} {held : Bool} {t : TypeId} {f0 f1 f2 f3 f4 f5 f6 f7 f8 : Field} {fuel : Nat} {cs : List Value} {x : DataW H × List MemPlace} (ht : P.underlying t = some (.struct #[f0, f1, f2, f3, f4, f5, f6, f7, f8])) (h : DataW.trod enc P w base spare held fuel t cs = some x) :
    ∃ y0 y1 y2 y3 y4 y5 y6 y7 y8 n, cs.length = P.cellsOf t ∧ DataW.trod enc P w base spare held n f0.type ((cs.drop f0.offset).take (P.cellsOf f0.type)) = some y0 ∧ DataW.trod enc P w base spare held n f1.type ((cs.drop f1.offset).take (P.cellsOf f1.type)) = some y1 ∧ DataW.trod enc P w base spare held n f2.type ((cs.drop f2.offset).take (P.cellsOf f2.type)) = some y2 ∧ DataW.trod enc P w base spare held n f3.type ((cs.drop f3.offset).take (P.cellsOf f3.type)) = some y3 ∧ DataW.trod enc P w base spare held n f4.type ((cs.drop f4.offset).take (P.cellsOf f4.type)) = some y4 ∧ DataW.trod enc P w base spare held n f5.type ((cs.drop f5.offset).take (P.cellsOf f5.type)) = some y5 ∧ DataW.trod enc P w base spare held n f6.type ((cs.drop f6.offset).take (P.cellsOf f6.type)) = some y6 ∧ DataW.trod enc P w base spare held n f7.type ((cs.drop f7.offset).take (P.cellsOf f7.type)) = some y7 ∧ DataW.trod enc P w base spare held n f8.type ((cs.drop f8.offset).take (P.cellsOf f8.type)) = some y8 := by
  obtain ⟨xs, n, _, rfl, hl, hlen, hf⟩ := DataW.trod_struct ht h
  match xs, hlen with
  | [y0, y1, y2, y3, y4, y5, y6, y7, y8], _ => exact ⟨y0, y1, y2, y3, y4, y5, y6, y7, y8, n, hl, by simpa using hf 0 f0 rfl, by simpa using hf 1 f1 rfl, by simpa using hf 2 f2 rfl, by simpa using hf 3 f3 rfl, by simpa using hf 4 f4 rfl, by simpa using hf 5 f5 rfl, by simpa using hf 6 f6 rfl, by simpa using hf 7 f7 rfl, by simpa using hf 8 f8 rfl⟩
set_option maxRecDepth 100000 in
theorem cells_str1 : Try.prog.cellsOf 9 = 1 := by kernel_rfl
set_option maxRecDepth 100000 in
theorem cells_job : Try.prog.cellsOf 45 = 9 := by kernel_rfl
/-- A job's Id is an integer of 64 bits. -/
def IdFit (j : Jb) : Prop := -9223372036854775808 ≤ j.id ∧ j.id ≤ 9223372036854775807
set_option maxRecDepth 100000 in
theorem job_read_id {H : Type} {enc : TypeId × Value → H} {W : World} {sp : Nat → Bool} {base n : Nat} {cs : List Value} {y : DataW H × List MemPlace} (h : DataW.trod enc Try.prog W base sp true n 45 cs = some y) : ∃ j : Jb, cs = (jobA j).toList ∧ Fit j ∧ IdFit j := by
  obtain ⟨y0, y1, y2, y3, y4, y5, y6, y7, y8, m, hl, h0, h1, h2, h3, h4, h5, h6, h7, h8⟩ := trod_struct9 Try.underlying45 h
  rw [cells_job] at hl
  match cs, hl with
  | [c0, c1, c2, c3, c4, c5, c6, c7, c8], _ =>
    dsimp only at h0 h1 h2 h3 h4 h5 h6 h7 h8
    rw [cells_int1] at h0 h2 h3 h4 h5 h6 h7 h8
    rw [cells_str1] at h1
    obtain ⟨x0, f0, _, w0⟩ := DataW.trod_int Try.underlying3 h0
    obtain ⟨x1, f1, _, w1⟩ := DataW.trod_string Try.underlying9 h1
    obtain ⟨x2, f2, _, _⟩ := DataW.trod_int Try.underlying3 h2
    obtain ⟨x3, f3, _, _⟩ := DataW.trod_int Try.underlying3 h3
    obtain ⟨x4, f4, _, _⟩ := DataW.trod_int Try.underlying3 h4
    obtain ⟨x5, f5, _, _⟩ := DataW.trod_int Try.underlying3 h5
    obtain ⟨x6, f6, _, _⟩ := DataW.trod_int Try.underlying3 h6
    obtain ⟨x7, f7, _, _⟩ := DataW.trod_int Try.underlying3 h7
    obtain ⟨x8, f8, _, w8⟩ := DataW.trod_int Try.underlying3 h8
    simp at f0 f1 f2 f3 f4 f5 f6 f7 f8
    subst f0 f1 f2 f3 f4 f5 f6 f7 f8
    have hw := wf_bounds w8
    exact ⟨⟨x0, x1, x2, x3, x4, x5, x6, x7, x8⟩, rfl, ⟨hw.1, hw.2, w1⟩, wf_bounds w0⟩
set_option maxRecDepth 100000 in
theorem list_of2 {α : Type} {P : Nat → α → Prop} : ∀ n : Nat, (∀ i, i < n → ∃ s, P i s) → ∃ l : List α, l.length = n ∧ ∀ i s, l[i]? = some s → P i s := by
  intro n
  induction n with
  | zero => intro _; exact ⟨[], rfl, fun i s h => by simp at h⟩
  | succ n ih =>
    intro h
    obtain ⟨l, hl, hp⟩ := ih fun i hi => h i (by omega)
    obtain ⟨s, hs⟩ := h n (by omega)
    refine ⟨l ++ [s], by simp [hl], fun i x hx => ?_⟩
    rcases Nat.lt_trichotomy i n with hi | hi | hi
    · rw [List.getElem?_append_left (by omega)] at hx; exact hp i x hx
    · subst hi
      rw [List.getElem?_append_right (by omega), hl, Nat.sub_self] at hx
      simp at hx
      subst hx; exact hs
    · rw [List.getElem?_append_right (by omega)] at hx
      have : i - l.length = i - l.length - 1 + 1 := by omega
      rw [this] at hx
      simp at hx
end Go.Proofs.Ytophhiejggnaeaa.Read
namespace Go.Proofs.Ytophhiejggnaeaa.Read
open Go.RowKit Go.Proofs.Ytophhiejggnaeaa.JobPlain Go.Proofs.Ytophhiejggnaeaa.OrdPlain Go.Proofs.Ytophhiejggnaeaa.Mem Go.Proofs.Ytophhiejggnaeaa.JobMem Go.Proofs.Ytophhiejggnaeaa.OrdMem
open Go.ChangeShapes Go.WideShapes Go.Deep
set_option maxRecDepth 100000 in
theorem jvals_raw {l : List Jb} {w : World} {a : Addr} (h : ∀ i j, l[i]? = some j → a.block < w.heap.size ∧ ∀ f u, f < 9 → (jobC j)[f]? = some u → w.cell? (a.add (i * 9 + f)) = some u) : Raw w a (jvals l) := by
  intro q u hu
  have hq : q < l.length * 9 := by
    have := (List.getElem?_eq_some_iff.1 hu).1
    rwa [jvals_len] at this
  have hi : q / 9 < l.length := by omega
  have hf : q % 9 < 9 := by omega
  have e : q = q / 9 * 9 + q % 9 := by omega
  obtain ⟨h1, h2⟩ := h (q / 9) l[q / 9] (by simp [hi])
  refine ⟨h1, ?_⟩
  rw [e] at hu ⊢
  rw [jvals_at l (q / 9) hi (q % 9) hf] at hu
  exact h2 _ _ hf hu
set_option maxRecDepth 100000 in
theorem jobs_read_id {H : Type} {enc : TypeId × Value → H} {W : World} {base : Nat} {v : Value} {d : DataW H} {p : List MemPlace} (hv : Value.okWide Try.prog W .any base 23 v)
    (h : DataW.Trod enc Try.prog W 0 (fun _ => true) true 23 v d p) : ∃ l, JobsIs l W v ∧ ∀ j ∈ l, Fit j ∧ IdFit j := by
  obtain ⟨A, len, cap, rfl⟩ := okWide_slice Try.underlying23 hv
  obtain ⟨fuel, hf⟩ := h
  rcases open_slice Try.underlying23 hf with ⟨h0, _⟩ | ⟨a, ln, cp, m, n, D, Pl, hcs, _, hl, hm, hmm, _, hi⟩
  · simp [Value.cells] at h0
    obtain ⟨rfl, rfl, rfl⟩ := h0
    exact ⟨[], .inl ⟨rfl, rfl⟩, fun j hj => by cases hj⟩
  · simp [Value.cells] at hcs
    obtain ⟨rfl, rfl, rfl⟩ := hcs
    obtain ⟨l, hl', hp⟩ := list_of2 (P := fun i (j : Jb) => (a.block < W.heap.size ∧ ∀ f u, f < 9 → (jobC j)[f]? = some u → W.cell? (a.add (i * 9 + f)) = some u) ∧ Fit j ∧ IdFit j) len (fun i hi' => by
      obtain ⟨cs', hc, ht⟩ := hi i (by rw [hmm]; simp; omega)
      rw [cells_job] at hc
      obtain ⟨j, rfl, hj⟩ := job_read_id ht
      obtain ⟨_, _, hat⟩ := World.cells?_some hc
      have hc : ∀ f u, f < 9 → (jobC j)[f]? = some u → W.cell? (a.add (i * 9 + f)) = some u := fun f u hf hu => by
        have h0 := hat f (by omega)
        rw [Mem.add_add] at h0
        rw [h0]
        exact hu
      have lt := World.block_lt_of_cell? _ _ (hc 0 _ (by decide) rfl)
      rw [add_block] at lt
      exact ⟨j, ⟨lt, hc⟩, hj⟩)
    subst hl'
    exact ⟨l, .inr ⟨a, cap, rfl, jvals_raw (fun i j hj => (hp i j hj).1), by omega⟩, fun j hj => by
      obtain ⟨i, hi, rfl⟩ := List.mem_iff_getElem.1 hj
      exact (hp i l[i] (by simp [hi])).2⟩
end Go.Proofs.Ytophhiejggnaeaa.Read
namespace Go.Proofs.Ytophhiejggnaeaa.Read
open Go.RowKit Go.Proofs.Ytophhiejggnaeaa.Mem Go.Proofs.Ytophhiejggnaeaa.JobPlain Go.Proofs.Ytophhiejggnaeaa.JobMem Go.Proofs.Ytophhiejggnaeaa.OrdMem
open Go.ChangeShapes Go.WideShapes Go.Deep Go.ChangeMaps
/-- Jobs, as rows of nine cells. -/
def jobL : Lay Jb := ⟨9, jobC, fun _ => rfl, jobC_cell, by decide⟩
set_option maxRecDepth 100000 in
theorem jobs_cell_id {H : Type} {enc : TypeId × Value → H} {W : World} {c0 : Value} {fuel : Nat} {y : DataW H × List MemPlace} (hf : DataW.trod enc Try.prog W 0 (fun _ => true) true fuel 23 [c0] = some y) : ∃ l, JobsIs l W c0 ∧ ∀ j ∈ l, Fit j ∧ IdFit j := by
  obtain ⟨l, h1, h2⟩ := lay_read_cell jobL (P := fun j => Fit j ∧ IdFit j) Try.underlying23 cells_job (fun h => by
    obtain ⟨j, h1, h2⟩ := job_read_id h
    exact ⟨j, h1, h2⟩) hf
  exact ⟨l, h1, h2⟩
end Go.Proofs.Ytophhiejggnaeaa.Read
namespace Go.Proofs.Ytophhiejggnaeaa.Read
open Go.RowKit Go.Proofs.Ytophhiejggnaeaa.ApiPlain Go.Proofs.Ytophhiejggnaeaa.Mem Go.Proofs.Ytophhiejggnaeaa.ApiMem
open Go.ChangeShapes Go.WideShapes Go.Deep Go.ChangeMaps
theorem trod_s2 {H : Type} {enc : TypeId × Value → H} {P : Program} {w : World} {base : Nat} {spare : Nat → Bool} {held : Bool} {t : TypeId} {f0 f1 : Field} {fuel : Nat} {cs : List Value} {x : DataW H × List MemPlace} (ht : P.underlying t = some (.struct #[f0, f1])) (h : DataW.trod enc P w base spare held fuel t cs = some x) :
    ∃ y0 y1 n, cs.length = P.cellsOf t ∧ DataW.trod enc P w base spare held n f0.type ((cs.drop f0.offset).take (P.cellsOf f0.type)) = some y0 ∧ DataW.trod enc P w base spare held n f1.type ((cs.drop f1.offset).take (P.cellsOf f1.type)) = some y1 := by
  obtain ⟨xs, n, _, rfl, hl, hlen, hf⟩ := DataW.trod_struct ht h
  match xs, hlen with
  | [y0, y1], _ => exact ⟨y0, y1, n, hl, by simpa using hf 0 f0 rfl, by simpa using hf 1 f1 rfl⟩
theorem trod_s5 {H : Type} {enc : TypeId × Value → H} {P : Program} {w : World} {base : Nat} {spare : Nat → Bool} {held : Bool} {t : TypeId} {f0 f1 f2 f3 f4 : Field} {fuel : Nat} {cs : List Value} {x : DataW H × List MemPlace} (ht : P.underlying t = some (.struct #[f0, f1, f2, f3, f4])) (h : DataW.trod enc P w base spare held fuel t cs = some x) :
    ∃ y0 y1 y2 y3 y4 n, cs.length = P.cellsOf t ∧ DataW.trod enc P w base spare held n f0.type ((cs.drop f0.offset).take (P.cellsOf f0.type)) = some y0 ∧ DataW.trod enc P w base spare held n f1.type ((cs.drop f1.offset).take (P.cellsOf f1.type)) = some y1 ∧ DataW.trod enc P w base spare held n f2.type ((cs.drop f2.offset).take (P.cellsOf f2.type)) = some y2 ∧ DataW.trod enc P w base spare held n f3.type ((cs.drop f3.offset).take (P.cellsOf f3.type)) = some y3 ∧ DataW.trod enc P w base spare held n f4.type ((cs.drop f4.offset).take (P.cellsOf f4.type)) = some y4 := by
  obtain ⟨xs, n, _, rfl, hl, hlen, hf⟩ := DataW.trod_struct ht h
  match xs, hlen with
  | [y0, y1, y2, y3, y4], _ => exact ⟨y0, y1, y2, y3, y4, n, hl, by simpa using hf 0 f0 rfl, by simpa using hf 1 f1 rfl, by simpa using hf 2 f2 rfl, by simpa using hf 3 f3 rfl, by simpa using hf 4 f4 rfl⟩
theorem cells_cl : Try.prog.cellsOf 51 = 5 := by kernel_rfl
set_option maxRecDepth 100000 in
theorem cl_read {H : Type} {enc : TypeId × Value → H} {W : World} {sp : Nat → Bool} {base n : Nat} {cs : List Value} {y : DataW H × List MemPlace} (h : DataW.trod enc Try.prog W base sp true n 51 cs = some y) : ∃ x : Cl, cs = clC x ∧ ClFit x := by
  obtain ⟨y0, y1, y2, y3, y4, m, hl, h0, h1, h2, h3, h4⟩ := trod_s5 Try.underlying51 h
  rw [cells_cl] at hl
  match cs, hl with
  | [c0, c1, c2, c3, c4], _ =>
    dsimp only at h0 h1 h2 h3 h4
    rw [cells_s] at h0
    rw [cells_i] at h1
    rw [cells_i] at h2
    rw [cells_i] at h3
    rw [cells_i] at h4
    obtain ⟨x0, f0, _, w0⟩ := DataW.trod_string Try.underlying9 h0
    obtain ⟨x1, f1, _, w1⟩ := DataW.trod_int Try.underlying3 h1
    obtain ⟨x2, f2, _, w2⟩ := DataW.trod_int Try.underlying3 h2
    obtain ⟨x3, f3, _, w3⟩ := DataW.trod_int Try.underlying3 h3
    obtain ⟨x4, f4, _, w4⟩ := DataW.trod_int Try.underlying3 h4
    simp at f0 f1 f2 f3 f4
    subst f0 f1 f2 f3 f4
    exact ⟨⟨x0, x1, x2, x3, x4⟩, rfl, w0, wf_lim w1, wf_lim w2, wf_lim w3, wf_lim w4⟩
end Go.Proofs.Ytophhiejggnaeaa.Read
namespace Go.Proofs.Ytophhiejggnaeaa.MulWalk
open Go.RowKit Go.Proofs.Ytophhiejggnaeaa.SpanPlain Go.Proofs.Ytophhiejggnaeaa.StepPlain Go.Proofs.Ytophhiejggnaeaa.JobPlain Go.Proofs.Ytophhiejggnaeaa.ApiPlain Go.Proofs.Ytophhiejggnaeaa.Mem Go.Proofs.Ytophhiejggnaeaa.SpanMem Go.Proofs.Ytophhiejggnaeaa.StepMem Go.Proofs.Ytophhiejggnaeaa.JobMem Go.Proofs.Ytophhiejggnaeaa.OrdMem Go.Proofs.Ytophhiejggnaeaa.ApiMem Go.Proofs.Ytophhiejggnaeaa.QueRef Go.Proofs.Ytophhiejggnaeaa.Read
open Go.ChangeShapes Go.WideShapes Go.Deep Go.ChangeMaps
theorem cells_jobs3 : Try.prog.cellsOf 29 = 3 := by kernel_rfl
theorem cells_qs2 : Try.prog.cellsOf 27 = 2 := by kernel_rfl
theorem cells_sl1 : Try.prog.cellsOf 23 = 1 := by kernel_rfl
theorem cells_sl2 : Try.prog.cellsOf 24 = 1 := by kernel_rfl
theorem cells_sl3 : Try.prog.cellsOf 25 = 1 := by kernel_rfl
theorem cells_b1 : Try.prog.cellsOf 4 = boolL.k := by kernel_rfl
set_option maxRecDepth 100000 in
theorem bool_read {H : Type} {enc : TypeId × Value → H} {W : World} {sp : Nat → Bool} {base n : Nat} {cs : List Value} {y : DataW H × List MemPlace} (h : DataW.trod enc Try.prog W base sp true n 4 cs = some y) : ∃ x : Bool, cs = boolL.cs x ∧ True := by
  obtain ⟨x, f, _⟩ := DataW.trod_bool Try.underlying4 h
  exact ⟨x, f, trivial⟩
set_option maxRecDepth 100000 in
theorem jobs_val {H : Type} {enc : TypeId × Value → H} {W : World} {base : Nat} {v : Value} {d : DataW H} {p : List MemPlace} (hv : Value.okWide Try.prog W .any base 29 v)
    (h : DataW.Trod enc Try.prog W 0 (fun _ => true) true 29 v d p) : ∃ a b c js cl ov, v = .agg #[a, b, c] ∧ JobsIs js W a ∧ clL.Is cl W b ∧ boolL.Is ov W c ∧ Short cl ∧ PasWalk.IdsFit js := by
  obtain ⟨cs, rfl, hsz⟩ := okWide_struct Try.underlying29 hv
  obtain ⟨fuel, hf⟩ := h
  obtain ⟨y0, y1, m, hl, h0, h1⟩ := trod_s2 Try.underlying29 hf
  rw [cells_jobs3] at hl
  obtain ⟨l⟩ := cs
  match l, hl with
  | [c0, c1, c2], _ =>
    dsimp only [Value.cells] at h0 h1
    rw [cells_sl1] at h0
    rw [cells_qs2] at h1
    obtain ⟨js, hj, hji⟩ := jobs_cell_id h0
    obtain ⟨z0, z1, m2, _, g0, g1⟩ := trod_s2 Try.underlying27 h1
    rw [cells_sl2] at g0
    rw [cells_sl3] at g1
    obtain ⟨cl, hc, hsh⟩ := lay_read_cell clL (P := ClFit) (c0 := c1) Try.underlying24 cells_cl (fun h => cl_read h) g0
    obtain ⟨ov, ho, _⟩ := lay_read_cell boolL (P := fun _ => True) (c0 := c2) Try.underlying25 cells_b1 (fun h => bool_read h) g1
    exact ⟨c0, c1, c2, js, cl, ov, rfl, hj, hc, ho, hsh, fun j h => (hji j h).2⟩
set_option maxRecDepth 100000 in
theorem heads_open {H : Type} {enc : TypeId × Value → H} {d0 d1 d2 : DataW H} {p0 p1 p2 : List MemPlace} (W : World) (base : Nat) (v0 v1 v2 : Value) (g0 : Value.okWide Try.prog W .any base 22 v0) (g1 : Value.okWide Try.prog W .any base 3 v1) (g2 : Value.okWide Try.prog W .any base 29 v2)
    (h0 : DataW.Trod enc Try.prog W 0 (fun _ => true) true 22 v0 d0 p0) (h1 : DataW.Trod enc Try.prog W 0 (fun _ => true) true 3 v1 d1 p1) (h2 : DataW.Trod enc Try.prog W 0 (fun _ => true) true 29 v2 d2 p2) :
    Calls Try.prog 3 #[v0, v1, v2] W (TrueIs W) := by
  obtain ⟨s, hs⟩ := steps_read g0 h0
  obtain ⟨now, rfl⟩ := int_val g1 h1
  obtain ⟨a, b, c, js, cl, ov, rfl, hj, hc, ho, hsh, hji⟩ := jobs_val g2 h2
  exact heads_any s js cl ov now _ _ _ _ W hs hj hc ho hsh hji
set_option maxRecDepth 100000 in
theorem one_open {H : Type} {enc : TypeId × Value → H} {d0 d1 d2 : DataW H} {p0 p1 p2 : List MemPlace} (W : World) (base : Nat) (v0 v1 v2 : Value) (g0 : Value.okWide Try.prog W .any base 22 v0) (g1 : Value.okWide Try.prog W .any base 3 v1) (g2 : Value.okWide Try.prog W .any base 23 v2)
    (h0 : DataW.Trod enc Try.prog W 0 (fun _ => true) true 22 v0 d0 p0) (h1 : DataW.Trod enc Try.prog W 0 (fun _ => true) true 3 v1 d1 p1) (h2 : DataW.Trod enc Try.prog W 0 (fun _ => true) true 23 v2 d2 p2) :
    Calls Try.prog 4 #[v0, v1, v2] W (TrueIs W) := by
  obtain ⟨s, hs⟩ := steps_read g0 h0
  obtain ⟨now, rfl⟩ := int_val g1 h1
  obtain ⟨js, hj, hf⟩ := jobs_read_id g2 h2
  exact one_any s js now _ _ W hs hj (fun j h => (hf j h).1) (fun j h => (hf j h).2)
end Go.Proofs.Ytophhiejggnaeaa.MulWalk
