/-
  What the theorem uses of the texts below it.
-/
import Derived.Below
import Derived.Laws.OwnMore
import Derived.Deep.Draws
import Derived.Deep.OwnRows
import Derived.Lib.Hide
import Derived.OwnWalk
import Derived.Deep.QuietTactic
import Derived.BigQuiet
import Derived.Lib.SliceRun
import Derived.Test.YtjjigkomiidipaaRows
import Derived.WalkKit
import Derived.WalkSpells
import Derived.WalkLawsBesides
import Derived.Laws.StructEq
import Derived.LoopTactic
import Derived.Deep.CutBlock
import Derived.Deep.DeepCutAuto
import Derived.Deep.RegionHeld3
import Derived.ArgAppend
import Derived.Deep.RegionLaw
import Derived.Shelf.Small.Bits
import Derived.Shelf.Small.Wraps
import Derived.Shelf.Strconv.Itoa0
import Derived.Shelf.Bits.Mul64
import Derived.Test.YtjjigkomiidipaaProg
import Derived.Lib.ItoaNum
import Derived.Laws.Bits64b
import Derived.Deep.LoopGhost
import Derived.Shelf.SlSortCmp.NoneTotal
import Derived.Shelf.SlicesG.Cmp
import Derived.Lib.OwnBridge
import Derived.Lib.AppendIntMem
import Derived.BigRegion
import Derived.OpenShut
import Derived.Lib.SmallJoins
import Derived.Deep.Strs
import Derived.ChangeMaps5
import Derived.Test.YtjjigkomiidipaaPa7
namespace Go.Proofs.Ytjjigkomiidipaa.PasWalk
open Go.RowKit Go.Proofs.Ytjjigkomiidipaa.SpanPlain Go.Proofs.Ytjjigkomiidipaa.StepPlain Go.Proofs.Ytjjigkomiidipaa.GapPlain Go.Proofs.Ytjjigkomiidipaa.JobPlain Go.Proofs.Ytjjigkomiidipaa.OrdPlain Go.Proofs.Ytjjigkomiidipaa.ApiPlain Go.Proofs.Ytjjigkomiidipaa.ShaPlain Go.Proofs.Ytjjigkomiidipaa.SlaPlain Go.Proofs.Ytjjigkomiidipaa.TogPlain Go.Proofs.Ytjjigkomiidipaa.PasPlain Go.Proofs.Ytjjigkomiidipaa.Mem Go.Proofs.Ytjjigkomiidipaa.SpanMem Go.Proofs.Ytjjigkomiidipaa.StepMem Go.Proofs.Ytjjigkomiidipaa.JobMem Go.Proofs.Ytjjigkomiidipaa.OrdMem Go.Proofs.Ytjjigkomiidipaa.ApiMem Go.Proofs.Ytjjigkomiidipaa.SpanRef Go.Proofs.Ytjjigkomiidipaa.StepRef Go.Proofs.Ytjjigkomiidipaa.GapRef Go.Proofs.Ytjjigkomiidipaa.ShaRef Go.Proofs.Ytjjigkomiidipaa.SlaRef Go.Proofs.Ytjjigkomiidipaa.PlaPlain
open Go.Proofs.Ytjjigkomiidipaa.StepWalk (NewAt)
open Go.Proofs.Ytjjigkomiidipaa.SelPlain (overJ)
open Go.Proofs.Ytjjigkomiidipaa.SelRef (mayT BoolQ)
open Go.Proofs.Ytjjigkomiidipaa.SelWalk (codeS overF PassSays)
open Go.Proofs.Ytjjigkomiidipaa.ShaWalk (LaySaysN ShSays)
theorem PasAt.starts {x : Pas} {w : World} {N : Nat} {sv av bv row : Value} {wr w4 : World} {Y : List Jb} {O : List (Int × Jb)} (h : PasAt x w N sv av bv wr) (ho : OwnN 3 1 (w.heap.size + 1) w4 row (x.st.length + Y.length) (ivals x.st ++ ivals (Y.map (·.id))))
    (hb : Below (w.heap.size + 1) wr w4) (hg : wr.grownBy w4 av.ownBlock) (hs : NextTo wr av row) : PasAt ⟨x.s, x.Q, x.R ++ Y, O⟩ w N sv row bv (w4.setCell ⟨N, 0, none⟩ row) := by
  have hlt := h.box.lt
  have hlt2 := h.lt
  have hst : (⟨x.s, x.Q, x.R ++ Y, O⟩ : Pas).st = x.st ++ Y.map (·.id) := by simp [Pas.st]
  have hW : ∀ (v : Value), (∀ b, v.ownBlock = some b → w.heap.size + 1 ≤ b) → v.ownBlock ≠ some w.heap.size := fun v hv q => by have := hv _ q; omega
  have ha : ∀ b, av.ownBlock = some b → w.heap.size + 1 ≤ b := fun b q => (h.rows.block_lt q).1
  have hbv : ∀ b, bv.ownBlock = some b → w.heap.size + 1 ≤ b ∧ b < wr.heap.size := fun b q => h.prms.block_lt q
  have hv4 : row.ownBlock ≠ some N := nextS hs h.noA hlt
  refine ⟨?_, ?_, ?_, hv4, h.noB, ?_, ?_, ?_, h.away, ?_, ?_, h.lt, ?_⟩
  · refine spans_kept h.st (by simp [World.setCell]; exact hg.size) fun a m c e hp => ?_
    refine (Below.heap_setCell _ ⟨N, 0, none⟩ _ a.block (by have := h.away a m c e hp; show a.block ≠ N; omega)).trans (hg.block a.block (spans_lt h.st a m c e hp) (fun q => h.offA a m c e hp q.symm))
  · refine (ho.set_apart (p := ⟨N, 0, none⟩) hv4 _).cast ?_ ?_
    · rw [hst, List.length_append, List.length_map]
    · rw [hst, ivals_append]
  · refine (h.prms.kept hg ?_).set_apart (p := ⟨N, 0, none⟩) h.noB _
    cases q : bv.ownBlock with
    | none => exact .inl rfl
    | some b => exact .inr fun e => h.apart b e.symm q
  · intro b e q
    rcases hs with hs | ⟨b2, hs, hb2⟩
    · exact h.apart b (hs ▸ e) q
    · rw [hs] at e
      injection e with e
      have := (hbv b q).2
      omega
  · exact OffN.next h.offA (spans_lt h.st) hs
  · exact h.offB
  · exact (h.box.grown hg h.noA).set0 _
  · exact (h.ret.grown hg (hW _ ha)).set_other (p := ⟨N, 0, none⟩) (by show N ≠ _; omega) _
  · exact (h.bel.trans (hb.mono (by omega))).setCell (p := ⟨N, 0, none⟩) (by show _ ≤ N; omega) _
theorem says_w {code : Int} {x z : Pas} {w W1 W : World} {a b c : Value} (hx : z.s = x.s ∧ z.st = x.st ∧ z.P = x.P) (hb : Below w.heap.size w W1) (h : PlanSaysN code x W1 (.returned (.tuple #[.agg #[a, b], c, .int .i64 code])) W) : PlanSaysN code z w (.returned (.tuple #[.agg #[a, b], c, .int .i64 code])) W := by
  obtain ⟨a2, b2, c2, st, P, t, e, h1, h2, h3, h4, h5, n1, n2, n3, hs⟩ := h
  have hsz := hb.size
  refine ⟨a2, b2, c2, st, P, t, e, h1, h2, h3, ?_, hb.trans (h5.mono hsz), n1.mono hsz, n2.mono hsz, n3.mono hsz, hs⟩
  rcases h4 with ⟨k, k1, k2, k3⟩ | h4
  · exact .inl ⟨k, k1.trans hx.2.1.symm, k2.trans hx.2.2.symm, k3.trans hx.1.symm⟩
  · exact .inr h4
set_option maxRecDepth 100000 in
set_option maxHeartbeats 1600000 in
theorem pass_s (s : List Sp) (now num den : Int) (js : List Jb) (v u : Value) (w : World) (hv : SpansIs s w v) (hu : JobsIs js w u) (hs : s.length + 3 * js.length ≤ 1000) : Calls Try.prog 12 #[v, .int .i64 now, u, .agg #[.int .i64 num, .int .i64 den]] w (PlanSaysN (codeS s now num den js) (selQ s now num den js) w) := by
  have CE := Lib.hid (fun W (hW : Below w.heap.size w W) => check_e s now js v u W (hv.below hW) (by omega) (hu.below hW))
  have HV := Lib.hid hv
  have HVL := Lib.hid (spans_lt hv)
  obtain ⟨B, d, rfl, _, hB⟩ := hu.open_
  have HJB := Lib.hid hB
  have HY0 := Lib.hid (Box2.new w (.int .i64 num) (.int .i64 den) 25)
  have HYB := Lib.hid (box_s w (.cells #[.int .i64 num, .int .i64 den] 25))
  have HW1 : Hid ((w.alloc (.cells #[.int .i64 num, .int .i64 den] 25)).heap.size = w.heap.size + 1) := by show _ = _; simp
  obtain ⟨A, c, rfl, _⟩ := hv.open_
  clear hv hu hB
  by_cases h0 : c16 s now js.length = 0
  · obtain ⟨hc1, hc2, ⟨hn0, hn2⟩, hc4⟩ := c16_yes h0
    have HCK := Lib.hid ((chk_iff s).1 hc1)
    have HHD := Lib.hid hc2
    have HN0 := Lib.hid hn0
    have HJL := Lib.hid hc4
    rw [h0] at CE
    cases hm : mayT num den with
    | false =>
      have hco : codeS s now num den js = 1 := by unfold codeS; rw [if_neg (by simpa using h0), if_neg (by rw [hm]; simp)]
      rw [hco]
      have CT := Lib.hid (fun W => SelWalk.th_s num den W)
      rw [hm] at CT
      clear hco h0 hc1 hc2 hc4 hm HVL HCK HHD HJL HV HJB
      go_enter Try.func12, Try.ntmps12
      go_upto_region 1 with fail
      generalize w.alloc (.cells #[.int .i64 num, .int .i64 den] 25) = W1 at *
      have HR0 := Lib.hid (Box2.new W1 (.slice none 0 0) (.slice none 0 0) 44)
      have HRB := Lib.hid (box_s W1 (.cells #[.slice none 0 0, .slice none 0 0] 44))
      have HLW : Hid (w.heap.size < W1.heap.size) := by show _ < _; rw [HW1.out]; exact Nat.lt_succ_self _
      rw [← HW1.out]
      have HY2 := Lib.hid (HY0.out.below HRB.out)
      generalize W1.alloc (.cells #[.slice none 0 0, .slice none 0 0] 44) = W2 at *
      obtain ⟨R, hR⟩ : ∃ R, R = W1.heap.size := ⟨_, rfl⟩
      have HRR := Lib.hid hR
      rw [← hR] at HR0 ⊢
      clear hR
      go_wp2_with fail
      refine (CE.out W2 (thenS HYB.out HRB.out)).mono ?_
      rintro e w1 ⟨rfl, hb1⟩
      obtain ⟨u9, u0, u1, _, _⟩ := HY2.out.below hb1
      obtain ⟨r, r0, r1, rf0, rf1⟩ := HR0.out.below hb1
      have HB1 := Lib.hid (thenS (thenS HYB.out HRB.out) hb1)
      have HRX := Lib.hid (((HR0.out.below hb1).set0 (.slice none 0 0)).set1 (.slice none 0 0))
      have HLE : Hid (w.heap.size ≤ R) := by show _ ≤ _; rw [HRR.out]; have := HLW.out; omega
      clear hb1 CE HYB HRB HR0 HY2 HY0
      go_wp2_with fail
      refine (CT.out w1).mono ?_
      rintro e w2 ⟨rfl, rfl⟩
      have HB8 := Lib.hid ((HB1.out.setCell (p := ⟨R, 0, none⟩) HLE.out (.slice none 0 0)).setCell (p := ⟨R, 1, none⟩) HLE.out (.slice none 0 0))
      clear CT u9 u0 u1
      go_wp2_with fail
      clear r r0 r1 rf0 rf1
      obtain ⟨r, r0, r1, _, _⟩ := HRX.out
      generalize (w1.setCell ⟨R, 0, none⟩ (.slice none 0 0)).setCell ⟨R, 1, none⟩ (.slice none 0 0) = w8 at *
      exact bodyPost_ret (v := .tuple #[.agg #[.slice none 0 0, .slice none 0 0], .slice none 0 0, .int .i64 1]) (by simp [results, Try.results12, go_sem, r0, r1]) rfl (says_no (by decide) HB8.out)
    | true =>
      have hco : codeS s now num den js = 0 := by unfold codeS; rw [if_neg (by simpa using h0), if_pos hm]
      rw [hco]
      have CT := Lib.hid (fun W => SelWalk.th_s num den W)
      have HOV := Lib.hid (fun j => overF_is (j := j) (num := num) (den := den) hn0 hn2 hm)
      rw [hm] at CT
      clear hco h0 hc1 hc2 hc4 hm
      go_enter Try.func12, Try.ntmps12
      go_upto_region 1 with fail
      generalize w.alloc (.cells #[.int .i64 num, .int .i64 den] 25) = W1 at *
      have HR0 := Lib.hid (Box2.new W1 (.slice none 0 0) (.slice none 0 0) 44)
      have HRB := Lib.hid (box_s W1 (.cells #[.slice none 0 0, .slice none 0 0] 44))
      have HLW : Hid (w.heap.size < W1.heap.size) := by show _ < _; rw [HW1.out]; exact Nat.lt_succ_self _
      rw [← HW1.out]
      have HY2 := Lib.hid (HY0.out.below HRB.out)
      have HSZ2 : Hid ((W1.alloc (.cells #[.slice none 0 0, .slice none 0 0] 44)).heap.size = W1.heap.size + 1) := by show _ = _; simp
      generalize W1.alloc (.cells #[.slice none 0 0, .slice none 0 0] 44) = W2 at *
      go_wp2_with fail
      refine (CE.out W2 (thenS HYB.out HRB.out)).mono ?_
      rintro e w1 ⟨rfl, hb1⟩
      obtain ⟨u9, u0, u1, _, _⟩ := HY2.out.below hb1
      have HR1 := Lib.hid (HR0.out.below hb1)
      have HB1 := Lib.hid (thenS HRB.out hb1)
      clear hb1 CE HRB HR0 HY2
      go_wp2_with fail
      refine (CT.out w1).mono ?_
      rintro e w2 ⟨rfl, rfl⟩
      clear CT u9 u0 u1
      go_upto_region 7 with fail
      have HX1 := Lib.hid (Box2.new w1 (.slice none 0 0) (.slice none 0 0) 44)
      have HR2 := Lib.hid (HR1.out.alloc (.cells #[.slice none 0 0, .slice none 0 0] 44))
      have HB2 := Lib.hid (thenS HB1.out (box_s w1 (.cells #[.slice none 0 0, .slice none 0 0] 44)))
      have HLT : Hid (W1.heap.size < w1.heap.size) := HR1.out.lt
      obtain ⟨N, hN⟩ : ∃ N, N = w1.heap.size := ⟨_, rfl⟩
      have HVW := Lib.hid (HV.out.below (thenS HYB.out HB2.out))
      have HL0 : Hid (SelLoop s now num den js W1 N 0 (Pas.new s) [] (.slice A s.length c) (.slice none 0 0) (.slice none 0 0) (.slice none 0 0) (w1.alloc (.cells #[.slice none 0 0, .slice none 0 0] 44))) := by
        subst hN
        refine ⟨rfl, rfl, by simp [Pas.new], by simp [Pas.new], ⟨PasAt.begin HVW.out (fun a m c e hp => by have := HVL.out a m c e hp; have := HLW.out; have := HLT.out; omega) HX1.out HR2.out HLT.out HB2.out, OwnN.nil (by have := HB2.out.size; have := HLT.out; simp; omega), (fun q => by cases q), (fun b q => by cases q), (fun b q => by cases q), (fun a m c e hp q => by cases q)⟩⟩
      rw [← hN]
      clear hN HX1 HR2 HB2 HVL HVW HR1 HB1 HLT HV
      generalize w1.alloc (.cells #[.slice none 0 0, .slice none 0 0] 44) = W3 at *
      go_wp2_with fail
      go_loopw [13, 14, 42] (fun ov sv i wr => ∃ (k : Nat) (x : Pas) (m : List Jb) (av bv : Value), i = .int .i64 k ∧ k ≤ js.length ∧ Hid (SelLoop s now num den js W1 N k x m sv av bv ov wr)) (fun _ _ i _ => js.length - (intOf i).toNat)
      case atStart => exact ⟨0, _, _, _, _, rfl, Nat.zero_le _, HL0.out⟩
      case round =>
        obtain ⟨k, x, m, av, bv, rfl, hk, HL⟩ := hrel
        by_cases hlt : k < js.length
        · obtain ⟨bd, rfl, hat⟩ := HJB.out k hlt
          have HP := Lib.hid HL.out.mem
          have HBW : Hid (Below w.heap.size w wr) := HYB.out.trans (HP.out.pas.bel.mono (Nat.le_of_lt HLW.out))
          obtain ⟨y, y0, y1, y2, y3, y4, y5, y6, y7, y8⟩ := hat.below HBW.out
          have hlt2 : (k : Int) < (js.length : Int) := by omega
          have i0 : (0 : Int) ≤ (k : Int) := Int.natCast_nonneg _
          have HLEN : Hid (x.s.length ≤ 1000) := by show _ ≤ _; have := HL.out.len; have := HL.out.num; omega
          have hstl : x.st.length ≤ 1000 ∧ x.P.length ≤ 1000 ∧ m.length ≤ 1000 := by have := HL.out.num; rw [st_len, P_len]; omega
          have HOTHER := Lib.hid (fun sv' av' bv' ov' w' ho q => HL.out.other (sv' := sv') (av' := av') (bv' := bv') (ov' := ov') (w' := w') hlt ho q)
          have HSTART := Lib.hid (fun sv' av' bv' ov' w' ho h q => HL.out.start (sv' := sv') (av' := av') (bv' := bv') (ov' := ov') (w' := w') hlt ho HN0.out h q)
          have HPASS := Lib.hid (fun sv' av' bv' ov' w' ho h q => HL.out.pass (sv' := sv') (av' := av') (bv' := bv') (ov' := ov') (w' := w') hlt ho HN0.out h q)
          have HPROM := Lib.hid (fun a sv' av' bv' ov' w' ho h1 h2 h3 q => HL.out.prom (a := a) (sv' := sv') (av' := av') (bv' := bv') (ov' := ov') (w' := w') hlt ho h1 h2 h3 q)
          obtain ⟨j, hj2⟩ : ∃ j, j = js[k] := ⟨_, rfl⟩
          rw [← hj2] at y0 y1 y2 y3 y4 y5 y6 y7 y8 HOTHER HSTART HPASS HPROM
          have hkl : k ≤ 1000 := by omega
          have HX := Lib.hid (JobBox.new wr j 23)
          have HP1 := Lib.hid (HP.out.alloc (.cells #[.int .i64 j.id, .string j.user, .int .i64 j.width, .int .i64 j.est, .int .i64 j.prio, .int .i64 j.sub, .int .i64 j.state, .int .i64 j.start, .int .i64 j.fin] 23))
          have HYR := Lib.hid ((HY0.out.below HP1.out.pas.bel))
          obtain ⟨J, hJ⟩ : ∃ J, J = wr.heap.size := ⟨_, rfl⟩
          have HJA : Hid (∀ b', bv.ownBlock = some b' → b' < J) := fun b' q => by rw [hJ]; exact (HP.out.pas.prms.block_lt q).2
          have HJN : Hid (N < J) := by show N < J; rw [hJ]; exact HP.out.pas.box.lt
          obtain ⟨A2, c2, hsv, _⟩ := HP.out.pas.st.open_
          obtain ⟨A3, c3, hav⟩ := HP.out.pas.rows.shape
          obtain ⟨A4, c4, hbv⟩ := HP.out.pas.prms.shape
          obtain ⟨A5, c5, hov⟩ := HP.out.oth.shape
          subst hsv
          subst hav
          subst hbv
          subst hov
          have CV := Lib.hid (fun W => SelWalk.overS j now num den W)
          rw [HOV.out j] at CV
          clear hj2 hat HL HP HL0
          go_upto_region 12 with fail
          generalize wr.alloc (.cells #[.int .i64 j.id, .string j.user, .int .i64 j.width, .int .i64 j.est, .int .i64 j.prio, .int .i64 j.sub, .int .i64 j.state, .int .i64 j.start, .int .i64 j.fin] 23) = W4 at *
          rw [← hJ] at HX ⊢
          clear hJ y y0 y1 y2 y3 y4 y5 y6 y7 y8
          obtain ⟨y, y0, y1, y2, y3, y4, y5, y6, y7, y8, _, _, _, _, _, _, _, _, _⟩ := HX.out
          obtain ⟨u9, u0, u1, _, _⟩ := HYR.out
          generalize overJ j now num den = o at *
          unfold jobV jobA at CV
          go_wp2_with fail
          refine (CV.out W4).mono ?_
          rintro e w3 ⟨rfl, hb3⟩
          have HX3 := Lib.hid (HX.out.below hb3)
          have HP3 := Lib.hid (HP1.out.below hb3)
          clear CV hb3 y y0 y1 y2 y3 y4 y5 y6 y7 y8 u9 u0 u1 HYR HX HP1 HBW
          obtain ⟨y, y0, y1, y2, y3, y4, y5, y6, y7, y8, _, _, _, _, _, _, _, _, _⟩ := HX3.out
          cases o with
          | false =>
            have HOTHER2 := Lib.hid (fun sv' av' bv' ov' w' => HOTHER.out sv' av' bv' ov' w' rfl)
            have HP4 := Lib.hid (HP3.out.alloc (.cells #[.int .i64 j.id, .string j.user, .int .i64 j.width, .int .i64 j.est, .int .i64 j.prio, .int .i64 j.sub, .int .i64 j.state, .int .i64 j.start, .int .i64 j.fin] 23))
            have HO4 := Lib.hid HP4.out.oth
            have hml := hstl.2.2
            clear HSTART HPASS HPROM HOTHER
            go_wp2_with (at_builtin; refine push_sep jobs_t rfl (.tmp 54) (.tmp 56) rfl (W1.heap.size + 1) _ _ _ rfl HO4.out ⟨w3.heap.size, 0, none⟩ 1 1 (jobC j) rfl rfl ?c1 (jobC_cell j) ?c2 ?_)
            case c1 => exact Raw.alloc w3 (jobA j) _
            case c2 => omega
            intro A6 c6 w4 ho4 hb4 hg4 hs4
            have HN4 := Lib.hid (HOTHER2.out _ _ _ _ _ (HP4.out.other ho4 hb4 hg4 hs4))
            clear ho4 hb4 hg4 hs4 HP4 HP3 HO4 HOTHER2 HX3 y y0 y1 y2 y3 y4 y5 y6 y7 y8
            go_wp2_with fail
            exact ⟨⟨k + 1, x, m ++ [j], _, _, by go_num, by omega, HN4.out⟩, by simp [intOf] <;> omega⟩
          | true =>
            have HSTART2 := Lib.hid (fun sv' av' bv' ov' w' => HSTART.out sv' av' bv' ov' w' rfl)
            have HPASS2 := Lib.hid (fun sv' av' bv' ov' w' => HPASS.out sv' av' bv' ov' w' rfl)
            have HPROM2 := Lib.hid (fun a sv' av' bv' ov' w' => HPROM.out a sv' av' bv' ov' w' rfl)
            have CL := Lib.hid (ShaWalk.layN x.s now j _ w3 HP3.out.pas.st HLEN.out)
            unfold jobV jobA at CL
            clear HOTHER HSTART HPASS HPROM
            go_wp2_with fail
            refine CL.out.mono ?_
            rintro e w5 ⟨v5, r5, b5, rfl, hs5, hly5, hb5, hn5⟩
            have HX5 := Lib.hid (HX3.out.below hb5)
            clear CL y y0 y1 y2 y3 y4 y5 y6 y7 y8
            rcases hly5 with ⟨hok, rfl, hadd⟩ | ⟨hok, rfl, rfl⟩
            · obtain rfl := layL_of hok hadd
              have HP5 := Lib.hid (HP3.out.steps hb5 hs5 hn5)
              obtain ⟨Ar, cr, hv5, _⟩ := hs5.open_
              subst hv5
              have HP6 := Lib.hid (HP5.out.alloc (.cells #[.int .i64 j.id] 3))
              have HO6 : Hid (OwnN 3 1 (W1.heap.size + 1) (w5.alloc (.cells #[.int .i64 j.id] 3)) (.slice A3 x.st.length c3) x.st.length (ivals x.st)) := HP6.out.pas.rows
              obtain ⟨q9, q0, q1, _, _⟩ := HP5.out.pas.box
              obtain ⟨y, y0, _, _, _, _, _, _, _, _, _, _, _, _, _, _, _, _, _⟩ := HX5.out
              have hsl := hstl.1
              clear hs5 hadd hb5 hn5 HP3 HX3 HX5 HPASS2 HPROM2
              go_wp2_with (at_builtin; refine push_sep ints_t rfl (.tmp 67) (.tmp 70) rfl (W1.heap.size + 1) _ _ _ rfl HO6.out ⟨w5.heap.size, 0, none⟩ 1 1 [.int .i64 j.id] rfl rfl ?a1 Mem.one_cell ?a2 ?_)
              case a1 => exact Raw.alloc w5 _ _
              case a2 => omega
              intro A6 c6 w4 ho4 hb4 hg4 hs4
              obtain ⟨e9, e0, e1, ef0, ef1⟩ := HP6.out.pas.boxA hg4
              have HN4 := Lib.hid (HSTART2.out _ _ _ _ _ hok (HP6.out.start ho4 hb4 hg4 hs4))
              clear ho4 hb4 hg4 hs4 HP6 HP5 HO6 HSTART2 q9 q0 q1 y y0 hok
              go_wp2_with fail
              exact ⟨⟨k + 1, startP now x j, m, _, _, by go_num, by omega, HN4.out⟩, by simp [intOf] <;> omega⟩
            · have HP5 := Lib.hid (HP3.out.below hb5)
              obtain ⟨Ar, cr, hv5, _⟩ := hs5.open_
              subst hv5
              have HNO := Lib.hid hok
              clear hs5 hb5 hn5 HP3 HX3 hok HSTART2
              have CO := Lib.hid (ShaWalk.ofShS x.s now j _ w5 HP5.out.pas.st HLEN.out)
              unfold jobV jobA at CO
              obtain ⟨y, y0, y1, y2, y3, y4, y5, y6, y7, y8, _, _, _, _, _, _, _, _, _⟩ := HX5.out
              go_wp2_with fail
              refine CO.out.mono ?_
              rintro e w6 ⟨a, p, b6, rfl, hsh, hb6⟩
              have HP6 := Lib.hid (HP5.out.below hb6)
              have HX6 := Lib.hid (HX5.out.below hb6)
              have HSH := Lib.hid hsh.1
              clear hb6 hsh CO HP5 HX5 y y0 y1 y2 y3 y4 y5 y6 y7 y8
              cases b6 with
              | false =>
                have HN4 := Lib.hid (HPASS2.out _ _ _ _ _ (sh_no HSH.out) HP6.out)
                clear HPASS2 HPROM2 HP6 HX6 HSH
                go_wp2_with fail
                exact ⟨⟨k + 1, x, m, _, _, by go_num, by omega, HN4.out⟩, by simp [intOf] <;> omega⟩
              | true =>
                have HLATE := Lib.hid (sh_late HSH.out HNO.out)
                have HP7 := Lib.hid (HP6.out.alloc (.cells #[.int .i64 j.id, .int .i64 a, .int .i64 0] 48))
                have HO7 := Lib.hid HP7.out.pas.prms
                obtain ⟨q9, q0, q1, _, _⟩ := HP6.out.pas.box
                obtain ⟨y, y0, _, _, _, _, _, _, _, _, _, _, _, _, _, _, _, _, _⟩ := HX6.out
                have hpl := hstl.2.1
                clear HPASS2 HP6
                go_wp2_with (at_builtin; refine push_sep prm_t rfl (.tmp 85) (.tmp 90) rfl (W1.heap.size + 1) _ _ _ rfl HO7.out ⟨w6.heap.size, 0, none⟩ 1 1 (prmC ⟨j.id, a, 0⟩) rfl rfl ?b1 (prmC_cell _) ?b2 ?_)
                case b1 => exact Raw.alloc w6 _ _
                case b2 => omega
                intro A6 c6 w4 ho4 hb4 hg4 hs4
                obtain ⟨e9, e0, e1, ef0, ef1⟩ := HP7.out.pas.boxB hg4
                have HP8 := Lib.hid (HP7.out.prom (q := (a, j)) (O := x.O ++ [(a, j)]) ho4 hb4 hg4 hs4)
                have HX8 : Hid (JobBox (w4.setCell ⟨N, 1, none⟩ (.slice A6 (x.P.length + 1) c6)) J j) := by
                  have hJ1 := HX6.out.lt
                  have hJ2 : J < w4.heap.size := Nat.lt_of_lt_of_le (by simp; omega) hg4.size
                  refine HX6.out.of_block (by simp [World.setCell]; exact hJ2) ?_
                  refine (Below.heap_setCell _ ⟨N, 1, none⟩ _ J (by show J ≠ N; have := HJN.out; omega)).trans ((hg4.block J (by simp; omega) (fun q => ?_)).trans (heap_alloc_old w6 _ hJ1))
                  have := HJA.out _ q.symm
                  omega
                clear ho4 hb4 hg4 hs4 HP7 HO7 q9 q0 q1 y y0 HX6
                go_upto_region 21 with fail
                clear e9 e0 e1 ef0 ef1
                generalize w4.setCell ⟨N, 1, none⟩ (.slice A6 (x.P.length + 1) c6) = w7 at *
                have CL := Lib.hid (ShaWalk.layN x.s a j _ w7 HP8.out.pas.st HLEN.out)
                unfold jobV jobA at CL
                obtain ⟨y, y0, y1, y2, y3, y4, y5, y6, y7, y8, _, _, _, _, _, _, _, _, _⟩ := HX8.out
                go_wp2_with fail
                refine CL.out.mono ?_
                rintro e w8 ⟨v8, r8, b8, rfl, hs8, hly8, hb8, hn8⟩
                rcases hly8 with ⟨hok, rfl, hadd⟩ | ⟨hok, _, _⟩
                · obtain rfl := layL_of hok hadd
                  have HN8 := Lib.hid (HPROM2.out a _ _ _ _ _ (sh_yes HSH.out) HLATE.out.1 hok (HP8.out.steps hb8 hs8 hn8))
                  obtain ⟨Ar, cr, hv8, _⟩ := hs8.open_
                  subst hv8
                  clear hs8 hok hadd hb8 hn8 HP8 HX8 HPROM2 CL y y0 y1 y2 y3 y4 y5 y6 y7 y8
                  go_wp2_with fail
                  exact ⟨⟨k + 1, promP x a j, m, _, _, by go_num, by omega, HN8.out⟩, by simp [intOf] <;> omega⟩
                · rw [HLATE.out.2] at hok
                  cases hok
        · obtain rfl : k = js.length := by omega
          have hx := HL.out.is
          have hm := HL.out.rest
          rw [List.take_length] at hx hm
          have HZ := Lib.hid (sel_then_easy hx hm)
          have HM := Lib.hid HL.out.mem
          have hml : m.length ≤ 100 := by have := HL.out.num; have := HJL.out; omega
          have hcx : c16 x.s now m.length = 0 := by
            obtain ⟨g1, g2⟩ := first_chk (num := num) (den := den) HN0.out HCK.out js
            rw [← hx] at g1 g2
            unfold c16
            rw [if_pos ⟨(chk_iff _).2 g1, by rw [g2]; exact HHD.out, hn2⟩, if_neg (by omega)]
          have CP := Lib.hid (pass_e x.s now m false _ _ wr HM.out.pas.st (jobs_of_own HM.out.oth rfl) (by have := HL.out.len; have := HL.out.num; omega))
          rw [hcx] at CP
          have hsl : x.st.length ≤ 1000 := by have := HL.out.num; rw [st_len]; omega
          obtain ⟨A2, c2, hsv, _⟩ := HM.out.pas.st.open_
          obtain ⟨A3, c3, hav⟩ := HM.out.pas.rows.shape
          obtain ⟨A4, c4, hbv⟩ := HM.out.pas.prms.shape
          obtain ⟨A5, c5, hov⟩ := HM.out.oth.shape
          subst hsv
          subst hav
          subst hbv
          subst hov
          have hyl : (easyP x.s now m false).R.length ≤ 100 := by
            have h2 : ∀ (l : List Jb) (z : Pas), (l.foldl (easyOne now false) z).R.length ≤ z.R.length + l.length := by
              intro l
              induction l with
              | nil => intro z; simp
              | cons q l ih =>
                intro z
                have h3 := ih (easyOne now false z q)
                have h4 : (easyOne now false z q).R.length ≤ z.R.length + 1 := by
                  unfold easyOne startP promP
                  split
                  · simp
                  · split
                    · simp
                    · omega
                simp only [List.foldl_cons, List.length_cons]
                omega
            have h5 := h2 m (Pas.new x.s)
            simp only [Pas.new, List.length_nil] at h5
            show (m.foldl (easyOne now false) (Pas.new x.s)).R.length ≤ 100
            unfold Pas.new
            omega
          clear hx hm hcx HL HL0 hml
          generalize easyP x.s now m false = yp at *
          go_wp2_with fail
          refine CP.out.mono ?_
          rintro e w5 ⟨a5, b5, g5, st5, P5, t5, rfl, h1, h2, h3, h4, hb5, n1, n2, n3, hsr⟩
          obtain ⟨_, rfl, rfl, rfl⟩ : (0 : Int) = 0 ∧ st5 = yp.st ∧ P5 = yp.P ∧ t5 = yp.s := h4.resolve_right (fun q => q.1 rfl)
          obtain ⟨A6, c6, hav5, _, _⟩ := id h1
          obtain ⟨A7, c7, hbv5, _, _⟩ := prms_open h2
          obtain ⟨A8, c8, hgv5, _⟩ := h3.open_
          subst hav5
          subst hbv5
          subst hgv5
          have HSR := Lib.hid (hsr.below (box_s w5 (.cells #[.slice A6 yp.st.length c6, .slice A7 yp.P.length c7] 44)))
          have HM5 := Lib.hid ((HM.out.pas.steps hb5 h3 n3).alloc (.cells #[.slice A6 yp.st.length c6, .slice A7 yp.P.length c7] 44))
          have HN3 : Hid (NewAt (W1.heap.size + 1) (.slice A8 yp.s.length c8)) := n3.mono (by have := HM.out.pas.box.lt; have := HM.out.pas.lt; omega)
          have HBX := Lib.hid (Box2.new w5 (.slice A6 yp.st.length c6) (.slice A7 yp.P.length c7) 44)
          have HO5 : Hid (OwnN 3 1 (W1.heap.size + 1) (w5.alloc (.cells #[.slice A6 yp.st.length c6, .slice A7 yp.P.length c7] 44)) (.slice A3 x.st.length c3) x.st.length (ivals x.st)) := HM5.out.rows
          have hyl2 : yp.st.length ≤ 100 := by rw [st_len]; exact hyl
          clear h1 h2 h3 h4 hb5 n1 n2 n3 hsr CP HM
          go_upto_region 24 with fail
          generalize w5.heap.size = M5 at *
          generalize w5.alloc (.cells #[.slice A6 yp.st.length c6, .slice A7 yp.P.length c7] 44) = w6 at *
          obtain ⟨q9, q0, q1, qf0, qf1⟩ := HM5.out.box
          obtain ⟨g9, g0, g1, _, _⟩ := HBX.out
          go_wp2_with (at_builtin; refine push_seps ints_t rfl (.tmp 110) (.tmp 112) rfl (W1.heap.size + 1) _ _ _ rfl HO5.out _ yp.st.length (ivals yp.st) rfl ?a0 HSR.out ?a1 ?a2 ?_)
          case a0 => simp [ivals]
          case a1 => exact ivals_cell _
          case a2 => omega
          intro v7 w7 ho7 hb7 hg7 hs7
          obtain ⟨A9, c9, hv7⟩ := ho7.shape
          subst hv7
          have HM7 := Lib.hid (HM5.out.starts (Y := yp.R) (O := []) (ho7.cast (show x.st.length + yp.st.length = x.st.length + yp.R.length by rw [st_len yp]) rfl) hb7 hg7 hs7)
          have HD := Lib.hid (HM7.out.done rfl)
          obtain ⟨e9, e0, e1, ef0, ef1⟩ := HM5.out.boxA hg7
          obtain ⟨f9, f0, f1, ff0, ff1⟩ := HM7.out.ret
          obtain ⟨r9, rr0, rr1, rf0, rf1⟩ := HM5.out.ret.grown hg7 (fun q => by have := (HM5.out.rows.block_lt q).1; omega)
          have HNR : Hid (N ≠ W1.heap.size) := by show N ≠ _; have := HM5.out.lt; omega
          have HE := Lib.hid (says_w (z := selQ s now num den js) (x := ⟨yp.s, x.Q, x.R ++ yp.R, []⟩) ⟨HZ.out.1, HZ.out.2.1.trans (by simp [Pas.st]), HZ.out.2.2⟩ HYB.out (says_ok HD.out HN3.out))
          clear ho7 hb7 hg7 hs7 HM5 HM7 HBX HO5 HSR q9 q0 q1 qf0 qf1 g9 g0 g1
          have hnr := HNR.out
          go_wp2_with fail
          obtain ⟨r, r0, r1, _, _⟩ := HD.out.box
          generalize ((w7.setCell ⟨N, 0, none⟩ (.slice A9 (x.st.length + yp.st.length) c9)).setCell ⟨W1.heap.size, 0, none⟩ (.slice A9 (x.st.length + yp.st.length) c9)).setCell ⟨W1.heap.size, 1, none⟩ (.slice A4 x.P.length c4) = w8 at *
          exact bodyPost_ret (v := .tuple #[.agg #[.slice A9 (x.st.length + yp.st.length) c9, .slice A4 x.P.length c4], .slice A8 yp.s.length c8, .int .i64 0]) (by simp [results, Try.results12, go_sem, r0, r1]) rfl HE.out
  · have hco : codeS s now num den js = c16 s now js.length := by unfold codeS; rw [if_pos h0]
    rw [hco]
    have hne : (c16 s now js.length != 0) = true := by simpa using h0
    have HNE := Lib.hid h0
    generalize c16 s now js.length = C at *
    clear hco h0 HVL HV HJB
    go_enter Try.func12, Try.ntmps12
    go_upto_region 1 with fail
    generalize w.alloc (.cells #[.int .i64 num, .int .i64 den] 25) = W1 at *
    have HR0 := Lib.hid (Box2.new W1 (.slice none 0 0) (.slice none 0 0) 44)
    have HRB := Lib.hid (box_s W1 (.cells #[.slice none 0 0, .slice none 0 0] 44))
    have HLW : Hid (w.heap.size < W1.heap.size) := by show _ < _; rw [HW1.out]; exact Nat.lt_succ_self _
    rw [← HW1.out]
    generalize W1.alloc (.cells #[.slice none 0 0, .slice none 0 0] 44) = W2 at *
    obtain ⟨R, hR⟩ : ∃ R, R = W1.heap.size := ⟨_, rfl⟩
    have HRR := Lib.hid hR
    rw [← hR] at HR0 ⊢
    clear hR
    go_wp2_with fail
    refine (CE.out W2 (thenS HYB.out HRB.out)).mono ?_
    rintro e w1 ⟨rfl, hb1⟩
    obtain ⟨r, r0, r1, rf0, rf1⟩ := HR0.out.below hb1
    have HRX := Lib.hid (((HR0.out.below hb1).set0 (.slice none 0 0)).set1 (.slice none 0 0))
    have HLE : Hid (w.heap.size ≤ R) := by show _ ≤ _; rw [HRR.out]; have := HLW.out; omega
    have HB8 := Lib.hid (((thenS (thenS HYB.out HRB.out) hb1).setCell (p := ⟨R, 0, none⟩) HLE.out (.slice none 0 0)).setCell (p := ⟨R, 1, none⟩) HLE.out (.slice none 0 0))
    clear hb1 CE HYB HRB HR0 HY0
    go_wp2_with fail
    clear r r0 r1 rf0 rf1
    obtain ⟨r, r0, r1, _, _⟩ := HRX.out
    generalize (w1.setCell ⟨R, 0, none⟩ (.slice none 0 0)).setCell ⟨R, 1, none⟩ (.slice none 0 0) = w8 at *
    exact bodyPost_ret (v := .tuple #[.agg #[.slice none 0 0, .slice none 0 0], .slice none 0 0, .int .i64 C]) (by simp [results, Try.results12, go_sem, r0, r1]) rfl (says_no HNE.out HB8.out)
end Go.Proofs.Ytjjigkomiidipaa.PasWalk
namespace Go.Proofs.Ytjjigkomiidipaa.SelWalk
open Go.RowKit Go.Proofs.Ytjjigkomiidipaa.SpanPlain Go.Proofs.Ytjjigkomiidipaa.StepPlain Go.Proofs.Ytjjigkomiidipaa.JobPlain Go.Proofs.Ytjjigkomiidipaa.SlaPlain Go.Proofs.Ytjjigkomiidipaa.SelPlain Go.Proofs.Ytjjigkomiidipaa.PasPlain Go.Proofs.Ytjjigkomiidipaa.PlaPlain Go.Proofs.Ytjjigkomiidipaa.Mem Go.Proofs.Ytjjigkomiidipaa.SpanMem Go.Proofs.Ytjjigkomiidipaa.StepMem Go.Proofs.Ytjjigkomiidipaa.JobMem Go.Proofs.Ytjjigkomiidipaa.OrdMem
theorem passS (s : List Sp) (now num den : Int) (js : List Jb) (v u : Value) (w : World) (hv : SpansIs s w v) (hu : JobsIs js w u) (hs : s.length ≤ 100) (hj : js.length ≤ 20) : Calls Try.prog 12 #[v, .int .i64 now, u, .agg #[.int .i64 num, .int .i64 den]] w (PassSays s now num den js w) := by
  refine (PasWalk.pass_s s now num den js v u w hv hu (by omega)).mono ?_
  rintro e w' ⟨a, b, c, st, P, t, he, h1, h2, h3, h4, h5, _⟩
  refine ⟨a, b, c, st, P, t, he, h1, h2, h3, ?_, h5⟩
  rcases h4 with ⟨k, rfl, rfl, rfl⟩ | h4
  · exact .inl ⟨k, (sel_is s now num den js).symm⟩
  · exact .inr h4
end Go.Proofs.Ytjjigkomiidipaa.SelWalk
namespace Go.Proofs.Ytjjigkomiidipaa.SelWalk
open Go.RowKit Go.Proofs.Ytjjigkomiidipaa.SpanPlain Go.Proofs.Ytjjigkomiidipaa.StepPlain Go.Proofs.Ytjjigkomiidipaa.GapPlain Go.Proofs.Ytjjigkomiidipaa.JobPlain Go.Proofs.Ytjjigkomiidipaa.OrdPlain Go.Proofs.Ytjjigkomiidipaa.ApiPlain Go.Proofs.Ytjjigkomiidipaa.ShaPlain Go.Proofs.Ytjjigkomiidipaa.SlaPlain Go.Proofs.Ytjjigkomiidipaa.SelPlain Go.Proofs.Ytjjigkomiidipaa.Mem Go.Proofs.Ytjjigkomiidipaa.SpanMem Go.Proofs.Ytjjigkomiidipaa.StepMem Go.Proofs.Ytjjigkomiidipaa.JobMem Go.Proofs.Ytjjigkomiidipaa.OrdMem Go.Proofs.Ytjjigkomiidipaa.ApiMem Go.Proofs.Ytjjigkomiidipaa.SpanRef Go.Proofs.Ytjjigkomiidipaa.StepRef Go.Proofs.Ytjjigkomiidipaa.GapRef Go.Proofs.Ytjjigkomiidipaa.ShaRef Go.Proofs.Ytjjigkomiidipaa.SlaRef Go.Proofs.Ytjjigkomiidipaa.SelRef
set_option maxRecDepth 100000 in
set_option maxHeartbeats 1200000 in
theorem awake_any (w : World) : Calls Try.prog 9 #[] w (TrueIs w) := by
  have HJ0 := Lib.hid (JobBox.new w exJ 23)
  have HB0 := Lib.hid (box_s w (.cells #[.int .i64 1, .string ⟨#[]⟩, .int .i64 5, .int .i64 5, .int .i64 0, .int .i64 0, .int .i64 0, .int .i64 0, .int .i64 0] 23))
  have C1 := Lib.hid (fun W => sinceS exJ 2 1 W)
  have C2 := Lib.hid (fun W => overS exJ 5 2 1 W)
  have C3 := Lib.hid (fun W => overS exJ 4 2 1 W)
  rw [ex_over5] at C2
  rw [ex_over4] at C3
  unfold jobV jobA exJ at C1 C2 C3
  unfold exJ at HJ0
  dsimp only at C1 C2 C3 HJ0
  go_enter Try.func9, Try.ntmps9
  go_upto_region 2 with fail
  generalize w.alloc (.cells #[.int .i64 1, .string ⟨#[]⟩, .int .i64 5, .int .i64 5, .int .i64 0, .int .i64 0, .int .i64 0, .int .i64 0, .int .i64 0] 23) = w0 at *
  obtain ⟨y, y0, y1, y2, y3, y4, y5, y6, y7, y8, _, _, _, _, _, _, _, _, _⟩ := HJ0.out
  go_wp2_with fail
  refine (C1.out _).mono ?_
  rintro e w1 ⟨t, ok, rfl, hc, hb⟩
  obtain ⟨rfl, rfl⟩ := ex_since hc
  have HB1 := Lib.hid (thenS HB0.out hb)
  have HJ1 := Lib.hid (HJ0.out.below hb)
  clear hb hc y y0 y1 y2 y3 y4 y5 y6 y7 y8
  obtain ⟨y, y0, y1, y2, y3, y4, y5, y6, y7, y8, _, _, _, _, _, _, _, _, _⟩ := HJ1.out
  go_wp2_with fail
  refine (C2.out _).mono ?_
  rintro e w2 ⟨rfl, hb⟩
  have HB2 := Lib.hid (thenS HB1.out hb)
  have HJ2 := Lib.hid (HJ1.out.below hb)
  clear hb y y0 y1 y2 y3 y4 y5 y6 y7 y8
  obtain ⟨y, y0, y1, y2, y3, y4, y5, y6, y7, y8, _, _, _, _, _, _, _, _, _⟩ := HJ2.out
  go_wp2_with fail
  refine (C3.out _).mono ?_
  rintro e w3 ⟨rfl, hb⟩
  have HB3 := Lib.hid (thenS HB2.out hb)
  clear hb
  go_wp2_with fail
  go_ret
  exact ⟨rfl, HB3.out⟩
set_option maxRecDepth 100000 in
set_option maxHeartbeats 3200000 in
theorem over_any (j : Jb) (now num den : Int) (w : World) : Calls Try.prog 3 #[jobV j, .int .i64 now, .agg #[.int .i64 num, .int .i64 den]] w (TrueIs w) := by
  obtain ⟨id, user, width, est, prio, sub, state, start, fin⟩ := j
  have HAW := Lib.hid (fun w => awake_any w)
  have HJ0 := Lib.hid ((JobBox.new w ⟨id, user, width, est, prio, sub, state, start, fin⟩ 23).below (box_s _ (.cells #[.int .i64 num, .int .i64 den] 25)))
  have HR0' := Box2.new (w.alloc (.cells #[.int .i64 id, .string user, .int .i64 width, .int .i64 est, .int .i64 prio, .int .i64 sub, .int .i64 state, .int .i64 start, .int .i64 fin] 23)) (.int .i64 num) (.int .i64 den) 25
  rw [show (w.alloc (.cells #[.int .i64 id, .string user, .int .i64 width, .int .i64 est, .int .i64 prio, .int .i64 sub, .int .i64 state, .int .i64 start, .int .i64 fin] 23)).heap.size = w.heap.size + 1 by simp] at HR0'
  have HR0 := Lib.hid HR0'
  have HB0 := Lib.hid ((box_s w (.cells #[.int .i64 id, .string user, .int .i64 width, .int .i64 est, .int .i64 prio, .int .i64 sub, .int .i64 state, .int .i64 start, .int .i64 fin] 23)).alloc (by simp) (.cells #[.int .i64 num, .int .i64 den] 25))
  have C1 := Lib.hid (fun W => overS ⟨id, user, width, est, prio, sub, state, start, fin⟩ now num den W)
  have C2 := Lib.hid (fun W => sinceS ⟨id, user, width, est, prio, sub, state, start, fin⟩ num den W)
  have C3 := Lib.hid (fun W => may20 num den W)
  clear HR0'
  unfold jobV jobA at *
  dsimp only at *
  generalize hO : overF ⟨id, user, width, est, prio, sub, state, start, fin⟩ now num den = O at *
  have HO := Lib.hid hO
  clear hO
  go_enter Try.func3, Try.ntmps3
  go_upto_region 1 with fail
  generalize (w.alloc (.cells #[.int .i64 id, .string user, .int .i64 width, .int .i64 est, .int .i64 prio, .int .i64 sub, .int .i64 state, .int .i64 start, .int .i64 fin] 23)).alloc (.cells #[.int .i64 num, .int .i64 den] 25) = w0 at *
  obtain ⟨y, y0, y1, y2, y3, y4, y5, y6, y7, y8, _, _, _, _, _, _, _, _, _⟩ := HJ0.out
  obtain ⟨r, r0, r1, _, _⟩ := HR0.out
  go_wp2_with fail
  refine (C1.out _).mono ?_
  rintro e w1 ⟨rfl, hb⟩
  have HB1 := Lib.hid (thenS HB0.out hb)
  have HJ1 := Lib.hid (HJ0.out.below hb)
  have HR1 := Lib.hid (HR0.out.below hb)
  clear hb
  clear y y0 y1 y2 y3 y4 y5 y6 y7 y8 r r0 r1
  obtain ⟨y, y0, y1, y2, y3, y4, y5, y6, y7, y8, _, _, _, _, _, _, _, _, _⟩ := HJ1.out
  obtain ⟨r, r0, r1, _, _⟩ := HR1.out
  go_wp2_with fail
  refine (C2.out _).mono ?_
  rintro e w2 ⟨t, ok, rfl, hc, hb⟩
  have HB2 := Lib.hid (thenS HB1.out hb)
  have HJ2 := Lib.hid (HJ1.out.below hb)
  have HR2 := Lib.hid (HR1.out.below hb)
  clear hb
  clear y y0 y1 y2 y3 y4 y5 y6 y7 y8 r r0 r1
  obtain ⟨y, y0, y1, y2, y3, y4, y5, y6, y7, y8, _, _, _, _, _, _, _, _, _⟩ := HJ2.out
  obtain ⟨r, r0, r1, _, _⟩ := HR2.out
  rcases hc with ⟨hm, hs⟩ | ⟨hm, rfl, rfl⟩
  · have HM := Lib.hid hm
    have HS : Hid ((ok = true ∧ 0 ≤ t ∧ t ≤ 1125899906842624 ∧ overJ ⟨id, user, width, est, prio, sub, state, start, fin⟩ t num den = true ∧ (0 < t → overJ ⟨id, user, width, est, prio, sub, state, start, fin⟩ (t - 1) num den = false)) ∨ (ok = false ∧ t = 0 ∧ overJ ⟨id, user, width, est, prio, sub, state, start, fin⟩ 1125899906842624 num den = false)) := hs
    rw [hm] at C3
    have hden : 1 ≤ den := (mayT_iff.1 hm).2.1
    clear hs
    by_cases n1 : 0 ≤ now
    · by_cases n2 : now ≤ 1125899906842624
      · have HSA : Hid (∀ t, SinceIs ⟨id, user, width, est, prio, sub, state, start, fin⟩ num den t true → O = decide (t ≤ now)) := fun t h => by
          rw [← HO.out, ← since_at hden h n1]
          unfold overF
          rw [hm, decide_eq_true n1, decide_eq_true n2]
          rfl
        have CN := Lib.hid (fun W => over20 ⟨id, user, width, est, prio, sub, state, start, fin⟩ now num den W n1 n2 hm)
        have HON : Hid (overJ ⟨id, user, width, est, prio, sub, state, start, fin⟩ now num den = O) := by
          show _ = _
          rw [← HO.out]
          unfold overF
          rw [hm, decide_eq_true n1, decide_eq_true n2]
          rfl
        rw [HON.out] at CN
        have HS2 : Hid (ok = true → SinceIs ⟨id, user, width, est, prio, sub, state, start, fin⟩ num den t true) := fun h => by
          rcases HS.out with g | ⟨g, _⟩
          · exact .inl ⟨rfl, g.2⟩
          · rw [g] at h; cases h
        have d1 := decide_eq_true n1
        have d2 := decide_eq_true n2
        have d3 : decide (now < 0) = false := decide_eq_false (by omega)
        have d4 : decide (1125899906842624 < now) = false := decide_eq_false (by omega)
        have dd : (O != O) = false := by cases O <;> rfl
        unfold jobV jobA at CN
        dsimp only at CN
        clear hm HO HON
        go_wp2_with fail
        refine (C3.out _).mono ?_
        rintro e w9 ⟨rfl, rfl⟩
        go_wp2_with fail
        refine (CN.out _).mono ?_
        rintro e w3 ⟨rfl, hb⟩
        have HB3 := Lib.hid (thenS HB2.out hb)
        have HJ3 := Lib.hid (HJ2.out.below hb)
        have HR3 := Lib.hid (HR2.out.below hb)
        clear hb
        clear y y0 y1 y2 y3 y4 y5 y6 y7 y8 r r0 r1
        obtain ⟨y, y0, y1, y2, y3, y4, y5, y6, y7, y8, _, _, _, _, _, _, _, _, _⟩ := HJ3.out
        obtain ⟨r, r0, r1, _, _⟩ := HR3.out
        rcases HS.out with ⟨rfl, t0, t1, t2, t3⟩ | ⟨rfl, rfl, t2⟩
        · have CT := Lib.hid (fun W => over20 ⟨id, user, width, est, prio, sub, state, start, fin⟩ t num den W t0 t1 HM.out)
          rw [t2] at CT
          have n3 : decide (t < 0) = false := decide_eq_false (by omega)
          have n4 : decide (1125899906842624 < t) = false := decide_eq_false (by omega)
          have HT3 := Lib.hid t3
          clear t2 t3
          unfold jobV jobA at CT
          dsimp only at CT
          by_cases tp : 0 < t
          · have CU := Lib.hid (fun W => over20 ⟨id, user, width, est, prio, sub, state, start, fin⟩ (t - 1) num den W (by omega) (by omega) HM.out)
            rw [HT3.out tp] at CU
            unfold jobV jobA at CU
            dsimp only at CU
            have n5 := decide_eq_true tp
            go_wp2_with fail
            refine (CT.out _).mono ?_
            rintro e w4 ⟨rfl, hb⟩
            have HB4 := Lib.hid (thenS HB3.out hb)
            have HJ4 := Lib.hid (HJ3.out.below hb)
            have HR4 := Lib.hid (HR3.out.below hb)
            clear hb
            clear y y0 y1 y2 y3 y4 y5 y6 y7 y8 r r0 r1
            obtain ⟨y, y0, y1, y2, y3, y4, y5, y6, y7, y8, _, _, _, _, _, _, _, _, _⟩ := HJ4.out
            obtain ⟨r, r0, r1, _, _⟩ := HR4.out
            go_wp2_with fail
            refine (CU.out _).mono ?_
            rintro e w5 ⟨rfl, hb⟩
            have HB5 := Lib.hid (thenS HB4.out hb)
            have HJ5 := Lib.hid (HJ4.out.below hb)
            have HR5 := Lib.hid (HR4.out.below hb)
            clear hb
            clear y y0 y1 y2 y3 y4 y5 y6 y7 y8 r r0 r1
            obtain ⟨y, y0, y1, y2, y3, y4, y5, y6, y7, y8, _, _, _, _, _, _, _, _, _⟩ := HJ5.out
            obtain ⟨r, r0, r1, _, _⟩ := HR5.out
            by_cases tn : t ≤ now
            · have n6 := decide_eq_true tn
              obtain rfl := (HSA.out t (HS2.out trivial)).trans n6
              go_wp2_with fail
              refine (HAW.out _).mono ?_
              rintro e w6 ⟨rfl, hb⟩
              have HB6 := Lib.hid (thenS HB5.out hb)
              clear hb
              go_wp2_with fail
              go_ret
              exact ⟨rfl, HB6.out⟩
            · have n6 := decide_eq_false tn
              obtain rfl := (HSA.out t (HS2.out trivial)).trans n6
              go_wp2_with fail
              refine (HAW.out _).mono ?_
              rintro e w6 ⟨rfl, hb⟩
              have HB6 := Lib.hid (thenS HB5.out hb)
              clear hb
              go_wp2_with fail
              go_ret
              exact ⟨rfl, HB6.out⟩
          · have n5 := decide_eq_false tp
            go_wp2_with fail
            refine (CT.out _).mono ?_
            rintro e w4 ⟨rfl, hb⟩
            have HB4 := Lib.hid (thenS HB3.out hb)
            have HJ4 := Lib.hid (HJ3.out.below hb)
            have HR4 := Lib.hid (HR3.out.below hb)
            clear hb
            clear y y0 y1 y2 y3 y4 y5 y6 y7 y8 r r0 r1
            obtain ⟨y, y0, y1, y2, y3, y4, y5, y6, y7, y8, _, _, _, _, _, _, _, _, _⟩ := HJ4.out
            obtain ⟨r, r0, r1, _, _⟩ := HR4.out
            by_cases tn : t ≤ now
            · have n6 := decide_eq_true tn
              obtain rfl := (HSA.out t (HS2.out trivial)).trans n6
              go_wp2_with fail
              refine (HAW.out _).mono ?_
              rintro e w5 ⟨rfl, hb⟩
              have HB5 := Lib.hid (thenS HB4.out hb)
              clear hb
              go_wp2_with fail
              go_ret
              exact ⟨rfl, HB5.out⟩
            · have n6 := decide_eq_false tn
              obtain rfl := (HSA.out t (HS2.out trivial)).trans n6
              go_wp2_with fail
              refine (HAW.out _).mono ?_
              rintro e w5 ⟨rfl, hb⟩
              have HB5 := Lib.hid (thenS HB4.out hb)
              clear hb
              go_wp2_with fail
              go_ret
              exact ⟨rfl, HB5.out⟩
        · have CT := Lib.hid (fun W => over20 ⟨id, user, width, est, prio, sub, state, start, fin⟩ 1125899906842624 num den W (by omega) (by omega) HM.out)
          rw [t2] at CT
          clear t2
          unfold jobV jobA at CT
          dsimp only at CT
          go_wp2_with fail
          refine (CT.out _).mono ?_
          rintro e w4 ⟨rfl, hb⟩
          have HB4 := Lib.hid (thenS HB3.out hb)
          have HJ4 := Lib.hid (HJ3.out.below hb)
          have HR4 := Lib.hid (HR3.out.below hb)
          clear hb
          clear y y0 y1 y2 y3 y4 y5 y6 y7 y8 r r0 r1
          obtain ⟨y, y0, y1, y2, y3, y4, y5, y6, y7, y8, _, _, _, _, _, _, _, _, _⟩ := HJ4.out
          obtain ⟨r, r0, r1, _, _⟩ := HR4.out
          go_wp2_with fail
          refine (HAW.out _).mono ?_
          rintro e w5 ⟨rfl, hb⟩
          have HB5 := Lib.hid (thenS HB4.out hb)
          clear hb
          go_wp2_with fail
          go_ret
          exact ⟨rfl, HB5.out⟩
      · have d1 := decide_eq_true n1
        have d2 := decide_eq_false n2
        have d3 : decide (now < 0) = false := decide_eq_false (by omega)
        have d4 : decide (1125899906842624 < now) = true := decide_eq_true (by omega)
        have hz : O = false := by
          rw [← HO.out]
          unfold overF
          rw [decide_eq_false n2]
          cases mayT num den <;> simp
        subst hz
        clear hm HO
        go_wp2_with fail
        refine (C3.out _).mono ?_
        rintro e w9 ⟨rfl, rfl⟩
        rcases HS.out with ⟨rfl, t0, t1, t2, t3⟩ | ⟨rfl, rfl, t2⟩
        · have CT := Lib.hid (fun W => over20 ⟨id, user, width, est, prio, sub, state, start, fin⟩ t num den W t0 t1 HM.out)
          rw [t2] at CT
          have n3 : decide (t < 0) = false := decide_eq_false (by omega)
          have n4 : decide (1125899906842624 < t) = false := decide_eq_false (by omega)
          have HT3 := Lib.hid t3
          clear t2 t3
          unfold jobV jobA at CT
          dsimp only at CT
          by_cases tp : 0 < t
          · have CU := Lib.hid (fun W => over20 ⟨id, user, width, est, prio, sub, state, start, fin⟩ (t - 1) num den W (by omega) (by omega) HM.out)
            rw [HT3.out tp] at CU
            unfold jobV jobA at CU
            dsimp only at CU
            have n5 := decide_eq_true tp
            go_wp2_with fail
            refine (CT.out _).mono ?_
            rintro e w3 ⟨rfl, hb⟩
            have HB3 := Lib.hid (thenS HB2.out hb)
            have HJ3 := Lib.hid (HJ2.out.below hb)
            have HR3 := Lib.hid (HR2.out.below hb)
            clear hb
            clear y y0 y1 y2 y3 y4 y5 y6 y7 y8 r r0 r1
            obtain ⟨y, y0, y1, y2, y3, y4, y5, y6, y7, y8, _, _, _, _, _, _, _, _, _⟩ := HJ3.out
            obtain ⟨r, r0, r1, _, _⟩ := HR3.out
            go_wp2_with fail
            refine (CU.out _).mono ?_
            rintro e w4 ⟨rfl, hb⟩
            have HB4 := Lib.hid (thenS HB3.out hb)
            have HJ4 := Lib.hid (HJ3.out.below hb)
            have HR4 := Lib.hid (HR3.out.below hb)
            clear hb
            clear y y0 y1 y2 y3 y4 y5 y6 y7 y8 r r0 r1
            obtain ⟨y, y0, y1, y2, y3, y4, y5, y6, y7, y8, _, _, _, _, _, _, _, _, _⟩ := HJ4.out
            obtain ⟨r, r0, r1, _, _⟩ := HR4.out
            go_wp2_with fail
            refine (HAW.out _).mono ?_
            rintro e w5 ⟨rfl, hb⟩
            have HB5 := Lib.hid (thenS HB4.out hb)
            clear hb
            go_wp2_with fail
            go_ret
            exact ⟨rfl, HB5.out⟩
          · have n5 := decide_eq_false tp
            go_wp2_with fail
            refine (CT.out _).mono ?_
            rintro e w3 ⟨rfl, hb⟩
            have HB3 := Lib.hid (thenS HB2.out hb)
            have HJ3 := Lib.hid (HJ2.out.below hb)
            have HR3 := Lib.hid (HR2.out.below hb)
            clear hb
            clear y y0 y1 y2 y3 y4 y5 y6 y7 y8 r r0 r1
            obtain ⟨y, y0, y1, y2, y3, y4, y5, y6, y7, y8, _, _, _, _, _, _, _, _, _⟩ := HJ3.out
            obtain ⟨r, r0, r1, _, _⟩ := HR3.out
            go_wp2_with fail
            refine (HAW.out _).mono ?_
            rintro e w4 ⟨rfl, hb⟩
            have HB4 := Lib.hid (thenS HB3.out hb)
            clear hb
            go_wp2_with fail
            go_ret
            exact ⟨rfl, HB4.out⟩
        · have CT := Lib.hid (fun W => over20 ⟨id, user, width, est, prio, sub, state, start, fin⟩ 1125899906842624 num den W (by omega) (by omega) HM.out)
          rw [t2] at CT
          clear t2
          unfold jobV jobA at CT
          dsimp only at CT
          go_wp2_with fail
          refine (CT.out _).mono ?_
          rintro e w3 ⟨rfl, hb⟩
          have HB3 := Lib.hid (thenS HB2.out hb)
          have HJ3 := Lib.hid (HJ2.out.below hb)
          have HR3 := Lib.hid (HR2.out.below hb)
          clear hb
          clear y y0 y1 y2 y3 y4 y5 y6 y7 y8 r r0 r1
          obtain ⟨y, y0, y1, y2, y3, y4, y5, y6, y7, y8, _, _, _, _, _, _, _, _, _⟩ := HJ3.out
          obtain ⟨r, r0, r1, _, _⟩ := HR3.out
          go_wp2_with fail
          refine (HAW.out _).mono ?_
          rintro e w4 ⟨rfl, hb⟩
          have HB4 := Lib.hid (thenS HB3.out hb)
          clear hb
          go_wp2_with fail
          go_ret
          exact ⟨rfl, HB4.out⟩
    · have d1 := decide_eq_false n1
      have d3 : decide (now < 0) = true := decide_eq_true (by omega)
      have hz : O = false := by
        rw [← HO.out]
        unfold overF
        rw [decide_eq_false n1]
        cases mayT num den <;> simp
      subst hz
      clear hm HO
      go_wp2_with fail
      refine (C3.out _).mono ?_
      rintro e w9 ⟨rfl, rfl⟩
      rcases HS.out with ⟨rfl, t0, t1, t2, t3⟩ | ⟨rfl, rfl, t2⟩
      · have CT := Lib.hid (fun W => over20 ⟨id, user, width, est, prio, sub, state, start, fin⟩ t num den W t0 t1 HM.out)
        rw [t2] at CT
        have n3 : decide (t < 0) = false := decide_eq_false (by omega)
        have n4 : decide (1125899906842624 < t) = false := decide_eq_false (by omega)
        have HT3 := Lib.hid t3
        clear t2 t3
        unfold jobV jobA at CT
        dsimp only at CT
        by_cases tp : 0 < t
        · have CU := Lib.hid (fun W => over20 ⟨id, user, width, est, prio, sub, state, start, fin⟩ (t - 1) num den W (by omega) (by omega) HM.out)
          rw [HT3.out tp] at CU
          unfold jobV jobA at CU
          dsimp only at CU
          have n5 := decide_eq_true tp
          go_wp2_with fail
          refine (CT.out _).mono ?_
          rintro e w3 ⟨rfl, hb⟩
          have HB3 := Lib.hid (thenS HB2.out hb)
          have HJ3 := Lib.hid (HJ2.out.below hb)
          have HR3 := Lib.hid (HR2.out.below hb)
          clear hb
          clear y y0 y1 y2 y3 y4 y5 y6 y7 y8 r r0 r1
          obtain ⟨y, y0, y1, y2, y3, y4, y5, y6, y7, y8, _, _, _, _, _, _, _, _, _⟩ := HJ3.out
          obtain ⟨r, r0, r1, _, _⟩ := HR3.out
          go_wp2_with fail
          refine (CU.out _).mono ?_
          rintro e w4 ⟨rfl, hb⟩
          have HB4 := Lib.hid (thenS HB3.out hb)
          have HJ4 := Lib.hid (HJ3.out.below hb)
          have HR4 := Lib.hid (HR3.out.below hb)
          clear hb
          clear y y0 y1 y2 y3 y4 y5 y6 y7 y8 r r0 r1
          obtain ⟨y, y0, y1, y2, y3, y4, y5, y6, y7, y8, _, _, _, _, _, _, _, _, _⟩ := HJ4.out
          obtain ⟨r, r0, r1, _, _⟩ := HR4.out
          go_wp2_with fail
          refine (HAW.out _).mono ?_
          rintro e w5 ⟨rfl, hb⟩
          have HB5 := Lib.hid (thenS HB4.out hb)
          clear hb
          go_wp2_with fail
          go_ret
          exact ⟨rfl, HB5.out⟩
        · have n5 := decide_eq_false tp
          go_wp2_with fail
          refine (CT.out _).mono ?_
          rintro e w3 ⟨rfl, hb⟩
          have HB3 := Lib.hid (thenS HB2.out hb)
          have HJ3 := Lib.hid (HJ2.out.below hb)
          have HR3 := Lib.hid (HR2.out.below hb)
          clear hb
          clear y y0 y1 y2 y3 y4 y5 y6 y7 y8 r r0 r1
          obtain ⟨y, y0, y1, y2, y3, y4, y5, y6, y7, y8, _, _, _, _, _, _, _, _, _⟩ := HJ3.out
          obtain ⟨r, r0, r1, _, _⟩ := HR3.out
          go_wp2_with fail
          refine (HAW.out _).mono ?_
          rintro e w4 ⟨rfl, hb⟩
          have HB4 := Lib.hid (thenS HB3.out hb)
          clear hb
          go_wp2_with fail
          go_ret
          exact ⟨rfl, HB4.out⟩
      · have CT := Lib.hid (fun W => over20 ⟨id, user, width, est, prio, sub, state, start, fin⟩ 1125899906842624 num den W (by omega) (by omega) HM.out)
        rw [t2] at CT
        clear t2
        unfold jobV jobA at CT
        dsimp only at CT
        go_wp2_with fail
        refine (CT.out _).mono ?_
        rintro e w3 ⟨rfl, hb⟩
        have HB3 := Lib.hid (thenS HB2.out hb)
        have HJ3 := Lib.hid (HJ2.out.below hb)
        have HR3 := Lib.hid (HR2.out.below hb)
        clear hb
        clear y y0 y1 y2 y3 y4 y5 y6 y7 y8 r r0 r1
        obtain ⟨y, y0, y1, y2, y3, y4, y5, y6, y7, y8, _, _, _, _, _, _, _, _, _⟩ := HJ3.out
        obtain ⟨r, r0, r1, _, _⟩ := HR3.out
        go_wp2_with fail
        refine (HAW.out _).mono ?_
        rintro e w4 ⟨rfl, hb⟩
        have HB4 := Lib.hid (thenS HB3.out hb)
        clear hb
        go_wp2_with fail
        go_ret
        exact ⟨rfl, HB4.out⟩
  · rw [hm] at C3
    have hz : O = false := by
      rw [← HO.out]
      unfold overF
      rw [hm]
      rfl
    subst hz
    clear hm HO
    go_wp2_with fail
    refine (C3.out _).mono ?_
    rintro e w9 ⟨rfl, rfl⟩
    go_wp2_with fail
    refine (HAW.out _).mono ?_
    rintro e w3 ⟨rfl, hb⟩
    have HB3 := Lib.hid (thenS HB2.out hb)
    clear hb
    go_wp2_with fail
    go_ret
    exact ⟨rfl, HB3.out⟩
end Go.Proofs.Ytjjigkomiidipaa.SelWalk
namespace Go.Proofs.Ytjjigkomiidipaa.SelWalk
open Go.RowKit Go.Proofs.Ytjjigkomiidipaa.SpanPlain Go.Proofs.Ytjjigkomiidipaa.StepPlain Go.Proofs.Ytjjigkomiidipaa.GapPlain Go.Proofs.Ytjjigkomiidipaa.JobPlain Go.Proofs.Ytjjigkomiidipaa.OrdPlain Go.Proofs.Ytjjigkomiidipaa.ApiPlain Go.Proofs.Ytjjigkomiidipaa.ShaPlain Go.Proofs.Ytjjigkomiidipaa.SlaPlain Go.Proofs.Ytjjigkomiidipaa.SelPlain Go.Proofs.Ytjjigkomiidipaa.Mem Go.Proofs.Ytjjigkomiidipaa.SpanMem Go.Proofs.Ytjjigkomiidipaa.StepMem Go.Proofs.Ytjjigkomiidipaa.JobMem Go.Proofs.Ytjjigkomiidipaa.OrdMem Go.Proofs.Ytjjigkomiidipaa.ApiMem Go.Proofs.Ytjjigkomiidipaa.SpanRef Go.Proofs.Ytjjigkomiidipaa.StepRef Go.Proofs.Ytjjigkomiidipaa.GapRef Go.Proofs.Ytjjigkomiidipaa.ShaRef Go.Proofs.Ytjjigkomiidipaa.SlaRef Go.Proofs.Ytjjigkomiidipaa.SelRef Go.Proofs.Ytjjigkomiidipaa.OrdTake
/-- What the statement asks of each job. -/
structure Fine (s : List Sp) (now : Int) (js : List Jb) (k : Nat) : Prop where
  find : findL (js.take k) (nthJ js k).id < 0
  last : (nth s (s.length - 1)).1 ≤ 562949953421312
  now : now ≤ 562949953421312
  width : (nthJ js k).width ≤ (nth s (s.length - 1)).2
theorem fine_ways (s : List Sp) (now : Int) (js : List Jb) (k : Nat) : (decide (0 ≤ findL (js.take k) (nthJ js k).id) = true) ∨ (decide (0 ≤ findL (js.take k) (nthJ js k).id) = false ∧ decide (562949953421312 < (nth s (s.length - 1)).1) = true) ∨
    (decide (0 ≤ findL (js.take k) (nthJ js k).id) = false ∧ decide (562949953421312 < (nth s (s.length - 1)).1) = false ∧ decide (562949953421312 < now) = true) ∨
    (decide (0 ≤ findL (js.take k) (nthJ js k).id) = false ∧ decide (562949953421312 < (nth s (s.length - 1)).1) = false ∧ decide (562949953421312 < now) = false ∧ decide ((nth s (s.length - 1)).2 < (nthJ js k).width) = true) ∨
    (decide (0 ≤ findL (js.take k) (nthJ js k).id) = false ∧ decide (562949953421312 < (nth s (s.length - 1)).1) = false ∧ decide (562949953421312 < now) = false ∧ decide ((nth s (s.length - 1)).2 < (nthJ js k).width) = false ∧ Hid (Fine s now js k)) := by
  by_cases h1 : 0 ≤ findL (js.take k) (nthJ js k).id
  · exact .inl (decide_eq_true h1)
  right
  by_cases h2 : 562949953421312 < (nth s (s.length - 1)).1
  · exact .inl ⟨decide_eq_false h1, decide_eq_true h2⟩
  right
  by_cases h3 : 562949953421312 < now
  · exact .inl ⟨decide_eq_false h1, decide_eq_false h2, decide_eq_true h3⟩
  right
  by_cases h4 : (nth s (s.length - 1)).2 < (nthJ js k).width
  · exact .inl ⟨decide_eq_false h1, decide_eq_false h2, decide_eq_false h3, decide_eq_true h4⟩
  exact .inr ⟨decide_eq_false h1, decide_eq_false h2, decide_eq_false h3, decide_eq_false h4, ⟨by omega, by omega, by omega, by omega⟩⟩
theorem fine_nodup {s : List Sp} {now : Int} {js : List Jb} (h : ∀ k, k < js.length → Fine s now js k) : (js.map (·.id)).Nodup := nodup_of fun k hk => (h k hk).find
theorem one_len (now : Int) (a b : Bool) (x : Sel) (j : Jb) : (selOne now a b x j).st.length + (selOne now a b x j).P.length ≤ x.st.length + x.P.length + 1 := by
  unfold selOne
  split
  · omega
  · split
    · simp; omega
    · split
      · simp; omega
      · omega
theorem first_len (now num den : Int) : ∀ (l : List Jb) (x : Sel), (selFirst now num den x l).st.length + (selFirst now num den x l).P.length ≤ x.st.length + x.P.length + l.length
  | [], _ => by unfold selFirst; simp
  | j :: l, x => by
    unfold selFirst
    have := first_len now num den l (selOne now (overJ j now num den) true x j)
    have := one_len now (overJ j now num den) true x j
    simp only [List.length_cons]
    omega
theorem then_len (now num den : Int) : ∀ (l : List Jb) (x : Sel), (selThen now num den x l).st.length + (selThen now num den x l).P.length ≤ x.st.length + x.P.length + l.length
  | [], _ => by unfold selThen; simp
  | j :: l, x => by
    unfold selThen
    have := then_len now num den l (selOne now (!overJ j now num den) false x j)
    have := one_len now (!overJ j now num den) false x j
    simp only [List.length_cons]
    omega
theorem sel_len (s : List Sp) (now num den : Int) (js : List Jb) : (selP s now num den js).st.length + (selP s now num den js).P.length ≤ 2 * js.length := by
  unfold selP
  have h1 := then_len now num den js (selFirst now num den ⟨s, [], []⟩ js)
  have h2 := first_len now num den js ⟨s, [], []⟩
  simp at h2
  omega
def prB (P : List Prm) (id : Int) : Bool := P.any fun p => p.id == id
def stB (st : List Int) (id : Int) : Bool := st.any fun i => i == id
theorem prB_iff {P : List Prm} {id : Int} : prB P id = true ↔ id ∈ pids P := by
  unfold prB pids
  rw [List.any_eq_true, List.mem_map]
  constructor
  · rintro ⟨p, h1, h2⟩; exact ⟨p, h1, by simpa using h2⟩
  · rintro ⟨p, h1, h2⟩; exact ⟨p, h1, by simpa using h2⟩
theorem stB_iff {st : List Int} {id : Int} : stB st id = true ↔ id ∈ st := by
  unfold stB
  rw [List.any_eq_true]
  constructor
  · rintro ⟨p, h1, h2⟩
    have : p = id := by simpa using h2
    exact this ▸ h1
  · intro h; exact ⟨id, h, by simp⟩
theorem any_next {α : Type} (l : List α) (p : α → Bool) {m : Nat} (hm : m < l.length) : (l.take (m + 1)).any p = ((l.take m).any p || p l[m]) := by
  rw [List.take_succ_eq_append_getElem hm, List.any_append]
  simp
/-- Who is promised, in words of tests. -/
theorem told {s : List Sp} {now num den : Int} {js : List Jb} (hc : c16 s now js.length = 0) (hj : js.length ≤ 20) (hf : ∀ k, k < js.length → Fine s now js k) {k : Nat} (hk : k < js.length) :
    prB (selP s now num den js).P (nthJ js k).id = (overJ (nthJ js k) now num den && (decide (0 ≤ fitN s now (nthJ js k)) && !stB (selP s now num den js).st (nthJ js k).id)) := by
  have hchk : chkB s = true ∧ head s ≤ now ∧ now ≤ 1125899906842624 := by
    unfold c16 at hc
    split at hc
    · assumption
    · omega
  have h0 := hf k hk
  have hm : nthJ js k ∈ js := by rw [nthJ_at hk]; exact List.getElem_mem hk
  have h := sel_promised (num := num) (den := den) ((chk_iff s).1 hchk.1) hchk.2.1 h0.now h0.last (fun j hj => by
    obtain ⟨i, hi, rfl⟩ := List.mem_iff_getElem.1 hj
    rw [← nthJ_at hi]
    exact (hf i hi).width) (fine_nodup hf) hj (nthJ js k) hm
  have e : fitF s now (nthJ js k) = fitN s now (nthJ js k) := rfl
  rw [e, ← prB_iff, ← stB_iff] at h
  cases h1 : prB (selP s now num den js).P (nthJ js k).id
  · rw [h1] at h
    cases h2 : overJ (nthJ js k) now num den
    · rfl
    · cases h3 : stB (selP s now num den js).st (nthJ js k).id
      · rw [h2, h3] at h
        rw [decide_eq_false (fun hh => by have := h.2 ⟨rfl, hh, by decide⟩; cases this)]
        rfl
      · simp
  · obtain ⟨a, b, c⟩ := h.1 h1
    rw [a, decide_eq_true b]
    cases h3 : stB (selP s now num den js).st (nthJ js k).id
    · rfl
    · exact absurd h3 c
theorem sizes2 (a b : Nat) : (decide ((100 : Int) < (a : Int)) = true) ∨ (decide ((100 : Int) < (a : Int)) = false ∧ decide ((20 : Int) < (b : Int)) = true) ∨ (decide ((100 : Int) < (a : Int)) = false ∧ decide ((20 : Int) < (b : Int)) = false ∧ a ≤ 100 ∧ b ≤ 20) := by
  by_cases h1 : (100 : Int) < (a : Int)
  · exact .inl (decide_eq_true h1)
  · by_cases h2 : (20 : Int) < (b : Int)
    · exact .inr (.inl ⟨decide_eq_false h1, decide_eq_true h2⟩)
    · exact .inr (.inr ⟨decide_eq_false h1, decide_eq_false h2, by omega, by omega⟩)
theorem bool_ways (pr ov fi st : Bool) (h : pr = (ov && (fi && !st))) : (pr = false ∧ ov = false ∧ (pr != false) = false) ∨ (ov = true ∧ fi = false ∧ pr = false) ∨ (ov = true ∧ fi = true ∧ st = false ∧ pr = true) ∨ (ov = true ∧ fi = true ∧ st = true ∧ pr = false) := by
  subst h
  cases ov <;> cases fi <;> cases st <;> simp
set_option maxRecDepth 100000 in
set_option maxHeartbeats 3200000 in
theorem promises_any (s : List Sp) (js : List Jb) (now num den : Int) (v u : Value) (w : World) (hv : SpansIs s w v) (hu : JobsIs js w u) :
    Calls Try.prog 4 #[v, .int .i64 now, .agg #[u, .int .i64 num, .int .i64 den]] w (TrueIs w) := by
  have HV := Lib.hid hv
  have HU := Lib.hid hu
  obtain ⟨A, c, rfl, hA⟩ := hv.open_
  obtain ⟨B, d, rfl, _, hB⟩ := hu.open_
  have HA := Lib.hid hA
  have HBJ := Lib.hid hB
  clear hv hu hA hB
  have HAW := Lib.hid (fun w => awake_any w)
  have HX0 := Lib.hid (Trio.new w (.slice B js.length d) (.int .i64 num) (.int .i64 den) 35)
  have HB0 := Lib.hid (box_s w (.cells #[.slice B js.length d, .int .i64 num, .int .i64 den] 35))
  have C6 : Hid (s.length ≤ 100 → ∀ W, Below w.heap.size w W → Calls Try.prog 10 #[.slice A s.length c, .int .i64 now, .slice B js.length d] W (IntN (c16 s now js.length) W)) := fun h W hW => check16 s now js _ _ W (HV.out.below hW) (by omega) (HU.out.below hW)
  have CM := Lib.hid (fun W => may20 num den W)
  rcases sizes2 s.length js.length with g1 | ⟨g1, g2⟩ | ⟨g1, g2, hs, hj⟩
  iterate 2
    · clear C6 CM
      go_enter Try.func4, Try.ntmps4
      go_upto_region 1 with fail
      generalize w.alloc (.cells #[.slice B js.length d, .int .i64 num, .int .i64 den] 35) = w0 at *
      obtain ⟨x, x0, x1, x2, _, _, _⟩ := HX0.out
      go_wp2_with fail
      refine (HAW.out _).mono ?_
      rintro e w1 ⟨rfl, hb1⟩
      have HB1 := Lib.hid (thenS HB0.out hb1)
      clear hb1
      go_wp2_with fail
      go_ret
      exact ⟨rfl, HB1.out⟩
  have C6 := Lib.hid (C6.out hs)
  by_cases hc : c16 s now js.length = 0
  · have HC := Lib.hid hc
    rw [hc] at C6
    clear hc
    cases hm : mayT num den with
    | false =>
      rw [hm] at CM
      clear hm
      go_enter Try.func4, Try.ntmps4
      go_upto_region 1 with fail
      generalize w.alloc (.cells #[.slice B js.length d, .int .i64 num, .int .i64 den] 35) = w0 at *
      obtain ⟨x, x0, x1, x2, _, _, _⟩ := HX0.out
      go_wp2_with fail
      refine (C6.out _ HB0.out).mono ?_
      rintro e w1 ⟨rfl, n1, rfl⟩
      have HB1 := Lib.hid (below_drewN HB0.out n1)
      have HX1 := Lib.hid (HX0.out.drewN n1)
      clear x x0 x1 x2
      generalize w0.drewN n1 = W1 at *
      obtain ⟨x, x0, x1, x2, _, _, _⟩ := HX1.out
      go_wp2_with fail
      refine (CM.out _).mono ?_
      rintro e w2 ⟨rfl, rfl⟩
      go_wp2_with fail
      refine (HAW.out _).mono ?_
      rintro e w3 ⟨rfl, hb3⟩
      have HB3 := Lib.hid (thenS HB1.out hb3)
      clear hb3
      go_wp2_with fail
      go_ret
      exact ⟨rfl, HB3.out⟩
    | true =>
      rw [hm] at CM
      have HM := Lib.hid hm
      clear hm
      have hp : 0 < s.length := by
        have h := HC.out
        unfold c16 at h
        split at h
        · rename_i hh; exact ((chk_iff s).1 hh.1).pos
        · omega
      go_enter Try.func4, Try.ntmps4
      go_upto_region 1 with fail
      generalize w.alloc (.cells #[.slice B js.length d, .int .i64 num, .int .i64 den] 35) = w0 at *
      obtain ⟨x, x0, x1, x2, _, _, _⟩ := HX0.out
      go_wp2_with fail
      refine (C6.out _ HB0.out).mono ?_
      rintro e w1 ⟨rfl, n1, rfl⟩
      have HB1 := Lib.hid (below_drewN HB0.out n1)
      have HX1 := Lib.hid (HX0.out.drewN n1)
      clear x x0 x1 x2 HX0 HB0 C6
      generalize w0.drewN n1 = W1 at *
      obtain ⟨x, x0, x1, x2, _, _, _⟩ := HX1.out
      go_wp2_with fail
      refine (CM.out _).mono ?_
      rintro e w2 ⟨rfl, rfl⟩
      clear CM
      go_wp2_with fail
      go_loopw [7] (fun i wr => ∃ k : Nat, i = .int .i64 k ∧ k ≤ js.length ∧ Hid ((∀ i, i < k → Fine s now js i) ∧ Below W1.heap.size W1 wr)) (fun i _ => js.length - (intOf i).toNat)
      case atStart => exact ⟨0, rfl, Nat.zero_le _, fun i hi => absurd hi (Nat.not_lt_zero _), Below.refl _ _⟩
      case round =>
        obtain ⟨k, rfl, hk, HL⟩ := hrel
        clear x x0 x1 x2
        have HBW := Lib.hid (thenS HB1.out HL.out.2)
        have HXW := Lib.hid (HX1.out.below HL.out.2)
        obtain ⟨x, x0, x1, x2, _, _, _⟩ := HXW.out
        by_cases hlt : k < js.length
        · obtain ⟨ad, rfl, hat⟩ := HBJ.out k hlt
          rw [← nthJ_at hlt] at hat
          have HAT := Lib.hid (hat.below HBW.out)
          obtain ⟨sd, rfl, hsd, s0, s1⟩ : ∃ sd, A = some sd ∧ sd.block < wr.heap.size ∧ wr.cell? (sd.add ((s.length - 1) * 2)) = some (.int .i64 (nth s (s.length - 1)).1) ∧ wr.cell? ⟨(sd.add ((s.length - 1) * 2)).block, (sd.add ((s.length - 1) * 2)).off + 1, none⟩ = some (.int .i64 (nth s (s.length - 1)).2) := (HA.out.below HBW.out) (s.length - 1) (by omega)
          have hways := fine_ways s now js k
          have CF := Lib.hid (fun (z : Lull wr) => OrdRef.find8 (js.take k) (nthJ js k).id _ z.u (jobs_take (HU.out.below (thenS HBW.out z.h)) hk) (by rw [List.length_take]; omega))
          have X0 : ∀ z : Lull wr, _ := fun z => (HXW.out.below z.h).c0
          have J0 : ∀ z : Lull wr, _ := fun z => (HAT.out.below z.h).c0
          have J2 : ∀ z : Lull wr, _ := fun z => (HAT.out.below z.h).c2
          have S0 := fun z => (calm_pair hsd s0 s1 z).1
          have S1 := fun z => (calm_pair hsd s0 s1 z).2
          have hlt2 : (k : Int) < (js.length : Int) := by omega
          have i0 : (0 : Int) ≤ (k : Int) := Int.natCast_nonneg _
          have i1 : k ≤ d := by
            rcases HU.out with ⟨h, _⟩ | ⟨a9, c9, h, _, h9⟩
            · cases h
            · injection h with _ _ h; omega
          have i2 : k ≤ js.length := by omega
          have i3 : IntKind.i64.wrap ((s.length : Int) - 1) = ((s.length - 1 : Nat) : Int) := by rw [IntKind.wrap_i64]; omega
          have i4 : ((s.length - 1 : Nat) : Int) < (s.length : Int) := by omega
          have i5 : (0 : Int) ≤ ((s.length - 1 : Nat) : Int) := Int.natCast_nonneg _
          have HNX : Hid (Fine s now js k → ∀ i, i < k + 1 → Fine s now js i) := fun h i hi => by
            by_cases e : i = k
            · subst e; exact h
            · exact HL.out.1 i (by omega)
          clear hat s0 s1 hsd
          generalize (nth s (s.length - 1)).1 = la at *
          generalize (nth s (s.length - 1)).2 = lf at *
          generalize nthJ js k = j at *
          generalize findL (js.take k) j.id = F at *
          rcases hways with d1 | ⟨d1, d2⟩ | ⟨d1, d2, d3⟩ | ⟨d1, d2, d3, d4⟩ | ⟨d1, d2, d3, d4, hfi⟩
          iterate 4
            · go_upto_region 6 with fail
              refine wp_region_calm (by kernel_rfl) (by kernel_rfl) ?_
              repeat (first | go_big_quiet_step ((go_at_call 11; exact calm_same (CF.out _))) | quiet_step ((go_at_call 11; exact calm_same (CF.out _))))
              refine wpQuiet_nil ?_
              intro w5 hw5
              have HB5 := Lib.hid (thenS HBW.out (lull_below hw5))
              clear hw5 X0 J0 J2 S0 S1 CF x x0 x1 x2
              go_wp2_with fail
              refine (HAW.out _).mono ?_
              rintro e w6 ⟨rfl, hb6⟩
              have HB6 := Lib.hid (thenS HB5.out hb6)
              clear hb6
              go_wp2_with fail
              go_ret
              exact ⟨rfl, HB6.out⟩
          · have HN2 := Lib.hid (HNX.out hfi.out)
            go_upto_region 6 with fail
            refine wp_region_calm (by kernel_rfl) (by kernel_rfl) ?_
            repeat (first | go_big_quiet_step ((go_at_call 11; exact calm_same (CF.out _))) | quiet_step ((go_at_call 11; exact calm_same (CF.out _))))
            refine wpQuiet_nil ?_
            intro w5 hw5
            have HB5 := Lib.hid (thenS HL.out.2 (lull_below hw5))
            clear hw5 X0 J0 J2 S0 S1 CF x x0 x1 x2
            go_wp2_with fail
            exact ⟨⟨k + 1, by go_num, by omega, HN2.out, HB5.out⟩, by simp [intOf] <;> omega⟩
        · obtain rfl : k = js.length := by omega
          have HF := Lib.hid HL.out.1
          have CP := Lib.hid (passS s now num den js _ _ wr (HV.out.below HBW.out) (HU.out.below HBW.out) hs hj)
          have hcode : Hid (codeS s now num den js = 0) := by show _ = _; unfold codeS; rw [HC.out, HM.out]; rfl
          clear HL hlt
          go_wp2_with fail
          refine CP.out.mono ?_
          rintro e w3 ⟨a1, b1, c1, st, P, t, rfl, ha1, hb1, ht1, hcase, hw1⟩
          rw [hcode.out]
          have HPA : Hid (selP s now num den js = ⟨t, st, P⟩) := by
            rcases hcase with ⟨_, h⟩ | ⟨h, _⟩
            · exact h
            · exact absurd hcode.out h
          have HTOLD : Hid (∀ k, k < js.length → prB P (nthJ js k).id = (overJ (nthJ js k) now num den && (decide (0 ≤ fitN s now (nthJ js k)) && !stB st (nthJ js k).id))) := fun k hk => by
            have h := told (num := num) (den := den) HC.out hj HF.out hk
            rw [HPA.out] at h
            exact h
          have hlen := sel_len s now num den js
          rw [HPA.out] at hlen
          dsimp only at hlen
          have HB3 := Lib.hid (thenS HBW.out hw1)
          have HX3 := Lib.hid (HXW.out.below hw1)
          obtain ⟨A1, k1, rfl, _, hcl⟩ := ha1
          have HCL := Lib.hid hcl
          obtain ⟨A2, k2, rfl, _, hpl⟩ := prms_open hb1
          have HPL := Lib.hid hpl
          obtain ⟨A3, k3, rfl, _⟩ := ht1.open_
          have HY3 := Lib.hid (Box2.new w3 (.slice A1 st.length k1) (.slice A2 P.length k2) 44)
          have HZ3 := Lib.hid (box_s w3 (.cells #[.slice A1 st.length k1, .slice A2 P.length k2] 44))
          have HX4 := Lib.hid (HX3.out.below HZ3.out)
          have HB4 := Lib.hid (thenS HB3.out HZ3.out)
          have hst40 : st.length ≤ 40 := by omega
          have hP40 : P.length ≤ 40 := by omega
          clear hcase hw1 hb1 ht1 hcl hpl CP x x0 x1 x2 HX1 HB1 HX3 HB3 HBW HXW hlen HF
          go_upto_region 9 with fail
          generalize w3.alloc (.cells #[.slice A1 st.length k1, .slice A2 P.length k2] 44) = W4 at *
          obtain ⟨x, x0, x1, x2, _, _, _⟩ := HX4.out
          obtain ⟨y, y0, y1, _, _⟩ := HY3.out
          go_wp2_with fail
          go_loopw [11] (fun i wr => ∃ k : Nat, i = .int .i64 k ∧ k ≤ js.length ∧ Hid (Below W4.heap.size W4 wr)) (fun i _ => js.length - (intOf i).toNat)
          case atStart => exact ⟨0, rfl, Nat.zero_le _, Below.refl _ _⟩
          case round =>
            obtain ⟨wo9, hwo9⟩ : ∃ wo9 : World, wo9 = wr := ⟨_, rfl⟩
            subst hwo9
            obtain ⟨k, rfl, hk, HL⟩ := hrel
            clear x x0 x1 x2 y y0 y1
            have HBW := Lib.hid (thenS HB4.out HL.out)
            have HXW := Lib.hid (HX4.out.below HL.out)
            have HYW := Lib.hid (HY3.out.below HL.out)
            obtain ⟨x, x0, x1, x2, _, _, _⟩ := HXW.out
            obtain ⟨y, y0, y1, _, _⟩ := HYW.out
            by_cases hlt : k < js.length
            · obtain ⟨ad, rfl, hat⟩ := HBJ.out k hlt
              rw [← nthJ_at hlt] at hat
              have HAT := Lib.hid hat
              have hlt2 : (k : Int) < (js.length : Int) := by omega
              have i0 : (0 : Int) ≤ (k : Int) := Int.natCast_nonneg _
              have HT := Lib.hid (HTOLD.out k hlt)
              have HB35 := Lib.hid (thenS HZ3.out HL.out)
              clear hat
              generalize nthJ js k = j at *
              go_wp2_with fail
              go_loopw [12, 14] (fun c i wi => ∃ m : Nat, i = .int .i64 m ∧ m ≤ P.length ∧ c = .bool ((P.take m).any fun p => p.id == j.id) ∧ Hid (Below wo9.heap.size wo9 wi)) (fun _ i _ => P.length - (intOf i).toNat)
              case atStart => exact ⟨0, rfl, Nat.zero_le _, rfl, Below.refl _ _⟩
              case round =>
                obtain ⟨wo, hwo⟩ : ∃ wo : World, wo = wr := ⟨_, rfl⟩
                subst hwo
                obtain ⟨m, rfl, hm, rfl, HI⟩ := hrel
                clear x x0 x1 x2 y y0 y1
                have HX6 := Lib.hid (HXW.out.below HI.out)
                have HY6 := Lib.hid (HYW.out.below HI.out)
                have HB6 := Lib.hid (thenS HB35.out HI.out)
                have HJ6 := Lib.hid (HAT.out.below (thenS HBW.out HI.out))
                obtain ⟨x, x0, x1, x2, _, _, _⟩ := HX6.out
                obtain ⟨y, y0, y1, _, _⟩ := HY6.out
                by_cases hlm : m < P.length
                · obtain ⟨ap, rfl, hpp⟩ := HPL.out m hlm
                  obtain ⟨b, b0, _, _⟩ := hpp.below HB6.out
                  obtain ⟨_, c0, _, _, _, _, _, _, _, _⟩ := HJ6.out
                  have HN := Lib.hid (any_next P (fun p => p.id == j.id) hlm)
                  have hlm2 : (m : Int) < (P.length : Int) := by omega
                  have j0 : (0 : Int) ≤ (m : Int) := Int.natCast_nonneg _
                  clear hpp
                  generalize P[m] = q at *
                  generalize hM : (P.take (m + 1)).any (fun p => p.id == j.id) = M at *
                  have HM2 := Lib.hid hM
                  clear hM
                  generalize (P.take m).any (fun p => p.id == j.id) = N at *
                  cases N with
                  | true =>
                    have HE : Hid (M = true) := by show _ = _; rw [HN.out]; rfl
                    go_wp2_with fail
                    go_quiet (fail)
                    have HQ := Lib.hid (below_drewN HI.out nq)
                    go_wp2_with fail
                    exact ⟨⟨m + 1, by go_num, by omega, by rw [HM2.out, HE.out], HQ.out⟩, by simp [intOf] <;> omega⟩
                  | false =>
                    cases he : (q.id == j.id) with
                    | true =>
                      have HE : Hid (M = true) := by show _ = _; rw [HN.out, he]; rfl
                      go_wp2_with fail
                      go_quiet (fail)
                      have HQ := Lib.hid (below_drewN HI.out nq)
                      go_wp2_with fail
                      exact ⟨⟨m + 1, by go_num, by omega, by rw [HM2.out, HE.out], HQ.out⟩, by simp [intOf] <;> omega⟩
                    | false =>
                      have HE : Hid (M = false) := by show _ = _; rw [HN.out, he]; rfl
                      go_wp2_with fail
                      go_quiet (fail)
                      have HQ := Lib.hid (below_drewN HI.out nq)
                      go_wp2_with fail
                      exact ⟨⟨m + 1, by go_num, by omega, by rw [HM2.out, HE.out], HQ.out⟩, by simp [intOf] <;> omega⟩
                · obtain rfl : m = P.length := by omega
                  rw [List.take_length]
                  have HPB : Hid ((P.any fun p => p.id == j.id) = prB P j.id) := rfl
                  rw [HPB.out]
                  generalize prB P j.id = pr at *
                  clear HPB
                  go_wp2_with fail
                  go_loopw [13, 15] (fun c i wi => ∃ m : Nat, i = .int .i64 m ∧ m ≤ st.length ∧ c = .bool ((st.take m).any fun i => i == j.id) ∧ Hid (Below wo.heap.size wo wi)) (fun _ i _ => st.length - (intOf i).toNat)
                  case atStart => exact ⟨0, rfl, Nat.zero_le _, rfl, Below.refl _ _⟩
                  case round =>
                    obtain ⟨m, rfl, hm, rfl, HI2⟩ := hrel
                    clear x x0 x1 x2 y y0 y1
                    have HX7 := Lib.hid (HX6.out.below HI2.out)
                    have HY7 := Lib.hid (HY6.out.below HI2.out)
                    have HB7 := Lib.hid (thenS HB6.out HI2.out)
                    have HJ7 := Lib.hid (HJ6.out.below HI2.out)
                    obtain ⟨x, x0, x1, x2, _, _, _⟩ := HX7.out
                    obtain ⟨y, y0, y1, _, _⟩ := HY7.out
                    by_cases hlm : m < st.length
                    · obtain ⟨ai, rfl, _, hci⟩ := (HCL.out.below HB7.out).at hlm
                      have hci2 : wr.cell? (ai.add m) = some (.int .i64 (st.getD m 0)) := hci
                      obtain ⟨_, c0, _, _, _, _, _, _, _, _⟩ := HJ7.out
                      have HN := Lib.hid (any_next st (fun i => i == j.id) hlm)
                      have hge : st.getD m 0 = st[m] := by simp [List.getD, hlm]
                      rw [hge] at hci2
                      have hlm2 : (m : Int) < (st.length : Int) := by omega
                      have j0 : (0 : Int) ≤ (m : Int) := Int.natCast_nonneg _
                      clear hci hge
                      generalize st[m] = q at *
                      generalize hM : (st.take (m + 1)).any (fun i => i == j.id) = M at *
                      have HM2 := Lib.hid hM
                      clear hM
                      generalize (st.take m).any (fun i => i == j.id) = N at *
                      cases N with
                      | true =>
                        have HE : Hid (M = true) := by show _ = _; rw [HN.out]; rfl
                        go_wp2_with fail
                        go_quiet (fail)
                        have HQ := Lib.hid (below_drewN HI2.out nq)
                        go_wp2_with fail
                        exact ⟨⟨m + 1, by go_num, by omega, by rw [HM2.out, HE.out], HQ.out⟩, by simp [intOf] <;> omega⟩
                      | false =>
                        cases he : (q == j.id) with
                        | true =>
                          have HE : Hid (M = true) := by show _ = _; rw [HN.out, he]; rfl
                          go_wp2_with fail
                          go_quiet (fail)
                          have HQ := Lib.hid (below_drewN HI2.out nq)
                          go_wp2_with fail
                          exact ⟨⟨m + 1, by go_num, by omega, by rw [HM2.out, HE.out], HQ.out⟩, by simp [intOf] <;> omega⟩
                        | false =>
                          have HE : Hid (M = false) := by show _ = _; rw [HN.out, he]; rfl
                          go_wp2_with fail
                          go_quiet (fail)
                          have HQ := Lib.hid (below_drewN HI2.out nq)
                          go_wp2_with fail
                          exact ⟨⟨m + 1, by go_num, by omega, by rw [HM2.out, HE.out], HQ.out⟩, by simp [intOf] <;> omega⟩
                    · obtain rfl : m = st.length := by omega
                      rw [List.take_length]
                      have HSB : Hid ((st.any fun i => i == j.id) = stB st j.id) := rfl
                      rw [HSB.out]
                      generalize stB st j.id = sb at *
                      have HBE := Lib.hid (thenS HL.out (thenS HI.out HI2.out))
                      have HBA := Lib.hid (thenS HBW.out (thenS HI.out HI2.out))
                      have hn : 0 ≤ now ∧ now ≤ 1125899906842624 := by
                        have h := HC.out
                        unfold c16 at h
                        split at h
                        · rename_i hh
                          have := ((chk_iff s).1 hh.1).lo
                          omega
                        · omega
                      have CO := Lib.hid (fun W => over20 j now num den W hn.1 hn.2 HM.out)
                      have CS := Lib.hid (fun W (hW : Below w.heap.size w W) => of15 s now j _ W (HV.out.below hW) (by omega))
                      have HW := Lib.hid (bool_ways _ _ _ _ HT.out)
                      have X0 : ∀ z : Lull wr, _ := fun z => (HX7.out.below z.h).c0
                      have X1 : ∀ z : Lull wr, _ := fun z => (HX7.out.below z.h).c1
                      have X2 : ∀ z : Lull wr, _ := fun z => (HX7.out.below z.h).c2
                      have Z0 : ∀ z : Lull wr, _ := fun z => (HJ7.out.below z.h).c0
                      have Z1 : ∀ z : Lull wr, _ := fun z => (HJ7.out.below z.h).c1
                      have Z2 : ∀ z : Lull wr, _ := fun z => (HJ7.out.below z.h).c2
                      have Z3 : ∀ z : Lull wr, _ := fun z => (HJ7.out.below z.h).c3
                      have Z4 : ∀ z : Lull wr, _ := fun z => (HJ7.out.below z.h).c4
                      have Z5 : ∀ z : Lull wr, _ := fun z => (HJ7.out.below z.h).c5
                      have Z6 : ∀ z : Lull wr, _ := fun z => (HJ7.out.below z.h).c6
                      have Z7 : ∀ z : Lull wr, _ := fun z => (HJ7.out.below z.h).c7
                      have Z8 : ∀ z : Lull wr, _ := fun z => (HJ7.out.below z.h).c8
                      have CSZ := Lib.hid (fun z : Lull wr => CS.out z.u (thenS HBA.out z.h))
                      clear HSB HT CS hn
                      generalize fitN s now j = FN at *
                      unfold jobV jobA at CO CSZ
                      go_upto_region 23 with fail
                      rcases HW.out with ⟨h1, h2, _⟩ | ⟨h1, h2, h3⟩ | ⟨h1, h2, h3, h4⟩ | ⟨h1, h2, h3, h4⟩
                      · rw [h2] at CO
                        clear HW h2 CSZ
                        subst h1
                        refine wp_region_calm (by kernel_rfl) (by kernel_rfl) ?_
                        repeat (first | go_big_quiet_step ((go_at_call 8; exact calm_of (CO.out _))) | quiet_step ((go_at_call 8; exact calm_of (CO.out _))))
                        refine wpQuiet_nil ?_
                        intro w5 hw5
                        have HB5 := Lib.hid (thenS HBE.out (lull_below hw5))
                        clear hw5 X0 X1 X2 Z0 Z1 Z2 Z3 Z4 Z5 Z6 Z7 Z8 CO x x0 x1 x2 y y0 y1
                        go_wp2_with fail
                        exact ⟨⟨k + 1, by go_num, by omega, HB5.out⟩, by simp [intOf] <;> omega⟩
                      all_goals
                        rw [h1] at CO
                        clear HW h1
                        subst pr
                        try subst sb
                        refine wp_region_calm (by kernel_rfl) (by kernel_rfl) ?_
                        repeat (first | go_big_quiet_step ((first | (go_at_call 8; exact calm_of (CO.out _)) | (go_at_call 13; exact calm_of (CSZ.out _)))) | quiet_step ((first | (go_at_call 8; exact calm_of (CO.out _)) | (go_at_call 13; exact calm_of (CSZ.out _)))))
                        refine wpQuiet_nil ?_
                        intro w5 hw5
                        have HB5 := Lib.hid (thenS HBE.out (lull_below hw5))
                        clear hw5 X0 X1 X2 Z0 Z1 Z2 Z3 Z4 Z5 Z6 Z7 Z8 CO CSZ x x0 x1 x2 y y0 y1
                        go_wp2_with fail
                        exact ⟨⟨k + 1, by go_num, by omega, HB5.out⟩, by simp [intOf] <;> omega⟩
            · obtain rfl : k = js.length := by omega
              go_wp2_with fail
              refine (HAW.out _).mono ?_
              rintro e w5 ⟨rfl, hb5⟩
              have HB5 := Lib.hid (thenS HBW.out hb5)
              clear hb5
              go_wp2_with fail
              go_ret
              exact ⟨rfl, HB5.out⟩
  · have g5 : (c16 s now js.length != 0) = true := by simpa using hc
    generalize c16 s now js.length = C at *
    clear hc CM
    go_enter Try.func4, Try.ntmps4
    go_upto_region 1 with fail
    generalize w.alloc (.cells #[.slice B js.length d, .int .i64 num, .int .i64 den] 35) = w0 at *
    obtain ⟨x, x0, x1, x2, _, _, _⟩ := HX0.out
    go_wp2_with fail
    refine (C6.out _ HB0.out).mono ?_
    rintro e w1 ⟨rfl, n1, rfl⟩
    have HB1 := Lib.hid (below_drewN HB0.out n1)
    go_wp2_with fail
    refine (HAW.out _).mono ?_
    rintro e w3 ⟨rfl, hb3⟩
    have HB3 := Lib.hid (thenS HB1.out hb3)
    clear hb3
    go_wp2_with fail
    go_ret
    exact ⟨rfl, HB3.out⟩
end Go.Proofs.Ytjjigkomiidipaa.SelWalk
namespace Go.Proofs.Ytjjigkomiidipaa.Read
open Go.RowKit Go.Proofs.Ytjjigkomiidipaa.Mem
open Go.ChangeShapes Go.WideShapes Go.Deep
theorem cells_int1 : Try.prog.cellsOf 3 = 1 := by kernel_rfl
set_option maxRecDepth 100000 in
theorem int_val {H : Type} {enc : TypeId × Value → H} {W : World} {base : Nat} {v : Value} {d : DataW H} {p : List MemPlace} (hv : Value.okWide Try.prog W .any base 3 v)
    (_h : DataW.Trod enc Try.prog W 0 (fun _ => true) true 3 v d p) : ∃ n, v = .int .i64 n := okWide_int Try.underlying3 hv
end Go.Proofs.Ytjjigkomiidipaa.Read
namespace Go.Proofs.Ytjjigkomiidipaa.Read
open Go.RowKit Go.Proofs.Ytjjigkomiidipaa.SpanPlain Go.Proofs.Ytjjigkomiidipaa.StepPlain Go.Proofs.Ytjjigkomiidipaa.Mem Go.Proofs.Ytjjigkomiidipaa.SpanMem Go.Proofs.Ytjjigkomiidipaa.StepMem
open Go.ChangeShapes Go.WideShapes Go.Deep
set_option maxRecDepth 100000 in
theorem cells_step : Try.prog.cellsOf 40 = 2 := by kernel_rfl
set_option maxRecDepth 100000 in
theorem step_read {H : Type} {enc : TypeId × Value → H} {W : World} {sp : Nat → Bool} {base n : Nat} {cs : List Value} {y : DataW H × List MemPlace} (h : DataW.trod enc Try.prog W base sp true n 40 cs = some y) : ∃ s : Sp, cs = spCells s := by
  obtain ⟨y0, y1, n', _, hl, h0, h1⟩ := trod_struct2 Try.underlying40 h
  rw [cells_step] at hl
  match cs, hl with
  | [c0, c1], _ =>
    dsimp only at h0 h1
    rw [cells_int1] at h0 h1
    obtain ⟨x0, f0, _, _⟩ := DataW.trod_int Try.underlying3 h0
    obtain ⟨x1, f1, _, _⟩ := DataW.trod_int Try.underlying3 h1
    simp at f0 f1
    subst f0 f1
    exact ⟨(x0, x1), rfl⟩
set_option maxRecDepth 100000 in
theorem steps_read {H : Type} {enc : TypeId × Value → H} {W : World} {base : Nat} {v : Value} {d : DataW H} {p : List MemPlace} (hv : Value.okWide Try.prog W .any base 32 v)
    (h : DataW.Trod enc Try.prog W 0 (fun _ => true) true 32 v d p) : ∃ l, SpansIs l W v := by
  obtain ⟨A, len, cap, rfl⟩ := okWide_slice Try.underlying32 hv
  obtain ⟨fuel, hf⟩ := h
  rcases open_slice Try.underlying32 hf with ⟨h0, _⟩ | ⟨a, ln, cp, m, n, D, Pl, hcs, _, hl, hm, hmm, _, hi⟩
  · refine ⟨[], .inl ⟨?_, rfl⟩⟩
    simpa [Value.cells] using h0
  · simp [Value.cells] at hcs
    obtain ⟨rfl, rfl, rfl⟩ := hcs
    obtain ⟨l, hl', hp⟩ := list_of (P := fun i (s : Sp) => a.block < W.heap.size ∧ W.cell? (a.add (i * 2)) = some (.int .i64 s.1) ∧ W.cell? (a.add (i * 2 + 1)) = some (.int .i64 s.2)) len (fun i hi' => by
      obtain ⟨cs', hc, ht⟩ := hi i (by rw [hmm]; simp; omega)
      rw [cells_step] at hc
      obtain ⟨s, rfl⟩ := step_read ht
      obtain ⟨_, _, hat⟩ := World.cells?_some hc
      have h0 := hat 0 (by omega)
      have h1 := hat 1 (by omega)
      rw [Mem.add_add] at h0 h1
      have e0 : W.cell? (a.add (i * 2)) = some (.int .i64 s.1) := h0
      have e1 : W.cell? (a.add (i * 2 + 1)) = some (.int .i64 s.2) := h1
      have lt := World.block_lt_of_cell? _ _ e0
      rw [add_block] at lt
      exact ⟨s, lt, e0, e1⟩)
    subst hl'
    exact ⟨l, .inr ⟨a, cap, rfl, svals_raw hp, by omega⟩⟩
end Go.Proofs.Ytjjigkomiidipaa.Read
namespace Go.Proofs.Ytjjigkomiidipaa.Read
open Go.RowKit Go.Proofs.Ytjjigkomiidipaa.Mem
open Go.ChangeShapes Go.WideShapes Go.Deep Go.ChangeMaps
set_option maxRecDepth 100000 in
theorem cells_i : Try.prog.cellsOf 3 = 1 := by kernel_rfl
set_option maxRecDepth 100000 in
theorem wf_lim {x : Int} (h : (Lit.int .i64 x).wf = true) : -9223372036854775808 ≤ x ∧ x ≤ 9223372036854775807 := by
  simp only [Lit.wf, Bool.and_eq_true, decide_eq_true_eq] at h
  exact h
set_option maxRecDepth 100000 in
/-- A slice that lies in a struct, by its one cell. -/
theorem lay_read_cell {α : Type} (L : Lay α) {P : α → Prop} {H : Type} {enc : TypeId × Value → H} {W : World} {T E : TypeId} {c0 : Value} {fuel : Nat} {y : DataW H × List MemPlace} (hT : Try.prog.underlying T = some (.slice E)) (hk : Try.prog.cellsOf E = L.k)
    (el : ∀ {sp : Nat → Bool} {base n : Nat} {cs : List Value} {y : DataW H × List MemPlace}, DataW.trod enc Try.prog W base sp true n E cs = some y → ∃ x : α, cs = L.cs x ∧ P x)
    (hf : DataW.trod enc Try.prog W 0 (fun _ => true) true fuel T [c0] = some y) : ∃ l, L.Is l W c0 ∧ ∀ x ∈ l, P x := by
  rcases open_slice hT hf with ⟨h0, _⟩ | ⟨a, len, cap, m, n, D, Pl, hcs, _, hl, hm, hmm, _, hi⟩
  · simp at h0
    subst h0
    exact ⟨[], .inl ⟨rfl, rfl⟩, fun x hx => by cases hx⟩
  · simp at hcs
    subst hcs
    obtain ⟨l, hl', hp⟩ := list_by (P := fun i (x : α) => (a.block < W.heap.size ∧ ∀ f u, (L.cs x)[f]? = some u → W.cell? (a.add (i * L.k + f)) = some u) ∧ P x) len (fun i hi' => by
      obtain ⟨cs', hc, ht⟩ := hi i (by rw [hmm]; simp; omega)
      rw [hk] at hc
      obtain ⟨j, rfl, hj⟩ := el ht
      obtain ⟨_, _, hat⟩ := World.cells?_some hc
      have hc : ∀ f u, (L.cs j)[f]? = some u → W.cell? (a.add (i * L.k + f)) = some u := fun f u hu => by
        have hf : f < L.k := by
          have := (List.getElem?_eq_some_iff.1 hu).1
          rwa [L.len] at this
        have h0 := hat f hf
        rw [Mem.add_add] at h0
        rw [h0]
        exact hu
      have h0 : (L.cs j)[0]? = some ((L.cs j)[0]'(by rw [L.len]; exact L.pos)) := List.getElem?_eq_getElem _
      have lt := World.block_lt_of_cell? _ _ (hc 0 _ h0)
      rw [add_block] at lt
      exact ⟨j, ⟨lt, hc⟩, hj⟩)
    subst hl'
    exact ⟨l, .inr ⟨a, cap, rfl, Lay.raw_of (fun i x hx => (hp i x hx).1), by omega⟩, fun x hx => by
      obtain ⟨i, hi, rfl⟩ := List.mem_iff_getElem.1 hx
      exact (hp i l[i] (by simp [hi])).2⟩
end Go.Proofs.Ytjjigkomiidipaa.Read
