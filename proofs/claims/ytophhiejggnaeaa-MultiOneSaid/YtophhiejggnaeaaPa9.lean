/-
  What the theorem uses of the texts below it.
-/
import Derived.Below
import Derived.Laws.OwnMore
import Derived.Deep.Draws
import Derived.Deep.OwnRows
import Derived.Lib.Hide
import Derived.OwnWalk
import Derived.Deep.QuietTactic
import Derived.BigQuiet
import Derived.Lib.SliceRun
import Derived.Test.YtophhiejggnaeaaRows
import Derived.WalkKit
import Derived.WalkSpells
import Derived.WalkLawsBesides
import Derived.Laws.StructEq
import Derived.LoopTactic
import Derived.Deep.CutBlock
import Derived.Deep.DeepCutAuto
import Derived.Deep.RegionHeld3
import Derived.ArgAppend
import Derived.Deep.RegionLaw
import Derived.Lib.AppendIntMem
import Derived.StillTailTactics
import Derived.Maps.RangeWalk
import Derived.Shelf.Small.Bits
import Derived.Shelf.Small.Wraps
import Derived.Shelf.Strconv.Itoa0
import Derived.Test.YtophhiejggnaeaaProg
import Derived.Shelf.SlSortCmp.NoneTotal
import Derived.Shelf.SlicesG.Cmp
import Derived.Lib.OwnBridge
import Derived.BigRegion
import Derived.Laws.RangeAny
import Derived.WalkSmall
import Derived.Shelf.Abstract
import Derived.Test.YtophhiejggnaeaaPa8
namespace Go.Proofs.Ytophhiejggnaeaa.PasWalk
open Go.RowKit Go.Proofs.Ytophhiejggnaeaa.SpanPlain Go.Proofs.Ytophhiejggnaeaa.StepPlain Go.Proofs.Ytophhiejggnaeaa.GapPlain Go.Proofs.Ytophhiejggnaeaa.JobPlain Go.Proofs.Ytophhiejggnaeaa.OrdPlain Go.Proofs.Ytophhiejggnaeaa.ApiPlain Go.Proofs.Ytophhiejggnaeaa.ShaPlain Go.Proofs.Ytophhiejggnaeaa.SlaPlain Go.Proofs.Ytophhiejggnaeaa.TogPlain Go.Proofs.Ytophhiejggnaeaa.PasPlain Go.Proofs.Ytophhiejggnaeaa.Mem Go.Proofs.Ytophhiejggnaeaa.SpanMem Go.Proofs.Ytophhiejggnaeaa.StepMem Go.Proofs.Ytophhiejggnaeaa.JobMem Go.Proofs.Ytophhiejggnaeaa.OrdMem Go.Proofs.Ytophhiejggnaeaa.ApiMem Go.Proofs.Ytophhiejggnaeaa.SpanRef Go.Proofs.Ytophhiejggnaeaa.StepRef Go.Proofs.Ytophhiejggnaeaa.GapRef Go.Proofs.Ytophhiejggnaeaa.ShaRef Go.Proofs.Ytophhiejggnaeaa.SlaRef
open Go.Proofs.Ytophhiejggnaeaa.StepWalk (NewAt)
open Go.Proofs.Ytophhiejggnaeaa.MulWalk (PlanSays)
open Go.Proofs.Ytophhiejggnaeaa.MulRef (IntM)
open Go.Proofs.Ytophhiejggnaeaa.ShaWalk (LaySaysN ShSays)
set_option maxHeartbeats 1200000 in
theorem check_e (s : List Sp) (now : Int) (js : List Jb) (v u : Value) (w : World) (hv : SpansIs s w v) (hl : s.length ≤ 1000) (hu : JobsIs js w u) : Calls Try.prog 29 #[v, .int .i64 now, u] w (IntM (c16 s now js.length) w) := by
  have CK := Lib.hid (StepWalk.checkS s v w hv hl)
  obtain ⟨A, c, rfl, hn, hA⟩ := hv.open2
  obtain ⟨B, d, rfl, _⟩ := hu.open_
  have HA := Lib.hid hA
  have HP : Hid (chkB s = true → 0 < s.length) := fun h => ((chk_iff s).1 h).pos
  clear hv hu hA
  rcases c16_ways s now js.length with ⟨hc, h1⟩ | ⟨hc, g1, h1⟩ | ⟨hc, g1, g2, h1⟩ | ⟨hc, g1, g2, g3, h1⟩ | ⟨hc, g1, g2, g3, h1⟩
  · rw [hc] at CK
    have H1 := Lib.hid h1
    clear h1 hc
    go_enter Try.func29, Try.ntmps29
    go_wp2_with fail
    refine CK.out.mono ?_
    rintro e w1 ⟨rfl, hb⟩
    have HB := Lib.hid hb
    clear hb
    go_wp2_with fail
    go_ret
    exact ⟨by rw [H1.out]; rfl, HB.out⟩
  all_goals
    rw [hc] at CK
    have H1 := Lib.hid h1
    have hp := HP.out hc
    obtain ⟨ad, rfl, had, x1, x2⟩ := pair_zero HA.out hp
    have hh : (spCell s 0).1 = .int .i64 (head s) := rfl
    rw [hh] at x1
    have HX := Lib.hid x1
    have hp2 : (0 : Int) < (s.length : Int) := by omega
    clear h1 hc hh x1 x2
    go_enter Try.func29, Try.ntmps29
    go_wp2_with fail
    refine CK.out.mono ?_
    rintro e w1 ⟨rfl, hb⟩
    have HB := Lib.hid hb
    have x1 := (hb.cell had).trans HX.out
    clear hb
    go_wp2_with fail
    go_ret
    exact ⟨by rw [H1.out]; rfl, HB.out⟩
/-- What is so in each round: x is the pass of the first k jobs; b: is a head still asked for? -/
def EasLoop (s : List Sp) (now : Int) (js : List Jb) (head : Bool) (w : World) (N k : Nat) (x : Pas) (b : Bool) (sv av bv : Value) (wr : World) : Prop :=
  x = (js.take k).foldl (easyOne now head) (Pas.new s) ∧ x.s.length ≤ s.length + 3 * k ∧ (b = true ↔ head = true ∧ x.Q = []) ∧ PasAt x w N sv av bv wr ∧ NewAt (N + 1) sv
section
variable {s : List Sp} {now : Int} {js : List Jb} {head : Bool} {w : World} {N k : Nat} {x : Pas} {b : Bool} {sv av bv sv' av' bv' : Value} {wr w' : World}
theorem EasLoop.start (hn : 0 ≤ now) (h : EasLoop s now js head w N k x b sv av bv wr) (hk : k < js.length) (hok : okG x.s now js[k].width js[k].est = true) (hm : PasAt (startP now x js[k]) w N sv' av' bv' w') (hnw : NewAt (N + 1) sv') : EasLoop s now js head w N (k + 1) (startP now x js[k]) b sv' av' bv' w' := by
  refine ⟨?_, ?_, h.2.2.1, hm, hnw⟩
  · rw [fold_next _ _ hk, ← h.1, easyOne, if_pos (ok_fit hn hok)]
  · have := layL_len hok
    have := h.2.1
    show (layL x.s now js[k]).length ≤ _
    omega
theorem EasLoop.pass (h : EasLoop s now js head w N k x b sv av bv wr) (hk : k < js.length) (hf : fitF x.s now js[k] ≠ now) (hb : b = false ∨ fitF x.s now js[k] = -1) (hn : 0 ≤ now) (hm : PasAt x w N sv' av' bv' w') (hnw : NewAt (N + 1) sv') : EasLoop s now js head w N (k + 1) x b sv' av' bv' w' := by
  refine ⟨?_, Nat.le_trans h.2.1 (by omega), h.2.2.1, hm, hnw⟩
  rw [fold_next _ _ hk, ← h.1, easyOne, if_neg hf, if_neg]
  rintro ⟨h1, h2⟩
  rcases hb with hb | hb
  · have := h.2.2.1.2 h2
    rw [hb] at this
    cases this
  · omega
theorem EasLoop.prom {a : Int} (h : EasLoop s now js head w N k x true sv av bv wr) (hk : k < js.length) (hf : fitF x.s now js[k] = a) (ha : now < a) (hok : okG x.s a js[k].width js[k].est = true) (hm : PasAt (promP x a js[k]) w N sv' av' bv' w') (hnw : NewAt (N + 1) sv') : EasLoop s now js head w N (k + 1) (promP x a js[k]) false sv' av' bv' w' := by
  have hh := h.2.2.1.1 rfl
  refine ⟨?_, ?_, ⟨(fun h => by cases h), (fun h => by simp [promP] at h)⟩, hm, hnw⟩
  · rw [fold_next _ _ hk, ← h.1, easyOne, if_neg (by omega), if_pos ⟨by omega, hh⟩, hf]
  · have := layL_len hok
    have := h.2.1
    show (layL x.s a js[k]).length ≤ _
    omega
end
set_option maxRecDepth 100000 in
set_option maxHeartbeats 1200000 in
theorem pass_e (s : List Sp) (now : Int) (js : List Jb) (head : Bool) (v u : Value) (w : World) (hv : SpansIs s w v) (hu : JobsIs js w u) (hs : s.length + 3 * js.length ≤ 1000) : Calls Try.prog 14 #[v, .int .i64 now, u, .bool head] w (PlanSaysN (c16 s now js.length) (easyP s now js head) w) := by
  have CE := Lib.hid (fun W (hW : Below w.heap.size w W) => check_e s now js v u W (hv.below hW) (by omega) (hu.below hW))
  have HV := Lib.hid hv
  obtain ⟨B, d, rfl, _, hB⟩ := hu.open_
  have HJB := Lib.hid hB
  have HR0 := Lib.hid (Box2.new w (.slice none 0 0) (.slice none 0 0) 37)
  have HB0 := Lib.hid (box_s w (.cells #[.slice none 0 0, .slice none 0 0] 37))
  have hsz : (w.alloc (.cells #[.slice none 0 0, .slice none 0 0] 37)).heap.size = w.heap.size + 1 := by simp
  by_cases h0 : c16 s now js.length = 0
  · have hc : chkB s = true ∧ 0 ≤ now := by
      unfold c16 at h0
      split at h0
      · rename_i h
        have := ((chk_iff s).1 h.1).lo
        exact ⟨h.1, by omega⟩
      · omega
    have HN0 := Lib.hid hc.2
    have hp : 0 < s.length := ((chk_iff s).1 hc.1).pos
    obtain ⟨A, c, rfl, hn, hA⟩ := hv.open2
    obtain ⟨ad, rfl, _, _, _⟩ := pair_zero hA hp
    have CK : Hid (∀ W, Below w.heap.size w W → Calls Try.prog 30 #[.slice (some ad) s.length c] W (StepWalk.CloneIs s.length (svals s) W)) := fun W hW => StepWalk.cloneS ad s.length c (svals s) W (svals_len s) (by omega) (StepWalk.raw_of (HV.out.below hW)) (svals_cell s)
    rw [h0] at CE ⊢
    clear hv hu hB hc hA h0
    go_enter Try.func14, Try.ntmps14
    go_upto_region 1 with fail
    generalize w.alloc (.cells #[.slice none 0 0, .slice none 0 0] 37) = W0 at *
    go_wp2_with fail
    refine (CE.out W0 HB0.out).mono ?_
    rintro e w1 ⟨rfl, hb1⟩
    have HR1 := Lib.hid (HR0.out.below hb1)
    have HB1 := Lib.hid (thenS HB0.out hb1)
    have hs1 : w.heap.size + 1 ≤ w1.heap.size := by rw [← hsz]; exact hb1.size
    have HX1 := Lib.hid (Box2.new w1 (.slice none 0 0) (.slice none 0 0) 37)
    have HR2 := Lib.hid (HR1.out.alloc (.cells #[.slice none 0 0, .slice none 0 0] 37))
    have HB2 := Lib.hid (thenS HB1.out (box_s w1 (.cells #[.slice none 0 0, .slice none 0 0] 37)))
    have HSZ : Hid ((w1.alloc (.cells #[.slice none 0 0, .slice none 0 0] 37)).heap.size = w1.heap.size + 1) := by show _ = _; simp
    have HLT : Hid (w.heap.size < w1.heap.size) := by show _ < _; omega
    clear hb1 HR0 HB0 CE hsz hs1 HR1 HB1
    go_upto_region 5 with fail
    have CK1 := Lib.hid (CK.out _ HB2.out)
    generalize hN : w1.heap.size = N at *
    clear hN
    generalize w1.alloc (.cells #[.slice none 0 0, .slice none 0 0] 37) = W2 at *
    clear CK
    go_wp2_with fail
    refine CK1.out.mono ?_
    rintro e w2 ⟨v2, rfl, ho2, hb2⟩
    have HL0 : Hid (EasLoop s now js head w N 0 (Pas.new s) head v2 (.slice none 0 0) (.slice none 0 0) w2) :=
      ⟨rfl, Nat.le_refl _, ⟨fun h => ⟨h, rfl⟩, fun h => h.1⟩, PasAt.begin (OwnR.spans ho2 rfl) (fun a m c e _ => by have := NewAt.own ho2.toN (Nat.le_of_eq HSZ.out.symm) a m c e; have := HLT.out; omega) (HX1.out.below hb2) (HR2.out.below hb2) HLT.out (thenS HB2.out hb2), NewAt.own ho2.toN (Nat.le_of_eq HSZ.out.symm)⟩
    clear ho2 hb2 CK1 HX1 HR2 HB2 HSZ HLT HV
    go_wp2_with fail
    go_loopw [3, 13, 33] (fun hv sv i wr => ∃ (k : Nat) (x : Pas) (b : Bool) (av bv : Value), i = .int .i64 k ∧ hv = .bool b ∧ k ≤ js.length ∧ Hid (EasLoop s now js head w N k x b sv av bv wr)) (fun _ _ i _ => js.length - (intOf i).toNat)
    case atStart => exact ⟨0, _, head, _, _, rfl, rfl, Nat.zero_le _, HL0.out⟩
    case round =>
      obtain ⟨k, x, b, av, bv, rfl, rfl, hk, HL⟩ := hrel
      by_cases hlt : k < js.length
      · obtain ⟨bd, rfl, hat⟩ := HJB.out k hlt
        have HP := Lib.hid HL.out.2.2.2.1
        have HNW := Lib.hid HL.out.2.2.2.2
        obtain ⟨y, y0, y1, y2, y3, y4, y5, y6, y7, y8⟩ := hat.below HP.out.bel
        have hlt2 : (k : Int) < (js.length : Int) := by omega
        have i0 : (0 : Int) ≤ (k : Int) := Int.natCast_nonneg _
        have HLEN : Hid (x.s.length ≤ 1000) := by show _ ≤ _; have := HL.out.2.1; omega
        have hstl : x.st.length ≤ 1000 ∧ x.P.length ≤ 1000 := by
          have h1 := HL.out.1
          have h2 : ∀ (l : List Jb) (z : Pas), (l.foldl (easyOne now head) z).R.length + (l.foldl (easyOne now head) z).Q.length ≤ z.R.length + z.Q.length + l.length := by
            intro l
            induction l with
            | nil => intro z; simp
            | cons q l ih =>
              intro z
              have h3 := ih (easyOne now head z q)
              have h4 : (easyOne now head z q).R.length + (easyOne now head z q).Q.length ≤ z.R.length + z.Q.length + 1 := by
                unfold easyOne startP promP
                split
                · simp; omega
                · split
                  · simp; omega
                  · omega
              simp only [List.foldl_cons, List.length_cons]
              omega
          have h5 := h2 (js.take k) (Pas.new s)
          rw [← h1] at h5
          rw [List.length_take] at h5
          simp only [Pas.new, List.length_nil] at h5
          rw [st_len, P_len]
          omega
        have HSTART := Lib.hid (fun sv' av' bv' w' h m q => HL.out.start (sv' := sv') (av' := av') (bv' := bv') (w' := w') HN0.out hlt h m q)
        have HPASS := Lib.hid (fun sv' av' bv' w' h1 h2 m q => HL.out.pass (sv' := sv') (av' := av') (bv' := bv') (w' := w') hlt h1 h2 HN0.out m q)
        have HPROM : Hid (b = true → ∀ a sv' av' bv' w', fitF x.s now js[k] = a → now < a → okG x.s a js[k].width js[k].est = true → PasAt (promP x a js[k]) w N sv' av' bv' w' → NewAt (N + 1) sv' → EasLoop s now js head w N (k + 1) (promP x a js[k]) false sv' av' bv' w') := fun hb a sv' av' bv' w' h1 h2 h3 m q => by
          subst hb
          exact HL.out.prom hlt h1 h2 h3 m q
        obtain ⟨j, hj2⟩ : ∃ j, j = js[k] := ⟨_, rfl⟩
        rw [← hj2] at y0 y1 y2 y3 y4 y5 y6 y7 y8 HSTART HPASS HPROM
        have hkl : k ≤ 1000 := by omega
        have HX := Lib.hid (JobBox.new wr j 45)
        have HP1 := Lib.hid (HP.out.alloc (.cells #[.int .i64 j.id, .string j.user, .int .i64 j.width, .int .i64 j.est, .int .i64 j.prio, .int .i64 j.sub, .int .i64 j.state, .int .i64 j.start, .int .i64 j.fin] 45))
        have hjb : ∃ J, J = wr.heap.size := ⟨_, rfl⟩
        obtain ⟨J, hJ⟩ := hjb
        have HJA : Hid (∀ b', bv.ownBlock = some b' → b' < J) := fun b' q => by rw [hJ]; exact (HP.out.prms.block_lt q).2
        have HJN : Hid (N < J) := by show N < J; rw [hJ]; exact HP.out.box.lt
        obtain ⟨A2, c2, hsv, _⟩ := HP.out.st.open_
        obtain ⟨A3, c3, hav⟩ := HP.out.rows.shape
        obtain ⟨A4, c4, hbv⟩ := HP.out.prms.shape
        subst hsv
        subst hav
        subst hbv
        clear hj2 hat HL HP
        go_upto_region 9 with fail
        generalize wr.alloc (.cells #[.int .i64 j.id, .string j.user, .int .i64 j.width, .int .i64 j.est, .int .i64 j.prio, .int .i64 j.sub, .int .i64 j.state, .int .i64 j.start, .int .i64 j.fin] 45) = W1 at *
        rw [← hJ] at HX ⊢
        clear hJ y y0 y1 y2 y3 y4 y5 y6 y7 y8
        obtain ⟨y, y0, y1, y2, y3, y4, y5, y6, y7, y8, _, _, _, _, _, _, _, _, _⟩ := HX.out
        have CL := Lib.hid (ShaWalk.layN x.s now j _ W1 HP1.out.st HLEN.out)
        unfold jobV jobA at CL
        go_wp2_with fail
        refine CL.out.mono ?_
        rintro e w3 ⟨v3, r3, b3, rfl, hs3, hly3, hb3, hn3⟩
        have HX3 := Lib.hid (HX.out.below hb3)
        clear CL y y0 y1 y2 y3 y4 y5 y6 y7 y8
        rcases hly3 with ⟨hok, rfl, hadd⟩ | ⟨hok, rfl, rfl⟩
        · obtain rfl := layL_of hok hadd
          have HP3 := Lib.hid (HP1.out.steps hb3 hs3 hn3)
          have HNW3 : Hid (NewAt (N + 1) v3) := hn3.mono HP1.out.box.lt
          obtain ⟨Ar, cr, hv3, _⟩ := hs3.open_
          subst hv3
          have HP4 := Lib.hid (HP3.out.alloc (.cells #[.int .i64 j.id] 3))
          have HO4 : Hid (OwnN 3 1 (w.heap.size + 1) (w3.alloc (.cells #[.int .i64 j.id] 3)) (.slice A3 x.st.length c3) x.st.length (ivals x.st)) := HP4.out.rows
          obtain ⟨q9, q0, q1, _, _⟩ := HP3.out.box
          obtain ⟨y, y0, _, _, _, _, _, _, _, _, _, _, _, _, _, _, _, _, _⟩ := HX3.out
          clear hs3 hadd hb3 hn3 HP1 HX HX3 HPASS HPROM
          go_wp2_with (at_builtin; refine push_sep ints_t rfl (.tmp 46) (.tmp 49) rfl (w.heap.size + 1) _ _ _ rfl HO4.out ⟨w3.heap.size, 0, none⟩ 1 1 [.int .i64 j.id] rfl rfl ?a1 Mem.one_cell ?a2 ?_)
          case a1 => exact Raw.alloc w3 _ _
          case a2 => omega
          intro A5 c5 w4 ho4 hb4 hg4 hs4
          obtain ⟨e9, e0, e1, ef0, ef1⟩ := HP4.out.boxA hg4
          have HN4 := Lib.hid (HSTART.out _ _ _ _ hok (HP4.out.start ho4 hb4 hg4 hs4) HNW3.out)
          clear ho4 hb4 hg4 hs4 HP4 HP3 HO4 HSTART q9 q0 q1 y y0 hok
          go_wp2_with fail
          exact ⟨⟨k + 1, startP now x j, b, _, _, by go_num, rfl, by omega, HN4.out⟩, by simp [intOf] <;> omega⟩
        · have HP3 := Lib.hid (HP1.out.below hb3)
          obtain ⟨Ar, cr, hv3, _⟩ := hs3.open_
          subst hv3
          have HNF := Lib.hid (no_fit HN0.out hok)
          have HNO := Lib.hid hok
          clear hs3 hb3 hn3 HP1 HX hok HSTART
          cases b with
          | false =>
            have HN4 := Lib.hid (HPASS.out _ _ _ _ HNF.out (.inl rfl) HP3.out HNW.out)
            clear HPASS HPROM HP3 HX3
            go_wp2_with fail
            exact ⟨⟨k + 1, x, false, _, _, by go_num, rfl, by omega, HN4.out⟩, by simp [intOf] <;> omega⟩
          | true =>
            have CO := Lib.hid (ShaWalk.ofShS x.s now j _ w3 HP3.out.st HLEN.out)
            unfold jobV jobA at CO
            obtain ⟨y, y0, y1, y2, y3, y4, y5, y6, y7, y8, _, _, _, _, _, _, _, _, _⟩ := HX3.out
            go_wp2_with fail
            refine CO.out.mono ?_
            rintro e w5 ⟨a, p, b5, rfl, hsh, hb5⟩
            have HP5 := Lib.hid (HP3.out.below hb5)
            have HX5 := Lib.hid (HX3.out.below hb5)
            have HSH := Lib.hid hsh.1
            clear hb5 hsh CO HP3 HX3 y y0 y1 y2 y3 y4 y5 y6 y7 y8
            cases b5 with
            | false =>
              have HN4 := Lib.hid (HPASS.out _ _ _ _ HNF.out (.inr (sh_no HSH.out)) HP5.out HNW.out)
              clear HPASS HPROM HP5 HX5 HSH
              go_wp2_with fail
              exact ⟨⟨k + 1, x, true, _, _, by go_num, rfl, by omega, HN4.out⟩, by simp [intOf] <;> omega⟩
            | true =>
              have HLATE := Lib.hid (sh_late HSH.out HNO.out)
              have HP6 := Lib.hid (HP5.out.alloc (.cells #[.int .i64 j.id, .int .i64 a, .int .i64 0] 41))
              have HO6 := Lib.hid HP6.out.prms
              obtain ⟨q9, q0, q1, _, _⟩ := HP5.out.box
              obtain ⟨y, y0, _, _, _, _, _, _, _, _, _, _, _, _, _, _, _, _, _⟩ := HX5.out
              clear HPASS HP5
              go_wp2_with (at_builtin; refine push_sep prm_t rfl (.tmp 66) (.tmp 71) rfl (w.heap.size + 1) _ _ _ rfl HO6.out ⟨w5.heap.size, 0, none⟩ 1 1 (prmC ⟨j.id, a, 0⟩) rfl rfl ?b1 (prmC_cell _) ?b2 ?_)
              case b1 => exact Raw.alloc w5 _ _
              case b2 => omega
              intro A5 c5 w4 ho4 hb4 hg4 hs4
              obtain ⟨e9, e0, e1, ef0, ef1⟩ := HP6.out.boxB hg4
              have HP7 := Lib.hid (HP6.out.prom (q := (a, j)) (O := x.O ++ [(a, j)]) ho4 hb4 hg4 hs4)
              have HX7 : Hid (JobBox (w4.setCell ⟨N, 1, none⟩ (.slice A5 (x.P.length + 1) c5)) J j) := by
                have hJ1 := HX5.out.lt
                have hJ2 : J < w4.heap.size := Nat.lt_of_lt_of_le (by simp; omega) hg4.size
                refine HX5.out.of_block (by simp [World.setCell]; exact hJ2) ?_
                refine (Below.heap_setCell _ ⟨N, 1, none⟩ _ J (by show J ≠ N; have := HJN.out; omega)).trans ((hg4.block J (by simp; omega) (fun q => ?_)).trans (heap_alloc_old w5 _ hJ1))
                have := HJA.out _ q.symm
                omega
              clear ho4 hb4 hg4 hs4 HP6 HO6 q9 q0 q1 y y0 HX5
              go_upto_region 17 with fail
              clear e9 e0 e1 ef0 ef1
              generalize w4.setCell ⟨N, 1, none⟩ (.slice A5 (x.P.length + 1) c5) = w6 at *
              have CL := Lib.hid (ShaWalk.layN x.s a j _ w6 HP7.out.st HLEN.out)
              unfold jobV jobA at CL
              obtain ⟨y, y0, y1, y2, y3, y4, y5, y6, y7, y8, _, _, _, _, _, _, _, _, _⟩ := HX7.out
              go_wp2_with fail
              refine CL.out.mono ?_
              rintro e w7 ⟨v7, r7, b7, rfl, hs7, hly7, hb7, hn7⟩
              rcases hly7 with ⟨hok, rfl, hadd⟩ | ⟨hok, _, _⟩
              · obtain rfl := layL_of hok hadd
                have HN7 := Lib.hid (HPROM.out (by trivial) a _ _ _ _ (sh_yes HSH.out) HLATE.out.1 hok (HP7.out.steps hb7 hs7 hn7) (hn7.mono HP7.out.box.lt))
                obtain ⟨Ar, cr, hv7, _⟩ := hs7.open_
                subst hv7
                clear hs7 hok hadd hb7 hn7 HP7 HX7 HPROM CL y y0 y1 y2 y3 y4 y5 y6 y7 y8
                go_wp2_with fail
                exact ⟨⟨k + 1, promP x a j, false, _, _, by go_num, rfl, by omega, HN7.out⟩, by simp [intOf] <;> omega⟩
              · rw [HLATE.out.2] at hok
                cases hok
      · obtain rfl : k = js.length := by omega
        have HE : Hid (x = easyP s now js head) := by
          show _ = _
          rw [HL.out.1, List.take_length]; rfl
        have HP := Lib.hid HL.out.2.2.2.1
        have HNW := Lib.hid HL.out.2.2.2.2
        obtain ⟨A2, c2, hsv, _⟩ := HP.out.st.open_
        obtain ⟨A3, c3, hav⟩ := HP.out.rows.shape
        obtain ⟨A4, c4, hbv⟩ := HP.out.prms.shape
        subst hsv
        subst hav
        subst hbv
        have HD := Lib.hid (HP.out.done rfl)
        have HNE : Hid (NewAt (w.heap.size + 1) (.slice A2 x.s.length c2)) := HNW.out.mono (by have := HP.out.lt; omega)
        obtain ⟨y, y0, y1, _, _⟩ := HP.out.box
        obtain ⟨z, z0, z1, zf0, zf1⟩ := HP.out.ret
        clear HL HP
        go_wp2_with fail
        obtain ⟨r, r0, r1, _, _⟩ := HD.out.box
        rw [← HE.out]
        generalize (wr.setCell ⟨w.heap.size, 0, none⟩ (.slice A3 x.st.length c3)).setCell ⟨w.heap.size, 1, none⟩ (.slice A4 x.P.length c4) = w8 at *
        exact bodyPost_ret (v := .tuple #[.agg #[.slice A3 x.st.length c3, .slice A4 x.P.length c4], .slice A2 x.s.length c2, .int .i64 0]) (by simp [results, Try.results14, go_sem, r0, r1]) rfl (says_ok HD.out HNE.out)
  · have hne : (c16 s now js.length != 0) = true := by simpa using h0
    have HNE := Lib.hid h0
    generalize c16 s now js.length = C at *
    obtain ⟨A, c, rfl, _⟩ := hv.open_
    clear hv hu hB h0 HV HJB
    go_enter Try.func14, Try.ntmps14
    go_upto_region 1 with fail
    generalize w.alloc (.cells #[.slice none 0 0, .slice none 0 0] 37) = W0 at *
    go_wp2_with fail
    refine (CE.out W0 HB0.out).mono ?_
    rintro e w1 ⟨rfl, hb1⟩
    obtain ⟨z, z0, z1, zf0, zf1⟩ := HR0.out.below hb1
    have HB8 := Lib.hid (((thenS HB0.out hb1).setCell (p := ⟨w.heap.size, 0, none⟩) (Nat.le_refl _) (.slice none 0 0)).setCell (p := ⟨w.heap.size, 1, none⟩) (Nat.le_refl _) (.slice none 0 0))
    have HR8 := Lib.hid (((HR0.out.below hb1).set0 (.slice none 0 0)).set1 (.slice none 0 0))
    clear hb1 HB0 HR0 CE
    go_wp2_with fail
    obtain ⟨r, r0, r1, _, _⟩ := HR8.out
    generalize (w1.setCell ⟨w.heap.size, 0, none⟩ (.slice none 0 0)).setCell ⟨w.heap.size, 1, none⟩ (.slice none 0 0) = w8 at *
    exact bodyPost_ret (v := .tuple #[.agg #[.slice none 0 0, .slice none 0 0], .slice none 0 0, .int .i64 C]) (by simp [results, Try.results14, go_sem, r0, r1]) rfl (says_no HNE.out HB8.out)
end Go.Proofs.Ytophhiejggnaeaa.PasWalk
namespace Go.Proofs.Ytophhiejggnaeaa.QueWalk
open Go.RowKit Go.Proofs.Ytophhiejggnaeaa.JobPlain Go.Proofs.Ytophhiejggnaeaa.ApiPlain Go.Proofs.Ytophhiejggnaeaa.QuePlain Go.Proofs.Ytophhiejggnaeaa.Mem Go.Proofs.Ytophhiejggnaeaa.ApiMem Go.Proofs.Ytophhiejggnaeaa.OrdMem Go.Proofs.Ytophhiejggnaeaa.QueRef
/-- A slice of slices of jobs, nil let in. -/
def ListsIs (ll : List (List Jb)) (w : World) (v : Value) : Prop := (v = .slice none 0 0 ∧ ll = []) ∨ ∃ a c vs, v = .slice (some a) ll.length c ∧ ll.length ≤ c ∧ Raw w a vs ∧ vs.length = ll.length ∧ ∀ (i : Nat) (x : List Jb) (u : Value), ll[i]? = some x → vs[i]? = some u → JobsIs x w u
theorem ListsIs.below {ll : List (List Jb)} {w w' : World} {v : Value} (h : ListsIs ll w v) (hb : Below w.heap.size w w') : ListsIs ll w' v := by
  rcases h with h | ⟨a, c, vs, e, hc, hr, hn, hx⟩
  · exact .inl h
  · exact .inr ⟨a, c, vs, e, hc, hr.below hb, hn, fun i x u h1 h2 => (hx i x u h1 h2).below hb⟩
theorem ListsIs.open_ {ll : List (List Jb)} {w : World} {v : Value} (h : ListsIs ll w v) : ∃ A c, v = .slice A ll.length c ∧ ll.length ≤ c ∧ ∀ (i : Nat) (x : List Jb), ll[i]? = some x → ∃ a u, A = some a ∧ a.block < w.heap.size ∧ w.cell? (a.add i) = some u ∧ JobsIs x w u := by
  rcases h with ⟨rfl, rfl⟩ | ⟨a, c, vs, e, hc, hr, hn, hx⟩
  · exact ⟨none, 0, rfl, Nat.le_refl _, fun i x h => by simp at h⟩
  · refine ⟨some a, c, e, hc, fun i x h => ?_⟩
    have hi : i < vs.length := by rw [hn]; exact (List.getElem?_eq_some_iff.1 h).1
    have hu : vs[i]? = some vs[i] := List.getElem?_eq_getElem hi
    obtain ⟨h1, h2⟩ := hr i _ hu
    exact ⟨a, vs[i], rfl, h1, h2, hx i x _ h hu⟩
def SplitSays (l : List Cl) (js : List Jb) (w : World) (x : Ending) (w' : World) : Prop := ∃ v u ll r, x = .returned (.tuple #[v, u, .int .i64 (checkC l)]) ∧ ListsIs ll w' v ∧ JobsIs r w' u ∧ ((checkC l = 0 ∧ ll = splitC l js ∧ r = pickJ l (-1) js) ∨ (checkC l ≠ 0 ∧ ll = [] ∧ r = [])) ∧ Below w.heap.size w w'
end Go.Proofs.Ytophhiejggnaeaa.QueWalk
namespace Go.Proofs.Ytophhiejggnaeaa.JobWalk
open Go.RowKit Go.Proofs.Ytophhiejggnaeaa.JobPlain Go.Proofs.Ytophhiejggnaeaa.Mem Go.Proofs.Ytophhiejggnaeaa.JobMem Go.Proofs.Ytophhiejggnaeaa.JobRef
theorem size_list (s : ByteArray) : s.toList.length = s.size := by rw [ByteArray.toList_eq]; simp
theorem empty_ways (s : ByteArray) : (s.toList.isEmpty = true ∧ (s.toList == []) = true ∧ s.size = 0) ∨ (s.toList.isEmpty = false ∧ (s.toList == []) = false ∧ 1 ≤ s.size) := by
  have h := size_list s
  cases hl : s.toList with
  | nil => rw [hl] at h; exact .inl ⟨rfl, rfl, by simp at h; omega⟩
  | cons c l => rw [hl] at h; exact .inr ⟨rfl, rfl, by simp at h; omega⟩
theorem size_ways (s : ByteArray) : (s.toList.isEmpty = true ∧ (s.toList == []) = true ∧ nameB s = false) ∨ (s.toList.isEmpty = false ∧ (s.toList == []) = false ∧ decide (16 < (s.size : Int)) = true ∧ nameB s = false) ∨ (s.toList.isEmpty = false ∧ (s.toList == []) = false ∧ decide (16 < (s.size : Int)) = false ∧ (s.data.toList.all letB = true → nameB s = true)) := by
  unfold nameB
  rcases empty_ways s with ⟨h1, h2, h3⟩ | ⟨h1, h2, h3⟩
  · exact .inl ⟨h1, h2, by rw [decide_eq_false (p := 1 ≤ s.size) (by omega), Bool.false_and, Bool.and_false]⟩
  · by_cases h4 : 16 < (s.size : Int)
    · exact .inr (.inl ⟨h1, h2, decide_eq_true h4, by rw [decide_eq_false (p := s.size ≤ 16) (by omega), Bool.and_false, Bool.and_false]⟩)
    · exact .inr (.inr ⟨h1, h2, decide_eq_false h4, fun h => by rw [h, decide_eq_true (p := 1 ≤ s.size) (by omega), decide_eq_true (p := s.size ≤ 16) (by omega)]; rfl⟩)
theorem high_not (c : UInt8) (h : ¬ c.toNat < 128) : letB c = false := by
  unfold letB
  rw [decide_eq_false (p := c.toNat ≤ 122) (by omega), Bool.and_false]
set_option maxHeartbeats 1600000 in
theorem name_range (s : ByteArray) (w : World) (hs : s.size ≤ 9223372036854775807) : Calls Try.prog 76 #[.string s] w (BoolIs (nameB s) w) := by
  rcases size_ways s with ⟨h1, h1b, h2⟩ | ⟨h1, h1b, h3, h2⟩ | ⟨h1, h1b, h3, h2⟩
  · go_enter Try.func76, Try.ntmps76
    go_wp2_with fail
    go_ret
    rw [h2]
    exact ⟨rfl, Below.refl _ _⟩
  · go_enter Try.func76, Try.ntmps76
    go_wp2_with fail
    go_ret
    rw [h2]
    exact ⟨rfl, Below.refl _ _⟩
  · have HY := Lib.hid h2
    clear h2
    go_enter Try.func76, Try.ntmps76
    go_wp2_with fail
    go_loopw [] (fun wr => ∃ pos : Nat, wr = w.iter s pos ∧ pos ≤ s.size ∧ Hid (LetTo s pos)) (fun wr => s.size - wr.iterPos w.heap.size)
    case atStart => exact ⟨0, rfl, Nat.zero_le _, LetTo.zero s⟩
    case round =>
      obtain ⟨pos, rfl, hp, HD⟩ := hrel
      by_cases hlt : pos < s.size
      · have HNO := Lib.hid (fun h => name_no hlt h)
        have HNX := Lib.hid (fun h => HD.out.succ hlt h)
        by_cases ha : s[pos].toNat < 128
        · have hnx : ∀ ty, (Instr.next (.pointer (some ⟨w.heap.size, 0, none⟩)) true ty).run Try.prog (w.iter s pos) = _ := fun ty => run_next_ascii w s pos ty hlt ha
          rcases let_ways s[pos] with ⟨c1, c2⟩ | ⟨c1, c3, c2⟩ | ⟨c1, c3, c2⟩
          all_goals
            have HR := Lib.hid c2
            clear c2
            go_wp2_with fail
            first
              | exact ⟨⟨pos + 1, rfl, by omega, HNX.out HR.out⟩, by rw [World.iterPos_iter, World.iterPos_iter]; omega⟩
              | (go_ret; rw [HNO.out HR.out]; exact ⟨rfl, (Below.refl _ _).alloc (Nat.le_refl _) _⟩)
        · have hnx : ∀ ty, (Instr.next (.pointer (some ⟨w.heap.size, 0, none⟩)) true ty).run Try.prog (w.iter s pos) = _ := fun ty => run_next_any w s pos ty hlt
          have HR := Lib.hid (high_not s[pos] ha)
          have hd := (decode_high s pos hlt (by omega)).1
          have c1 : decide (((Utf8.decode s pos).1 : Int) < 97) = false := decide_eq_false (by omega)
          have c3 : decide (122 < ((Utf8.decode s pos).1 : Int)) = true := decide_eq_true (by omega)
          go_wp2_with fail
          go_ret
          rw [HNO.out HR.out]
          exact ⟨rfl, (Below.refl _ _).alloc (Nat.le_refl _) _⟩
      · have hnx : ∀ ty, (Instr.next (.pointer (some ⟨w.heap.size, 0, none⟩)) true ty).run Try.prog (w.iter s pos) = _ := fun ty => run_next_end w s pos ty hlt
        have HR := Lib.hid (HY.out (HD.out.all (by omega)))
        go_wp2_with fail
        go_ret
        rw [HR.out]
        exact ⟨rfl, (Below.refl _ _).alloc (Nat.le_refl _) _⟩
end Go.Proofs.Ytophhiejggnaeaa.JobWalk
namespace Go.Proofs.Ytophhiejggnaeaa.QueWalk
open Go.RowKit Go.Proofs.Ytophhiejggnaeaa.JobPlain Go.Proofs.Ytophhiejggnaeaa.ApiPlain Go.Proofs.Ytophhiejggnaeaa.QuePlain Go.Proofs.Ytophhiejggnaeaa.Mem Go.Proofs.Ytophhiejggnaeaa.ApiMem Go.Proofs.Ytophhiejggnaeaa.QueRef
def inC (n a b : Int) : Bool := decide (a ≤ n) && decide (n ≤ b)
def BoolW (b : Bool) (w : World) (e : Ending) (w' : World) : Prop := e = .returned (.bool b) ∧ w = w'
theorem two_ways (a b : Bool) : (a = false ∧ (a && b) = false) ∨ (a = true ∧ b = false ∧ (a && b) = false) ∨ (a = true ∧ b = true ∧ (a && b) = true) := by
  cases a <;> cases b <;> simp
theorem within_q (n a b : Int) (w : World) : Calls Try.prog 77 #[.int .i64 n, .int .i64 a, .int .i64 b] w (BoolW (inC n a b) w) := by
  rcases two_ways (decide (a ≤ n)) (decide (n ≤ b)) with ⟨h1, h2⟩ | ⟨h1, h3, h2⟩ | ⟨h1, h3, h2⟩
  all_goals
    have HR := Lib.hid h2
    clear h2
    go_enter Try.func77, Try.ntmps77
    go_wp2_with fail
    go_ret
    exact ⟨by unfold inC; rw [HR.out]; rfl, rfl⟩
theorem mayBe_ways (c : Cl) : (nameB c.name = false ∧ mayC c = false) ∨ (nameB c.name = true ∧ inC c.minW 1 c.maxW = false ∧ mayC c = false) ∨ (nameB c.name = true ∧ inC c.minW 1 c.maxW = true ∧ decide (c.maxW ≤ 256) = false ∧ mayC c = false) ∨
    (nameB c.name = true ∧ inC c.minW 1 c.maxW = true ∧ decide (c.maxW ≤ 256) = true ∧ inC c.minE 1 c.maxE = false ∧ mayC c = false) ∨
    (nameB c.name = true ∧ inC c.minW 1 c.maxW = true ∧ decide (c.maxW ≤ 256) = true ∧ inC c.minE 1 c.maxE = true ∧ decide (c.maxE ≤ 1099511627776) = false ∧ mayC c = false) ∨
    (nameB c.name = true ∧ inC c.minW 1 c.maxW = true ∧ decide (c.maxW ≤ 256) = true ∧ inC c.minE 1 c.maxE = true ∧ decide (c.maxE ≤ 1099511627776) = true ∧ mayC c = true) := by
  unfold mayC inC
  cases nameB c.name <;> cases decide (1 ≤ c.minW) <;> cases decide (c.minW ≤ c.maxW) <;> cases decide (c.maxW ≤ 256) <;> cases decide (1 ≤ c.minE) <;> cases decide (c.minE ≤ c.maxE) <;> cases decide (c.maxE ≤ 1099511627776) <;> simp
set_option maxHeartbeats 1600000 in
theorem mayBe_q (c : Cl) (w : World) (hs : c.name.size ≤ 9223372036854775807) : Calls Try.prog 63 #[clV c] w (BoolC (mayC c) w) := by
  have CN := Lib.hid (fun W => JobWalk.name_range c.name W hs)
  have hways := mayBe_ways c
  have HX := Lib.hid (ClBox.new w c 51)
  have HB := Lib.hid (box_below w (.cells #[.string c.name, .int .i64 c.minW, .int .i64 c.maxW, .int .i64 c.minE, .int .i64 c.maxE] 51))
  obtain ⟨x, x0, x1, x2, x3, x4, _, _, _, _, _⟩ := HX.out
  unfold clV at *
  rcases hways with ⟨hn, h1⟩ | ⟨hn, d1, h1⟩ | ⟨hn, d1, d2, h1⟩ | ⟨hn, d1, d2, d3, h1⟩ | ⟨hn, d1, d2, d3, d4, h1⟩ | ⟨hn, d1, d2, d3, d4, h1⟩
  all_goals
    rw [hn] at CN
    rw [h1]
    clear hn h1
    go_enter Try.func63, Try.ntmps63
    go_wp2_with fail
    refine (CN.out _).mono ?_
    rintro e1 w1 ⟨rfl, hb1⟩
    obtain ⟨y, y0, y1, y2, y3, y4, _, _, _, _, _⟩ := HX.out.below hb1
    have HB1 := Lib.hid (HB.out.trans (hb1.mono HB.out.size))
    clear hb1
    go_wp2_with (go_at_call 77; refine (within_q _ _ _ _).mono ?_; rintro e w2 ⟨rfl, rfl⟩)
    go_ret
    exact ⟨rfl, HB1.out⟩
theorem has_ways (c : Cl) (wd e : Int) : (mayC c = false ∧ hasC c wd e = false) ∨ (mayC c = true ∧ inC wd c.minW c.maxW = false ∧ hasC c wd e = false) ∨ (mayC c = true ∧ inC wd c.minW c.maxW = true ∧ inC e c.minE c.maxE = false ∧ hasC c wd e = false) ∨ (mayC c = true ∧ inC wd c.minW c.maxW = true ∧ inC e c.minE c.maxE = true ∧ hasC c wd e = true) := by
  unfold hasC inC
  cases mayC c <;> cases decide (c.minW ≤ wd) <;> cases decide (wd ≤ c.maxW) <;> cases decide (c.minE ≤ e) <;> cases decide (e ≤ c.maxE) <;> simp
set_option maxHeartbeats 1600000 in
theorem has_q (c : Cl) (wd e : Int) (w : World) (hs : c.name.size ≤ 9223372036854775807) : Calls Try.prog 67 #[clV c, .int .i64 wd, .int .i64 e] w (BoolC (hasC c wd e) w) := by
  have CN := Lib.hid (fun W => mayBe_q c W hs)
  have hways := has_ways c wd e
  have HX := Lib.hid (ClBox.new w c 51)
  have HB := Lib.hid (box_below w (.cells #[.string c.name, .int .i64 c.minW, .int .i64 c.maxW, .int .i64 c.minE, .int .i64 c.maxE] 51))
  obtain ⟨x, x0, x1, x2, x3, x4, _, _, _, _, _⟩ := HX.out
  unfold clV at *
  rcases hways with ⟨hn, h1⟩ | ⟨hn, d1, h1⟩ | ⟨hn, d1, d2, h1⟩ | ⟨hn, d1, d2, h1⟩
  all_goals
    rw [hn] at CN
    rw [h1]
    clear hn h1
    go_enter Try.func67, Try.ntmps67
    go_wp2_with fail
    refine (CN.out _).mono ?_
    rintro e1 w1 ⟨rfl, hb1⟩
    obtain ⟨y, y0, y1, y2, y3, y4, _, _, _, _, _⟩ := HX.out.below hb1
    have HB1 := Lib.hid (HB.out.trans (hb1.mono HB.out.size))
    clear hb1
    go_wp2_with (go_at_call 77; refine (within_q _ _ _ _).mono ?_; rintro e w2 ⟨rfl, rfl⟩)
    go_ret
    exact ⟨rfl, HB1.out⟩
theorem meet_ways (a b : Cl) : (hasC a (max a.minW b.minW) (max a.minE b.minE) = false ∧ meetC a b = false) ∨ (hasC a (max a.minW b.minW) (max a.minE b.minE) = true ∧ hasC b (max a.minW b.minW) (max a.minE b.minE) = meetC a b) := by
  unfold meetC
  cases hasC a (max a.minW b.minW) (max a.minE b.minE) <;> simp
set_option maxRecDepth 100000 in
set_option maxHeartbeats 800000 in
theorem meetS (a b : Cl) (w : World) (ha : ClFit a) (hb : ClFit b) : Calls Try.prog 64 #[clV a, clV b] w (BoolC (meetC a b) w) := by
  have hW : (if a.minW < b.minW then b.minW else a.minW) = max a.minW b.minW := by split <;> omega
  have hE : (if a.minE < b.minE then b.minE else a.minE) = max a.minE b.minE := by split <;> omega
  have C1 := Lib.hid (fun w => has_q a (max a.minW b.minW) (max a.minE b.minE) w ha.f0)
  have C2 := Lib.hid (fun w => has_q b (max a.minW b.minW) (max a.minE b.minE) w hb.f0)
  have HX := Lib.hid ((ClBox.new w a 51).alloc (.cells #[.string b.name, .int .i64 b.minW, .int .i64 b.maxW, .int .i64 b.minE, .int .i64 b.maxE] 51))
  have HY := Lib.hid (ClBox.new_at (w := w.alloc (.cells #[.string a.name, .int .i64 a.minW, .int .i64 a.maxW, .int .i64 a.minE, .int .i64 a.maxE] 51)) (n := w.heap.size + 1) (by simp) b 51)
  have HB := Lib.hid ((box_below w (.cells #[.string a.name, .int .i64 a.minW, .int .i64 a.maxW, .int .i64 a.minE, .int .i64 a.maxE] 51)).alloc (by simp) (.cells #[.string b.name, .int .i64 b.minW, .int .i64 b.maxW, .int .i64 b.minE, .int .i64 b.maxE] 51))
  have hw := meet_ways a b
  clear ha hb
  unfold clV at *
  go_enter Try.func64, Try.ntmps64
  go_upto_region 1 with fail
  generalize (w.alloc (.cells #[.string a.name, .int .i64 a.minW, .int .i64 a.maxW, .int .i64 a.minE, .int .i64 a.maxE] 51)).alloc (.cells #[.string b.name, .int .i64 b.minW, .int .i64 b.maxW, .int .i64 b.minE, .int .i64 b.maxE] 51) = w0 at *
  obtain ⟨x, x0, x1, x2, x3, x4, _, _, _, _, _⟩ := HX.out
  obtain ⟨y, y0, y1, y2, y3, y4, _, _, _, _, _⟩ := HY.out
  generalize hmW : max a.minW b.minW = W at *
  generalize hmE : max a.minE b.minE = E at *
  go_region

  clear hW hE hmW hmE
  rcases hw with ⟨h1, h2⟩ | ⟨h1, h2⟩
  · rw [h1] at C1
    have H2 := Lib.hid h2
    clear h1 h2 C2
    go_wp2_with fail
    refine (C1.out _).mono ?_
    rintro e w3 ⟨rfl, hb3⟩
    have HB3 := Lib.hid (HB.out.drew.trans (hb3.mono HB.out.size))
    clear hb3
    go_wp2_with fail
    go_ret
    exact ⟨by rw [H2.out]; rfl, HB3.out⟩
  · rw [h1] at C1
    rw [h2] at C2
    clear h1 h2
    go_wp2_with fail
    refine (C1.out _).mono ?_
    rintro e w3 ⟨rfl, hb3⟩
    obtain ⟨z, z0, z1, z2, z3, z4, _, _, _, _, _⟩ := (HY.out.drewN 1).below hb3
    have HB3 := Lib.hid (HB.out.drew.trans (hb3.mono HB.out.size))
    clear hb3 C1
    go_wp2_with fail
    refine (C2.out _).mono ?_
    rintro e w4 ⟨rfl, hb4⟩
    have HB4 := Lib.hid (HB3.out.trans (hb4.mono HB3.out.size))
    clear hb4
    go_wp2_with fail
    go_ret
    exact ⟨rfl, HB4.out⟩
end Go.Proofs.Ytophhiejggnaeaa.QueWalk
namespace Go.Proofs.Ytophhiejggnaeaa.QueWalk
open Go.RowKit Go.Proofs.Ytophhiejggnaeaa.JobPlain Go.Proofs.Ytophhiejggnaeaa.ApiPlain Go.Proofs.Ytophhiejggnaeaa.QuePlain Go.Proofs.Ytophhiejggnaeaa.Mem Go.Proofs.Ytophhiejggnaeaa.ApiMem Go.Proofs.Ytophhiejggnaeaa.QueRef
theorem below_thenQ {w w1 w2 : World} (h : Below w.heap.size w w1) (h2 : Below w1.heap.size w1 w2) : Below w.heap.size w w2 := h.trans (h2.mono h.size)
/-- A function value's calls tell which classes have a width and a length, in every world behind w. -/
def TellsC (g : Nat) (cb : Array Value) (wd e : Int) (w : World) : Prop := ∀ (W : World) (c : Cl), ClFit c → Below w.heap.size w W → Calls Try.prog g (#[clV c] ++ cb) W (BoolC (hasC c wd e) W)
set_option maxRecDepth 100000 in
set_option maxHeartbeats 1600000 in
theorem index_c (g : Nat) (cb : Array Value) (wd e : Int) (l : List Cl) (v : Value) (w : World) (eg : ∀ args w, (callFunc g args).run Try.prog w = .ok (.enter g args) w) (hp : TellsC g cb wd e w) (hv : clL.Is l w v) (hs : Short l) (hl : l.length ≤ 100000) :
    Calls Try.prog 65 #[v, .func (.func g) #[] cb] w (IntC (ofC l wd e) w) := by
  obtain ⟨A, c, rfl, hn, hA⟩ := cls_open hv
  have HA := Lib.hid hA
  have HS := Lib.hid hs
  have HP := Lib.hid hp
  clear hA hv hs hp
  unfold ofC
  go_enter Try.func65, Try.ntmps65
  go_wp2_with fail
  go_loopw [8] (fun i wr => ∃ k : Nat, i = .int .i64 k ∧ k ≤ l.length ∧ Hid (ofFrom l wd e 0 = ofFrom l wd e k ∧ Below w.heap.size w wr)) (fun i _ => l.length - (intOf i).toNat)
  case atStart => exact ⟨0, rfl, Nat.zero_le _, rfl, Below.refl _ _⟩
  case round =>
    obtain ⟨k, rfl, hk, HL⟩ := hrel
    obtain ⟨ho, hbl⟩ := HL.out
    have HBL := Lib.hid hbl
    by_cases hlt : k < l.length
    · obtain ⟨ad, rfl, ⟨p, p0, p1, p2, p3, p4⟩⟩ := cls_nth HA.out hbl hlt
      have CM := Lib.hid (HP.out wr (nthC l k) (HS.out.fit hlt) hbl)
      have HYES := Lib.hid (fun h => ho.trans (of_yes hlt h))
      have HNX := Lib.hid (fun h => ho.trans (of_next hlt h))
      have hlt2 : (k : Int) < (l.length : Int) := by omega
      have i0 : (0 : Int) ≤ (k : Int) := Int.natCast_nonneg _
      clear ho hbl HL
      unfold clV at CM
      generalize nthC l k = x at *
      cases hb : hasC x wd e with
      | true =>
        rw [hb] at CM
        have HR := Lib.hid (HYES.out hb)
        clear hb HYES HNX
        go_wp2_with (go_at_fn g; refine CM.out.mono ?_; rintro e1 w1 ⟨rfl, hb1⟩)
        go_ret
        exact ⟨ret_i HR.out.symm, below_thenQ HBL.out hb1⟩
      | false =>
        rw [hb] at CM
        have HR := Lib.hid (HNX.out hb)
        clear hb HYES HNX
        go_wp2_with (go_at_fn g; refine CM.out.mono ?_; rintro e1 w1 ⟨rfl, hb1⟩)
        exact ⟨⟨k + 1, by go_num, by omega, HR.out, below_thenQ HBL.out hb1⟩, by simp [intOf] <;> omega⟩
    · have HR := Lib.hid (ho.trans (of_end (by omega)))
      clear ho hbl HL
      go_wp2_with fail
      go_ret
      exact ⟨ret_i HR.out.symm, HBL.out⟩
set_option maxHeartbeats 1600000 in
theorem place_fn (n m : Nat) (wd e : Int) (c : Cl) (W : World) (hc : ClFit c) (hn : n < W.heap.size) (hm : m < W.heap.size) (h1 : W.cell? ⟨n, 0, none⟩ = some (.int .i64 wd)) (h2 : W.cell? ⟨m, 0, none⟩ = some (.int .i64 e)) :
    Calls Try.prog 66 #[clV c, .pointer (some ⟨n, 0, none⟩), .pointer (some ⟨m, 0, none⟩)] W (BoolC (hasC c wd e) W) := by
  have HX := Lib.hid (ClBox.new W c 51)
  have HB := Lib.hid (box_below W (.cells #[.string c.name, .int .i64 c.minW, .int .i64 c.maxW, .int .i64 c.minE, .int .i64 c.maxE] 51))
  have h3 := (HB.out.cell (p := ⟨n, 0, none⟩) hn).trans h1
  have h4 := (HB.out.cell (p := ⟨m, 0, none⟩) hm).trans h2
  have CH := Lib.hid (fun W => has_q c wd e W hc.f0)
  clear h1 h2
  unfold clV at *
  go_enter Try.func66, Try.ntmps66
  go_upto_region 1 with fail
  generalize W.alloc (.cells #[.string c.name, .int .i64 c.minW, .int .i64 c.maxW, .int .i64 c.minE, .int .i64 c.maxE] 51) = W0 at *
  obtain ⟨x, x0, x1, x2, x3, x4, _, _, _, _, _⟩ := HX.out
  go_wp2_with fail
  refine (CH.out _).mono ?_
  rintro e1 w1 ⟨rfl, hb1⟩
  have HB1 := Lib.hid (HB.out.trans (hb1.mono HB.out.size))
  clear hb1
  go_wp2_with fail
  go_ret
  exact ⟨rfl, HB1.out⟩
set_option maxHeartbeats 1600000 in
theorem place_q (l : List Cl) (wd e : Int) (v : Value) (w : World) (hv : clL.Is l w v) (hs : Short l) (hl : l.length ≤ 100000) : Calls Try.prog 50 #[v, .int .i64 wd, .int .i64 e] w (IntC (ofC l wd e) w) := by
  have eg : ∀ args w, (callFunc 66 args).run Try.prog w = .ok (.enter 66 args) w := enters_of Try.func66 (by kernel_rfl) rfl
  have HB := Lib.hid ((box_below w (.cells #[.int .i64 wd] 3)).alloc (by simp) (.cells #[.int .i64 e] 3))
  have hx := (Raw.alloc w #[.int .i64 wd] 3) 0 (.int .i64 wd) rfl
  have hy := (Raw.alloc (w.alloc (.cells #[.int .i64 wd] 3)) #[.int .i64 e] 3) 0 (.int .i64 e) rfl
  rw [add_flat] at hx hy
  have hx2 : w.heap.size < ((w.alloc (.cells #[.int .i64 wd] 3)).alloc (.cells #[.int .i64 e] 3)).heap.size ∧ ((w.alloc (.cells #[.int .i64 wd] 3)).alloc (.cells #[.int .i64 e] 3)).cell? ⟨w.heap.size, 0, none⟩ = some (.int .i64 wd) :=
    ⟨by simp; omega, ((box_below (w.alloc (.cells #[.int .i64 wd] 3)) (.cells #[.int .i64 e] 3)).cell (p := ⟨w.heap.size, 0, none⟩) hx.1).trans hx.2⟩
  have hs1 : (w.alloc (.cells #[.int .i64 wd] 3)).heap.size = w.heap.size + 1 := by simp
  rw [hs1] at hy
  have HT : TellsC 66 #[.pointer (some ⟨w.heap.size, 0, none⟩), .pointer (some ⟨w.heap.size + 1, 0, none⟩)] wd e ((w.alloc (.cells #[.int .i64 wd] 3)).alloc (.cells #[.int .i64 e] 3)) := fun W c hc hW =>
    place_fn w.heap.size (w.heap.size + 1) wd e c W hc (Nat.lt_of_lt_of_le hx2.1 hW.size) (Nat.lt_of_lt_of_le hy.1 hW.size) ((hW.cell (p := ⟨w.heap.size, 0, none⟩) hx2.1).trans hx2.2) ((hW.cell (p := ⟨w.heap.size + 1, 0, none⟩) hy.1).trans hy.2)
  have C := Lib.hid (index_c 66 #[.pointer (some ⟨w.heap.size, 0, none⟩), .pointer (some ⟨w.heap.size + 1, 0, none⟩)] wd e l v _ eg HT (hv.below HB.out) hs (by omega))
  have hmf : ∀ (fn : Fn) (first cap : Array Value) (w : World), (Instr.makeFunc fn first cap).run Try.prog w = .ok (.func fn first cap) w := fun _ _ _ _ => rfl
  obtain ⟨A, c, rfl, _⟩ := cls_open hv
  clear HT hx hy hx2 hv eg hs hs1
  go_enter Try.func50, Try.ntmps50
  go_upto_region 1 with fail
  generalize (w.alloc (.cells #[.int .i64 wd] 3)).alloc (.cells #[.int .i64 e] 3) = W0 at *
  go_wp2_with fail
  refine C.out.mono ?_
  rintro e1 w1 ⟨rfl, hb1⟩
  have HB1 := Lib.hid (below_thenQ HB.out hb1)
  clear hb1
  go_wp2_with fail
  go_ret
  exact ⟨rfl, HB1.out⟩
set_option maxRecDepth 100000 in
set_option maxHeartbeats 1600000 in
theorem checkS (l : List Cl) (v : Value) (w : World) (hv : clL.Is l w v) (hs : Short l) (hl : l.length ≤ 1000) : Calls Try.prog 49 #[v] w (IntC (checkC l) w) := by
  obtain ⟨A, c, rfl, hn, hA⟩ := cls_open hv
  have HA := Lib.hid hA
  have HS := Lib.hid hs
  clear hA hv hs
  by_cases h20 : 20 < l.length
  · have HR := Lib.hid (checkC_full h20)
    have d1 : decide ((20 : Int) < (l.length : Int)) = true := decide_eq_true (by omega)
    go_enter Try.func49, Try.ntmps49
    go_wp2_with fail
    go_ret
    exact ⟨ret_i HR.out.symm, Below.refl _ _⟩
  · have d1 : decide ((20 : Int) < (l.length : Int)) = false := decide_eq_false (by omega)
    have HARG := Lib.hid (fun h => checkC_arg h20 h)
    have HTHERE := Lib.hid (fun h h2 => checkC_there h20 h h2)
    have HOK := Lib.hid (fun h h2 => checkC_ok h20 h h2)
    go_enter Try.func49, Try.ntmps49
    go_wp2_with fail
    go_loopw [14] (fun i wr => ∃ k : Nat, i = .int .i64 k ∧ k ≤ l.length ∧ Hid (MayTo l k ∧ Below w.heap.size w wr)) (fun i _ => l.length - (intOf i).toNat)
    case atStart => exact ⟨0, rfl, Nat.zero_le _, fun i hi => absurd hi (Nat.not_lt_zero _), Below.refl _ _⟩
    case round =>
      obtain ⟨k, rfl, hk, HL⟩ := hrel
      obtain ⟨hm, hbl⟩ := HL.out
      have HBL := Lib.hid hbl
      by_cases hlt : k < l.length
      · obtain ⟨ad, rfl, ⟨p, p0, p1, p2, p3, p4⟩⟩ := cls_nth HA.out hbl hlt
        have CM := Lib.hid (fun W => mayBe_q (nthC l k) W (HS.out.at hlt))
        have HNO := Lib.hid (fun h => HARG.out (all_no hlt h))
        have HNX := Lib.hid (fun h => hm.next h)
        have hlt2 : (k : Int) < (l.length : Int) := by omega
        have i0 : (0 : Int) ≤ (k : Int) := Int.natCast_nonneg _
        have HX := Lib.hid (ClBox.new wr (nthC l k) 51)
        have HB0 := Lib.hid (box_below wr (.cells #[.string (nthC l k).name, .int .i64 (nthC l k).minW, .int .i64 (nthC l k).maxW, .int .i64 (nthC l k).minE, .int .i64 (nthC l k).maxE] 51))
        clear hm hbl HL HTHERE HOK
        unfold clV at CM
        generalize nthC l k = x at *
        go_upto_region 6 with fail
        generalize wr.alloc (.cells #[.string x.name, .int .i64 x.minW, .int .i64 x.maxW, .int .i64 x.minE, .int .i64 x.maxE] 51) = W0 at *
        obtain ⟨y, y0, y1, y2, y3, y4, _, _, _, _, _⟩ := HX.out
        cases hb : mayC x with
        | false =>
          rw [hb] at CM
          have HR := Lib.hid (HNO.out hb)
          clear hb HNO HNX
          go_wp2_with fail
          refine (CM.out _).mono ?_
          rintro e w1 ⟨rfl, hb1⟩
          have HB1 := Lib.hid (below_thenQ (below_thenQ HBL.out HB0.out) hb1)
          clear hb1
          go_wp2_with fail
          go_ret
          exact ⟨ret_i HR.out.symm, HB1.out⟩
        | true =>
          rw [hb] at CM
          have HR := Lib.hid (HNX.out hb)
          clear hb HNO HNX
          go_wp2_with fail
          refine (CM.out _).mono ?_
          rintro e w1 ⟨rfl, hb1⟩
          have HB1 := Lib.hid (below_thenQ (below_thenQ HBL.out HB0.out) hb1)
          clear hb1
          go_wp2_with fail
          exact ⟨⟨k + 1, by go_num, by omega, HR.out, HB1.out⟩, by simp [intOf] <;> omega⟩
      · have HALL := Lib.hid (hm.all (by omega))
        clear hm hbl HL HARG
        go_wp2_with fail
        go_loopw [24] (fun i wq => ∃ k : Nat, i = .int .i64 k ∧ k ≤ l.length ∧ Hid (apartTo l k = true ∧ Below w.heap.size w wq)) (fun i _ => l.length - (intOf i).toNat)
        case atStart => exact ⟨0, rfl, Nat.zero_le _, rfl, HBL.out⟩
        case round =>
          obtain ⟨wo, rfl⟩ : ∃ wo : World, wo = wr := ⟨_, rfl⟩
          obtain ⟨k, rfl, hk, HL⟩ := hrel
          obtain ⟨hap, hbl⟩ := HL.out
          have HAP := Lib.hid hap
          have HBQ := Lib.hid hbl
          by_cases hlt : k < l.length
          · obtain ⟨ad, rfl, ⟨p, p0, p1, p2, p3, p4⟩⟩ := cls_nth HA.out hbl hlt
            have hlt2 : (k : Int) < (l.length : Int) := by omega
            have hkc : (k : Int) ≤ (c : Int) := by omega
            have i0 : (0 : Int) ≤ (k : Int) := Int.natCast_nonneg _
            obtain ⟨x, hx⟩ : ∃ x, x = nthC l k := ⟨_, rfl⟩
            rw [← hx] at p0 p1 p2 p3 p4
            have HXE := Lib.hid hx
            clear hx
            have HX := Lib.hid (ClBox.new wo x 51)
            have HB0 := Lib.hid (box_below wo (.cells #[.string x.name, .int .i64 x.minW, .int .i64 x.maxW, .int .i64 x.minE, .int .i64 x.maxE] 51))
            clear hap hbl HL
            go_upto_region 12 with fail
            generalize wo.alloc (.cells #[.string x.name, .int .i64 x.minW, .int .i64 x.maxW, .int .i64 x.minE, .int .i64 x.maxE] 51) = W0 at *
            clear p p0 p1 p2 p3 p4
            go_wp2_with fail
            go_loopw [33] (fun j wi => ∃ m : Nat, j = .int .i64 m ∧ m ≤ k ∧ Hid (apartAt l k m = true ∧ Below W0.heap.size W0 wi)) (fun j _ => k - (intOf j).toNat)
            case atStart => exact ⟨0, rfl, Nat.zero_le _, rfl, Below.refl _ _⟩
            case round =>
              obtain ⟨m, rfl, hmk, HI⟩ := hrel
              obtain ⟨haa, hbi⟩ := HI.out
              have HAA := Lib.hid haa
              have HBI := Lib.hid hbi
              have HBW := Lib.hid (below_thenQ (below_thenQ HBQ.out HB0.out) hbi)
              by_cases hml : m < k
              · obtain ⟨ad2, ead, ⟨q, q0, q1, q2, q3, q4⟩⟩ := cls_nth HA.out HBW.out (show m < l.length by omega)
                injection ead with ead
                subst ead
                have hx := HXE.out
                subst hx
                have CM := Lib.hid (fun W => meetS (nthC l k) (nthC l m) W (HS.out.fit hlt) (HS.out.fit (show m < l.length by omega)))
                have hways := pair_ways l (i := k) (k := m)
                have HNO := Lib.hid (fun h => HTHERE.out HALL.out (apartTo_no hlt (apartAt_no hml h)))
                have HNX : Hid (clash (nthC l k) (nthC l m) = false → apartAt l k (m + 1) = true) := fun h => by rw [apartAt_next, HAA.out, h]; rfl
                have i2 : (0 : Int) ≤ (m : Int) := Int.natCast_nonneg _
                have i4 : (m : Int) < (k : Int) := by omega
                have HY := Lib.hid (HX.out.below HBI.out)
                obtain ⟨y, hy⟩ : ∃ y, y = nthC l m := ⟨_, rfl⟩
                rw [← hy] at q0 q1 q2 q3 q4 CM hways HNO HNX
                clear hy HXE
                generalize nthC l k = x at *
                have HZ := Lib.hid (ClBox.new wr y 51)
                have HY2 := Lib.hid (HY.out.alloc (.cells #[.string y.name, .int .i64 y.minW, .int .i64 y.maxW, .int .i64 y.minE, .int .i64 y.maxE] 51))
                have HB2 := Lib.hid (box_below wr (.cells #[.string y.name, .int .i64 y.minW, .int .i64 y.maxW, .int .i64 y.minE, .int .i64 y.maxE] 51))
                clear haa hbi HI HAA
                unfold clV at CM
                go_upto_region 15 with fail
                generalize wr.alloc (.cells #[.string y.name, .int .i64 y.minW, .int .i64 y.maxW, .int .i64 y.minE, .int .i64 y.maxE] 51) = W1 at *
                clear q q0 q1 q2 q3 q4
                obtain ⟨u, u0, u1, u2, u3, u4, _, _, _, _, _⟩ := HY2.out
                obtain ⟨z, z0, z1, z2, z3, z4, _, _, _, _, _⟩ := HZ.out
                rcases hways with ⟨h1, HR⟩ | ⟨h1, h2, HR⟩ | ⟨h1, h2, HR⟩
                · have HE := Lib.hid (HNO.out HR.out)
                  clear HNO HNX HR CM
                  go_wp2_with fail
                  go_ret
                  exact ⟨ret_i HE.out.symm, below_thenQ HBW.out HB2.out⟩
                · have HE := Lib.hid (HNO.out HR.out)
                  rw [h2] at CM
                  clear HNO HNX HR h2
                  go_wp2_with fail
                  refine (CM.out _).mono ?_
                  rintro e w1 ⟨rfl, hb1⟩
                  have HB3 := Lib.hid (below_thenQ (below_thenQ HBW.out HB2.out) hb1)
                  clear hb1
                  go_wp2_with fail
                  go_ret
                  exact ⟨ret_i HE.out.symm, HB3.out⟩
                · have HE := Lib.hid (HNX.out HR.out)
                  rw [h2] at CM
                  clear HNO HNX HR h2
                  go_wp2_with fail
                  refine (CM.out _).mono ?_
                  rintro e w1 ⟨rfl, hb1⟩
                  have HB3 := Lib.hid (below_thenQ (below_thenQ HBI.out HB2.out) hb1)
                  clear hb1
                  go_wp2_with fail
                  exact ⟨⟨m + 1, by go_num, by omega, HE.out, HB3.out⟩, by simp [intOf] <;> omega⟩
              · obtain rfl : m = k := by omega
                have HN : Hid (apartTo l (m + 1) = true) := by show _ = _; rw [apartTo_next, HAP.out, HAA.out]; rfl
                clear haa hbi HI
                go_wp2_with fail
                exact ⟨⟨m + 1, by go_num, by omega, HN.out, HBW.out⟩, by simp [intOf] <;> omega⟩
          · obtain rfl : k = l.length := by omega
            have HE := Lib.hid (HOK.out HALL.out hap)
            clear hap hbl HL
            go_wp2_with fail
            go_ret
            exact ⟨ret_i HE.out.symm, HBQ.out⟩
end Go.Proofs.Ytophhiejggnaeaa.QueWalk
namespace Go.Proofs.Ytophhiejggnaeaa.QueWalk
open Go.RowKit Go.Proofs.Ytophhiejggnaeaa.JobPlain Go.Proofs.Ytophhiejggnaeaa.ApiPlain Go.Proofs.Ytophhiejggnaeaa.QuePlain Go.Proofs.Ytophhiejggnaeaa.Mem Go.Proofs.Ytophhiejggnaeaa.JobMem Go.Proofs.Ytophhiejggnaeaa.ApiMem Go.Proofs.Ytophhiejggnaeaa.OrdMem Go.Proofs.Ytophhiejggnaeaa.QueRef
theorem lists_t : ElemT Try.prog 62 23 1 24 := ElemT.mk_ (.slice none 0 0) Try.underlying62 (by kernel_rfl) rfl (by decide) (by decide)
theorem lists_info : (Try.prog.info? 23).map (fun i => (i.zero, i.size, i.bytes)) = some (some (.slice none 0 0), 1, 24) := by kernel_rfl
theorem made_nils (n : Nat) : (madeCells #[Value.slice none 0 0] n).toList = (List.range n).map fun _ => Value.slice none 0 0 := by
  unfold madeCells
  apply List.ext_getElem
  · simp
  · intro i h1 h2
    simp [Nat.mod_one]
theorem map_upd (V : Nat → Value) (n i : Nat) (x : Value) : ((List.range n).map V).set i x = (List.range n).map (upd V i x) := by
  apply List.ext_getElem
  · simp
  · intro q h1 h2
    simp only [List.getElem_set, List.getElem_map, List.getElem_range, upd]
    by_cases h : i = q
    · simp [h]
    · simp [h, Ne.symm h]
/-- The jobs of the first k that are in the class at a place; at the place behind all: in none. -/
def partJ (l : List Cl) (js : List Jb) (k i : Nat) : List Jb := pickJ l (if i = l.length then -1 else (i : Int)) (js.take k)
theorem part_zero (l : List Cl) (js : List Jb) (i : Nat) : partJ l js 0 i = [] := by simp [partJ, pickJ]
theorem part_next {l : List Cl} {js : List Jb} {k i : Nat} (hk : k < js.length) (h : ofC l js[k].width js[k].est = if i = l.length then -1 else (i : Int)) (q : Nat) : partJ l js (k + 1) q = partJ l js k q ++ if q = i then [js[k]] else [] := by
  unfold partJ
  rw [pick_take l _ js hk, h]
  congr 1
  by_cases hq : q = i
  · subst hq; simp
  · rw [if_neg (fun h => ?_), if_neg hq]
    split at h <;> split at h <;> omega
def SplitLoop (l : List Cl) (js : List Jb) (w : World) (g k : Nat) (V : Nat → Value) (wr : World) : Prop :=
  OwnN 23 1 w.heap.size wr (.slice (some ⟨g, 0, none⟩) l.length l.length) l.length ((List.range l.length).map V) ∧
  Fam 45 9 w.heap.size wr (l.length + 1) V (fun i => (partJ l js k i).length) (fun i => jvals (partJ l js k i)) ∧
  (∀ i, i < l.length + 1 → (V i).ownBlock ≠ some g) ∧ Below w.heap.size w wr
theorem split_fam {l : List Cl} {js : List Jb} {k i base : Nat} {W w' : World} {V : Nat → Value} {v' : Value} (hk : k < js.length) (hi : i < l.length + 1) (h : ofC l js[k].width js[k].est = if i = l.length then -1 else (i : Int))
    (F : Fam 45 9 base W (l.length + 1) V (fun i => (partJ l js k i).length) (fun i => jvals (partJ l js k i)))
    (ho : OwnN 45 9 base w' v' ((partJ l js k i).length + 1) (jvals (partJ l js k i) ++ jobC js[k])) (hg : W.grownBy w' (V i).ownBlock) (hs : NextTo W (V i) v') :
    Fam 45 9 base w' (l.length + 1) (upd V i v') (fun i => (partJ l js (k + 1) i).length) (fun i => jvals (partJ l js (k + 1) i)) := by
  refine (F.push hi ho hg hs).to (fun q _ => ?_) (fun q _ => ?_)
  · rw [part_next hk h q]
    by_cases hq : q = i
    · subst hq; simp [upd]
    · simp [upd, hq]
  · show _ = jvals (partJ l js (k + 1) q)
    rw [part_next hk h q]
    by_cases hq : q = i
    · subst hq; rw [upd_at, if_pos rfl, jvals_append]; simp [jvals]
    · rw [upd_off _ _ hq, if_neg hq, List.append_nil]
theorem own_jobs {base n : Nat} {w : World} {v : Value} {l : List Jb} {e : TypeId} (h : OwnN e 9 base w v n (jvals l)) (hn : n = l.length) : JobsIs l w v := by
  subst hn
  rcases h.form with ⟨h1, h2, _⟩ | ⟨g, c, hv, _, _, hn, _, hr, _⟩
  · exact .inl ⟨h1, List.eq_nil_of_length_eq_zero h2⟩
  · exact .inr ⟨_, c, hv, hr, hn⟩
theorem split_done {l : List Cl} {js : List Jb} {w wr : World} {g : Nat} {V : Nat → Value} (h : SplitLoop l js w g js.length V wr) : ListsIs (splitC l js) wr (.slice (some ⟨g, 0, none⟩) l.length l.length) ∧ JobsIs (pickJ l (-1) js) wr (V l.length) := by
  obtain ⟨ho, hf, _, _⟩ := h
  constructor
  · refine .inr ⟨⟨g, 0, none⟩, l.length, (List.range l.length).map V, by rw [split_len], by rw [split_len]; exact Nat.le_refl _, ?_, by rw [split_len]; simp, fun i x u h1 h2 => ?_⟩
    · rcases ho.form with ⟨h, _⟩ | ⟨g2, c2, h, _, _, _, _, h5, _⟩
      · cases h
      · injection h with h
        injection h with h
        injection h with h
        subst h
        exact h5
    · have hi : i < l.length := by
        have := (List.getElem?_eq_some_iff.1 h1).1
        rwa [split_len] at this
      rw [split_at l js hi] at h1
      injection h1 with h1
      have h3 : u = V i := by
        have := (List.getElem?_eq_some_iff.1 h2).2
        simpa using this.symm
      subst h3
      have hx : partJ l js js.length i = x := by rw [← h1, partJ, if_neg (by omega), List.take_length]
      rw [← hx]
      exact own_jobs (hf.own i (by omega)) rfl
  · have hx : partJ l js js.length l.length = pickJ l (-1) js := by rw [partJ, if_pos rfl, List.take_length]
    rw [← hx]
    exact own_jobs (hf.own l.length (by omega)) rfl
theorem split_cell {l : List Cl} {base g i : Nat} {W : World} {V : Nat → Value} (h : OwnN 23 1 base W (.slice (some ⟨g, 0, none⟩) l.length l.length) l.length ((List.range l.length).map V)) (hi : i < l.length) : g < W.heap.size ∧ W.cell? ⟨g, i, none⟩ = some (V i) ∧ W.frozen? ⟨g, i, none⟩ = false := by
  rcases h.form with ⟨h, _⟩ | ⟨g2, c2, h, _, h2, _, _, h5, h6, _⟩
  · cases h
  · injection h with h
    injection h with h
    injection h with h
    subst h
    refine ⟨h2, ?_, h6 i⟩
    have := (h5 i (V i) (by simp [hi])).2
    rwa [show (⟨g, 0, none⟩ : Addr).add i = ⟨g, i, none⟩ from by rw [Addr.add_lit, Nat.zero_add]] at this
theorem grown_cell {W w' : World} {row : Option Nat} (hg : W.grownBy w' row) {b o : Nat} {x : Value} (hb : b < W.heap.size) (hne : some b ≠ row) (h : W.cell? ⟨b, o, none⟩ = some x) : w'.cell? ⟨b, o, none⟩ = some x := (World.cell?_of_block (a := ⟨b, o, none⟩) (hg.block b hb hne)).trans h
theorem grown_frozen {W w' : World} {row : Option Nat} (hg : W.grownBy w' row) {b o : Nat} (hb : b < W.heap.size) (hne : some b ≠ row) (h : W.frozen? ⟨b, o, none⟩ = false) : w'.frozen? ⟨b, o, none⟩ = false := (World.frozen?_of_block (a := ⟨b, o, none⟩) (hg.block b hb hne)).trans h
theorem split_len2 (l : List Cl) (js : List Jb) (k i : Nat) : (partJ l js k i).length ≤ js.length := by
  unfold partJ pickJ
  refine Nat.le_trans (List.length_filter_le _ _) ?_
  rw [List.length_take]; omega
theorem of_ways2 (l : List Cl) (wd e : Int) : (ofC l wd e = -1 ∧ ofC l wd e = -1) ∨ ∃ i : Nat, i < l.length ∧ ofC l wd e = i ∧ ofC l wd e = if i = l.length then -1 else (i : Int) := by
  rcases ofC_cases l wd e with h | ⟨i, hi, h, _⟩
  · exact .inl ⟨h, h⟩
  · exact .inr ⟨i, hi, h, by rw [if_neg (by omega)]; exact h⟩
set_option maxRecDepth 100000 in
set_option maxHeartbeats 1200000 in
theorem splitS (l : List Cl) (js : List Jb) (v u : Value) (w : World) (hv : clL.Is l w v) (hu : JobsIs js w u) (hs : Short l) (hl : l.length ≤ 1000) (hj : js.length ≤ 200) : Calls Try.prog 37 #[v, u] w (SplitSays l js w) := by
  have CC := Lib.hid (checkS l v w hv hs hl)
  have CP : Hid (∀ W wd e, Below w.heap.size w W → Calls Try.prog 50 #[v, .int .i64 wd, .int .i64 e] W (IntC (ofC l wd e) W)) := fun W wd e hW => place_q l wd e v W (hv.below hW) hs (by omega)
  obtain ⟨A, c, rfl, _⟩ := cls_open hv
  obtain ⟨B, d, rfl, hnd, hB⟩ := hu.open_
  have HB := Lib.hid hB
  clear hv hu hs hB
  by_cases hz : checkC l = 0
  · have h1 : (checkC l != 0) = false := by rw [hz]; rfl
    have HZ := Lib.hid hz
    rw [hz] at CC
    obtain ⟨i0, hi0, hz0, hz1, hz2⟩ := info_parts lists_info
    clear hz h1
    go_enter Try.func37, Try.ntmps37
    go_wp2_with fail
    refine CC.out.mono ?_
    rintro e1 w1 ⟨rfl, hb1⟩
    have HB1 := Lib.hid hb1
    clear hb1 CC
    go_wp2_with (at_make; refine wpList_make_full _ rfl _ _ 62 rfl w.heap.size 23 i0 (.slice none 0 0) 1 lists_t.und hi0 hz0 hz1 .i64 .i64 _ _ l.length rfl rfl rfl rfl ?hb2 ?hb3 ?hb4 ?_)
    case hb2 => rw [hz2]; omega
    case hb3 => unfold maxLen; omega
    case hb4 => exact HB1.out.size
    intro w2 ho2 hg2
    rw [made_nils] at ho2
    have HL2 : Hid (SplitLoop l js w w1.heap.size 0 (fun _ => .slice none 0 0) w2) := by
      have hsz := Nat.le_trans HB1.out.size hg2.size
      refine ⟨⟨ho2, hsz⟩, (Fam.nils 45 9 (l.length + 1) hsz).to (fun i _ => by rw [part_zero]; rfl) (fun i _ => by rw [part_zero]; rfl), fun i _ => by simp [Value.ownBlock], below_thenQ HB1.out ⟨hg2.os, hg2.tape, hg2.output, hg2.size, fun i hi => hg2.block i hi (by simp)⟩⟩
    clear ho2 hg2
    generalize w1.heap.size = g at *
    go_wp2_with fail
    go_loopw [23, 9] (fun i r wr => ∃ (k : Nat) (V : Nat → Value), i = .int .i64 k ∧ r = V l.length ∧ k ≤ js.length ∧ Hid (SplitLoop l js w g k V wr)) (fun i _ _ => js.length - (intOf i).toNat)
    case atStart => exact ⟨0, _, rfl, rfl, Nat.zero_le _, HL2.out⟩
    case round =>
      obtain ⟨k, V, rfl, rfl, hk, HL⟩ := hrel
      by_cases hlt : k < js.length
      · obtain ⟨hso, hsf, hsg, hsb⟩ := HL.out
        obtain ⟨ad, rfl, hat⟩ := HB.out k hlt
        obtain ⟨y, y0, y1, y2, y3, y4, y5, y6, y7, y8⟩ := hat.below hsb
        have hlt2 : (k : Int) < (js.length : Int) := by omega
        have i0' : (0 : Int) ≤ (k : Int) := Int.natCast_nonneg _
        have hways := of_ways2 l js[k].width js[k].est
        obtain ⟨j, hj2⟩ : ∃ j, j = js[k] := ⟨_, rfl⟩
        rw [← hj2] at y0 y1 y2 y3 y4 y5 y6 y7 y8 hways
        have HJE := Lib.hid hj2
        have HX := Lib.hid (JobBox.new wr j 45)
        have HB0 := Lib.hid (box_below wr (.cells #[.int .i64 j.id, .string j.user, .int .i64 j.width, .int .i64 j.est, .int .i64 j.prio, .int .i64 j.sub, .int .i64 j.state, .int .i64 j.start, .int .i64 j.fin] 45))
        have HSO := Lib.hid hso
        have HSF := Lib.hid hsf
        have HSG := Lib.hid hsg
        have HBL := Lib.hid hsb
        clear hat hso hsf hsg hsb HL hj2
        go_upto_region 9 with fail
        generalize wr.alloc (.cells #[.int .i64 j.id, .string j.user, .int .i64 j.width, .int .i64 j.est, .int .i64 j.prio, .int .i64 j.sub, .int .i64 j.state, .int .i64 j.start, .int .i64 j.fin] 45) = W0 at *
        clear y y0 y1 y2 y3 y4 y5 y6 y7 y8
        have CJ := Lib.hid (CP.out W0 j.width j.est (below_thenQ HBL.out HB0.out))
        obtain ⟨x, x0, x1, x2, x3, x4, x5, x6, x7, x8, _, _, _, _, _, _, _, _, _⟩ := HX.out
        rcases hways with ⟨h1, h2⟩ | ⟨i, hi, h1, h2⟩
        · rw [h1] at CJ
          have H2 := Lib.hid h2
          clear h1 h2
          go_wp2_with fail
          refine CJ.out.mono ?_
          rintro e1 w3 ⟨rfl, hb3⟩
          have HB3 := Lib.hid (below_thenQ HB0.out hb3)
          obtain ⟨z, z0, z1, z2, z3, z4, z5, z6, z7, z8, _, _, _, _, _, _, _, _, _⟩ := HX.out.below hb3
          clear hb3 CJ x x0 x1 x2 x3 x4 x5 x6 x7 x8
          have HF3 := Lib.hid ((HSF.out.below HB3.out).alloc (.cells #[.int .i64 j.id, .string j.user, .int .i64 j.width, .int .i64 j.est, .int .i64 j.prio, .int .i64 j.sub, .int .i64 j.state, .int .i64 j.start, .int .i64 j.fin] 45))
          have HL3 := Lib.hid (split_len2 l js k l.length)
          go_wp2_with (at_builtin; refine push_sep jobs_t rfl (.tmp 45) (.tmp 47) rfl w.heap.size _ _ _ rfl (HF3.out.own l.length (by omega)) ⟨w3.heap.size, 0, none⟩ 1 1 (jobC j) rfl rfl ?ha1 (jobC_cell j) ?ha2 ?_)
          case ha1 => exact Raw.alloc w3 _ _
          case ha2 => have := HL3.out; omega
          intro A4 c4 w4 ho4 hb4 hg4 hs4
          have HN : Hid (SplitLoop l js w g (k + 1) (upd V l.length (.slice A4 ((partJ l js k l.length).length + 1) c4)) w4) := by
            have hj2 := HJE.out
            subst hj2
            have hlt3 : g < (w3.alloc (.cells #[.int .i64 js[k].id, .string js[k].user, .int .i64 js[k].width, .int .i64 js[k].est, .int .i64 js[k].prio, .int .i64 js[k].sub, .int .i64 js[k].state, .int .i64 js[k].start, .int .i64 js[k].fin] 45)).heap.size := ((HSO.out.below HB3.out).alloc _ |>.block_lt rfl).2
            have hgb : ∀ q, q < l.length + 1 → (V q).ownBlock ≠ some g := HSG.out
            refine ⟨?_, split_fam hlt (by omega) (by rw [if_pos rfl]; exact H2.out) HF3.out ho4 hg4 hs4, HF3.out.free (by omega) hgb hlt3 hs4, ?_⟩
            · have hw := ((HSO.out.below HB3.out).alloc (.cells #[.int .i64 js[k].id, .string js[k].user, .int .i64 js[k].width, .int .i64 js[k].est, .int .i64 js[k].prio, .int .i64 js[k].sub, .int .i64 js[k].state, .int .i64 js[k].start, .int .i64 js[k].fin] 45)).kept hg4 (.inr fun h => hgb l.length (by omega) h.symm)
              refine hw.cast rfl (List.map_congr_left fun q hq => ?_)
              rw [upd_off]
              have := List.mem_range.1 hq
              omega
            · exact ((below_thenQ HBL.out HB3.out).alloc (below_thenQ HBL.out HB3.out).size _).trans hb4
          clear ho4 hb4 hg4 hs4 HF3 HSO HSF HSG z z0 z1 z2 z3 z4 z5 z6 z7 z8
          go_wp2_with fail
          exact ⟨⟨k + 1, upd V l.length (.slice A4 ((partJ l js k l.length).length + 1) c4), by go_num, (upd_at V l.length _).symm, by omega, HN.out⟩, by simp [intOf] <;> omega⟩
        · rw [h1] at CJ
          have H2 := Lib.hid h2
          have i1 : (0 : Int) ≤ (i : Int) := Int.natCast_nonneg _
          have i2 : (i : Int) < (l.length : Int) := by omega
          clear h1 h2
          go_upto_region 11 with fail
          refine CJ.out.mono ?_
          rintro e1 w3 ⟨rfl, hb3⟩
          have HB3 := Lib.hid (below_thenQ HB0.out hb3)
          obtain ⟨z, z0, z1, z2, z3, z4, z5, z6, z7, z8, _, _, _, _, _, _, _, _, _⟩ := HX.out.below hb3
          clear hb3 CJ x x0 x1 x2 x3 x4 x5 x6 x7 x8
          have HF3 := Lib.hid ((HSF.out.below HB3.out).alloc (.cells #[.int .i64 j.id, .string j.user, .int .i64 j.width, .int .i64 j.est, .int .i64 j.prio, .int .i64 j.sub, .int .i64 j.state, .int .i64 j.start, .int .i64 j.fin] 45))
          have HO3 := Lib.hid ((HSO.out.below HB3.out).alloc (.cells #[.int .i64 j.id, .string j.user, .int .i64 j.width, .int .i64 j.est, .int .i64 j.prio, .int .i64 j.sub, .int .i64 j.state, .int .i64 j.start, .int .i64 j.fin] 45))
          have HL3 := Lib.hid (split_len2 l js k i)
          obtain ⟨hgl, hgc, hgf⟩ := split_cell (HSO.out.below HB3.out) hi
          have HGL := Lib.hid hgl
          have hgf2 : ((w3.alloc (.cells #[.int .i64 j.id, .string j.user, .int .i64 j.width, .int .i64 j.est, .int .i64 j.prio, .int .i64 j.sub, .int .i64 j.state, .int .i64 j.start, .int .i64 j.fin] 45)).drew).frozen? ⟨g, i, none⟩ = false := ((box_below w3 (.cells #[.int .i64 j.id, .string j.user, .int .i64 j.width, .int .i64 j.est, .int .i64 j.prio, .int .i64 j.sub, .int .i64 j.state, .int .i64 j.start, .int .i64 j.fin] 45)).frozen (p := ⟨g, i, none⟩) hgl).trans hgf
          have hgc2 : ((w3.alloc (.cells #[.int .i64 j.id, .string j.user, .int .i64 j.width, .int .i64 j.est, .int .i64 j.prio, .int .i64 j.sub, .int .i64 j.state, .int .i64 j.start, .int .i64 j.fin] 45)).drew).cell? ⟨g, i, none⟩ = some (V i) := ((box_below w3 (.cells #[.int .i64 j.id, .string j.user, .int .i64 j.width, .int .i64 j.est, .int .i64 j.prio, .int .i64 j.sub, .int .i64 j.state, .int .i64 j.start, .int .i64 j.fin] 45)).cell (p := ⟨g, i, none⟩) hgl).trans hgc
          have HNG : Hid (some g ≠ (V i).ownBlock) := fun h => HSG.out i (by omega) h.symm
          have HNW : Hid (some wr.heap.size ≠ (V i).ownBlock) := fun h => Nat.lt_irrefl _ ((HSF.out.own i (by omega)).block_lt h.symm).2
          have HLW : Hid (wr.heap.size < (w3.alloc (.cells #[.int .i64 j.id, .string j.user, .int .i64 j.width, .int .i64 j.est, .int .i64 j.prio, .int .i64 j.sub, .int .i64 j.state, .int .i64 j.start, .int .i64 j.fin] 45)).drew.heap.size) := Nat.lt_of_lt_of_le z (Nat.le_trans (Nat.le_succ _) (by simp [World.drew]))
          have HLG : Hid (g < (w3.alloc (.cells #[.int .i64 j.id, .string j.user, .int .i64 j.width, .int .i64 j.est, .int .i64 j.prio, .int .i64 j.sub, .int .i64 j.state, .int .i64 j.start, .int .i64 j.fin] 45)).drew.heap.size) := Nat.lt_of_lt_of_le hgl (Nat.le_trans (Nat.le_succ _) (by simp [World.drew]))
          go_upto_region 11 with fail
          go_region_law (refine step_sep jobs_t (by rfl) (.tmp 40) (.tmp 42) (by rfl) w.heap.size _ _ _ (by rfl) (HF3.out.own i (by omega)) ⟨w3.heap.size, 0, none⟩ 1 1 (jobC j) (by rfl) (by rfl) (Raw.alloc w3 _ _) (jobC_cell j) (by have := HL3.out; omega) ?_; intro A4 c4 w4 ho4 hb4 hg4 hs4; have hc4 := grown_cell hg4 HLG.out HNG.out hgc2; have hf4 := grown_frozen hg4 HLG.out HNG.out hgf2)
          all_goals
            have HN : Hid (SplitLoop l js w g (k + 1) (upd V i (.slice A4 ((partJ l js k i).length + 1) c4)) (w4.setCell ⟨g, i, none⟩ (.slice A4 ((partJ l js k i).length + 1) c4))) := by
              have hj2 := HJE.out
              subst hj2
              have hgb : ∀ q, q < l.length + 1 → (V q).ownBlock ≠ some g := HSG.out
              have hfr := (HF3.out.drewN 1).free (by omega : i < l.length + 1) hgb HLG.out hs4
              refine ⟨?_, (split_fam hlt (by omega) H2.out (HF3.out.drewN 1) ho4 hg4 hs4).set hfr _, hfr, ?_⟩
              · have hw := ((HO3.out.drewN 1).kept hg4 (.inr fun h => hgb i (by omega) h.symm)).set i (.slice A4 ((partJ l js k i).length + 1) c4)
                rw [map_upd] at hw
                exact hw
              · exact (((below_thenQ HBL.out HB3.out).alloc (below_thenQ HBL.out HB3.out).size _).drew.trans hb4).setCell (p := ⟨g, i, none⟩) (HSO.out.block_lt rfl).1 _
            clear ho4 hb4 hg4 hs4 hc4 hf4 hgc2 hgf2 hgl hgc hgf HNG HNW HLW HLG HF3 HO3 HSO HSF HSG z z0 z1 z2 z3 z4 z5 z6 z7 z8
            go_wp2_with fail
            exact ⟨⟨k + 1, upd V i _, by go_num, (upd_off V _ (by omega)).symm, by omega, HN.out⟩, by simp [intOf] <;> omega⟩
      · obtain rfl : k = js.length := by omega
        obtain ⟨hd1, hd2⟩ := split_done HL.out
        have HB5 := Lib.hid HL.out.2.2.2
        have HD1 := Lib.hid hd1
        have HD2 := Lib.hid hd2
        clear HL hd1 hd2
        go_wp2_with fail
        go_ret3
        exact ⟨_, _, _, _, by rw [HZ.out]; rfl, HD1.out, HD2.out, .inl ⟨HZ.out, rfl, rfl⟩, HB5.out⟩
  · have h1 : (checkC l != 0) = true := by simpa using hz
    have HZ := Lib.hid hz
    have HE : Hid (checkC l = checkC l) := rfl
    clear hz CP
    obtain ⟨x, hx⟩ : ∃ x, x = checkC l := ⟨_, rfl⟩
    have HXE := Lib.hid hx
    rw [← hx] at h1 CC
    clear hx HE
    go_enter Try.func37, Try.ntmps37
    go_wp2_with fail
    refine CC.out.mono ?_
    rintro e1 w1 ⟨rfl, hb1⟩
    go_wp2_with fail
    go_ret3
    exact ⟨_, _, [], [], by rw [HXE.out]; rfl, .inl ⟨rfl, rfl⟩, .inl ⟨rfl, rfl⟩, .inr ⟨HZ.out, rfl, rfl⟩, hb1⟩
end Go.Proofs.Ytophhiejggnaeaa.QueWalk
namespace Go.Proofs.Ytophhiejggnaeaa.PasWalk
open Go.RowKit Go.Proofs.Ytophhiejggnaeaa.SpanPlain Go.Proofs.Ytophhiejggnaeaa.StepPlain Go.Proofs.Ytophhiejggnaeaa.GapPlain Go.Proofs.Ytophhiejggnaeaa.JobPlain Go.Proofs.Ytophhiejggnaeaa.OrdPlain Go.Proofs.Ytophhiejggnaeaa.ApiPlain Go.Proofs.Ytophhiejggnaeaa.ShaPlain Go.Proofs.Ytophhiejggnaeaa.SlaPlain Go.Proofs.Ytophhiejggnaeaa.TogPlain Go.Proofs.Ytophhiejggnaeaa.PasPlain Go.Proofs.Ytophhiejggnaeaa.QuePlain Go.Proofs.Ytophhiejggnaeaa.MulPlain Go.Proofs.Ytophhiejggnaeaa.Mem Go.Proofs.Ytophhiejggnaeaa.SpanMem Go.Proofs.Ytophhiejggnaeaa.StepMem Go.Proofs.Ytophhiejggnaeaa.JobMem Go.Proofs.Ytophhiejggnaeaa.OrdMem Go.Proofs.Ytophhiejggnaeaa.ApiMem Go.Proofs.Ytophhiejggnaeaa.SpanRef Go.Proofs.Ytophhiejggnaeaa.StepRef Go.Proofs.Ytophhiejggnaeaa.GapRef Go.Proofs.Ytophhiejggnaeaa.ShaRef Go.Proofs.Ytophhiejggnaeaa.SlaRef Go.Proofs.Ytophhiejggnaeaa.IdSet
open Go.Proofs.Ytophhiejggnaeaa.StepWalk (NewAt)
open Go.Proofs.Ytophhiejggnaeaa.ShaWalk (LaySaysN ShSays)
open Go.Proofs.Ytophhiejggnaeaa.MulWalk (boolL)
open Go.Proofs.Ytophhiejggnaeaa.MulRef (c21 c21_first c21_second c21_third c21_ok)
open Go.Proofs.Ytophhiejggnaeaa.QueWalk (ListsIs splitS)
open Go.Proofs.Ytophhiejggnaeaa.QueRef (Short)
open Go.Proofs.Ytophhiejggnaeaa.OrdTake (unlikeTo)
def ClassSays (code : Int) (ll : List (List Jb)) (w : World) (e : Ending) (w' : World) : Prop :=
  ∃ v L, e = .returned (.tuple #[v, .int .i64 code]) ∧ ListsIs L w' v ∧ ((code = 0 ∧ L = ll) ∨ (code ≠ 0 ∧ L = [])) ∧ Below w.heap.size w w'
theorem c16_le {s : List Sp} {now : Int} {n : Nat} (h : c16 s now n = 0) : chkB s = true ∧ head s ≤ now ∧ (0 ≤ now ∧ now ≤ 1125899906842624) ∧ n ≤ 100 := by
  unfold c16 at h
  split at h
  · rename_i g
    have := ((chk_iff s).1 g.1).lo
    split at h
    · omega
    · exact ⟨g.1, g.2.1, ⟨by omega, g.2.2⟩, by omega⟩
  · omega
set_option maxRecDepth 100000 in
theorem class_m (s : List Sp) (now : Int) (js : List Jb) (cl : List Cl) (v u q : Value) (w : World) (hv : SpansIs s w v) (hu : JobsIs js w u) (hq : clL.Is cl w q) (hi : IdsFit js) (hs : s.length ≤ 1000) (hc : Short cl) (hcl : cl.length ≤ 1000) :
    Calls Try.prog 20 #[v, .int .i64 now, u, q] w (ClassSays (c21 s now js cl) (splitC cl js) w) := by
  have CE := Lib.hid (check_e s now js v u w hv hs hu)
  by_cases h0 : c16 s now js.length = 0
  · have hj := (c16_le h0).2.2.2
    have CS := Lib.hid (fun W (hb : Below w.heap.size w W) => splitS cl js q u W (hq.below hb) (hu.below hb) hc hcl (by omega))
    have CU := Lib.hid (fun W (hb : Below w.heap.size w W) => unlike_m js u W (hu.below hb) hi hj)
    obtain ⟨B, d, rfl, _, _⟩ := hu.open_
    obtain ⟨A, c, rfl, _⟩ := hv.open_
    obtain ⟨A4, c4, rfl, _, _⟩ := cls_open hq
    rw [h0] at CE
    by_cases h1 : checkC cl = 0
    · cases h2 : unlikeTo js js.length with
      | true =>
        rw [c21_ok h0 h1 h2]
        have H2 := Lib.hid h2
        have H1 := Lib.hid h1
        clear h0 h1 h2 hv hu hq
        go_enter Try.func20, Try.ntmps20
        go_wp2_with fail
        refine CE.out.mono ?_
        rintro e w1 ⟨rfl, hb1⟩
        have HB1 := Lib.hid hb1
        clear CE hb1
        go_wp2_with fail
        refine (CS.out w1 HB1.out).mono ?_
        rintro e w2 ⟨v2, u2, ll, r, rfl, hl, _, hway, hb2⟩
        obtain ⟨_, rfl, rfl⟩ : checkC cl = 0 ∧ ll = splitC cl js ∧ r = pickJ cl (-1) js := hway.resolve_right fun q => q.1 H1.out
        rw [H1.out]
        have HB2 := Lib.hid (thenS HB1.out hb2)
        have CU2 := Lib.hid (CU.out w2 HB2.out)
        rw [H2.out] at CU2
        have HL2 := Lib.hid hl
        obtain ⟨A5, c5, hv5, _⟩ := hl.open_
        subst hv5
        clear hl hb2 CS CU HB1 hway
        go_wp2_with fail
        refine CU2.out.mono ?_
        rintro e w3 ⟨rfl, hb3⟩
        have HL3 := Lib.hid (HL2.out.below hb3)
        have HB3 := Lib.hid (thenS HB2.out hb3)
        clear hb3 CU2 HL2 HB2
        go_wp2_with fail
        go_ret2
        exact ⟨_, _, rfl, HL3.out, .inl ⟨rfl, rfl⟩, HB3.out⟩
      | false =>
        rw [c21_third h0 h1 h2]
        have H2 := Lib.hid h2
        have H1 := Lib.hid h1
        clear h0 h1 h2 hv hu hq
        go_enter Try.func20, Try.ntmps20
        go_wp2_with fail
        refine CE.out.mono ?_
        rintro e w1 ⟨rfl, hb1⟩
        have HB1 := Lib.hid hb1
        clear CE hb1
        go_wp2_with fail
        refine (CS.out w1 HB1.out).mono ?_
        rintro e w2 ⟨v2, u2, ll, r, rfl, hl, _, hway, hb2⟩
        rw [H1.out]
        have HB2 := Lib.hid (thenS HB1.out hb2)
        have CU2 := Lib.hid (CU.out w2 HB2.out)
        rw [H2.out] at CU2
        obtain ⟨A5, c5, hv5, _⟩ := hl.open_
        subst hv5
        clear hl hb2 CS CU HB1 hway
        go_wp2_with fail
        refine CU2.out.mono ?_
        rintro e w3 ⟨rfl, hb3⟩
        have HB3 := Lib.hid (thenS HB2.out hb3)
        clear hb3 CU2 HB2
        go_wp2_with fail
        go_ret2
        exact ⟨_, [], rfl, .inl ⟨rfl, rfl⟩, .inr ⟨by decide, rfl⟩, HB3.out⟩
    · rw [c21_second h0 h1]
      have hne : (checkC cl != 0) = true := by simpa using h1
      have H1 := Lib.hid h1
      clear h0 h1 hv hu hq CU
      go_enter Try.func20, Try.ntmps20
      go_wp2_with fail
      refine CE.out.mono ?_
      rintro e w1 ⟨rfl, hb1⟩
      have HB1 := Lib.hid hb1
      clear CE hb1
      go_wp2_with fail
      refine (CS.out w1 HB1.out).mono ?_
      rintro e w2 ⟨v2, u2, ll, r, rfl, hl, _, hway, hb2⟩
      have HB2 := Lib.hid (thenS HB1.out hb2)
      obtain ⟨A5, c5, hv5, _⟩ := hl.open_
      subst hv5
      clear hl hb2 CS HB1 hway
      generalize checkC cl = K at *
      go_wp2_with fail
      go_ret2
      exact ⟨_, [], rfl, .inl ⟨rfl, rfl⟩, .inr ⟨H1.out, rfl⟩, HB2.out⟩
  · rw [c21_first h0]
    have hne : (c16 s now js.length != 0) = true := by simpa using h0
    have H0 := Lib.hid h0
    obtain ⟨B, d, rfl, _, _⟩ := hu.open_
    obtain ⟨A, c, rfl, _⟩ := hv.open_
    obtain ⟨A4, c4, rfl, _, _⟩ := cls_open hq
    clear h0 hv hu hq
    generalize c16 s now js.length = K at *
    go_enter Try.func20, Try.ntmps20
    go_wp2_with fail
    refine CE.out.mono ?_
    rintro e w1 ⟨rfl, hb1⟩
    have HB1 := Lib.hid hb1
    clear CE hb1
    go_wp2_with fail
    go_ret2
    exact ⟨_, [], rfl, .inl ⟨rfl, rfl⟩, .inr ⟨H0.out, rfl⟩, HB1.out⟩
structure MulAt (x : Pas) (w : World) (sv av bv : Value) (wr : World) : Prop where
  st : SpansIs x.s wr sv
  rows : OwnN 3 1 (w.heap.size + 1) wr av x.st.length (ivals x.st)
  prms : OwnN 41 3 (w.heap.size + 1) wr bv x.P.length (prmL.vals x.P)
  apart : ∀ b, av.ownBlock = some b → bv.ownBlock ≠ some b
  offA : OffN x.s.length sv av
  offB : OffN x.s.length sv bv
  away : ∀ a m c, sv = .slice (some a) m c → 0 < x.s.length → a.block ≠ w.heap.size
  box : Box2 wr w.heap.size av bv
  bel : Below w.heap.size w wr
section
variable {x y z : Pas} {w : World} {sv av bv : Value} {wr w' : World}
theorem MulAt.below (h : MulAt x w sv av bv wr) (hb : Below wr.heap.size wr w') : MulAt x w sv av bv w' :=
  ⟨h.st.below hb, h.rows.below hb, h.prms.below hb, h.apart, h.offA, h.offB, h.away, h.box.below hb, thenS h.bel hb⟩
theorem MulAt.alloc (h : MulAt x w sv av bv wr) (o : Obj) : MulAt x w sv av bv (wr.alloc o) := h.below ((Below.refl _ _).alloc (Nat.le_refl _) o)
theorem MulAt.begin {s : List Sp} (hs : SpansIs s w sv) : MulAt (Pas.new s) w sv (.slice none 0 0) (.slice none 0 0) (w.alloc (.cells #[.slice none 0 0, .slice none 0 0] 37)) :=
  ⟨hs.below (box_s w _), OwnN.nil (by simp), OwnN.nil (by simp), (fun b q => by cases q), (fun a m c e hp q => by cases q), (fun a m c e hp q => by cases q), (fun a m c e hp => by have := spans_lt hs a m c e hp; omega), Box2.new w _ _ _, box_s w _⟩
/-- Steps that a call told: those that there were, or new ones. -/
theorem MulAt.steps {r : List Sp} {v : Value} (h : MulAt x w sv av bv wr) (hb : Below wr.heap.size wr w') (hs : SpansIs r w' v) (hn : v = sv ∨ NewAt wr.heap.size v) : MulAt ⟨r, x.Q, x.R, x.O⟩ w v av bv w' := by
  have hlt := h.box.lt
  rcases hn with rfl | hn
  · obtain ⟨A1, c1, e1, _⟩ := hs.open_
    obtain ⟨A2, c2, e2, _⟩ := h.st.open_
    rw [e1] at e2
    injection e2 with _ e3 _
    have hl : ∀ {P : Nat → Prop}, P x.s.length → P r.length := fun {P} h => by rw [e3]; exact h
    exact ⟨hs, h.rows.below hb, h.prms.below hb, h.apart, hl (P := fun n => OffN n v av) h.offA, hl (P := fun n => OffN n v bv) h.offB, (fun a m c e hp => h.away a m c e (by rw [← e3]; exact hp)), h.box.below hb, thenS h.bel hb⟩
  · exact ⟨hs, h.rows.below hb, h.prms.below hb, h.apart, OffN.fresh hn h.rows, OffN.fresh hn h.prms, (fun a m c e _ => by have := hn a m c e; omega), h.box.below hb, thenS h.bel hb⟩
theorem MulAt.starts {row : Value} {w4 : World} {Y : List Jb} {O : List (Int × Jb)} (h : MulAt x w sv av bv wr) (ho : OwnN 3 1 (w.heap.size + 1) w4 row (x.st.length + Y.length) (ivals x.st ++ ivals (Y.map (·.id))))
    (hb : Below (w.heap.size + 1) wr w4) (hg : wr.grownBy w4 av.ownBlock) (hs : NextTo wr av row) : MulAt ⟨x.s, x.Q, x.R ++ Y, O⟩ w sv row bv (w4.setCell ⟨w.heap.size, 0, none⟩ row) := by
  have hlt := h.box.lt
  have hst : (⟨x.s, x.Q, x.R ++ Y, O⟩ : Pas).st = x.st ++ Y.map (·.id) := by simp [Pas.st]
  have hbv : ∀ b, bv.ownBlock = some b → w.heap.size + 1 ≤ b ∧ b < wr.heap.size := fun b q => h.prms.block_lt q
  have hv4 : row.ownBlock ≠ some w.heap.size := fun q => by have := (ho.block_lt q).1; omega
  have hva : av.ownBlock ≠ some w.heap.size := fun q => by have := (h.rows.block_lt q).1; omega
  have hvb : bv.ownBlock ≠ some w.heap.size := fun q => by have := (hbv _ q).1; omega
  refine ⟨?_, ?_, ?_, ?_, OffN.next h.offA (spans_lt h.st) hs, h.offB, h.away, (h.box.grown hg hva).set0 _, (h.bel.trans (hb.mono (by omega))).setCell (p := ⟨w.heap.size, 0, none⟩) (Nat.le_refl _) _⟩
  · refine spans_kept h.st (by simp [World.setCell]; exact hg.size) fun a m c e hp => ?_
    refine (Below.heap_setCell _ ⟨w.heap.size, 0, none⟩ _ a.block (h.away a m c e hp)).trans (hg.block a.block (spans_lt h.st a m c e hp) (fun q => h.offA a m c e hp q.symm))
  · refine (ho.set_apart (p := ⟨w.heap.size, 0, none⟩) hv4 _).cast ?_ ?_
    · rw [hst, List.length_append, List.length_map]
    · rw [hst, ivals_append]
  · refine (h.prms.kept hg ?_).set_apart (p := ⟨w.heap.size, 0, none⟩) hvb _
    cases q : bv.ownBlock with
    | none => exact .inl rfl
    | some b => exact .inr fun e => h.apart b e.symm q
  · intro b e q
    rcases hs with hs | ⟨b2, hs, hb2⟩
    · exact h.apart b (hs ▸ e) q
    · rw [hs] at e
      injection e with e
      have := (hbv b q).2
      omega
theorem MulAt.proms {row : Value} {w4 : World} {Y : List (Int × Jb)} {O : List (Int × Jb)} (h : MulAt x w sv av bv wr) (ho : OwnN 41 3 (w.heap.size + 1) w4 row (x.P.length + Y.length) (prmL.vals x.P ++ prmL.vals (Y.map prmQ)))
    (hb : Below (w.heap.size + 1) wr w4) (hg : wr.grownBy w4 bv.ownBlock) (hs : NextTo wr bv row) : MulAt ⟨x.s, x.Q ++ Y, x.R, O⟩ w sv av row (w4.setCell ⟨w.heap.size, 1, none⟩ row) := by
  have hlt := h.box.lt
  have hst : (⟨x.s, x.Q ++ Y, x.R, O⟩ : Pas).P = x.P ++ Y.map prmQ := by simp [Pas.P]
  have ha : ∀ b, av.ownBlock = some b → w.heap.size + 1 ≤ b ∧ b < wr.heap.size := fun b q => h.rows.block_lt q
  have hv4 : row.ownBlock ≠ some w.heap.size := fun q => by have := (ho.block_lt q).1; omega
  have hva : av.ownBlock ≠ some w.heap.size := fun q => by have := (ha _ q).1; omega
  have hvb : bv.ownBlock ≠ some w.heap.size := fun q => by have := (h.prms.block_lt q).1; omega
  refine ⟨?_, ?_, ?_, ?_, h.offA, OffN.next h.offB (spans_lt h.st) hs, h.away, (h.box.grown hg hvb).set1 _, (h.bel.trans (hb.mono (by omega))).setCell (p := ⟨w.heap.size, 1, none⟩) (Nat.le_refl _) _⟩
  · refine spans_kept h.st (by simp [World.setCell]; exact hg.size) fun a m c e hp => ?_
    refine (Below.heap_setCell _ ⟨w.heap.size, 1, none⟩ _ a.block (h.away a m c e hp)).trans (hg.block a.block (spans_lt h.st a m c e hp) (fun q => h.offB a m c e hp q.symm))
  · refine (h.rows.kept hg ?_).set_apart (p := ⟨w.heap.size, 1, none⟩) hva _
    cases q : av.ownBlock with
    | none => exact .inl rfl
    | some b => exact .inr fun e => h.apart b q e.symm
  · refine (ho.set_apart (p := ⟨w.heap.size, 1, none⟩) hv4 _).cast ?_ ?_
    · rw [hst, List.length_append, List.length_map]
    · rw [hst]; simp [Lay.vals]
  · intro b e q
    rcases hs with hs | ⟨b2, hs, hb2⟩
    · exact h.apart b e (hs ▸ q)
    · rw [hs] at q
      injection q with q
      have := (ha b e).2
      omega
end
end Go.Proofs.Ytophhiejggnaeaa.PasWalk
