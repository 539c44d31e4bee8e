/-
  What the theorem uses of the texts below it.
-/
import Derived.Below
import Derived.Laws.OwnMore
import Derived.Deep.Draws
import Derived.Deep.OwnRows
import Derived.Lib.Hide
import Derived.OwnWalk
import Derived.Deep.QuietTactic
import Derived.BigQuiet
import Derived.Lib.SliceRun
import Derived.Test.YtlfmkipcgcilaaaRows
import Derived.WalkKit
import Derived.WalkSpells
import Derived.WalkLawsBesides
import Derived.Laws.StructEq
import Derived.LoopTactic
import Derived.Deep.CutBlock
import Derived.Deep.DeepCutAuto
import Derived.Deep.RegionHeld3
import Derived.ArgAppend
import Derived.Deep.RegionLaw
import Derived.Lib.AppendIntMem
import Derived.StillTailTactics
import Derived.Shelf.Abstract
import Derived.Lib.OwnBridge
import Derived.Shelf.Small.Bits
import Derived.Shelf.Small.Wraps
import Derived.Shelf.Strconv.Itoa0
import Derived.Test.YtlfmkipcgcilaaaProg
import Derived.Test.YtlfmkipcgcilaaaPa4
namespace Go.Proofs.Ytlfmkipcgcilaaa.SlaRef
open Go.RowKit Go.Proofs.Ytlfmkipcgcilaaa.SpanPlain Go.Proofs.Ytlfmkipcgcilaaa.StepPlain Go.Proofs.Ytlfmkipcgcilaaa.GapPlain Go.Proofs.Ytlfmkipcgcilaaa.JobPlain Go.Proofs.Ytlfmkipcgcilaaa.OrdPlain Go.Proofs.Ytlfmkipcgcilaaa.ApiPlain Go.Proofs.Ytlfmkipcgcilaaa.ShaPlain Go.Proofs.Ytlfmkipcgcilaaa.SlaPlain Go.Proofs.Ytlfmkipcgcilaaa.Mem Go.Proofs.Ytlfmkipcgcilaaa.SpanMem Go.Proofs.Ytlfmkipcgcilaaa.StepMem Go.Proofs.Ytlfmkipcgcilaaa.JobMem Go.Proofs.Ytlfmkipcgcilaaa.OrdMem Go.Proofs.Ytlfmkipcgcilaaa.ApiMem Go.Proofs.Ytlfmkipcgcilaaa.SpanRef Go.Proofs.Ytlfmkipcgcilaaa.StepRef Go.Proofs.Ytlfmkipcgcilaaa.GapRef Go.Proofs.Ytlfmkipcgcilaaa.ShaRef
theorem job_found {js : List Jb} {id : Int} (h : 0 ≤ findL js id) : ∃ k : Nat, ∃ hk : k < js.length, findL js id = k ∧ jobOf js id = js[k] := by
  have hcase : findL js id = -1 ∨ ∃ k : Nat, k < js.length ∧ findL js id = k := by
    rw [show findL js id = (match js.findIdx? (fun j => j.id == id) with | some i => (i : Int) | none => -1) from rfl]
    cases hf : js.findIdx? (fun j => j.id == id) with
    | none => exact .inl rfl
    | some k =>
      rw [List.findIdx?_eq_some_iff_getElem] at hf
      obtain ⟨hk, _⟩ := hf
      exact .inr ⟨k, hk, rfl⟩
  rcases hcase with h1 | ⟨k, hk, h1⟩
  · omega
  · refine ⟨k, hk, h1, ?_⟩
    unfold jobOf
    rw [h1]
    simp [List.getD, hk]
/-- Which promises' numbers stay numbers. -/
def Mild (l : List Prm) : Prop := ∀ p ∈ l, 0 ≤ p.at_ ∧ 0 ≤ p.slack ∧ p.at_ + p.slack ≤ 4503599627370496
/-- All that are promised are among the jobs. -/
def Known (js : List Jb) (l : List Prm) : Prop := ∀ p ∈ l, 0 ≤ findL js p.id
/-- What is tried so far, and what is left to try. -/
def TryTo (js : List Jb) (id : Int) (s1 : List Sp) (l : List Prm) (k : Nat) (r : List Prm) (t : List Sp) : Prop := tryRest js id s1 l = (tryRest js id t (l.drop k)).map fun r' => r ++ r'
theorem TryTo.start (js : List Jb) (id : Int) (s1 : List Sp) (l : List Prm) : TryTo js id s1 l 0 [] s1 := by
  unfold TryTo
  simp
theorem TryTo.done {js : List Jb} {id : Int} {s1 t : List Sp} {l r : List Prm} (h : TryTo js id s1 l l.length r t) : tryRest js id s1 l = some r := by
  unfold TryTo at h
  rw [List.drop_length] at h
  rw [h]
  simp [tryRest]
theorem drop_p {l : List Prm} {k : Nat} (hk : k < l.length) : l.drop k = nthP l k :: l.drop (k + 1) := by rw [nthP_at hk, List.drop_eq_getElem_cons hk]
theorem TryTo.skip {js : List Jb} {id : Int} {s1 t : List Sp} {l r : List Prm} {k : Nat} (h : TryTo js id s1 l k r t) (hk : k < l.length) (he : ((nthP l k).id == id) = true) : TryTo js id s1 l (k + 1) r t := by
  unfold TryTo at h ⊢
  rw [h, drop_p hk, tryRest, if_pos (by simpa using he)]
theorem TryTo.fail {js : List Jb} {id : Int} {s1 t : List Sp} {l r : List Prm} {k : Nat} (h : TryTo js id s1 l k r t) (hk : k < l.length) (he : ((nthP l k).id == id) = false)
    (hf : fitF t (nthP l k).at_ (jobOf js (nthP l k).id) < 0 ∨ (nthP l k).at_ + (nthP l k).slack < fitF t (nthP l k).at_ (jobOf js (nthP l k).id)) : tryRest js id s1 l = none := by
  unfold TryTo at h
  rw [h, drop_p hk, tryRest, if_neg (by simpa using he), if_pos hf]
  rfl
theorem TryTo.next {js : List Jb} {id : Int} {s1 t : List Sp} {l r : List Prm} {k : Nat} (h : TryTo js id s1 l k r t) (hk : k < l.length) (he : ((nthP l k).id == id) = false)
    (hf : ¬ (fitF t (nthP l k).at_ (jobOf js (nthP l k).id) < 0 ∨ (nthP l k).at_ + (nthP l k).slack < fitF t (nthP l k).at_ (jobOf js (nthP l k).id))) :
    TryTo js id s1 l (k + 1) (r ++ [⟨(nthP l k).id, fitF t (nthP l k).at_ (jobOf js (nthP l k).id), (nthP l k).at_ + (nthP l k).slack - fitF t (nthP l k).at_ (jobOf js (nthP l k).id)⟩]) (layL t (fitF t (nthP l k).at_ (jobOf js (nthP l k).id)) (jobOf js (nthP l k).id)) := by
  unfold TryTo at h ⊢
  rw [h, drop_p hk, tryRest, if_neg (by simpa using he), if_neg hf, Option.map_map]
  congr 1
  funext r'
  simp
def NewV (w : World) (v : Value) : Prop := ∀ a m c, v = .slice (some a) m c → w.heap.size ≤ a.block
def TryTells (s : List Sp) (now : Int) (js : List Jb) (l : List Prm) (id : Int) (w : World) (e : Ending) (w' : World) : Prop :=
  ∃ v b, e = .returned (.tuple #[v, .bool b]) ∧ ((∃ r, tryP s now js l id = some r ∧ b = true ∧ prmL.Is r w' v) ∨ (tryP s now js l id = none ∧ b = false ∧ v = .slice none 0 0)) ∧ Below w.heap.size w w' ∧ NewV w v
def TryLoop (js : List Jb) (id : Int) (s1 : List Sp) (l : List Prm) (w2 : World) (k : Nat) (r : List Prm) (t : List Sp) (sv ov : Value) (wr : World) : Prop :=
  TryTo js id s1 l k r t ∧ r.length ≤ k ∧ t.length ≤ s1.length + 3 * k ∧ SpansIs t wr sv ∧ OwnN 48 3 w2.heap.size wr ov r.length (prmL.vals r) ∧ OffRow t sv ov ∧ Below w2.heap.size w2 wr
theorem fit_bad (a at_ sl : Int) : (decide (a < 0) = true ∧ (a < 0 ∨ at_ + sl < a)) ∨ (decide (a < 0) = false ∧ decide (at_ + sl < a) = true ∧ (a < 0 ∨ at_ + sl < a)) ∨ (decide (a < 0) = false ∧ decide (at_ + sl < a) = false ∧ ¬ (a < 0 ∨ at_ + sl < a)) := by
  by_cases h1 : a < 0
  · exact .inl ⟨decide_eq_true h1, .inl h1⟩
  · by_cases h2 : at_ + sl < a
    · exact .inr (.inl ⟨decide_eq_false h1, decide_eq_true h2, .inr h2⟩)
    · exact .inr (.inr ⟨decide_eq_false h1, decide_eq_false h2, by omega⟩)
theorem try_none {s : List Sp} {now : Int} {js : List Jb} {l : List Prm} {id : Int} (h : okG s now (jobOf js id).width (jobOf js id).est = false) : tryP s now js l id = none := by unfold tryP; rw [if_neg (by rw [h]; decide)]
theorem try_rest {s : List Sp} {now : Int} {js : List Jb} {l : List Prm} {id : Int} (h : okG s now (jobOf js id).width (jobOf js id).est = true) : tryP s now js l id = tryRest js id (layL s now (jobOf js id)) l := by unfold tryP; rw [if_pos h]
set_option maxRecDepth 100000 in
set_option maxHeartbeats 1200000 in
theorem try19 (s : List Sp) (now : Int) (js : List Jb) (l : List Prm) (id : Int) (v u x : Value) (w : World) (hv : SpansIs s w v) (hu : JobsIs js w u) (hx : prmL.Is l w x) (hl : s.length + 3 * l.length + 3 ≤ 200) (hj : js.length ≤ 1000)
    (hf : 0 ≤ findL js id) (hkn : Known js l) (hmi : Mild l) : Calls Try.prog 12 #[v, .int .i64 now, u, x, .int .i64 id] w (TryTells s now js l id w) := by
  obtain ⟨k0, hk0, hfl, hjo⟩ := job_found hf
  have HV := Lib.hid hv
  have HU := Lib.hid hu
  have HXL := Lib.hid hx
  have HKN := Lib.hid hkn
  have HMI := Lib.hid hmi
  obtain ⟨A, c, rfl, _⟩ := hv.open_
  obtain ⟨B, d, rfl, _, hB⟩ := hu.open_
  obtain ⟨D, f, rfl, hlf, hD⟩ := prms_open hx
  have HB := Lib.hid hB
  have HD := Lib.hid hD
  obtain ⟨aj, rfl, hat⟩ := hB k0 hk0
  rw [← hjo] at hat
  obtain ⟨y, y0, y1, y2, y3, y4, y5, y6, y7, y8⟩ := hat
  have C8 := Lib.hid (fun W id (hW : Below w.heap.size w W) => OrdRef.find8 js id _ W (HU.out.below hW) (by omega))
  have C80 := Lib.hid (C8.out w id (Below.refl _ _))
  rw [hfl] at C80
  have hk1 : (k0 : Int) < (js.length : Int) := by omega
  have hk2 : (0 : Int) ≤ (k0 : Int) := by omega
  have HTN := Lib.hid (fun h => try_none (s := s) (now := now) (js := js) (l := l) (id := id) h)
  have HTR := Lib.hid (fun h => try_rest (s := s) (now := now) (js := js) (l := l) (id := id) h)
  have HLL := Lib.hid (fun h => layL_len (s := s) (a := now) (j := jobOf js id) h)
  clear hv hu hx hB hD hkn hmi hf hfl hjo
  generalize jobOf js id = j at *
  have HBX := Lib.hid (JobBox.new w j 52)
  have HB0 := Lib.hid (box_s w (.cells #[.int .i64 j.id, .string j.user, .int .i64 j.width, .int .i64 j.est, .int .i64 j.prio, .int .i64 j.sub, .int .i64 j.state, .int .i64 j.start, .int .i64 j.fin] 52))
  have CO := Lib.hid (ok15 s now j _ (w.alloc (.cells #[.int .i64 j.id, .string j.user, .int .i64 j.width, .int .i64 j.est, .int .i64 j.prio, .int .i64 j.sub, .int .i64 j.state, .int .i64 j.start, .int .i64 j.fin] 52)) (HV.out.below HB0.out) (by omega))
  have CL : Hid (okG s now j.width j.est = true → ∀ W, Below w.heap.size w W → Calls Try.prog 26 #[.slice A s.length c, .int .i64 now, jobV j] W (LayTells s now j W)) := fun h W hW => lay15 s now j _ W (HV.out.below hW) (by omega) h
  unfold jobV jobA at *
  cases hok : okG s now j.width j.est with
  | false =>
    have HE := Lib.hid (HTN.out hok)
    rw [hok] at CO
    clear hok CL HTN HTR HLL
    go_enter Try.func12, Try.ntmps12
    go_wp2_with (go_at_call 21; refine C80.out.mono ?_; rintro e w1 ⟨rfl, rfl⟩)
    generalize w.alloc (.cells #[.int .i64 j.id, .string j.user, .int .i64 j.width, .int .i64 j.est, .int .i64 j.prio, .int .i64 j.sub, .int .i64 j.state, .int .i64 j.start, .int .i64 j.fin] 52) = W0 at *
    obtain ⟨z, z0, z1, z2, z3, z4, z5, z6, z7, z8, _, _, _, _, _, _, _, _, _⟩ := HBX.out
    go_wp2_with fail
    refine CO.out.mono ?_
    rintro e w1 ⟨rfl, hb1⟩
    have HB1 := Lib.hid (thenS HB0.out hb1)
    clear hb1
    go_wp2_with fail
    go_ret2
    exact ⟨_, false, rfl, .inr ⟨HE.out, rfl, rfl⟩, HB1.out, fun a m c e => by cases e⟩
  | true =>
    have HT0 := Lib.hid (HTR.out hok)
    have HLN := Lib.hid (HLL.out hok)
    have CL2 := Lib.hid (CL.out hok)
    have HLI : Hid (∀ r, AddIs s (runS now j) (-j.width) r → r = layL s now j) := fun r hr => layL_of hok hr
    rw [hok] at CO
    clear hok CL HTN HTR HLL
    go_enter Try.func12, Try.ntmps12
    go_wp2_with (go_at_call 21; refine C80.out.mono ?_; rintro e w1 ⟨rfl, rfl⟩)
    generalize w.alloc (.cells #[.int .i64 j.id, .string j.user, .int .i64 j.width, .int .i64 j.est, .int .i64 j.prio, .int .i64 j.sub, .int .i64 j.state, .int .i64 j.start, .int .i64 j.fin] 52) = W0 at *
    clear y y0 y1 y2 y3 y4 y5 y6 y7 y8
    obtain ⟨z, z0, z1, z2, z3, z4, z5, z6, z7, z8, _, _, _, _, _, _, _, _, _⟩ := HBX.out
    go_wp2_with fail
    refine CO.out.mono ?_
    rintro e w1 ⟨rfl, hb1⟩
    have HB1 := Lib.hid (thenS HB0.out hb1)
    have HBX1 := Lib.hid (HBX.out.below hb1)
    clear hb1 CO HB0 HBX z z0 z1 z2 z3 z4 z5 z6 z7 z8
    obtain ⟨z, z0, z1, z2, z3, z4, z5, z6, z7, z8, _, _, _, _, _, _, _, _, _⟩ := HBX1.out
    go_wp2_with fail
    refine (CL2.out _ HB1.out).mono ?_
    rintro e w2 ⟨v2, r2, rfl, hs2, hr2, hb2, hn2⟩
    obtain rfl := HLI.out r2 hr2
    have HB2 := Lib.hid (thenS HB1.out hb2)
    generalize layL s now j = s1 at *
    have HL0 : Hid (TryLoop js id s1 l w2 0 [] s1 v2 (.slice (some ⟨w2.heap.size, 0, none⟩) 0 0) (w2.alloc (.cells #[] 48))) :=
      ⟨TryTo.start js id s1 l, Nat.le_refl _, Nat.le_refl _, hs2.below (box_s w2 _), (OwnR.new w2 48 3).toN, fun a m c e hp q => by
        have h1 := spans_lt hs2 a m c e hp
        injection q with q
        have h2 : w2.heap.size = a.block := q
        omega, box_s w2 _⟩
    clear z z0 z1 z2 z3 z4 z5 z6 z7 z8 hs2 hr2 hb2 hn2 HB1 HBX1 HLI CL2 C80
    go_wp2_with fail
    go_loopw [0, 13, 14] (fun sv ov i wr => ∃ (k : Nat) (r : List Prm) (t : List Sp), i = .int .i64 k ∧ k ≤ l.length ∧ Hid (TryLoop js id s1 l w2 k r t sv ov wr)) (fun _ _ i _ => l.length - (intOf i).toNat)
    case atStart => exact ⟨0, [], s1, rfl, Nat.zero_le _, HL0.out⟩
    case round =>
      obtain ⟨k, r, t, rfl, hk, HL⟩ := hrel
      obtain ⟨hto, hrl, htl, hst, hown, hoff, hbl⟩ := HL.out
      have HBW := Lib.hid (thenS HB2.out hbl)
      by_cases hlt : k < l.length
      · obtain ⟨ad, rfl, hat⟩ := HD.out k hlt
        rw [← nthP_at hlt] at hat
        have HAT := Lib.hid (hat.below HBW.out)
        obtain ⟨x, x0, x1, x2⟩ := HAT.out
        have hlt2 : (k : Int) < (l.length : Int) := by omega
        have i0 : (0 : Int) ≤ (k : Int) := Int.natCast_nonneg _
        have hmem : nthP l k ∈ l := by rw [nthP_at hlt]; exact List.getElem_mem hlt
        have hmild := HMI.out _ hmem
        obtain ⟨k1, hk1, hf1, hj1⟩ := job_found (HKN.out _ hmem)
        have HSKIP := Lib.hid (fun h => hto.skip hlt h)
        have HFAIL := Lib.hid (fun h1 h2 => hto.fail hlt h1 h2)
        have HNEXT := Lib.hid (fun h1 h2 => hto.next hlt h1 h2)
        have HRL := Lib.hid hrl
        have hr200 : r.length ≤ 200 := by omega
        have HTL := Lib.hid htl
        have HST := Lib.hid hst
        have HOW := Lib.hid hown
        have HOFF := Lib.hid hoff
        have HBL := Lib.hid hbl
        obtain ⟨At, ct, hsv, _⟩ := hst.open_
        obtain ⟨Ao, co, hov⟩ := hown.shape
        subst hsv
        subst hov
        clear hat HL hto hrl htl hst hown hoff hbl hmem
        generalize nthP l k = p at *
        cases hid2 : (p.id == id) with
        | true =>
          have HN : Hid (TryLoop js id s1 l w2 (k + 1) r t (.slice At t.length ct) (.slice Ao r.length co) wr) := ⟨HSKIP.out hid2, Nat.le_succ_of_le HRL.out, by have := HTL.out; omega, HST.out, HOW.out, HOFF.out, HBL.out⟩
          clear HSKIP HFAIL HNEXT
          go_wp2_with fail
          exact ⟨⟨k + 1, r, t, by go_num, by omega, HN.out⟩, by simp [intOf] <;> omega⟩
        | false =>
          have HFAIL2 := Lib.hid (HFAIL.out hid2)
          have HNEXT2 := Lib.hid (HNEXT.out hid2)
          have C81 := Lib.hid (C8.out wr p.id HBW.out)
          rw [hf1] at C81
          obtain ⟨aq, haq, hatq⟩ := HB.out k1 hk1
          injection haq with haq
          subst haq
          rw [← hj1] at hatq
          have hq1 : (k1 : Int) < (js.length : Int) := by omega
          have hq2 : (0 : Int) ≤ (k1 : Int) := by omega
          have HQ1 := Lib.hid hf1
          obtain ⟨q, q0, q1, q2, q3, q4, q5, q6, q7, q8⟩ := hatq.below HBW.out
          clear HSKIP HFAIL HNEXT hf1 hj1 hatq
          generalize jobOf js p.id = jq at *
          have HBQ := Lib.hid (JobBox.new wr jq 52)
          have HBA := Lib.hid (box_s wr (.cells #[.int .i64 jq.id, .string jq.user, .int .i64 jq.width, .int .i64 jq.est, .int .i64 jq.prio, .int .i64 jq.sub, .int .i64 jq.state, .int .i64 jq.start, .int .i64 jq.fin] 52))
          go_upto_region 11 with (go_at_call 21; refine C81.out.mono ?_; rintro e w1 ⟨rfl, rfl⟩)
          generalize wr.alloc (.cells #[.int .i64 jq.id, .string jq.user, .int .i64 jq.width, .int .i64 jq.est, .int .i64 jq.prio, .int .i64 jq.sub, .int .i64 jq.state, .int .i64 jq.start, .int .i64 jq.fin] 52) = W1 at *
          clear q q0 q1 q2 q3 q4 q5 q6 q7 q8 x x0 x1 x2 C81
          have CM := Lib.hid (may6 t jq.width jq.est _ W1 (HST.out.below HBA.out) (by have := HTL.out; have := HLN.out; omega))
          have CF : Hid (mayG t jq.width jq.est = true → ∀ W, Below W1.heap.size W1 W → Calls Try.prog 28 #[.slice At t.length ct, .int .i64 p.at_, .int .i64 jq.width, .int .i64 jq.est] W (IntA (fitL t p.at_ jq.width jq.est) W)) := fun h W hW => fit6 t p.at_ jq.width jq.est _ W ((HST.out.below HBA.out).below hW) (by have := HTL.out; have := HLN.out; omega) (mayG_iff.1 h).1 (mayG_iff.1 h).2.2.1 (mayG_iff.1 h).2.2.2
          obtain ⟨z, z0, z1, z2, z3, z4, z5, z6, z7, z8, _, _, _, _, _, _, _, _, _⟩ := HBQ.out
          go_wp2_with fail
          refine CM.out.mono ?_
          rintro e w3 ⟨rfl, hb3⟩
          have HB3 := Lib.hid hb3
          clear hb3 CM
          go_upto_if 61 with fail
          go_cut [16] (fun o wc => o = .int .i64 (fitF t p.at_ jq) ∧ Below W1.heap.size W1 wc)
          case first =>
            clear z z0 z1 z2 z3 z4 z5 z6 z7 z8
            cases hm : mayG t jq.width jq.est with
            | false =>
              have HE : Hid (fitF t p.at_ jq = -1) := by show _ = _; unfold fitF; rw [hm]; rfl
              clear hm CF
              go_wp2_with fail
              go_meet
              exact ⟨by rw [HE.out], HB3.out⟩
            | true =>
              have HE : Hid (fitF t p.at_ jq = fitL t p.at_ jq.width jq.est) := by show _ = _; unfold fitF; rw [if_pos hm]
              have CFZ := Lib.hid (fun (z : Lull w3) => CF.out hm z.u (thenS HB3.out z.h))
              have PZ := Lib.hid (fun (z : Lull w3) => HAT.out.below (thenS (thenS HBA.out HB3.out) z.h))
              have JZ := Lib.hid (fun (z : Lull w3) => (HBQ.out.below HB3.out).below z.h)
              have x1 : ∀ z : Lull w3, _ := fun z => (PZ.out z).c1
              have j2 : ∀ z : Lull w3, _ := fun z => (JZ.out z).c2
              have j3 : ∀ z : Lull w3, _ := fun z => (JZ.out z).c3
              clear hm CF
              generalize fitL t p.at_ jq.width jq.est = F at *
              go_upto_region 13 with fail
              refine wp_region_calm (by kernel_rfl) (by kernel_rfl) ?_
              repeat (first | go_big_quiet_step ((go_at_call 28; exact calm_of (CFZ.out _))) | quiet_step ((go_at_call 28; exact calm_of (CFZ.out _))))
              refine wpQuiet_nil ?_
              intro w9 hw9
              have hb9 := lull_below hw9
              have HB9 := Lib.hid (thenS HB3.out hb9)
              clear hw9 hb9 x1 j2 j3
              go_wp2_with fail
              go_meet
              exact ⟨by rw [HE.out], HB9.out⟩
          case rest =>
            obtain ⟨rfl, hbc⟩ := hcut
            have HBC := Lib.hid (thenS HBA.out hbc)
            have HBQ2 := Lib.hid (HBQ.out.below hbc)
            have HWC := Lib.hid (thenS HBW.out HBC.out)
            obtain ⟨m1, m2, m3⟩ := hmild
            have hcases := fit_bad (fitF t p.at_ jq) p.at_ p.slack
            have HFO := Lib.hid (fun h => fitF_ok (s := t) (now := p.at_) (j := jq) h)
            have HLY := Lib.hid (fun a r h hr => layL_of (s := t) (r := r) (a := a) (j := jq) h hr)
            have hw1 : IntKind.i64.wrap (p.at_ + p.slack) = p.at_ + p.slack := by rw [IntKind.wrap_i64]; omega
            obtain ⟨x, x0, x1, x2⟩ := HAT.out.below HBC.out
            clear hbc CF HB3 HBQ HBA z z0 z1 z2 z3 z4 z5 z6 z7 z8
            generalize fitF t p.at_ jq = a at *
            go_upto_region 14 with fail
            rcases hcases with ⟨g1, hb⟩ | ⟨g1, g2, hb⟩ | ⟨g1, g2, hb⟩
            · have HE := Lib.hid (HT0.out.trans (HFAIL2.out hb))
              clear hb HFAIL2 HNEXT2
              go_quiet (fail)
              have HBE := Lib.hid (below_drewN HWC.out nq)
              go_wp2_with fail
              go_ret2
              exact ⟨_, false, rfl, .inr ⟨HE.out, rfl, rfl⟩, HBE.out, fun a m c e => by cases e⟩
            · have HE := Lib.hid (HT0.out.trans (HFAIL2.out hb))
              clear hb HFAIL2 HNEXT2
              go_quiet (fail)
              have HBE := Lib.hid (below_drewN HWC.out nq)
              go_wp2_with fail
              go_ret2
              exact ⟨_, false, rfl, .inr ⟨HE.out, rfl, rfl⟩, HBE.out, fun a m c e => by cases e⟩
            · obtain ⟨hok, ha1, ha2⟩ := HFO.out (by omega)
              have HN2 := Lib.hid (HNEXT2.out hb)
              have HOK := Lib.hid hok
              have hw2 : IntKind.i64.wrap (p.at_ + p.slack - a) = p.at_ + p.slack - a := by rw [IntKind.wrap_i64]; omega
              clear hb hok HFAIL2 HNEXT2
              go_quiet (fail)
              have HBE := Lib.hid (below_drewN HBC.out nq)
              have HBQ3 := Lib.hid (HBQ2.out.drewN nq)
              clear x x0 x1 x2 HBQ2
              generalize wc.drewN nq = W5 at *
              obtain ⟨z, z0, z1, z2, z3, z4, z5, z6, z7, z8, _, _, _, _, _, _, _, _, _⟩ := HBQ3.out
              have CLQ := Lib.hid (lay15 t a jq _ W5 (HST.out.below HBE.out) (by have := HTL.out; have := HLN.out; omega) HOK.out)
              unfold jobV jobA at CLQ
              go_wp2_with fail
              refine CLQ.out.mono ?_
              rintro e w6 ⟨v6, r6, rfl, hs6, hr6, hb6, hn6⟩
              obtain rfl := HLY.out a r6 HOK.out hr6
              have HLL6 := Lib.hid (layL_len HOK.out)
              have HS6 := Lib.hid hs6
              have HN6 := Lib.hid hn6
              have HBF := Lib.hid (thenS HBE.out hb6)
              have HO6 := Lib.hid (((HOW.out.below HBE.out).below hb6).alloc (.cells #[.int .i64 p.id, .int .i64 a, .int .i64 (p.at_ + p.slack - a)] 48))
              have HOF6 : Hid (OffRow (layL t a jq) v6 (.slice Ao r.length co)) := OffRow.fresh hn6 (HOW.out.below HBE.out)
              obtain ⟨x, x0, x1, x2⟩ := HAT.out.below HBF.out
              have HXL2 : Hid ((ad.add (k * 3)).block < w.heap.size) := by
                show _ < _
                exact (HD.out k hlt).elim fun _ h => by obtain ⟨e, h⟩ := h; injection e with e; subst e; exact h.lt
              clear hs6 hr6 hb6 hn6 CLQ HBQ3 z z0 z1 z2 z3 z4 z5 z6 z7 z8
              generalize layL t a jq = t6 at *
              go_upto_region 17 with fail
              go_region_held3 (fun w' => w'.cell? (ad.add (k * 3)) = some (.int .i64 p.id) ∧ w'.cell? ⟨(ad.add (k * 3)).block, (ad.add (k * 3)).off + 1, none⟩ = some (.int .i64 p.at_) ∧ w'.cell? ⟨(ad.add (k * 3)).block, (ad.add (k * 3)).off + 2, none⟩ = some (.int .i64 p.slack))
                (first | go_keep | (go_split_ands; exact ⟨(hb7.cell (p := ad.add (k * 3)) (Nat.lt_of_lt_of_le HXL2.out HB2.out.size)).trans (by assumption), (hb7.cell (p := ⟨(ad.add (k * 3)).block, (ad.add (k * 3)).off + 1, none⟩) (Nat.lt_of_lt_of_le HXL2.out HB2.out.size)).trans (by assumption), (hb7.cell (p := ⟨(ad.add (k * 3)).block, (ad.add (k * 3)).off + 2, none⟩) (Nat.lt_of_lt_of_le HXL2.out HB2.out.size)).trans (by assumption)⟩))
                (first
                  | (refine step_sep prm_t (by rfl) (.tmp 94) (.tmp 115) (by rfl) w2.heap.size _ _ _ (by rfl) HO6.out ⟨w6.heap.size, 0, none⟩ 1 1 (prmC ⟨p.id, a, p.at_ + p.slack - a⟩) (by rfl) (by rfl) (Raw.alloc w6 _ _) (prmC_cell _) (by omega) ?_; intro A7 c7 w7 ho7 hb7 hg7 hs7))
              have HS7 := Lib.hid (HS6.out.below ((box_s w6 (.cells #[.int .i64 p.id, .int .i64 a, .int .i64 (p.at_ + p.slack - a)] 48)).drew))
              have HB8 : Hid (Below w2.heap.size w2 w7) := ((thenS HBL.out HBF.out).alloc (thenS HBL.out HBF.out).size (.cells #[.int .i64 p.id, .int .i64 a, .int .i64 (p.at_ + p.slack - a)] 48)).drew.trans hb7
              have HN8 : Hid (TryLoop js id s1 l w2 (k + 1) (r ++ [⟨p.id, a, p.at_ + p.slack - a⟩]) t6 v6 (.slice A7 (r.length + 1) c7) w7) :=
                ⟨HN2.out, by rw [List.length_append]; have := HRL.out; simp; omega, by have := HTL.out; have := HLL6.out; omega, spans_grown HS7.out hg7 HOF6.out, ho7.cast (by simp) (by rw [prmL.snoc]; rfl), HOF6.out.next HS7.out hs7, HB8.out⟩
              clear ho7 hb7 hg7 hs7 HN2 HS7 HB8 HS6 HO6 HOF6 x x0 x1 x2 hw1 hw2
              go_wp2_with fail
              exact ⟨⟨k + 1, _, t6, by go_num, by omega, HN8.out⟩, by simp [intOf] <;> omega⟩
      · obtain rfl : k = l.length := by omega
        have HE : Hid (tryP s now js l id = some r) := HT0.out.trans hto.done
        have HOW := Lib.hid (Lay.Is.own hown rfl)
        have HNV := Lib.hid (own_new hown HB2.out.size)
        obtain ⟨Ao, co, hov⟩ := hown.shape
        subst hov
        clear HL hto hrl htl hst hown hoff hbl
        go_wp2_with fail
        go_ret2
        exact ⟨_, true, rfl, .inl ⟨r, HE.out, rfl, HOW.out⟩, HBW.out, HNV.out⟩
end Go.Proofs.Ytlfmkipcgcilaaa.SlaRef
namespace Go.Proofs.Ytlfmkipcgcilaaa.SlaRef
open Go.RowKit Go.Proofs.Ytlfmkipcgcilaaa.SpanPlain Go.Proofs.Ytlfmkipcgcilaaa.StepPlain Go.Proofs.Ytlfmkipcgcilaaa.GapPlain Go.Proofs.Ytlfmkipcgcilaaa.JobPlain Go.Proofs.Ytlfmkipcgcilaaa.OrdPlain Go.Proofs.Ytlfmkipcgcilaaa.ApiPlain Go.Proofs.Ytlfmkipcgcilaaa.ShaPlain Go.Proofs.Ytlfmkipcgcilaaa.SlaPlain Go.Proofs.Ytlfmkipcgcilaaa.Mem Go.Proofs.Ytlfmkipcgcilaaa.SpanMem Go.Proofs.Ytlfmkipcgcilaaa.StepMem Go.Proofs.Ytlfmkipcgcilaaa.JobMem Go.Proofs.Ytlfmkipcgcilaaa.OrdMem Go.Proofs.Ytlfmkipcgcilaaa.ApiMem Go.Proofs.Ytlfmkipcgcilaaa.SpanRef Go.Proofs.Ytlfmkipcgcilaaa.StepRef Go.Proofs.Ytlfmkipcgcilaaa.GapRef Go.Proofs.Ytlfmkipcgcilaaa.ShaRef
section
variable {α : Type} {L : Lay α}
theorem is_lt {l : List α} {W : World} {v : Value} (h : L.Is l W v) : ∀ a m c, v = .slice (some a) m c → 0 < l.length → a.block < W.heap.size := fun a m c e hp => by
  rcases h with ⟨h, _⟩ | ⟨a2, c2, e2, hr, _⟩
  · rw [h] at e; cases e
  · rw [e2] at e
    injection e with e
    injection e with e
    subst e
    have := (Lay.at_ hr hp).lt
    rwa [add_block] at this
theorem is_kept {l : List α} {W w' : World} {v : Value} (h : L.Is l W v) (hs : W.heap.size ≤ w'.heap.size) (hk : ∀ a m c, v = .slice (some a) m c → 0 < l.length → w'.heap[a.block]? = W.heap[a.block]?) : L.Is l w' v := by
  have hlt := is_lt h
  rcases h with h | ⟨a, c, e, hr, hn⟩
  · exact .inl h
  · refine .inr ⟨a, c, e, ?_, hn⟩
    intro j u hu
    have hp : 0 < l.length := by
      cases l with
      | nil => simp [Lay.vals] at hu
      | cons x t => simp
    obtain ⟨h1, h2⟩ := hr j u hu
    refine ⟨Nat.lt_of_lt_of_le h1 hs, ?_⟩
    exact (World.cell?_of_block (a := a.add j) (by rw [add_block]; exact hk a _ c e hp)).trans h2
end
theorem spans_kept {l : List Sp} {W w' : World} {v : Value} (h : SpansIs l W v) (hs : W.heap.size ≤ w'.heap.size) (hk : ∀ a m c, v = .slice (some a) m c → 0 < l.length → w'.heap[a.block]? = W.heap[a.block]?) : SpansIs l w' v := by
  rcases h with h | ⟨a, c, e, hr, hn⟩
  · exact .inl h
  · refine .inr ⟨a, c, e, ?_, hn⟩
    intro j u hu
    have hp : 0 < l.length := by
      cases l with
      | nil => simp [svals] at hu
      | cons x t => simp
    obtain ⟨h1, h2⟩ := hr j u hu
    refine ⟨Nat.lt_of_lt_of_le h1 hs, ?_⟩
    exact (World.cell?_of_block (a := a.add j) (by rw [add_block]; exact hk a _ c e hp)).trans h2
/-- What a value points to lies apart from a row of one's own; n: how many elements it has. -/
def OffN (n : Nat) (v ov : Value) : Prop := ∀ a m c, v = .slice (some a) m c → 0 < n → ov.ownBlock ≠ some a.block
/-- .. and from two boxes laid at N. -/
def Away (N n : Nat) (v : Value) : Prop := ∀ a m c, v = .slice (some a) m c → 0 < n → a.block < N ∨ N + 2 ≤ a.block
theorem OffN.next {n : Nat} {W : World} {v ov ov' : Value} (h : OffN n v ov) (hlt : ∀ a m c, v = .slice (some a) m c → 0 < n → a.block < W.heap.size) (hn : NextTo W ov ov') : OffN n v ov' := fun a m c e hp => by
  have hlt := hlt a m c e hp
  rcases hn with hn | ⟨b, hn, hb⟩
  · rw [hn]; exact h a m c e hp
  · rw [hn]; intro q; injection q with q; omega
theorem OffN.fresh {e : TypeId} {k base n i : Nat} {W : World} {v ov : Value} {xs : List Value} (hn : NewV W v) (ho : OwnN e k base W ov n xs) : OffN i v ov := fun a m c e _ q => by
  have h1 := hn a m c e
  have h2 := (ho.block_lt q).2
  omega
theorem Away.fresh {N n : Nat} {W : World} {v : Value} (hn : NewV W v) (hs : N + 2 ≤ W.heap.size) : Away N n v := fun a m c e _ => .inr (Nat.le_trans hs (hn a m c e))
theorem All2.right {l m : List Prm} (a : All2 l m) : ∀ q ∈ m, ∃ p ∈ l, Shift p q := by
  induction a with
  | nil => intro q hq; cases hq
  | cons h _ ih =>
    intro q hq
    rcases List.mem_cons.1 hq with rfl | hq
    · exact ⟨_, List.mem_cons_self .., h⟩
    · obtain ⟨p, hp, h2⟩ := ih q hq
      exact ⟨p, List.mem_cons_of_mem _ hp, h2⟩
theorem inv_known {js : List Jb} {l P : List Prm} {st : List Int} (h : PassInv l P st) (hk : Known js l) : Known js P := fun q hq => by
  obtain ⟨p, hp, hs⟩ := All2.right h.all q hq
  rw [hs.id]
  exact hk p (List.mem_filter.1 hp).1
theorem inv_mild {l P : List Prm} {st : List Int} (h : PassInv l P st) (hk : Mild l) : Mild P := fun q hq => by
  obtain ⟨p, hp, hs⟩ := All2.right h.all q hq
  obtain ⟨h1, h2, h3⟩ := hk p (List.mem_filter.1 hp).1
  have h4 := hs.later
  have h5 := hs.sum
  exact ⟨by omega, hs.left, by omega⟩
theorem not_yet {l : List Prm} {st : List Int} {k : Nat} (hn : (l.map (·.id)).Nodup) (hk : k < l.length) (hs : ∀ i ∈ st, ∃ q, q < k ∧ (nthP l q).id = i) : (nthP l k).id ∉ st := fun hc => by
  obtain ⟨q, hq, e⟩ := hs _ hc
  rw [List.nodup_iff_pairwise_ne, List.pairwise_iff_getElem] at hn
  have := hn q k (by rw [List.length_map]; omega) (by rw [List.length_map]; exact hk) hq
  rw [List.getElem_map, List.getElem_map] at this
  rw [nthP_at hk, nthP_at (show q < l.length by omega)] at e
  exact this e
def PassLoop (s : List Sp) (now : Int) (js : List Jb) (l : List Prm) (w : World) (k : Nat) (t : List Sp) (P : List Prm) (st : List Int) (sv av bv : Value) (wr : World) : Prop :=
  passP now js s l [] l = passP now js t P st (l.drop k) ∧ PassInv l P st ∧ (∀ i ∈ st, ∃ q, q < k ∧ (nthP l q).id = i) ∧ t.length ≤ s.length + 3 * st.length ∧
  (SpansIs t wr sv ∧ OffN t.length sv av ∧ Away w.heap.size t.length sv) ∧ (prmL.Is P wr bv ∧ OffN P.length bv av ∧ Away w.heap.size P.length bv) ∧
  OwnN 3 1 (w.heap.size + 2) wr av st.length (ivals st) ∧ Box2 wr (w.heap.size + 1) av bv ∧ Box2 wr w.heap.size (.slice none 0 0) (.slice none 0 0) ∧ Below w.heap.size w wr ∧ w.heap.size + 2 ≤ wr.heap.size
def PassTells (s : List Sp) (now : Int) (js : List Jb) (l : List Prm) (w : World) (e : Ending) (w' : World) : Prop :=
  ∃ a b c st P t, e = .returned (.tuple #[.agg #[a, b], c]) ∧ passP now js s l [] l = (st, P, t) ∧ IntsAt st w' a ∧ prmL.Is P w' b ∧ SpansIs t w' c ∧ st.length + P.length = l.length ∧ t.length ≤ s.length + 3 * l.length ∧ Below w.heap.size w w'
theorem PassLoop.none {s : List Sp} {now : Int} {js : List Jb} {l : List Prm} {w : World} {k : Nat} {t : List Sp} {P : List Prm} {st : List Int} {sv av bv : Value} {wr w' : World} (h : PassLoop s now js l w k t P st sv av bv wr) (hk : k < l.length)
    (ht : tryP t now js P (nthP l k).id = none) (hb : Below wr.heap.size wr w') : PassLoop s now js l w (k + 1) t P st sv av bv w' := by
  obtain ⟨h1, h2, h3, h4, ⟨h5, h6, h7⟩, ⟨h8, h9, h10⟩, h11, h12, h13, h14, h15⟩ := h
  refine ⟨?_, h2, fun i hi => ?_, h4, ⟨h5.below hb, h6, h7⟩, ⟨h8.below hb, h9, h10⟩, h11.below hb, h12.below hb, h13.below hb, h14.trans (hb.mono h14.size), Nat.le_trans h15 hb.size⟩
  · rw [h1, drop_p hk, passP, ht]
  · obtain ⟨q, hq, e⟩ := h3 i hi
    exact ⟨q, by omega, e⟩
set_option maxRecDepth 100000 in
set_option maxHeartbeats 1200000 in
theorem pass19 (s : List Sp) (now : Int) (js : List Jb) (l : List Prm) (v u x : Value) (w : World) (hv : SpansIs s w v) (hu : JobsIs js w u) (hx : prmL.Is l w x) (hl : s.length + 3 * l.length + 3 ≤ 200) (hj : js.length ≤ 1000)
    (hkn : Known js l) (hmi : Mild l) (hnd : (l.map (·.id)).Nodup) : Calls Try.prog 16 #[v, .int .i64 now, u, x] w (PassTells s now js l w) := by
  have HV := Lib.hid hv
  have HU := Lib.hid hu
  have HXL := Lib.hid hx
  have HKN := Lib.hid hkn
  have HMI := Lib.hid hmi
  have HND := Lib.hid hnd
  have HVL := Lib.hid (spans_lt hv)
  have HXLT := Lib.hid (is_lt hx)
  obtain ⟨A, c, rfl, _⟩ := hv.open_
  obtain ⟨B, d, rfl, _, hB⟩ := hu.open_
  obtain ⟨D, f, rfl, hlf, hD⟩ := prms_open hx
  have HB := Lib.hid hB
  have HD := Lib.hid hD
  clear hv hu hx hB hD hkn hmi hnd
  have HX0 := Lib.hid (Box2.new w (.slice none 0 0) (.slice none 0 0) 39)
  have HX1 := Box2.new (w.alloc (.cells #[.slice none 0 0, .slice none 0 0] 39)) (.slice none 0 0) (.slice D l.length f) 39
  rw [show (w.alloc (.cells #[.slice none 0 0, .slice none 0 0] 39)).heap.size = w.heap.size + 1 by simp] at HX1
  have HBB := Lib.hid ((box_s w (.cells #[.slice none 0 0, .slice none 0 0] 39)).alloc (by simp) (.cells #[.slice none 0 0, .slice D l.length f] 39))
  have HL0 : Hid (PassLoop s now js l w 0 s l [] (.slice A s.length c) (.slice none 0 0) (.slice D l.length f) ((w.alloc (.cells #[.slice none 0 0, .slice none 0 0] 39)).alloc (.cells #[.slice none 0 0, .slice D l.length f] 39))) := by
    refine ⟨rfl, PassInv.start fun p hp => (HMI.out p hp).2.1, fun i hi => (by cases hi), Nat.le_refl _, ⟨HV.out.below HBB.out, fun a m c e hp q => (by cases q), fun a m c e hp => .inl (HVL.out a m c e hp)⟩, ⟨HXL.out.below HBB.out, fun a m c e hp q => (by cases q), fun a m c e hp => .inl (HXLT.out a m c e hp)⟩, OwnN.nil (by simp), HX1, HX0.out.alloc _, HBB.out, by simp⟩
  go_enter Try.func16, Try.ntmps16
  go_wp2_with fail
  go_loopw [0, 11] (fun sv i wr => ∃ (k : Nat) (t : List Sp) (P : List Prm) (st : List Int) (av bv : Value), i = .int .i64 k ∧ k ≤ l.length ∧ Hid (PassLoop s now js l w k t P st sv av bv wr)) (fun _ i _ => l.length - (intOf i).toNat)
  case atStart => exact ⟨0, s, l, [], _, _, rfl, Nat.zero_le _, HL0.out⟩
  case round =>
    obtain ⟨k, t, P, st, av, bv, rfl, hk, HL⟩ := hrel
    have HPL := Lib.hid HL.out
    obtain ⟨hpp, hinv, hst, htl, ⟨hss, hso, hsa⟩, ⟨hps, hpo, hpa⟩, hown, hbx, hbr, hbl, hsz⟩ := HL.out
    have HINV := Lib.hid hinv
    have HTL := Lib.hid htl
    have HBW := Lib.hid hbl
    have HSZ := Lib.hid hsz
    by_cases hlt : k < l.length
    · obtain ⟨ad, rfl, hat⟩ := HD.out k hlt
      rw [← nthP_at hlt] at hat
      have hxlt : ad.block < w.heap.size := HXLT.out ad _ _ rfl (by omega)
      have HXL2 : Hid ((ad.add (k * 3)).block < w.heap.size) := by show _ < _; rw [add_block]; exact hxlt
      have HAT := Lib.hid hat
      obtain ⟨x, x0, x1, x2⟩ := hat.below hbl
      have hlt2 : (k : Int) < (l.length : Int) := by omega
      have i0 : (0 : Int) ≤ (k : Int) := Int.natCast_nonneg _
      have hmem : nthP l k ∈ l := by rw [nthP_at hlt]; exact List.getElem_mem hlt
      have hlen := hinv.len
      have HNY := Lib.hid (not_yet HND.out hlt hst)
      have CT := Lib.hid (try19 t now js P (nthP l k).id _ _ bv wr.drew hss (HU.out.below hbl.drew) hps (by omega) hj (HKN.out _ hmem) (inv_known hinv HKN.out) (inv_mild hinv HMI.out))
      have HFK := Lib.hid (HKN.out _ hmem)
      have HNONE := Lib.hid (fun w' h hb => HPL.out.none (w' := w') hlt h hb)
      have HSOME : Hid (∀ left, tryP t now js P (nthP l k).id = some left → passP now js s l [] l = passP now js (layL t now (jobOf js (nthP l k).id)) left (st ++ [(nthP l k).id]) (l.drop (k + 1))) := fun left h => by rw [hpp, drop_p hlt, passP, h]
      have HINV2 : Hid (∀ left, tryP t now js P (nthP l k).id = some left → PassInv l left (st ++ [(nthP l k).id])) := fun left h => hinv.next HND.out hmem HNY.out (tryP_shift h).2
      have HST2 : Hid (∀ i ∈ st ++ [(nthP l k).id], ∃ q, q < k + 1 ∧ (nthP l q).id = i) := fun i hi => by
        rcases List.mem_append.1 hi with hi | hi
        · obtain ⟨q, hq, e⟩ := hst i hi
          exact ⟨q, by omega, e⟩
        · rw [List.mem_singleton] at hi
          exact ⟨k, by omega, hi.symm⟩
      have HSS := Lib.hid hss
      have HSO := Lib.hid hso
      have HSA := Lib.hid hsa
      have HOW := Lib.hid hown
      have HBX := Lib.hid hbx
      have HBR := Lib.hid hbr
      obtain ⟨At, ct, hsv, _⟩ := hss.open_
      obtain ⟨Ap, cp, hbv, _, _⟩ := prms_open hps
      obtain ⟨Aa, ca, hav⟩ := hown.shape
      subst hsv
      subst hbv
      subst hav
      obtain ⟨b, b0, b1, _, _⟩ := hbx
      clear hpp hinv hst htl hss hso hsa hps hpo hpa hown hbr hbl hsz hat hmem hlen HL hxlt
      generalize nthP l k = p at *
      go_upto_region 5 with fail
      go_region_held3 (fun w' => w'.cell? ⟨w.heap.size + 1, 1, none⟩ = some (.slice Ap P.length cp) ∧ w'.cell? (ad.add (k * 3)) = some (.int .i64 p.id))
        (first | go_keep | (go_split_ands; exact ⟨(hb3.cell (p := ⟨w.heap.size + 1, 1, none⟩) HBX.out.lt).trans (by assumption), (hb3.cell (p := ad.add (k * 3)) (Nat.lt_of_lt_of_le HXL2.out HBW.out.size)).trans (by assumption)⟩))
        (first
          | (go_at_call 12; refine CT.out.mono ?_; rintro e w3 ⟨v3, b3, rfl, hc3, hb3, hn3⟩))
      have HB3 : Hid (Below wr.heap.size wr w3) := (Below.refl wr.heap.size wr).drew.trans hb3
      have HN3 := Lib.hid hn3
      rcases hc3 with ⟨left, ht, rfl, hpl⟩ | ⟨ht, rfl, rfl⟩
      · have HTS := Lib.hid ht
        have HPL2 := Lib.hid hpl
        have HOK := Lib.hid (tryP_shift ht).1
        obtain ⟨A3, c3, hv3, _, _⟩ := prms_open hpl
        subst hv3
        obtain ⟨k1, hk1, hf1, hj1⟩ := job_found HFK.out
        have hq1 : (k1 : Int) < (js.length : Int) := by omega
        have hq2 : (0 : Int) ≤ (k1 : Int) := by omega
        have HF1 := Lib.hid hf1
        have HJ1 := Lib.hid hj1
        have HBX3 := Lib.hid (HBX.out.below HB3.out)
        have HO3 := Lib.hid ((HOW.out.below HB3.out).alloc (.cells #[.int .i64 p.id] 3))
        have HNB : Hid ((Value.slice Aa st.length ca).ownBlock ≠ some (w.heap.size + 1)) := fun h => by
          have := (HOW.out.block_lt h).1
          omega
        have HB4 := Lib.hid ((HBX3.out.alloc (.cells #[.int .i64 p.id] 3)).drewN 1)
        obtain ⟨x, x0, x1, x2⟩ := (HAT.out.below HBW.out).below HB3.out
        have hst : st.length ≤ 200 := by have := HINV.out.len; omega
        clear hb3 hn3 b b0 b1 ht hpl hf1 hj1 CT
        obtain ⟨b, b0, b1, bf0, bf1⟩ := HBX3.out
        go_upto_region 7 with fail
        go_region_law (refine step_sep ints_t (by rfl) (.tmp 38) (.tmp 44) (by rfl) (w.heap.size + 2) _ _ _ (by rfl) HO3.out ⟨w3.heap.size, 0, none⟩ 1 1 [.int .i64 p.id] (by rfl) (by rfl) (Raw.alloc w3 _ _) one_cell (by omega) ?_; intro A4 c4 w4 ho4 hb4 hg4 hs4; have hbx4 := HB4.out.grown hg4 HNB.out; obtain ⟨e, e0, e1, ef0, ef1⟩ := hbx4)
        all_goals
          have HBX5 := Lib.hid ((HB4.out.grown hg4 HNB.out).set0 (.slice A4 (st.length + 1) c4))
          have HOL : Hid (∀ b', (Value.slice Aa st.length ca).ownBlock = some b' → w.heap.size + 2 ≤ b' ∧ b' < wr.heap.size) := fun b' h => HOW.out.block_lt h
          have HRB : Hid ((Value.slice Aa st.length ca).ownBlock ≠ some w.heap.size) := fun h => by have := (HOL.out _ h).1; omega
          have HG4 := Lib.hid hg4
          have HS3 : Hid (w3.heap.size ≤ w4.heap.size) := Nat.le_trans (by simp [World.drew]) hg4.size
          have HKEEP : Hid (∀ b', b' < w3.heap.size → b' ≠ w.heap.size + 1 → (Value.slice Aa st.length ca).ownBlock ≠ some b' → ((w4.setCell ⟨w.heap.size + 1, 0, none⟩ (.slice A4 (st.length + 1) c4)).setCell ⟨w.heap.size + 1, 1, none⟩ (.slice A3 left.length c3)).heap[b']? = w3.heap[b']?) := fun b' h1 h2 h3 =>
            (Below.heap_setCell _ ⟨w.heap.size + 1, 1, none⟩ _ b' h2).trans ((Below.heap_setCell _ ⟨w.heap.size + 1, 0, none⟩ _ b' h2).trans ((HG4.out.block b' (Nat.lt_of_lt_of_le h1 (by simp [World.drew])) (fun h => h3 h.symm)).trans (heap_alloc_old w3 _ h1)))
          have HOK4 := Lib.hid ((ho4.set_apart (p := ⟨w.heap.size + 1, 0, none⟩) (fun h => by have := (ho4.block_lt h).1; simp at this) (.slice A4 (st.length + 1) c4)).set_apart (p := ⟨w.heap.size + 1, 1, none⟩) (fun h => by have := (ho4.block_lt h).1; simp at this) (.slice A3 left.length c3))
          have HNT := Lib.hid hs4
          have HBR6 := Lib.hid (((((HBR.out.below HB3.out).alloc (.cells #[.int .i64 p.id] 3)).drewN 1).grown hg4 HRB.out |>.set_other (p := ⟨w.heap.size + 1, 0, none⟩) (by simp) (.slice A4 (st.length + 1) c4)).set_other (p := ⟨w.heap.size + 1, 1, none⟩) (by simp) (.slice A3 left.length c3))
          have HBW6 := Lib.hid (((((thenS HBW.out HB3.out).alloc (thenS HBW.out HB3.out).size (.cells #[.int .i64 p.id] 3)).drew.trans (hb4.mono (by omega))).setCell (p := ⟨w.heap.size + 1, 0, none⟩) (by simp) (.slice A4 (st.length + 1) c4)).setCell (p := ⟨w.heap.size + 1, 1, none⟩) (by simp) (.slice A3 left.length c3))
          clear ho4 hb4 hg4 hs4 e e0 e1 ef0 ef1 b b0 b1 bf0 bf1 HB4 x x0 x1 x2 HG4
          have HBX6 := Lib.hid (HBX5.out.set1 (.slice A3 left.length c3))
          obtain ⟨g, g0, g1, gf0, gf1⟩ := HBX5.out
          go_upto_region 9 with fail
          have HSZ6 : Hid (w3.heap.size ≤ ((w4.setCell ⟨w.heap.size + 1, 0, none⟩ (.slice A4 (st.length + 1) c4)).setCell ⟨w.heap.size + 1, 1, none⟩ (.slice A3 left.length c3)).heap.size) := by
            show _ ≤ _
            simp only [World.setCell, Array.size_modify]
            exact HS3.out
          have HS6 := Lib.hid (spans_kept (HSS.out.below HB3.out) HSZ6.out (fun a m c e hp => HKEEP.out a.block (spans_lt (HSS.out.below HB3.out) a m c e hp) (by have := HSA.out a m c e hp; omega) (HSO.out a m c e hp)))
          have HP6 := Lib.hid (is_kept HPL2.out HSZ6.out (fun a m c e hp => HKEEP.out a.block (is_lt HPL2.out a m c e hp) (by have h1 : wr.heap.size ≤ a.block := HN3.out a m c e; have := HSZ.out; omega) (fun h => by have h1 : wr.heap.size ≤ a.block := HN3.out a m c e; have := (HOL.out _ h).2; omega)))
          have HOFP : Hid (OffN left.length (.slice A3 left.length c3) (.slice A4 (st.length + 1) c4)) := OffN.next (OffN.fresh HN3.out (HOW.out.drewN 1)) (fun a m c e hp => Nat.lt_of_lt_of_le (is_lt HPL2.out a m c e hp) (by simp [World.drew])) HNT.out
          have HAWP : Hid (Away w.heap.size left.length (.slice A3 left.length c3)) := Away.fresh HN3.out HSZ.out
          have HSZ7 : Hid (w.heap.size + 2 ≤ ((w4.setCell ⟨w.heap.size + 1, 0, none⟩ (.slice A4 (st.length + 1) c4)).setCell ⟨w.heap.size + 1, 1, none⟩ (.slice A3 left.length c3)).heap.size) := Nat.le_trans (Nat.le_trans HSZ.out HB3.out.size) HSZ6.out
          clear g g0 g1 gf0 gf1 HBX5 HKEEP HSZ6 HNT HS3
          generalize (w4.setCell ⟨w.heap.size + 1, 0, none⟩ (.slice A4 (st.length + 1) c4)).setCell ⟨w.heap.size + 1, 1, none⟩ (.slice A3 left.length c3) = w6 at *
          have C81 := Lib.hid (OrdRef.find8 js p.id _ w6 (HU.out.below HBW6.out) (by omega))
          rw [HF1.out] at C81
          obtain ⟨aq, rfl, hatq⟩ := HB.out k1 hk1
          rw [← HJ1.out] at hatq
          obtain ⟨z, z0, z1, z2, z3, z4, z5, z6, z7, z8⟩ := hatq.below HBW6.out
          obtain ⟨x, x0, x1, x2⟩ := HAT.out.below HBW6.out
          have CL := Lib.hid (lay15 t now (jobOf js p.id) _ w6 HS6.out (by have := HTL.out; have := HINV.out.len; omega) HOK.out)
          have HLY := Lib.hid (fun r hr => layL_of (r := r) HOK.out hr)
          have HLN := Lib.hid (layL_len HOK.out)
          unfold jobV jobA at CL
          clear hatq
          go_wp2_with (go_at_call 21; refine C81.out.mono ?_; rintro e w1 ⟨rfl, rfl⟩)
          refine CL.out.mono ?_
          rintro e w7 ⟨v7, r7, rfl, hs7, hr7, hb7, hn7⟩
          obtain rfl := HLY.out r7 hr7
          have HN : Hid (PassLoop s now js l w (k + 1) (layL t now (jobOf js p.id)) left (st ++ [p.id]) v7 (.slice A4 (st.length + 1) c4) (.slice A3 left.length c3) w7) :=
            ⟨HSOME.out left HTS.out, HINV2.out left HTS.out, HST2.out, by have := HTL.out; have := HLN.out; rw [List.length_append, List.length_singleton]; omega, ⟨hs7, OffN.fresh hn7 HOK4.out, Away.fresh hn7 HSZ7.out⟩, ⟨HP6.out.below hb7, HOFP.out, HAWP.out⟩, (HOK4.out.below hb7).cast (by simp) (by simp [ivals]), HBX6.out.below hb7, HBR6.out.below hb7, thenS HBW6.out hb7, Nat.le_trans HSZ7.out hb7.size⟩
          clear hs7 hr7 hb7 hn7 CL C81 HSOME HINV2 HST2 x x0 x1 x2 z z0 z1 z2 z3 z4 z5 z6 z7 z8
          go_wp2_with fail
          exact ⟨⟨k + 1, _, left, _, _, _, by go_num, by omega, HN.out⟩, by simp [intOf] <;> omega⟩
      · have HN := Lib.hid (HNONE.out w3 ht HB3.out)
        clear ht hb3 hn3 HNONE HSOME HINV2 CT b b0 b1 x x0 x1 x2
        go_wp2_with fail
        exact ⟨⟨k + 1, t, P, st, _, _, by go_num, by omega, HN.out⟩, by simp [intOf] <;> omega⟩
    · obtain rfl : k = l.length := by omega
      have HP : Hid (passP now js s l [] l = (st, P, t)) := by show _ = _; rw [hpp, List.drop_length]; rfl
      have HLEN := Lib.hid hinv.len
      have HSS := Lib.hid hss
      have HSA := Lib.hid hsa
      have HPS := Lib.hid hps
      have HPA := Lib.hid hpa
      have HOW := Lib.hid hown
      obtain ⟨At, ct, hsv, _⟩ := hss.open_
      obtain ⟨Ap, cp, hbv, _, _⟩ := prms_open hps
      obtain ⟨Aa, ca, hav⟩ := hown.shape
      subst hsv
      subst hbv
      subst hav
      have HBX := Lib.hid hbx
      have HR0 := Lib.hid (hbr.set0 (.slice Aa st.length ca))
      have HR1 := Lib.hid ((hbr.set0 (.slice Aa st.length ca)).set1 (.slice Ap P.length cp))
      obtain ⟨b, b0, b1, _, _⟩ := hbx
      obtain ⟨r, r0, r1, rf0, rf1⟩ := hbr
      clear hpp hinv hst htl hss hso hsa hps hpo hpa hown hbl hsz HL HPL
      have HI : Hid (IntsAt st ((wr.setCell ⟨w.heap.size, 0, none⟩ (.slice Aa st.length ca)).setCell ⟨w.heap.size, 1, none⟩ (.slice Ap P.length cp)) (.slice Aa st.length ca)) :=
        IntsAt.own ((HOW.out.set_apart (p := ⟨w.heap.size, 0, none⟩) (fun h => by have := (HOW.out.block_lt h).1; simp at this; omega) _).set_apart (p := ⟨w.heap.size, 1, none⟩) (fun h => by have := (HOW.out.block_lt h).1; simp at this; omega) _) rfl
      have HKEEP : Hid (∀ b', b' ≠ w.heap.size → ((wr.setCell ⟨w.heap.size, 0, none⟩ (.slice Aa st.length ca)).setCell ⟨w.heap.size, 1, none⟩ (.slice Ap P.length cp)).heap[b']? = wr.heap[b']?) := fun b' h2 =>
        (Below.heap_setCell _ ⟨w.heap.size, 1, none⟩ _ b' h2).trans (Below.heap_setCell _ ⟨w.heap.size, 0, none⟩ _ b' h2)
      have HS8 := Lib.hid (spans_kept (w' := (wr.setCell ⟨w.heap.size, 0, none⟩ (.slice Aa st.length ca)).setCell ⟨w.heap.size, 1, none⟩ (.slice Ap P.length cp)) HSS.out (by simp [World.setCell]) (fun a m c e hp => HKEEP.out a.block (by have := HSA.out a m c e hp; omega)))
      have HP8 := Lib.hid (is_kept (w' := (wr.setCell ⟨w.heap.size, 0, none⟩ (.slice Aa st.length ca)).setCell ⟨w.heap.size, 1, none⟩ (.slice Ap P.length cp)) HPS.out (by simp [World.setCell]) (fun a m c e hp => HKEEP.out a.block (by have := HPA.out a m c e hp; omega)))
      have HB8 := Lib.hid ((HBW.out.setCell (p := ⟨w.heap.size, 0, none⟩) (Nat.le_refl _) (.slice Aa st.length ca)).setCell (p := ⟨w.heap.size, 1, none⟩) (Nat.le_refl _) (.slice Ap P.length cp))
      go_wp2_with fail
      clear b b0 b1 r r0 r1 rf0 rf1 HKEEP HBX HR0
      obtain ⟨r, r0, r1, _, _⟩ := HR1.out
      generalize (wr.setCell ⟨w.heap.size, 0, none⟩ (.slice Aa st.length ca)).setCell ⟨w.heap.size, 1, none⟩ (.slice Ap P.length cp) = w8 at *
      exact bodyPost_ret (v := .tuple #[.agg #[.slice Aa st.length ca, .slice Ap P.length cp], .slice At t.length ct]) (by simp [results, Try.results16, go_sem, r0, r1]) rfl ⟨_, _, _, st, P, t, rfl, HP.out, HI.out, HP8.out, HS8.out, HLEN.out, by have := HTL.out; have := HLEN.out; omega, HB8.out⟩
end Go.Proofs.Ytlfmkipcgcilaaa.SlaRef
namespace Go.Proofs.Ytlfmkipcgcilaaa.Mem
open Go.RowKit
theorem getD_in {l : List Int} {k : Nat} (h : k < l.length) : l.getD k 0 = l[k] := by simp [List.getD, h]
def SameQ (x : Bool) (w : World) (e : Ending) (w' : World) : Prop := e = .returned (.bool x) ∧ ∃ n, w' = w.drewN n
set_option maxHeartbeats 1600000 in
theorem same1 (l : List Int) (u v : Value) (w : World) (hu : IntsAt l w u) (hv : IntsAt l w v) (hl : l.length ≤ 100000) : Calls Try.prog 31 #[u, v] w (SameQ true w) := by
  obtain ⟨A, c, rfl, hc, hA⟩ := hu
  obtain ⟨B, d, rfl, hd, hB⟩ := hv
  have HA := Lib.hid hA
  have HB := Lib.hid hB
  clear hA hB
  have hne : ((l.length : Int) != (l.length : Int)) = false := by simp
  go_enter Try.func31, Try.ntmps31
  go_wp2_with fail
  go_loopw [5] (fun i wr => ∃ k q : Nat, i = .int .i64 k ∧ k ≤ l.length ∧ Hid (wr = w.drewN q)) (fun i _ => l.length - (intOf i).toNat)
  case atStart => exact ⟨0, 0, rfl, Nat.zero_le _, rfl⟩
  case round =>
    obtain ⟨k, q, rfl, hk, HQ⟩ := hrel
    by_cases hlt : k < l.length
    · obtain ⟨a, rfl, ha, h1⟩ := HA.out.at hlt
      obtain ⟨b, rfl, hb, h2⟩ := HB.out.at hlt
      have p1 : wr.cell? (a.add k) = some (.int .i64 l[k]) := by rw [HQ.out, ← getD_in hlt]; exact h1
      have p2 : wr.cell? (b.add k) = some (.int .i64 l[k]) := by rw [HQ.out, ← getD_in hlt]; exact h2
      clear h1 h2
      generalize l[k] = x at *
      have hx : (x != x) = false := by simp
      have i0 : (0 : Int) ≤ (k : Int) := Int.natCast_nonneg _
      have i1 : (k : Int) < (l.length : Int) := by omega
      go_wp2_with fail
      go_quiet (fail)
      have HQ2 : Hid (wr.drewN nq = w.drewN (q + nq)) := Lib.hid (by rw [HQ.out, World.drewN_drewN])
      clear p1 p2
      generalize wr.drewN nq = w2 at *
      go_wp2_with fail
      exact ⟨⟨k + 1, q + nq, by go_num, by omega, HQ2.out⟩, by simp [intOf] <;> omega⟩
    · go_wp2_with fail
      go_ret
      exact ⟨rfl, q, HQ.out⟩
end Go.Proofs.Ytlfmkipcgcilaaa.Mem
namespace Go.Proofs.Ytlfmkipcgcilaaa.SlaRef
open Go.RowKit Go.Proofs.Ytlfmkipcgcilaaa.SpanPlain Go.Proofs.Ytlfmkipcgcilaaa.StepPlain Go.Proofs.Ytlfmkipcgcilaaa.GapPlain Go.Proofs.Ytlfmkipcgcilaaa.JobPlain Go.Proofs.Ytlfmkipcgcilaaa.OrdPlain Go.Proofs.Ytlfmkipcgcilaaa.ApiPlain Go.Proofs.Ytlfmkipcgcilaaa.ShaPlain Go.Proofs.Ytlfmkipcgcilaaa.SlaPlain Go.Proofs.Ytlfmkipcgcilaaa.Mem Go.Proofs.Ytlfmkipcgcilaaa.SpanMem Go.Proofs.Ytlfmkipcgcilaaa.StepMem Go.Proofs.Ytlfmkipcgcilaaa.JobMem Go.Proofs.Ytlfmkipcgcilaaa.OrdMem Go.Proofs.Ytlfmkipcgcilaaa.ApiMem Go.Proofs.Ytlfmkipcgcilaaa.SpanRef Go.Proofs.Ytlfmkipcgcilaaa.StepRef Go.Proofs.Ytlfmkipcgcilaaa.GapRef Go.Proofs.Ytlfmkipcgcilaaa.ShaRef
/-- Why there is no pass. -/
def c16 (s : List Sp) (now : Int) (n : Nat) : Int := if chkB s = true ∧ head s ≤ now ∧ now ≤ 1125899906842624 then (if 100 < n then 4 else 0) else 1
theorem c16_ways (s : List Sp) (now : Int) (n : Nat) : (chkB s = false ∧ c16 s now n = 1) ∨ (chkB s = true ∧ decide (now < head s) = true ∧ c16 s now n = 1) ∨ (chkB s = true ∧ decide (now < head s) = false ∧ decide (1125899906842624 < now) = true ∧ c16 s now n = 1) ∨
    (chkB s = true ∧ decide (now < head s) = false ∧ decide (1125899906842624 < now) = false ∧ decide ((100 : Int) < (n : Int)) = true ∧ c16 s now n = 4) ∨ (chkB s = true ∧ decide (now < head s) = false ∧ decide (1125899906842624 < now) = false ∧ decide ((100 : Int) < (n : Int)) = false ∧ c16 s now n = 0) := by
  unfold c16
  cases hc : chkB s with
  | false => exact .inl ⟨rfl, if_neg (by simp)⟩
  | true =>
    right
    by_cases h1 : now < head s
    · exact .inl ⟨rfl, decide_eq_true h1, if_neg (by omega)⟩
    · right
      by_cases h2 : 1125899906842624 < now
      · exact .inl ⟨rfl, decide_eq_false h1, decide_eq_true h2, if_neg (by omega)⟩
      · right
        rw [if_pos ⟨rfl, by omega, by omega⟩]
        by_cases h3 : (100 : Int) < (n : Int)
        · exact .inl ⟨rfl, decide_eq_false h1, decide_eq_false h2, decide_eq_true h3, if_pos (by omega)⟩
        · exact .inr ⟨rfl, decide_eq_false h1, decide_eq_false h2, decide_eq_false h3, if_neg (by omega)⟩
def IntN (n : Int) (w : World) (e : Ending) (w' : World) : Prop := e = .returned (.int .i64 n) ∧ ∃ q, w' = w.drewN q
set_option maxHeartbeats 1200000 in
theorem check16 (s : List Sp) (now : Int) (js : List Jb) (v u : Value) (w : World) (hv : SpansIs s w v) (hl : s.length ≤ 9000) (hu : JobsIs js w u) : Calls Try.prog 10 #[v, .int .i64 now, u] w (IntN (c16 s now js.length) w) := by
  have CK := Lib.hid (check4 s v w hv hl)
  obtain ⟨A, c, rfl, hA⟩ := hv.open_
  obtain ⟨B, d, rfl, _⟩ := hu.open_
  have HA := Lib.hid hA
  have HP : Hid (chkB s = true → 0 < s.length) := fun h => ((chk_iff s).1 h).pos
  clear hv hu hA
  rcases c16_ways s now js.length with ⟨hc, h1⟩ | ⟨hc, g1, h1⟩ | ⟨hc, g1, g2, h1⟩ | ⟨hc, g1, g2, g3, h1⟩ | ⟨hc, g1, g2, g3, h1⟩
  · rw [hc] at CK
    have H1 := Lib.hid h1
    clear h1 hc
    go_enter Try.func10, Try.ntmps10
    go_wp2_with fail
    refine CK.out.mono ?_
    rintro e w1 ⟨rfl, n, rfl⟩
    go_wp2_with fail
    go_ret
    exact ⟨by rw [H1.out]; rfl, n, rfl⟩
  all_goals
    rw [hc] at CK
    have H1 := Lib.hid h1
    have hp := HP.out hc
    obtain ⟨ad, rfl, had, x1, _⟩ := pair_zero HA.out hp
    have hh : (spCell s 0).1 = .int .i64 (head s) := rfl
    rw [hh] at x1
    have hp2 : (0 : Int) < (s.length : Int) := by omega
    clear h1 hc hh
    go_enter Try.func10, Try.ntmps10
    go_wp2_with fail
    refine CK.out.mono ?_
    rintro e w1 ⟨rfl, n, rfl⟩
    go_wp2_with fail
    go_ret
    exact ⟨by rw [H1.out]; rfl, n, rfl⟩
set_option maxRecDepth 100000 in
set_option maxHeartbeats 1600000 in
theorem same16 (st : List Int) (P : List Prm) (a b c d : Value) (w : World) (ha : IntsAt st w a) (hb : prmL.Is P w b) (hc : IntsAt st w c) (hd : prmL.Is P w d) (hl : st.length ≤ 100000) (hp : P.length ≤ 100000) :
    Calls Try.prog 15 #[.agg #[a, b], .agg #[c, d]] w (BoolL true w) := by
  have HX := Lib.hid ((Box2.new w a b 39).alloc (.cells #[c, d] 39))
  have HY0 := Box2.new (w.alloc (.cells #[a, b] 39)) c d 39
  rw [show (w.alloc (.cells #[a, b] 39)).heap.size = w.heap.size + 1 by simp] at HY0
  have HY := Lib.hid HY0
  have HBB := Lib.hid ((box_s w (.cells #[a, b] 39)).alloc (by simp) (.cells #[c, d] 39))
  have C1 := Lib.hid (fun W (hW : Below w.heap.size w W) => same1 st a c W (ha.below hW) (hc.below hW) hl)
  obtain ⟨A1, c1, rfl, _, _⟩ := ha
  obtain ⟨A3, c3, rfl, _, _⟩ := hc
  obtain ⟨A2, c2, rfl, hn2, hA⟩ := prms_open hb
  obtain ⟨A4, c4, rfl, hn4, hB⟩ := prms_open hd
  have HA := Lib.hid hA
  have HB := Lib.hid hB
  clear hA hB hb hd HY0
  have d0 : ((P.length : Int) != (P.length : Int)) = false := by simp
  go_enter Try.func15, Try.ntmps15
  go_upto_region 1 with fail
  generalize (w.alloc (.cells #[.slice A1 st.length c1, .slice A2 P.length c2] 39)).alloc (.cells #[.slice A3 st.length c3, .slice A4 P.length c4] 39) = W0 at *
  obtain ⟨x, x0, x1, _, _⟩ := HX.out
  obtain ⟨y, y0, y1, _, _⟩ := HY.out
  go_wp2_with fail
  go_loopw [5] (fun i wr => ∃ k : Nat, k ≤ P.length ∧ i = .int .i64 k ∧ ∃ n, wr = W0.drewN n) (fun i _ => P.length - (intOf i).toNat)
  case atStart => exact ⟨0, Nat.zero_le _, rfl, 0, rfl⟩
  case round =>
    obtain ⟨k, hk, rfl, n, rfl⟩ := hrel
    by_cases hlt : k < P.length
    · obtain ⟨p, rfl, hpa⟩ := HA.out k hlt
      obtain ⟨q, rfl, hqa⟩ := HB.out k hlt
      obtain ⟨p9, p0, p1, p2⟩ := hpa.below HBB.out
      obtain ⟨q9, q0, q1, q2⟩ := hqa.below HBB.out
      have hlt2 : (k : Int) < (P.length : Int) := by omega
      have hkn : (0 : Int) ≤ (k : Int) := by omega
      have E1 := fun W => ne_prm W P[k]
      clear hpa hqa
      generalize P[k] = j at *
      unfold prmV at E1
      go_wp2_with fail
      go_quiet (fail)
      go_wp2_with fail
      exact ⟨⟨k + 1, by omega, by go_num, _, rfl⟩, by simp [intOf] <;> omega⟩
    · have hbn := Lib.hid (below_drewN HBB.out n)
      go_wp2_with fail
      refine (C1.out _ hbn.out).mono ?_
      rintro e w1 ⟨rfl, m, rfl⟩
      have hbm := Lib.hid (below_drewN hbn.out m)
      go_wp2_with fail
      go_ret
      exact ⟨rfl, by simpa [World.drewN_drewN] using hbm.out⟩
end Go.Proofs.Ytlfmkipcgcilaaa.SlaRef
namespace Go.Proofs.Ytlfmkipcgcilaaa.SlaWalk
open Go.RowKit Go.Proofs.Ytlfmkipcgcilaaa.SpanPlain Go.Proofs.Ytlfmkipcgcilaaa.StepPlain Go.Proofs.Ytlfmkipcgcilaaa.GapPlain Go.Proofs.Ytlfmkipcgcilaaa.JobPlain Go.Proofs.Ytlfmkipcgcilaaa.OrdPlain Go.Proofs.Ytlfmkipcgcilaaa.ApiPlain Go.Proofs.Ytlfmkipcgcilaaa.ShaPlain Go.Proofs.Ytlfmkipcgcilaaa.SlaPlain Go.Proofs.Ytlfmkipcgcilaaa.Mem Go.Proofs.Ytlfmkipcgcilaaa.SpanMem Go.Proofs.Ytlfmkipcgcilaaa.StepMem Go.Proofs.Ytlfmkipcgcilaaa.JobMem Go.Proofs.Ytlfmkipcgcilaaa.OrdMem Go.Proofs.Ytlfmkipcgcilaaa.ApiMem Go.Proofs.Ytlfmkipcgcilaaa.SpanRef Go.Proofs.Ytlfmkipcgcilaaa.StepRef Go.Proofs.Ytlfmkipcgcilaaa.GapRef Go.Proofs.Ytlfmkipcgcilaaa.ShaRef Go.Proofs.Ytlfmkipcgcilaaa.SlaRef
def TrueIs (w : World) (e : Ending) (w' : World) : Prop := e = .returned (.bool true) ∧ Below w.heap.size w w'
/-- Is there a trial at all? -/
def canTry (s : List Sp) (now : Int) (js : List Jb) (l : List Prm) (id : Int) : Bool := mayP now js l && (decide (c16 s now js.length = 0) && decide (0 ≤ findP l id))
def tryF (s : List Sp) (now : Int) (js : List Jb) (l : List Prm) (id : Int) : Option (List Prm) := if canTry s now js l id = true then tryP s now js l id else none
def TrySays (s : List Sp) (now : Int) (js : List Jb) (l : List Prm) (id : Int) (w : World) (e : Ending) (w' : World) : Prop :=
  ∃ v r b, e = .returned (.tuple #[v, .bool b]) ∧ prmL.Is r w' v ∧ ((tryF s now js l id = some r ∧ b = true) ∨ (tryF s now js l id = none ∧ r = [] ∧ b = false)) ∧ Below w.heap.size w w'
/-- Why there is no pass of promises. -/
def codeP (s : List Sp) (now : Int) (js : List Jb) (l : List Prm) : Int := if c16 s now js.length ≠ 0 then c16 s now js.length else if mayP now js l = true then 0 else 1
def PassSays (s : List Sp) (now : Int) (js : List Jb) (l : List Prm) (w : World) (e : Ending) (w' : World) : Prop :=
  ∃ a b c st P t, e = .returned (.tuple #[.agg #[a, b], c, .int .i64 (codeP s now js l)]) ∧ IntsAt st w' a ∧ prmL.Is P w' b ∧ SpansIs t w' c ∧ ((codeP s now js l = 0 ∧ passP now js s l [] l = (st, P, t)) ∨ (codeP s now js l ≠ 0 ∧ st = [] ∧ P = [] ∧ t = [])) ∧ Below w.heap.size w w'
def exS : List Sp := [(0, 3), (4, 8)]
def exJs : List Jb := [⟨1, ⟨#[]⟩, 7, 9, 0, 0, 0, 0, 0⟩, ⟨2, ⟨#[]⟩, 2, 6, 0, 0, 0, 0, 0⟩]
def exP : List Prm := [⟨1, 4, 5⟩, ⟨2, 13, 0⟩]
def exQ : List Prm := [⟨1, 4, 1⟩, ⟨2, 13, 0⟩]
theorem ex_c16 : c16 exS 0 2 = 0 := by decide
theorem ex_may : mayP 0 exJs exP = true := by decide
theorem ex_code : codeP exS 0 exJs exP = 0 := by
  unfold codeP
  rw [show exJs.length = 2 from rfl, ex_c16, ex_may]; rfl
theorem ex_starts : (passP 0 exJs exS exP [] exP).1 = [2] := by decide
theorem ex_left : (passP 0 exJs exS exP [] exP).2.1 = [⟨1, 6, 3⟩] := by rfl
theorem ex_try : tryP exS 0 exJs exQ 2 = none := by rfl
end Go.Proofs.Ytlfmkipcgcilaaa.SlaWalk
namespace Go.Proofs.Ytlfmkipcgcilaaa.OrdWalk
open Go.RowKit Go.Proofs.Ytlfmkipcgcilaaa.JobPlain Go.Proofs.Ytlfmkipcgcilaaa.OrdPlain Go.Proofs.Ytlfmkipcgcilaaa.Mem Go.Proofs.Ytlfmkipcgcilaaa.JobMem Go.Proofs.Ytlfmkipcgcilaaa.OrdMem
def IntB (n : Int) (w : World) (e : Ending) (w' : World) : Prop := e = .returned (.int .i64 n) ∧ Below w.heap.size w w'
/-- A function value's calls tell p, in every world behind w. -/
def Tells (g : Nat) (cb : Array Value) (p : Jb → Bool) (w : World) : Prop := ∀ (W : World) (j : Jb), Below w.heap.size w W → Calls Try.prog g (#[jobV j] ++ cb) W (BoolB (p j) W)
end Go.Proofs.Ytlfmkipcgcilaaa.OrdWalk
namespace Go.Proofs.Ytlfmkipcgcilaaa.OrdWalk
open Go.RowKit Go.Lib Go.Sort Go.Proofs.Ytlfmkipcgcilaaa.JobPlain Go.Proofs.Ytlfmkipcgcilaaa.OrdPlain Go.Proofs.Ytlfmkipcgcilaaa.Mem Go.Proofs.Ytlfmkipcgcilaaa.JobMem Go.Proofs.Ytlfmkipcgcilaaa.OrdMem Go.Proofs.Ytlfmkipcgcilaaa.OrdRef
/-- The place of the first one that is meant. -/
def idxL (l : List Jb) (p : Jb → Bool) : Int := match l.findIdx? p with | some i => i | none => -1
theorem idx_at {l : List Jb} {p : Jb → Bool} {k : Nat} (hk : k < l.length) (h : ∀ i (hi : i < l.length), i < k → p l[i] = false) (hx : p l[k] = true) : idxL l p = k := by
  unfold idxL
  have : l.findIdx? p = some k := by
    rw [List.findIdx?_eq_some_iff_getElem]
    exact ⟨hk, hx, fun i hi => by simpa using h i (by omega) hi⟩
  rw [this]
theorem idx_none {l : List Jb} {p : Jb → Bool} (h : ∀ i (hi : i < l.length), p l[i] = false) : idxL l p = -1 := by
  unfold idxL
  have : l.findIdx? p = none := by
    rw [List.findIdx?_eq_none_iff]
    intro x hx
    obtain ⟨i, hi, rfl⟩ := List.mem_iff_getElem.1 hx
    exact h i hi
  rw [this]
set_option maxRecDepth 100000 in
set_option maxHeartbeats 1600000 in
theorem index_any (g : Nat) (cb : Array Value) (p : Jb → Bool) (l : List Jb) (v : Value) (w : World) (eg : ∀ args w, (callFunc g args).run Try.prog w = .ok (.enter g args) w) (hp : Tells g cb p w) (hv : JobsIs l w v) (hl : l.length ≤ 100000) :
    Calls Try.prog 38 #[v, .func (.func g) #[] cb] w (IntB (idxL l p) w) := by
  obtain ⟨A, c, rfl, hn, hA⟩ := hv.open_
  have HA := Lib.hid hA
  have HP := Lib.hid hp
  clear hA hv hp
  go_enter Try.func38, Try.ntmps38
  go_wp2_with fail
  go_loopw [8] (fun i wr => ∃ k : Nat, k ≤ l.length ∧ i = .int .i64 k ∧ Hid (Below w.heap.size w wr) ∧ Hid (∀ i (hi : i < l.length), i < k → p l[i] = false)) (fun i _ => l.length - (RowKit.intOf i).toNat)
  case atStart => exact ⟨0, Nat.zero_le _, rfl, Below.refl _ _, fun _ _ h => absurd h (Nat.not_lt_zero _)⟩
  case round =>
    obtain ⟨k, hk, rfl, HB, HD⟩ := hrel
    by_cases hlt : k < l.length
    · obtain ⟨a, rfl, hat⟩ := HA.out k hlt
      obtain ⟨y, y0, y1, y2, y3, y4, y5, y6, y7, y8⟩ := hat.below HB.out
      have hlt2 : (k : Int) < (l.length : Int) := by omega
      have hkn : (0 : Int) ≤ (k : Int) := by omega
      have HF := Lib.hid (fun h => idx_at (p := p) hlt HD.out h)
      have HN : Hid (p l[k] = false → ∀ i (hi : i < l.length), i < k + 1 → p l[i] = false) := fun h i hi hi2 => by
        by_cases he : i = k
        · subst he; exact h
        · exact HD.out i hi (by omega)
      have HC := Lib.hid (HP.out wr l[k] HB.out)
      clear hat HD
      generalize l[k] = j at *
      unfold jobV jobA at HC
      cases hd : p j
      · rw [hd] at HC
        go_wp2_with (go_at_fn g; refine HC.out.mono ?_; rintro e w1 ⟨rfl, hb1⟩)
        exact ⟨⟨k + 1, by omega, by go_num, below_then HB.out hb1, HN.out hd⟩, by simp [RowKit.intOf]; omega⟩
      · rw [hd] at HC
        have HE := Lib.hid (HF.out hd)
        go_wp2_with (go_at_fn g; refine HC.out.mono ?_; rintro e w1 ⟨rfl, hb1⟩)
        go_ret
        exact ⟨by rw [HE.out]; rfl, below_then HB.out hb1⟩
    · have HF := Lib.hid (idx_none (l := l) (p := p) (fun i hi => HD.out i hi (by omega)))
      go_wp2_with fail
      go_ret
      exact ⟨by rw [HF.out]; rfl, HB.out⟩
set_option maxHeartbeats 1600000 in
theorem place_fn (b : Nat) (id : Int) (j : Jb) (W : World) (hb : b < W.heap.size) (hc : W.cell? ⟨b, 0, none⟩ = some (.int .i64 id)) :
    Calls Try.prog 39 #[jobV j, .pointer (some ⟨b, 0, none⟩)] W (BoolB (j.id == id) W) := by
  have HX := Lib.hid (JobBox.new W j 52)
  have HB := Lib.hid (below_box W (.cells #[.int .i64 j.id, .string j.user, .int .i64 j.width, .int .i64 j.est, .int .i64 j.prio, .int .i64 j.sub, .int .i64 j.state, .int .i64 j.start, .int .i64 j.fin] 52))
  have hc2 : (W.alloc (.cells #[.int .i64 j.id, .string j.user, .int .i64 j.width, .int .i64 j.est, .int .i64 j.prio, .int .i64 j.sub, .int .i64 j.state, .int .i64 j.start, .int .i64 j.fin] 52)).cell? ⟨b, 0, none⟩ = some (.int .i64 id) := (HB.out.cell (p := ⟨b, 0, none⟩) hb).trans hc
  clear hc
  unfold jobV jobA
  go_enter Try.func39, Try.ntmps39
  go_upto_region 1 with fail
  generalize W.alloc (.cells #[.int .i64 j.id, .string j.user, .int .i64 j.width, .int .i64 j.est, .int .i64 j.prio, .int .i64 j.sub, .int .i64 j.state, .int .i64 j.start, .int .i64 j.fin] 52) = W0 at *
  obtain ⟨y, y0, y1, y2, y3, y4, y5, y6, y7, y8, _, _, _, _, _, _, _, _, _⟩ := HX.out
  cases hd : (j.id == id)
  · go_wp2_with fail
    go_ret
    exact ⟨by first | rfl | (rw [hd]; rfl), HB.out⟩
  · go_wp2_with fail
    go_ret
    exact ⟨by first | rfl | (rw [hd]; rfl), HB.out⟩
theorem find_idx (l : List Jb) (id : Int) : findL l id = idxL l (fun j => j.id == id) := rfl
set_option maxHeartbeats 1600000 in
theorem placeS (l : List Jb) (id : Int) (v : Value) (w : World) (hv : JobsIs l w v) (hl : l.length ≤ 200) : Calls Try.prog 22 #[v, .int .i64 id] w (IntB (findL l id) w) := by
  have HE := Lib.hid (find_idx l id)
  generalize findL l id = F at HE ⊢
  have eg : ∀ args w, (callFunc 39 args).run Try.prog w = .ok (.enter 39 args) w := enters_of Try.func39 (by kernel_rfl) rfl
  have HB := Lib.hid (below_box w (.cells #[.int .i64 id] 3))
  have hbx := (Raw.alloc w #[.int .i64 id] 3) 0 (.int .i64 id) rfl
  rw [add_flat] at hbx
  have HT : Tells 39 #[.pointer (some ⟨w.heap.size, 0, none⟩)] (fun j => j.id == id) (w.alloc (.cells #[.int .i64 id] 3)) := fun W j hW =>
    place_fn w.heap.size id j W (Nat.lt_of_lt_of_le hbx.1 hW.size) ((hW.cell (p := ⟨w.heap.size, 0, none⟩) hbx.1).trans hbx.2)
  have C := Lib.hid (index_any 39 #[.pointer (some ⟨w.heap.size, 0, none⟩)] (fun j => j.id == id) l v _ eg HT (hv.below HB.out) (by omega))
  have hmf : ∀ (fn : Fn) (first cap : Array Value) (w : World), (Instr.makeFunc fn first cap).run Try.prog w = .ok (.func fn first cap) w := fun _ _ _ _ => rfl
  rw [← HE.out] at C
  obtain ⟨A, c, rfl, _⟩ := hv.open_
  clear HE HT hbx hv eg
  go_enter Try.func22, Try.ntmps22
  go_upto_region 1 with fail
  generalize w.alloc (.cells #[.int .i64 id] 3) = W0 at *
  go_wp2_with fail
  refine C.out.mono ?_
  rintro e w1 ⟨rfl, hb1⟩
  have HB1 := Lib.hid (below_then HB.out hb1)
  clear hb1
  go_wp2_with fail
  go_ret
  exact ⟨rfl, HB1.out⟩
end Go.Proofs.Ytlfmkipcgcilaaa.OrdWalk
namespace Go.Proofs.Ytlfmkipcgcilaaa.SlaWalk
open Go.RowKit Go.Proofs.Ytlfmkipcgcilaaa.SpanPlain Go.Proofs.Ytlfmkipcgcilaaa.StepPlain Go.Proofs.Ytlfmkipcgcilaaa.GapPlain Go.Proofs.Ytlfmkipcgcilaaa.JobPlain Go.Proofs.Ytlfmkipcgcilaaa.OrdPlain Go.Proofs.Ytlfmkipcgcilaaa.ApiPlain Go.Proofs.Ytlfmkipcgcilaaa.ShaPlain Go.Proofs.Ytlfmkipcgcilaaa.SlaPlain Go.Proofs.Ytlfmkipcgcilaaa.Mem Go.Proofs.Ytlfmkipcgcilaaa.SpanMem Go.Proofs.Ytlfmkipcgcilaaa.StepMem Go.Proofs.Ytlfmkipcgcilaaa.JobMem Go.Proofs.Ytlfmkipcgcilaaa.OrdMem Go.Proofs.Ytlfmkipcgcilaaa.ApiMem Go.Proofs.Ytlfmkipcgcilaaa.SpanRef Go.Proofs.Ytlfmkipcgcilaaa.StepRef Go.Proofs.Ytlfmkipcgcilaaa.GapRef Go.Proofs.Ytlfmkipcgcilaaa.ShaRef Go.Proofs.Ytlfmkipcgcilaaa.SlaRef
def IntL (n : Int) (w : World) (e : Ending) (w' : World) : Prop := e = .returned (.int .i64 n) ∧ Below w.heap.size w w'
/-- What a closure over promises tells. -/
def TellsP (g : Nat) (cb : Array Value) (id : Int) (w : World) : Prop := ∀ (W : World) (q : Prm), Below w.heap.size w W → Calls Try.prog g (#[prmV q] ++ cb) W (BoolL (q.id == id) W)
set_option maxRecDepth 100000 in
set_option maxHeartbeats 1600000 in
theorem index_p (g : Nat) (cb : Array Value) (id : Int) (l : List Prm) (v : Value) (w : World) (eg : ∀ args w, (callFunc g args).run Try.prog w = .ok (.enter g args) w) (hp : TellsP g cb id w) (hv : prmL.Is l w v) (hl : l.length ≤ 100000) :
    Calls Try.prog 33 #[v, .func (.func g) #[] cb] w (IntL (findP l id) w) := by
  obtain ⟨A, c, rfl, hn, hA⟩ := prms_open hv
  have HA := Lib.hid hA
  have HP := Lib.hid hp
  clear hA hv hp
  go_enter Try.func33, Try.ntmps33
  go_wp2_with fail
  go_loopw [8] (fun i wr => ∃ k : Nat, k ≤ l.length ∧ i = .int .i64 k ∧ Hid (Below w.heap.size w wr) ∧ Hid (∀ i (hi : i < l.length), i < k → (l[i].id == id) = false)) (fun i _ => l.length - (intOf i).toNat)
  case atStart => exact ⟨0, Nat.zero_le _, rfl, Below.refl _ _, fun _ _ h => absurd h (Nat.not_lt_zero _)⟩
  case round =>
    obtain ⟨k, hk, rfl, HB, HD⟩ := hrel
    by_cases hlt : k < l.length
    · obtain ⟨a, rfl, hat⟩ := HA.out k hlt
      obtain ⟨y, y0, y1, y2⟩ := hat.below HB.out
      have hlt2 : (k : Int) < (l.length : Int) := by omega
      have hkn : (0 : Int) ≤ (k : Int) := by omega
      have HF := Lib.hid (fun h => findP_at (id := id) hlt HD.out h)
      have HN : Hid ((l[k].id == id) = false → ∀ i (hi : i < l.length), i < k + 1 → (l[i].id == id) = false) := fun h i hi hi2 => by
        by_cases he : i = k
        · subst he; exact h
        · exact HD.out i hi (by omega)
      have HC := Lib.hid (HP.out wr l[k] HB.out)
      clear hat HD
      generalize l[k] = j at *
      unfold prmV at HC
      cases hd : (j.id == id)
      · rw [hd] at HC
        go_wp2_with (go_at_fn g; refine HC.out.mono ?_; rintro e w1 ⟨rfl, hb1⟩)
        exact ⟨⟨k + 1, by omega, by go_num, thenS HB.out hb1, HN.out hd⟩, by simp [intOf]; omega⟩
      · rw [hd] at HC
        have HE := Lib.hid (HF.out hd)
        go_wp2_with (go_at_fn g; refine HC.out.mono ?_; rintro e w1 ⟨rfl, hb1⟩)
        go_ret
        exact ⟨by rw [HE.out]; rfl, thenS HB.out hb1⟩
    · have HF := Lib.hid (findP_none (l := l) (id := id) (fun i hi => HD.out i hi (by omega)))
      go_wp2_with fail
      go_ret
      exact ⟨by rw [HF.out]; rfl, HB.out⟩
set_option maxHeartbeats 1600000 in
theorem place_fn (b : Nat) (id : Int) (j : Prm) (W : World) (hb : b < W.heap.size) (hc : W.cell? ⟨b, 0, none⟩ = some (.int .i64 id)) :
    Calls Try.prog 34 #[prmV j, .pointer (some ⟨b, 0, none⟩)] W (BoolL (j.id == id) W) := by
  have HX := Lib.hid (PrmBox.new W j 48)
  have HB := Lib.hid (box_s W (.cells #[.int .i64 j.id, .int .i64 j.at_, .int .i64 j.slack] 48))
  have hc2 : (W.alloc (.cells #[.int .i64 j.id, .int .i64 j.at_, .int .i64 j.slack] 48)).cell? ⟨b, 0, none⟩ = some (.int .i64 id) := (HB.out.cell (p := ⟨b, 0, none⟩) hb).trans hc
  clear hc
  unfold prmV
  go_enter Try.func34, Try.ntmps34
  go_upto_region 1 with fail
  generalize W.alloc (.cells #[.int .i64 j.id, .int .i64 j.at_, .int .i64 j.slack] 48) = W0 at *
  obtain ⟨y, y0, y1, y2, _, _, _⟩ := HX.out
  cases hd : (j.id == id)
  · go_wp2_with fail
    go_ret
    exact ⟨by first | rfl | (rw [hd]; rfl), HB.out⟩
  · go_wp2_with fail
    go_ret
    exact ⟨by first | rfl | (rw [hd]; rfl), HB.out⟩
set_option maxHeartbeats 1600000 in
theorem placeP (l : List Prm) (id : Int) (v : Value) (w : World) (hv : prmL.Is l w v) (hl : l.length ≤ 100000) : Calls Try.prog 19 #[v, .int .i64 id] w (IntL (findP l id) w) := by
  have eg : ∀ args w, (callFunc 34 args).run Try.prog w = .ok (.enter 34 args) w := enters_of Try.func34 (by kernel_rfl) rfl
  have HB := Lib.hid (box_s w (.cells #[.int .i64 id] 3))
  have hbx := (Raw.alloc w #[.int .i64 id] 3) 0 (.int .i64 id) rfl
  rw [add_flat] at hbx
  have HT : TellsP 34 #[.pointer (some ⟨w.heap.size, 0, none⟩)] id (w.alloc (.cells #[.int .i64 id] 3)) := fun W j hW =>
    place_fn w.heap.size id j W (Nat.lt_of_lt_of_le hbx.1 hW.size) ((hW.cell (p := ⟨w.heap.size, 0, none⟩) hbx.1).trans hbx.2)
  have C := Lib.hid (index_p 34 #[.pointer (some ⟨w.heap.size, 0, none⟩)] id l v _ eg HT (hv.below HB.out) hl)
  have hmf : ∀ (fn : Fn) (first cap : Array Value) (w : World), (Instr.makeFunc fn first cap).run Try.prog w = .ok (.func fn first cap) w := fun _ _ _ _ => rfl
  obtain ⟨A, c, rfl, _⟩ := hv.open_
  clear HT hbx hv eg
  generalize findP l id = F at *
  go_enter Try.func19, Try.ntmps19
  go_upto_region 1 with fail
  generalize w.alloc (.cells #[.int .i64 id] 3) = W0 at *
  go_wp2_with fail
  refine C.out.mono ?_
  rintro e w1 ⟨rfl, hb1⟩
  have HB1 := Lib.hid (thenS HB.out hb1)
  clear hb1
  go_wp2_with fail
  go_ret
  exact ⟨rfl, HB1.out⟩
def JobIsL (j : Jb) (w : World) (e : Ending) (w' : World) : Prop := e = .returned (jobV j) ∧ Below w.heap.size w w'
set_option maxRecDepth 100000 in
set_option maxHeartbeats 3200000 in
theorem jobOfS (js : List Jb) (id : Int) (u : Value) (w : World) (hu : JobsIs js w u) (hj : js.length ≤ 200) (hf : 0 ≤ findL js id) : Calls Try.prog 36 #[u, .int .i64 id] w (JobIsL (jobOf js id) w) := by
  obtain ⟨k, hk, hfl, hjo⟩ := job_found hf
  have HR0 := Lib.hid (JobBox.new w noJb 52)
  have HB0 := Lib.hid (box_s w (.cells #[.int .i64 0, .string ⟨#[]⟩, .int .i64 0, .int .i64 0, .int .i64 0, .int .i64 0, .int .i64 0, .int .i64 0, .int .i64 0] 52))
  have CP := Lib.hid (OrdWalk.placeS js id u _ (hu.below HB0.out) hj)
  rw [hfl] at CP
  obtain ⟨B, d, rfl, _, hB⟩ := hu.open_
  obtain ⟨aj, rfl, hat⟩ := hB k hk
  rw [← hjo] at hat
  have HAT := Lib.hid hat
  have hk1 : (k : Int) < (js.length : Int) := by omega
  have hk2 : (0 : Int) ≤ (k : Int) := by omega
  clear hu hB hat hfl hjo hf
  generalize jobOf js id = j at *
  unfold noJb at HR0
  go_enter Try.func36, Try.ntmps36
  go_upto_region 1 with fail
  generalize w.alloc (.cells #[.int .i64 0, .string ⟨#[]⟩, .int .i64 0, .int .i64 0, .int .i64 0, .int .i64 0, .int .i64 0, .int .i64 0, .int .i64 0] 52) = W0 at *
  go_wp2_with (go_at_call 22; refine CP.out.mono ?_; rintro e w1 ⟨rfl, hb1⟩; have HB1 := Lib.hid (thenS HB0.out hb1); have HR1 := Lib.hid (HR0.out.below hb1); clear hb1; obtain ⟨y, y0, y1, y2, y3, y4, y5, y6, y7, y8⟩ := HAT.out.below HB1.out; obtain ⟨z, z0, z1, z2, z3, z4, z5, z6, z7, z8, z9, z10, z11, z12, z13, z14, z15, z16, z17⟩ := HR1.out)
  change bodyPost _ _ _ Exit.ret _ (storedJ w1 w.heap.size j)
  have HS := Lib.hid (HR1.out.stored j)
  have HBS := Lib.hid (below_stored HB1.out (Nat.le_refl _) j)
  generalize storedJ w1 w.heap.size j = w9 at *
  clear z z0 z1 z2 z3 z4 z5 z6 z7 z8 z9 z10 z11 z12 z13 z14 z15 z16 z17 y y0 y1 y2 y3 y4 y5 y6 y7 y8
  obtain ⟨z, z0, z1, z2, z3, z4, z5, z6, z7, z8, z9, z10, z11, z12, z13, z14, z15, z16, z17⟩ := HS.out
  exact bodyPost_ret (v := jobV j) (by simp [results, Try.results36, go_sem, z0, z1, z2, z3, z4, z5, z6, z7, z8, jobV, jobA]) rfl ⟨rfl, HBS.out⟩
def mayQ (now : Int) (p : Prm) : Bool := decide (now ≤ p.at_) && (decide (p.at_ ≤ 1125899906842624) && (decide (0 ≤ p.slack) && decide (p.slack ≤ 1125899906842624)))
theorem q_ways (now : Int) (p : Prm) : (mayQ now p = false ∧ decide (now ≤ p.at_) = false) ∨ (mayQ now p = false ∧ decide (now ≤ p.at_) = true ∧ decide (p.at_ ≤ 1125899906842624) = false) ∨ (mayQ now p = false ∧ decide (now ≤ p.at_) = true ∧ decide (p.at_ ≤ 1125899906842624) = true ∧ decide (0 ≤ p.slack) = false) ∨
    (mayQ now p = decide (p.slack ≤ 1125899906842624) ∧ decide (now ≤ p.at_) = true ∧ decide (p.at_ ≤ 1125899906842624) = true ∧ decide (0 ≤ p.slack) = true) := by
  unfold mayQ
  cases decide (now ≤ p.at_) <;> cases decide (p.at_ ≤ 1125899906842624) <;> cases decide (0 ≤ p.slack) <;> simp
set_option maxHeartbeats 1600000 in
theorem mayBeS (now : Int) (p : Prm) (w : World) : Calls Try.prog 23 #[.int .i64 now, prmV p] w (BoolL (mayQ now p) w) := by
  have HX := Lib.hid (PrmBox.new w p 48)
  have HB := Lib.hid (box_s w (.cells #[.int .i64 p.id, .int .i64 p.at_, .int .i64 p.slack] 48))
  have hw := q_ways now p
  generalize mayQ now p = B at *
  unfold prmV
  rcases hw with ⟨rfl, h1⟩ | ⟨rfl, h1, h2⟩ | ⟨rfl, h1, h2, h3⟩ | ⟨h6, h1, h2, h3⟩
  all_goals
    go_enter Try.func23, Try.ntmps23
    go_upto_region 1 with fail
    generalize w.alloc (.cells #[.int .i64 p.id, .int .i64 p.at_, .int .i64 p.slack] 48) = W0 at *
    obtain ⟨y, y0, y1, y2, _, _, _⟩ := HX.out
  all_goals try (cases hd : decide (p.slack ≤ 1125899906842624))
  all_goals try rw [hd] at h6
  all_goals try subst h6
  all_goals
    go_wp2_with fail
    go_ret
    exact ⟨rfl, HB.out⟩
/-- What Clone answers. -/
def CloneP (l : List Prm) (w : World) (e : Ending) (w' : World) : Prop := ∃ v', e = .returned v' ∧ OwnN 48 3 w.heap.size w' v' l.length (prmL.vals l) ∧ Below w.heap.size w w'
theorem prms_eql (w : World) (a : Option Addr) (n c n' c' : Nat) : (binOp .eql 24 (.slice a n c) (.slice none n' c')).run Try.prog w = .ok (.bool a.isNone) w := Lib.run_eql_slice_nil w _ _ a n c n' c' Try.underlying24
set_option maxHeartbeats 1600000 in
theorem clone_p (l : List Prm) (v : Value) (w : World) (hv : prmL.Is l w v) (hl : l.length ≤ 100000) : Calls Try.prog 29 #[v] w (CloneP l w) := by
  have q22 := prms_eql
  rcases hv with ⟨rfl, rfl⟩ | ⟨a, c, rfl, hr, hn⟩
  · go_enter Try.func29, Try.ntmps29
    go_wp2_with fail
    go_ret
    exact ⟨_, rfl, OwnN.nil (Nat.le_refl _), Below.refl _ _⟩
  · have HR := Lib.hid hr
    have H1 := Lib.hid (prmL.cell l)
    have HL := Lib.hid (prmL.vals_len l)
    clear hr
    generalize hx : prmL.vals l = xs at *
    have HX := Lib.hid hx
    clear hx
    go_enter Try.func29, Try.ntmps29
    go_wp2_with (at_builtin; refine push_raw prm_t rfl (.tmp 5) (.tmp 6) rfl w.heap.size _ _ _ rfl (OwnR.new w 48 3) a l.length c xs rfl HL.out ?h1 H1.out ?h2 ?_)
    case h1 => exact HR.out.below (box_s _ _)
    case h2 => omega
    intro v' w' ho hb
    have HO := Lib.hid ho
    have HB := Lib.hid (((Below.refl _ _).alloc (Nat.le_refl _) _).trans hb)
    clear ho hb
    go_wp2_with fail
    go_ret
    exact ⟨_, rfl, (by rw [HX.out]; exact HO.out.toN.cast (by simp) (by simp)), HB.out⟩
theorem okQ (now : Int) (js : List Jb) (l : List Prm) (i : Nat) : (decide (0 ≤ findP (l.take i) (nthP l i).id) = true ∧ okP now js l i = false) ∨ (decide (0 ≤ findP (l.take i) (nthP l i).id) = false ∧ decide (findL js (nthP l i).id < 0) = true ∧ okP now js l i = false) ∨
    (decide (0 ≤ findP (l.take i) (nthP l i).id) = false ∧ decide (findL js (nthP l i).id < 0) = false ∧ mayQ now (nthP l i) = false ∧ okP now js l i = false) ∨ (decide (0 ≤ findP (l.take i) (nthP l i).id) = false ∧ decide (findL js (nthP l i).id < 0) = false ∧ mayQ now (nthP l i) = true ∧ okP now js l i = true) := by
  have hd : ∀ {x y : Int}, decide (x ≤ y) = !decide (y < x) := fun {x y} => by
    by_cases h : y < x
    · rw [decide_eq_true h, decide_eq_false (by omega)]; rfl
    · rw [decide_eq_false h, decide_eq_true (by omega)]; rfl
  unfold okP mayQ
  simp only [hd]
  cases decide (findL js (nthP l i).id < 0) <;> cases decide ((nthP l i).at_ < now) <;> cases decide (1125899906842624 < (nthP l i).at_) <;> cases decide ((nthP l i).slack < 0) <;> cases decide (1125899906842624 < (nthP l i).slack) <;> cases decide (findP (l.take i) (nthP l i).id < 0) <;> simp
set_option maxRecDepth 100000 in
set_option maxHeartbeats 3200000 in
theorem checkG (now : Int) (js : List Jb) (l : List Prm) (u v : Value) (w : World) (hu : JobsIs js w u) (hv : prmL.Is l w v) (hj : js.length ≤ 200) (hl : l.length ≤ 100000) : Calls Try.prog 9 #[.int .i64 now, u, v] w (BoolL (mayP now js l) w) := by
  have HU := Lib.hid hu
  have HV := Lib.hid hv
  obtain ⟨B, d, rfl, _⟩ := hu.open_
  obtain ⟨A, c, rfl, hn, hA⟩ := prms_open hv
  have HA := Lib.hid hA
  clear hA hv hu
  by_cases h100 : l.length ≤ 100
  case neg =>
    have HE : Hid (mayP now js l = false) := by show _ = _; unfold mayP; rw [decide_eq_false h100, Bool.and_false]
    have h101 : (100 : Int) < (l.length : Int) := by omega
    go_enter Try.func9, Try.ntmps9
    go_wp2_with fail
    go_ret
    exact ⟨by rw [HE.out]; rfl, Below.refl _ _⟩
  have h101 : ¬ (100 : Int) < (l.length : Int) := by omega
  go_enter Try.func9, Try.ntmps9
  go_wp2_with fail
  go_loopw [14] (fun i wr => ∃ k : Nat, k ≤ l.length ∧ i = .int .i64 k ∧ Hid (okTo now js l k = true ∧ Below w.heap.size w wr)) (fun i _ => l.length - (intOf i).toNat)
  case atStart => exact ⟨0, Nat.zero_le _, rfl, rfl, Below.refl _ _⟩
  case round =>
    obtain ⟨k, hk, rfl, HL⟩ := hrel
    obtain ⟨hok, hbl⟩ := HL.out
    have HBL := Lib.hid hbl
    by_cases hlt : k < l.length
    · obtain ⟨a, rfl, hat⟩ := HA.out k hlt
      rw [← nthP_at hlt] at hat
      obtain ⟨y, y0, y1, y2⟩ := hat.below hbl
      have hlt2 : (k : Int) < (l.length : Int) := by omega
      have hkn : (0 : Int) ≤ (k : Int) := by omega
      have hkc : (k : Int) ≤ (c : Int) := by omega
      have hways := okQ now js l k
      have HNO : Hid (okP now js l k = false → mayP now js l = false) := fun h => by unfold mayP; rw [okTo_no hlt h]; rfl
      have HNX : Hid (okP now js l k = true → okTo now js l (k + 1) = true) := fun h => by rw [okTo_next, hok, h]; rfl
      have HX := Lib.hid (PrmBox.new wr (nthP l k) 48)
      have HBX := Lib.hid (box_s wr (.cells #[.int .i64 (nthP l k).id, .int .i64 (nthP l k).at_, .int .i64 (nthP l k).slack] 48))
      have HB0 := Lib.hid (thenS hbl HBX.out)
      have HLT : Hid (wr.heap.size < (wr.alloc (.cells #[.int .i64 (nthP l k).id, .int .i64 (nthP l k).at_, .int .i64 (nthP l k).slack] 48)).heap.size) := by show _ < _; simp
      have C9 := Lib.hid (fun (z : Lull (wr.alloc (.cells #[.int .i64 (nthP l k).id, .int .i64 (nthP l k).at_, .int .i64 (nthP l k).slack] 48))) => placeP (l.take k) (nthP l k).id _ z.u (((prms_take HV.out hk).below HB0.out).below z.h) (by rw [List.length_take]; omega))
      have C8 := Lib.hid (fun (z : Lull (wr.alloc (.cells #[.int .i64 (nthP l k).id, .int .i64 (nthP l k).at_, .int .i64 (nthP l k).slack] 48))) => OrdWalk.placeS js (nthP l k).id _ z.u ((HU.out.below HB0.out).below z.h) hj)
      have C7 := Lib.hid (fun (z : Lull (wr.alloc (.cells #[.int .i64 (nthP l k).id, .int .i64 (nthP l k).at_, .int .i64 (nthP l k).slack] 48))) => mayBeS now (nthP l k) z.u)
      clear hat HL hok hbl
      unfold prmV at C7
      generalize findP (l.take k) (nthP l k).id = F at *
      generalize mayQ now (nthP l k) = M at *
      generalize nthP l k = p at *
      generalize findL js p.id = G at *
      generalize okP now js l k = X at *
      generalize mayP now js l = Y at *
      go_upto_region 6 with fail
      generalize wr.alloc (.cells #[.int .i64 p.id, .int .i64 p.at_, .int .i64 p.slack] 48) = W0 at *
      have p0 : ∀ z : Lull W0, _ := fun z => calm_cell HLT.out HX.out.c0 z
      have p1 : ∀ z : Lull W0, _ := fun z => calm_cell HLT.out HX.out.c1 z
      have p2 : ∀ z : Lull W0, _ := fun z => calm_cell HLT.out HX.out.c2 z
      clear y y0 y1 y2
      rcases hways with ⟨g1, rfl⟩ | ⟨g1, g2, rfl⟩ | ⟨g1, g2, rfl, rfl⟩ | ⟨g1, g2, rfl, rfl⟩
      all_goals
        first
          | have HE := Lib.hid (HNO.out rfl)
          | have HE := Lib.hid (HNX.out rfl)
        clear HNO HNX
        refine wp_region_calm (by kernel_rfl) (by kernel_rfl) ?_
        repeat (first | go_big_quiet_step ((first | (go_at_call 19; exact calm_of (C9.out _)) | (go_at_call 22; exact calm_of (C8.out _)) | (go_at_call 23; exact calm_of (C7.out _)))) | quiet_step ((first | (go_at_call 19; exact calm_of (C9.out _)) | (go_at_call 22; exact calm_of (C8.out _)) | (go_at_call 23; exact calm_of (C7.out _)))))
        refine wpQuiet_nil ?_
        intro w9 hw9
        have hb9 := lull_below hw9
        have HB9 := Lib.hid (thenS HB0.out hb9)
        clear hw9 hb9 p0 p1 p2 C8 C9 C7
        go_wp2_with fail
        first
          | exact ⟨⟨k + 1, by omega, by go_num, HE.out, HB9.out⟩, by simp [intOf] <;> omega⟩
          | (go_ret; exact ⟨by rw [HE.out]; rfl, HB9.out⟩)
    · obtain rfl : k = l.length := by omega
      have HE : Hid (mayP now js l = true) := by
        show _ = _
        unfold mayP
        rw [hok, Bool.true_and, decide_eq_true h100]
      clear HL hok hbl
      go_wp2_with fail
      go_ret
      exact ⟨by rw [HE.out]; rfl, HBL.out⟩
end Go.Proofs.Ytlfmkipcgcilaaa.SlaWalk
namespace Go.Proofs
open Go.Shelf
def Try.lays122_ren : Go.Shelf.Ren := ⟨fun | 122 => 66 | 215 => 70 | n => n, fun | 3 => 3 | 4 => 4 | n => n, fun | n => n⟩
theorem Try.lays122 : Go.Proofs.Lays.n122 Try.prog Try.lays122_ren := {
  mixed := by kernel_rfl
  f122 := Try.func66.trans (congrArg some (by kernel_rfl))
  f215 := Try.func70.trans (congrArg some (by kernel_rfl))
  t3 := Try.underlying3
  a3 := Try.isAgg3
  z3 := Try.sizeOf3
  v3 := Try.zeroValue3
  t4 := Try.underlying4
  a4 := Try.isAgg4
  z4 := Try.sizeOf4
  v4 := Try.zeroValue4 }
open Go.RowKit in
theorem Try.cmp_Compare_int (x y : Int) (w : World) :
    Calls Try.prog 66 #[.int .i64 x, .int .i64 y] w fun e w' => e = .returned (.int .i64 (Lib.compareInt x y)) ∧ w' = w := Any.cmp_Compare_int Try.lays122 x y w
end Go.Proofs
