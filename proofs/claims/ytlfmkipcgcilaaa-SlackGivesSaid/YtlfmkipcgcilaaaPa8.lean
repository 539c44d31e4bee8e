/-
  What the theorem uses of the texts below it.
-/
import Derived.Below
import Derived.Laws.OwnMore
import Derived.Deep.Draws
import Derived.Deep.OwnRows
import Derived.Lib.Hide
import Derived.OwnWalk
import Derived.Deep.QuietTactic
import Derived.BigQuiet
import Derived.Lib.SliceRun
import Derived.Test.YtlfmkipcgcilaaaRows
import Derived.WalkKit
import Derived.WalkSpells
import Derived.WalkLawsBesides
import Derived.Laws.StructEq
import Derived.LoopTactic
import Derived.Deep.CutBlock
import Derived.Deep.DeepCutAuto
import Derived.Deep.RegionHeld3
import Derived.ArgAppend
import Derived.Deep.RegionLaw
import Derived.Lib.AppendIntMem
import Derived.StillTailTactics
import Derived.Shelf.Abstract
import Derived.Lib.OwnBridge
import Derived.Shelf.Small.Bits
import Derived.Shelf.Small.Wraps
import Derived.Shelf.Strconv.Itoa0
import Derived.Test.YtlfmkipcgcilaaaProg
import Derived.Shelf.SlSortCmp.NoneTotal
import Derived.Shelf.SlicesG.Cmp
import Derived.BigRegion
import Derived.OpenShut
import Derived.Lib.SmallJoins
import Derived.Deep.Strs
import Derived.ChangeMaps5
import Derived.Test.YtlfmkipcgcilaaaPa7
namespace Go.Proofs.Ytlfmkipcgcilaaa.SlaWalk
open Go.RowKit Go.Proofs.Ytlfmkipcgcilaaa.SpanPlain Go.Proofs.Ytlfmkipcgcilaaa.StepPlain Go.Proofs.Ytlfmkipcgcilaaa.GapPlain Go.Proofs.Ytlfmkipcgcilaaa.JobPlain Go.Proofs.Ytlfmkipcgcilaaa.OrdPlain Go.Proofs.Ytlfmkipcgcilaaa.ApiPlain Go.Proofs.Ytlfmkipcgcilaaa.ShaPlain Go.Proofs.Ytlfmkipcgcilaaa.SlaPlain Go.Proofs.Ytlfmkipcgcilaaa.Mem Go.Proofs.Ytlfmkipcgcilaaa.SpanMem Go.Proofs.Ytlfmkipcgcilaaa.StepMem Go.Proofs.Ytlfmkipcgcilaaa.JobMem Go.Proofs.Ytlfmkipcgcilaaa.OrdMem Go.Proofs.Ytlfmkipcgcilaaa.ApiMem Go.Proofs.Ytlfmkipcgcilaaa.SpanRef Go.Proofs.Ytlfmkipcgcilaaa.StepRef Go.Proofs.Ytlfmkipcgcilaaa.GapRef Go.Proofs.Ytlfmkipcgcilaaa.ShaRef Go.Proofs.Ytlfmkipcgcilaaa.SlaRef
open Go.Proofs.Ytlfmkipcgcilaaa.StepWalk (NewAt)
/-- What a value points to lies apart from the result's box and the plan's. -/
def Apart (w : World) (N n : Nat) (v : Value) : Prop := ∀ a m c, v = .slice (some a) m c → 0 < n → a.block ≠ w.heap.size ∧ a.block ≠ N
/-- What is so in each round. -/
structure PassL (s : List Sp) (now : Int) (js : List Jb) (l : List Prm) (w : World) (N k : Nat) (t : List Sp) (P : List Prm) (st : List Int) (sv av bv : Value) (wr : World) : Prop where
  pass : passP now js s l [] l = passP now js t P st (l.drop k)
  inv : PassInv l P st
  seen : ∀ i ∈ st, ∃ q, q < k ∧ (nthP l q).id = i
  len : t.length ≤ s.length + 3 * st.length
  sp : SpansIs t wr sv
  spO : OffN t.length sv av
  spA : Apart w N t.length sv
  pr : prmL.Is P wr bv
  prO : OffN P.length bv av
  prA : Apart w N P.length bv
  row : OwnN 3 1 (w.heap.size + 1) wr av st.length (ivals st)
  noN : av.ownBlock ≠ some N
  box : Box2 wr N av bv
  ret : Box2 wr w.heap.size (.slice none 0 0) (.slice none 0 0)
  lt : w.heap.size < N
  bel : Below w.heap.size w wr
  n1 : NewAt (w.heap.size + 1) sv
  n2 : NewAt (w.heap.size + 1) bv
section
variable {s : List Sp} {now : Int} {js : List Jb} {l : List Prm} {w : World} {N k : Nat} {t : List Sp} {P : List Prm} {st : List Int} {sv av bv : Value} {wr w' W4 w4 : World}
theorem PassL.below (h : PassL s now js l w N k t P st sv av bv wr) (hb : Below wr.heap.size wr w') : PassL s now js l w N k t P st sv av bv w' :=
  ⟨h.pass, h.inv, h.seen, h.len, h.sp.below hb, h.spO, h.spA, h.pr.below hb, h.prO, h.prA, h.row.below hb, h.noN, h.box.below hb, h.ret.below hb, h.lt, thenS h.bel hb, h.n1, h.n2⟩
theorem PassL.skip (h : PassL s now js l w N k t P st sv av bv wr) (hk : k < l.length) (ht : tryP t now js P (nthP l k).id = none) (hb : Below wr.heap.size wr w') : PassL s now js l w N (k + 1) t P st sv av bv w' := by
  have h2 := h.below hb
  refine { h2 with pass := ?_, seen := fun i hi => ?_ }
  · rw [h.pass, drop_p hk, passP, ht]
  · obtain ⟨q, hq, e⟩ := h.seen i hi
    exact ⟨q, by omega, e⟩
theorem PassL.take {left : List Prm} {u3 v3 : Value} {A4 : Option Addr} {c4 : Nat} (h : PassL s now js l w N k t P st sv av bv wr) (hk : k < l.length) (hnd : (l.map (·.id)).Nodup) (ht : tryP t now js P (nthP l k).id = some left)
    (hb3 : Below wr.heap.size wr W4) (hpr : prmL.Is left W4 v3) (hsp : SpansIs (layL t now (jobOf js (nthP l k).id)) W4 u3) (hn3 : NewAt wr.heap.size v3) (hnu : NewAt wr.heap.size u3)
    (ho : OwnN 3 1 (w.heap.size + 1) w4 (.slice A4 (st.length + 1) c4) (st.length + 1) (ivals st ++ [.int .i64 (nthP l k).id])) (hb : Below (w.heap.size + 1) W4 w4) (hg : W4.grownBy w4 av.ownBlock) (hs : NextTo W4 av (.slice A4 (st.length + 1) c4)) :
    PassL s now js l w N (k + 1) (layL t now (jobOf js (nthP l k).id)) left (st ++ [(nthP l k).id]) u3 (.slice A4 (st.length + 1) c4) v3 ((w4.setCell ⟨N, 0, none⟩ (.slice A4 (st.length + 1) c4)).setCell ⟨N, 1, none⟩ v3) := by
  have hN := h.box.lt
  have hlt := h.lt
  have hrow := fun b q => h.row.block_lt (b := b) q
  have hmem : nthP l k ∈ l := by rw [nthP_at hk]; exact List.getElem_mem hk
  obtain ⟨hok, hal⟩ := tryP_shift ht
  have hv4 : (Value.slice A4 (st.length + 1) c4).ownBlock ≠ some N := by
    rcases hs with hs | ⟨b2, hs, hb2⟩
    · rw [hs]; exact h.noN
    · rw [hs]; intro q; injection q with q; have := hb3.size; omega
  have hsz : W4.heap.size ≤ ((w4.setCell ⟨N, 0, none⟩ (.slice A4 (st.length + 1) c4)).setCell ⟨N, 1, none⟩ v3).heap.size := by simp [World.setCell]; exact hg.size
  have hkeep : ∀ b', b' < W4.heap.size → b' ≠ N → av.ownBlock ≠ some b' → ((w4.setCell ⟨N, 0, none⟩ (.slice A4 (st.length + 1) c4)).setCell ⟨N, 1, none⟩ v3).heap[b']? = W4.heap[b']? := fun b' h1 h2 h3 =>
    (Below.heap_setCell _ ⟨N, 1, none⟩ _ b' h2).trans ((Below.heap_setCell _ ⟨N, 0, none⟩ _ b' h2).trans (hg.block b' h1 (fun q => h3 q.symm)))
  have hle := layL_len hok
  have hlen := h.len
  refine ⟨?_, h.inv.next hnd hmem (not_yet hnd hk h.seen) hal, ?_, ?_, ?_, ?_, ?_, ?_, ?_, ?_, ?_, hv4, ?_, ?_, hlt, ?_, hnu.mono (by omega), hn3.mono (by omega)⟩
  · rw [h.pass, drop_p hk, passP, ht]
  · intro i hi
    rcases List.mem_append.1 hi with hi | hi
    · obtain ⟨q, hq, e⟩ := h.seen i hi
      exact ⟨q, by omega, e⟩
    · rw [List.mem_singleton] at hi
      exact ⟨k, by omega, hi.symm⟩
  · rw [List.length_append, List.length_singleton]; omega
  · exact spans_kept hsp hsz fun a m c e hp => hkeep a.block (spans_lt hsp a m c e hp) (by have := hnu a m c e; omega) (fun q => by have := hnu a m c e; have := (hrow _ q).2; omega)
  · exact OffN.next (OffN.fresh hnu h.row) (spans_lt hsp) hs
  · intro a m c e _
    have := hnu a m c e
    omega
  · exact is_kept hpr hsz fun a m c e hp => hkeep a.block (is_lt hpr a m c e hp) (by have := hn3 a m c e; omega) (fun q => by have := hn3 a m c e; have := (hrow _ q).2; omega)
  · exact OffN.next (OffN.fresh hn3 h.row) (is_lt hpr) hs
  · intro a m c e _
    have := hn3 a m c e
    omega
  · refine ((ho.set_apart (p := ⟨N, 0, none⟩) hv4 _).set_apart (p := ⟨N, 1, none⟩) hv4 _).cast ?_ ?_
    · rw [List.length_append]; rfl
    · rw [ivals_append]; rfl
  · exact (((h.box.below hb3).grown hg h.noN).set0 _).set1 _
  · exact ((((h.ret.below hb3).grown hg (fun q => by have := (hrow _ q).1; omega)).set_other (p := ⟨N, 0, none⟩) (by show N ≠ _; omega) _).set_other (p := ⟨N, 1, none⟩) (by show N ≠ _; omega) _)
  · exact (((thenS h.bel hb3).trans (hb.mono (by omega))).setCell (p := ⟨N, 0, none⟩) (by show _ ≤ N; omega) _).setCell (p := ⟨N, 1, none⟩) (by show _ ≤ N; omega) _
end
/-- What a pass of promises tells; all of it is new memory. -/
def PassSaysN (s : List Sp) (now : Int) (js : List Jb) (l : List Prm) (w : World) (e : Ending) (w' : World) : Prop :=
  ∃ a b c st P t, e = .returned (.tuple #[.agg #[a, b], c, .int .i64 (codeP s now js l)]) ∧ IntsAt st w' a ∧ prmL.Is P w' b ∧ SpansIs t w' c ∧ ((codeP s now js l = 0 ∧ passP now js s l [] l = (st, P, t)) ∨ (codeP s now js l ≠ 0 ∧ st = [] ∧ P = [] ∧ t = [])) ∧ Below w.heap.size w w' ∧
    NewAt w.heap.size a ∧ NewAt w.heap.size b ∧ NewAt w.heap.size c
theorem PassSaysN.says {s : List Sp} {now : Int} {js : List Jb} {l : List Prm} {w w' : World} {e : Ending} (h : PassSaysN s now js l w e w') : PassSays s now js l w e w' := by
  obtain ⟨a, b, c, st, P, t, h1, h2, h3, h4, h5, h6, _⟩ := h
  exact ⟨a, b, c, st, P, t, h1, h2, h3, h4, h5, h6⟩
theorem says_none {s : List Sp} {now : Int} {js : List Jb} {l : List Prm} {w W : World} {k : Int} (hc : codeP s now js l = k) (hk : k ≠ 0) (h : Below w.heap.size w W) : PassSaysN s now js l w (.returned (.tuple #[.agg #[.slice none 0 0, .slice none 0 0], .slice none 0 0, .int .i64 k])) W :=
  ⟨_, _, _, [], [], [], by rw [hc], IntsAt.nil _, .inl ⟨rfl, rfl⟩, .inl ⟨rfl, rfl⟩, .inr ⟨by rw [hc]; exact hk, rfl, rfl, rfl⟩, h, NewAt.nil, NewAt.nil, NewAt.nil⟩
theorem codew_ways (s : List Sp) (now : Int) (js : List Jb) (l : List Prm) : ((c16 s now js.length != 0) = true ∧ codeP s now js l = c16 s now js.length ∧ c16 s now js.length ≠ 0) ∨ (c16 s now js.length = 0 ∧ mayP now js l = false ∧ codeP s now js l = 1) ∨ (c16 s now js.length = 0 ∧ mayP now js l = true ∧ codeP s now js l = 0) := by
  unfold codeP
  by_cases h : c16 s now js.length = 0
  · right
    rw [h]
    cases mayP now js l
    · exact .inl ⟨rfl, rfl, rfl⟩
    · exact .inr ⟨rfl, rfl, rfl⟩
  · exact .inl ⟨by simpa using h, if_pos h, h⟩
set_option maxRecDepth 100000 in
set_option maxHeartbeats 1600000 in
theorem passN (s : List Sp) (now : Int) (js : List Jb) (l : List Prm) (v u x : Value) (w : World) (hv : SpansIs s w v) (hu : JobsIs js w u) (hx : prmL.Is l w x) (hs : s.length + 3 * l.length + 3 ≤ 1000) (hj : js.length ≤ 200) : Calls Try.prog 14 #[v, .int .i64 now, u, x] w (PassSaysN s now js l w) := by
  have CE := Lib.hid (fun W (hW : Below w.heap.size w W) => checkE s now js v u W (hv.below hW) (by omega) (hu.below hW))
  have CK := Lib.hid (fun W (hW : Below w.heap.size w W) => checkG now js l u x W (hu.below hW) (hx.below hW) hj (by omega))
  have CC := Lib.hid (fun W (hW : Below w.heap.size w W) => clone_p l x W (hx.below hW) (by omega))
  have HV := Lib.hid hv
  have HU := Lib.hid hu
  have HR0 := Lib.hid (Box2.new w (.slice none 0 0) (.slice none 0 0) 39)
  have HB0 := Lib.hid (box_s w (.cells #[.slice none 0 0, .slice none 0 0] 39))
  have hsz : (w.alloc (.cells #[.slice none 0 0, .slice none 0 0] 39)).heap.size = w.heap.size + 1 := by simp
  rcases codew_ways s now js l with ⟨h1, h2, h3⟩ | ⟨h1, h2, h3⟩ | ⟨h1, h2, h3⟩
  · have HC := Lib.hid h2
    have HNE := Lib.hid h3
    obtain ⟨A, c, rfl, _⟩ := hv.open_
    obtain ⟨B, d, rfl, _⟩ := hu.open_
    obtain ⟨D, f, rfl, _⟩ := hx.open_
    clear hv hu hx h2 h3 HV HU CK CC
    generalize c16 s now js.length = C at *
    go_enter Try.func14, Try.ntmps14
    go_upto_region 1 with fail
    generalize w.alloc (.cells #[.slice none 0 0, .slice none 0 0] 39) = W0 at *
    go_wp2_with fail
    refine (CE.out W0 HB0.out).mono ?_
    rintro e w1 ⟨rfl, hb1⟩
    obtain ⟨z, z0, z1, zf0, zf1⟩ := HR0.out.below hb1
    have HB8 := Lib.hid (((thenS HB0.out hb1).setCell (p := ⟨w.heap.size, 0, none⟩) (Nat.le_refl _) (.slice none 0 0)).setCell (p := ⟨w.heap.size, 1, none⟩) (Nat.le_refl _) (.slice none 0 0))
    have HR8 := Lib.hid (((HR0.out.below hb1).set0 (.slice none 0 0)).set1 (.slice none 0 0))
    clear hb1 HB0 HR0 CE
    go_wp2_with fail
    obtain ⟨r, r0, r1, _, _⟩ := HR8.out
    generalize (w1.setCell ⟨w.heap.size, 0, none⟩ (.slice none 0 0)).setCell ⟨w.heap.size, 1, none⟩ (.slice none 0 0) = w8 at *
    exact bodyPost_ret (v := .tuple #[.agg #[.slice none 0 0, .slice none 0 0], .slice none 0 0, .int .i64 C]) (by simp [results, Try.results14, go_sem, r0, r1]) rfl (says_none HC.out HNE.out HB8.out)
  · have HC := Lib.hid h3
    obtain ⟨A, c, rfl, _⟩ := hv.open_
    obtain ⟨B, d, rfl, _⟩ := hu.open_
    obtain ⟨D, f, rfl, _⟩ := hx.open_
    rw [h1] at CE
    rw [h2] at CK
    clear hv hu hx h1 h2 h3 HV HU CC
    go_enter Try.func14, Try.ntmps14
    go_upto_region 1 with fail
    generalize w.alloc (.cells #[.slice none 0 0, .slice none 0 0] 39) = W0 at *
    go_wp2_with fail
    refine (CE.out W0 HB0.out).mono ?_
    rintro e w1 ⟨rfl, hb1⟩
    have HB1 := Lib.hid (thenS HB0.out hb1)
    have HR1 := Lib.hid (HR0.out.below hb1)
    clear hb1 HB0 HR0 CE
    go_wp2_with fail
    refine (CK.out w1 HB1.out).mono ?_
    rintro e w2 ⟨rfl, hb2⟩
    obtain ⟨z, z0, z1, zf0, zf1⟩ := HR1.out.below hb2
    have HB8 := Lib.hid (((thenS HB1.out hb2).setCell (p := ⟨w.heap.size, 0, none⟩) (Nat.le_refl _) (.slice none 0 0)).setCell (p := ⟨w.heap.size, 1, none⟩) (Nat.le_refl _) (.slice none 0 0))
    have HR8 := Lib.hid (((HR1.out.below hb2).set0 (.slice none 0 0)).set1 (.slice none 0 0))
    clear hb2 HB1 HR1 CK
    go_wp2_with fail
    obtain ⟨r, r0, r1, _, _⟩ := HR8.out
    generalize (w2.setCell ⟨w.heap.size, 0, none⟩ (.slice none 0 0)).setCell ⟨w.heap.size, 1, none⟩ (.slice none 0 0) = w8 at *
    exact bodyPost_ret (v := .tuple #[.agg #[.slice none 0 0, .slice none 0 0], .slice none 0 0, .int .i64 1]) (by simp [results, Try.results14, go_sem, r0, r1]) rfl (says_none HC.out (by decide) HB8.out)
  · have HC := Lib.hid h3
    have hc16 := c16_now h1
    have HKN := Lib.hid (ledger_known h2)
    have HMI := Lib.hid (ledger_mild h2 hc16.2.1)
    have HND := Lib.hid (may_nodup h2)
    have hp : 0 < s.length := ((chk_iff s).1 hc16.1).pos
    obtain ⟨A, c, rfl, hn, hA⟩ := hv.open2
    obtain ⟨ad, rfl, _, _, _⟩ := pair_zero hA hp
    have CS : Hid (∀ W, Below w.heap.size w W → Calls Try.prog 30 #[.slice (some ad) s.length c] W (StepWalk.CloneIs s.length (svals s) W)) := fun W hW => StepWalk.cloneS ad s.length c (svals s) W (svals_len s) (by omega) (StepWalk.raw_of (HV.out.below hW)) (svals_cell s)
    obtain ⟨B, d, rfl, _⟩ := hu.open_
    obtain ⟨D, f, rfl, hlf, hD⟩ := prms_open hx
    have HD := Lib.hid hD
    rw [h1] at CE
    rw [h2] at CK
    clear hv hu hx h1 h2 h3 hc16 hA hD
    go_enter Try.func14, Try.ntmps14
    go_upto_region 1 with fail
    generalize w.alloc (.cells #[.slice none 0 0, .slice none 0 0] 39) = W0 at *
    go_wp2_with fail
    refine (CE.out W0 HB0.out).mono ?_
    rintro e w1 ⟨rfl, hb1⟩
    have HB1 := Lib.hid (thenS HB0.out hb1)
    have HR1 := Lib.hid (HR0.out.below hb1)
    clear hb1 HB0 HR0 CE
    go_wp2_with fail
    refine (CK.out w1 HB1.out).mono ?_
    rintro e w2 ⟨rfl, hb2⟩
    have HB2 := Lib.hid (thenS HB1.out hb2)
    have HR2 := Lib.hid (HR1.out.below hb2)
    have hs2 : w.heap.size + 1 ≤ w2.heap.size := by have := HR2.out.lt; omega
    have CC2 := Lib.hid (CC.out w2 HB2.out)
    clear hb2 HB1 HR1 CK CC
    go_wp2_with fail
    refine CC2.out.mono ?_
    rintro e w3 ⟨v3, rfl, ho3, hb3⟩
    have HB3 := Lib.hid (thenS HB2.out hb3)
    have HR3 := Lib.hid (HR2.out.below hb3)
    have HP3 : Hid (prmL.Is l w3 v3) := Lay.Is.own ho3 rfl
    have HA3 : Hid (NewAt (w.heap.size + 1) v3) := NewAt.own ho3 hs2
    have HL3 := Lib.hid (is_lt HP3.out)
    obtain ⟨A3, c3, hv3⟩ := ho3.shape
    subst hv3
    clear hb3 ho3 CC2 HB2 HR2
    go_upto_region 7 with fail
    have HX4 := Lib.hid (Box2.new w3 (.slice none 0 0) (.slice A3 l.length c3) 39)
    have HR4 := Lib.hid (HR3.out.alloc (.cells #[.slice none 0 0, .slice A3 l.length c3] 39))
    have HB4 := Lib.hid (thenS HB3.out (box_s w3 (.cells #[.slice none 0 0, .slice A3 l.length c3] 39)))
    have HP4 := Lib.hid (HP3.out.below (box_s w3 (.cells #[.slice none 0 0, .slice A3 l.length c3] 39)))
    have HSZ : Hid ((w3.alloc (.cells #[.slice none 0 0, .slice A3 l.length c3] 39)).heap.size = w3.heap.size + 1) := by show _ = _; simp
    have HLT : Hid (w.heap.size < w3.heap.size) := HR3.out.lt
    have CS4 := Lib.hid (CS.out _ HB4.out)
    obtain ⟨N, hN⟩ : ∃ N, N = w3.heap.size := ⟨_, rfl⟩
    rw [← hN] at HX4 HSZ HLT HL3 ⊢
    clear hN CS HB3 HR3 HP3
    generalize w3.alloc (.cells #[.slice none 0 0, .slice A3 l.length c3] 39) = W4 at *
    go_wp2_with fail
    refine CS4.out.mono ?_
    rintro e w5 ⟨v5, rfl, ho5, hb5⟩
    have HN5 : Hid (NewAt (N + 1) v5) := NewAt.own ho5.toN (Nat.le_of_eq HSZ.out.symm)
    have HL0 : Hid (PassL s now js l w N 0 s l [] v5 (.slice none 0 0) (.slice A3 l.length c3) w5) := {
      pass := rfl, inv := PassInv.start fun p hp => (HMI.out p hp).2.1, seen := fun i hi => (by cases hi), len := Nat.le_refl _, sp := OwnR.spans ho5 rfl, spO := fun a m c e hp q => (by cases q),
      spA := fun a m c e _ => (by have := HN5.out a m c e; have := HLT.out; omega), pr := HP4.out.below hb5, prO := fun a m c e hp q => (by cases q),
      prA := fun a m c e hp => (by have h1 := HA3.out a m c e; have h2 := HL3.out a m c e hp; omega), row := OwnN.nil (by have := HSZ.out; have := hb5.size; have := HLT.out; omega), noN := (fun q => by cases q),
      box := HX4.out.below hb5, ret := HR4.out.below hb5, lt := HLT.out, bel := thenS HB4.out hb5, n1 := HN5.out.mono (by have := HLT.out; omega), n2 := HA3.out }
    obtain ⟨A5, c5, hv5⟩ := ho5.toN.shape
    subst hv5
    clear ho5 hb5 CS4 HX4 HR4 HB4 HSZ HLT HV HL3 HN5 HA3
    go_wp2_with fail
    go_loopw [13, 40] (fun sv i wr => ∃ (k : Nat) (t : List Sp) (P : List Prm) (st : List Int) (av bv : Value), i = .int .i64 k ∧ k ≤ l.length ∧ Hid (PassL s now js l w N k t P st sv av bv wr)) (fun _ i _ => l.length - (intOf i).toNat)
    case atStart => exact ⟨0, s, l, [], _, _, rfl, Nat.zero_le _, HL0.out⟩
    case round =>
      obtain ⟨k, t, P, st, av, bv, rfl, hk, HL⟩ := hrel
      by_cases hlt : k < l.length
      · obtain ⟨ap, rfl, hat⟩ := HD.out k hlt
        rw [← nthP_at hlt] at hat
        obtain ⟨x, x0, x1, x2⟩ := hat.below HL.out.bel
        have hlt2 : (k : Int) < (l.length : Int) := by omega
        have i0 : (0 : Int) ≤ (k : Int) := Int.natCast_nonneg _
        have hmem : nthP l k ∈ l := by rw [nthP_at hlt]; exact List.getElem_mem hlt
        have HX := Lib.hid (PrmBox.new wr (nthP l k) 48)
        have HBX := Lib.hid (box_s wr (.cells #[.int .i64 (nthP l k).id, .int .i64 (nthP l k).at_, .int .i64 (nthP l k).slack] 48))
        have HBL := Lib.hid (thenS HL.out.bel HBX.out)
        have HPB := Lib.hid (HL.out.box.below HBX.out)
        have CT := Lib.hid (trialS t now js P (nthP l k).id _ _ bv (wr.alloc (.cells #[.int .i64 (nthP l k).id, .int .i64 (nthP l k).at_, .int .i64 (nthP l k).slack] 48)) (HL.out.sp.below HBX.out) (HU.out.below HBL.out) (HL.out.pr.below HBX.out) (by have := HL.out.len; have := HL.out.inv.len; omega) hj (HKN.out _ hmem) (inv_known HL.out.inv HKN.out) (inv_mild HL.out.inv HMI.out))
        have HNONE := Lib.hid (fun w' h hb => HL.out.skip (w' := w') hlt h hb)
        have HTAKE := Lib.hid (fun left u3 v3 A4 c4 W4 w4 a1 a2 a3 a4 a5 a6 a7 a8 a9 a10 => HL.out.take (W4 := W4) (w4 := w4) (left := left) (u3 := u3) (v3 := v3) (A4 := A4) (c4 := c4) hlt HND.out a1 a2 a3 a4 a5 a6 a7 a8 a9 a10)
        have HROW := Lib.hid HL.out.row
        have HBOX := Lib.hid HL.out.box
        have HNO := Lib.hid HL.out.noN
        have HST : Hid (st.length ≤ 1000) := by show _ ≤ _; have := HL.out.inv.len; omega
        obtain ⟨As, cs, hsv, _⟩ := HL.out.sp.open_
        obtain ⟨Ab, cb, hbv, _⟩ := prms_open HL.out.pr
        obtain ⟨Aa, ca, hav⟩ := HL.out.row.shape
        subst hsv
        subst hbv
        subst hav
        clear hat hmem HL
        generalize nthP l k = p at *
        go_upto_region 11 with fail
        clear x x0 x1 x2
        obtain ⟨J, hJ⟩ : ∃ J, J = wr.heap.size := ⟨_, rfl⟩
        generalize wr.alloc (.cells #[.int .i64 p.id, .int .i64 p.at_, .int .i64 p.slack] 48) = W0 at *
        rw [← hJ] at HX ⊢
        have HJN : Hid (N < J) := by show N < J; rw [hJ]; exact HBOX.out.lt
        have HJA : Hid ((Value.slice Aa st.length ca).ownBlock ≠ some J) := fun q => by have := (HROW.out.block_lt q).2; omega
        clear hJ
        obtain ⟨y, y0, y1, y2, _, _, _⟩ := HX.out
        obtain ⟨b, b0, b1, _, _⟩ := HPB.out
        go_upto_region 12 with (go_at_call 20; refine CT.out.mono ?_; rintro e w3 ⟨v3, u3, r3, t3, b3, rfl, hr3, ht3, hc3, hb3, hn3, hnu⟩)
        have HB3 := Lib.hid (thenS HBX.out hb3)
        have HX3 := Lib.hid (HX.out.below hb3)
        have HR3 := Lib.hid hr3
        have HT3 := Lib.hid ht3
        have HN3 : Hid (NewAt wr.heap.size v3) := hn3.mono HBX.out.size
        have HNU : Hid (NewAt wr.heap.size u3) := hnu.mono HBX.out.size
        obtain ⟨Ar, cr, hv3, _⟩ := prms_open hr3
        subst hv3
        obtain ⟨Au, cu, hu3, _⟩ := ht3.open_
        subst hu3
        clear hr3 ht3 hb3 hn3 hnu CT y y0 y1 y2 b b0 b1 HPB HX
        rcases hc3 with ⟨hty, rfl, rfl, hok⟩ | ⟨hty, rfl, rfl, rfl⟩
        · have HTY := Lib.hid hty
          have HB4 := Lib.hid (thenS HB3.out (box_s w3 (.cells #[.int .i64 p.id] 3)))
          have HO4 := Lib.hid (HROW.out.below HB4.out)
          have HR4 := Lib.hid (HR3.out.below (box_s w3 (.cells #[.int .i64 p.id] 3)))
          have HT4 := Lib.hid (HT3.out.below (box_s w3 (.cells #[.int .i64 p.id] 3)))
          have HBX3 := Lib.hid (HBOX.out.below HB3.out)
          have HBX4 := Lib.hid (HBOX.out.below HB4.out)
          clear hty hok HNONE HR3 HT3
          obtain ⟨y, y0, y1, y2, _, _, _⟩ := HX3.out
          obtain ⟨b, b0, b1, _, _⟩ := HBX3.out
          go_wp2_with (at_builtin; refine push_sep ints_t rfl (.tmp 59) (.tmp 62) rfl (w.heap.size + 1) _ _ _ rfl HO4.out ⟨w3.heap.size, 0, none⟩ 1 1 [.int .i64 p.id] rfl rfl ?a1 Mem.one_cell ?a2 ?_)
          case a1 => exact Raw.alloc w3 _ _
          case a2 => have := HST.out; omega
          intro A4 c4 w4 ho4 hb4 hg4 hs4
          obtain ⟨e9, e0, e1, ef0, ef1⟩ := HBX4.out.grown hg4 HNO.out
          have HN := Lib.hid (HTAKE.out _ _ _ _ _ _ _ HTY.out HB4.out HR4.out HT4.out HN3.out HNU.out ho4 hb4 hg4 hs4)
          clear ho4 hb4 hg4 hs4 HTAKE y y0 y1 y2 b b0 b1 HBX3 HBX4 HX3 HO4 HR4 HT4 HB4
          go_wp2_with fail
          exact ⟨⟨k + 1, _, _, _, _, _, by go_num, by omega, HN.out⟩, by simp [intOf] <;> omega⟩
        · have HN := Lib.hid (HNONE.out w3 hty HB3.out)
          clear hty HNONE HTAKE HR3 HT3
          go_wp2_with fail
          exact ⟨⟨k + 1, _, _, _, _, _, by go_num, by omega, HN.out⟩, by simp [intOf] <;> omega⟩
      · obtain rfl : k = l.length := by omega
        have HP : Hid (passP now js s l [] l = (st, P, t)) := by show _ = _; rw [HL.out.pass, List.drop_length]; rfl
        have HLL := Lib.hid HL.out
        obtain ⟨As, cs, hsv, _⟩ := HL.out.sp.open_
        obtain ⟨Ab, cb, hbv, _⟩ := prms_open HL.out.pr
        obtain ⟨Aa, ca, hav⟩ := HL.out.row.shape
        subst hsv
        subst hbv
        subst hav
        have HR8 := Lib.hid ((HLL.out.ret.set0 (.slice Aa st.length ca)).set1 (.slice Ab P.length cb))
        have HKEEP : Hid (∀ b', b' ≠ w.heap.size → ((wr.setCell ⟨w.heap.size, 0, none⟩ (.slice Aa st.length ca)).setCell ⟨w.heap.size, 1, none⟩ (.slice Ab P.length cb)).heap[b']? = wr.heap[b']?) := fun b' h2 =>
          (Below.heap_setCell _ ⟨w.heap.size, 1, none⟩ _ b' h2).trans (Below.heap_setCell _ ⟨w.heap.size, 0, none⟩ _ b' h2)
        have HI8 : Hid (IntsAt st ((wr.setCell ⟨w.heap.size, 0, none⟩ (.slice Aa st.length ca)).setCell ⟨w.heap.size, 1, none⟩ (.slice Ab P.length cb)) (.slice Aa st.length ca)) :=
          IntsAt.own ((HLL.out.row.set_apart (p := ⟨w.heap.size, 0, none⟩) (fun h => by have := (HLL.out.row.block_lt h).1; simp at this; omega) _).set_apart (p := ⟨w.heap.size, 1, none⟩) (fun h => by have := (HLL.out.row.block_lt h).1; simp at this; omega) _) rfl
        have HS8 := Lib.hid (spans_kept (w' := (wr.setCell ⟨w.heap.size, 0, none⟩ (.slice Aa st.length ca)).setCell ⟨w.heap.size, 1, none⟩ (.slice Ab P.length cb)) HLL.out.sp (by simp [World.setCell]) (fun a m c e hp => HKEEP.out a.block (HLL.out.spA a m c e hp).1))
        have HP8 := Lib.hid (is_kept (w' := (wr.setCell ⟨w.heap.size, 0, none⟩ (.slice Aa st.length ca)).setCell ⟨w.heap.size, 1, none⟩ (.slice Ab P.length cb)) HLL.out.pr (by simp [World.setCell]) (fun a m c e hp => HKEEP.out a.block (HLL.out.prA a m c e hp).1))
        have HB8 := Lib.hid ((HLL.out.bel.setCell (p := ⟨w.heap.size, 0, none⟩) (Nat.le_refl _) (.slice Aa st.length ca)).setCell (p := ⟨w.heap.size, 1, none⟩) (Nat.le_refl _) (.slice Ab P.length cb))
        have HN1 : Hid (NewAt w.heap.size (.slice Aa st.length ca)) := NewAt.own HLL.out.row (Nat.le_succ _)
        have HN2 : Hid (NewAt w.heap.size (.slice Ab P.length cb)) := HLL.out.n2.mono (Nat.le_succ _)
        have HN3 : Hid (NewAt w.heap.size (.slice As t.length cs)) := HLL.out.n1.mono (Nat.le_succ _)
        obtain ⟨y, y0, y1, _, _⟩ := HLL.out.box
        obtain ⟨z, z0, z1, zf0, zf1⟩ := HLL.out.ret
        clear HL HLL HKEEP
        go_wp2_with fail
        clear y y0 y1 z z0 z1 zf0 zf1
        obtain ⟨r, r0, r1, _, _⟩ := HR8.out
        generalize (wr.setCell ⟨w.heap.size, 0, none⟩ (.slice Aa st.length ca)).setCell ⟨w.heap.size, 1, none⟩ (.slice Ab P.length cb) = w8 at *
        exact bodyPost_ret (v := .tuple #[.agg #[.slice Aa st.length ca, .slice Ab P.length cb], .slice As t.length cs, .int .i64 0]) (by simp [results, Try.results14, go_sem, r0, r1]) rfl ⟨_, _, _, st, P, t, by rw [HC.out], HI8.out, HP8.out, HS8.out, .inl ⟨HC.out, HP.out⟩, HB8.out, HN1.out, HN2.out, HN3.out⟩
theorem checkSl (now : Int) (js : List Jb) (l : List Prm) (u v : Value) (w : World) (hu : JobsIs js w u) (hv : prmL.Is l w v) (hj : js.length ≤ 20) (hl : l.length ≤ 20) : Calls Try.prog 9 #[.int .i64 now, u, v] w (BoolL (mayP now js l) w) := checkG now js l u v w hu hv (by omega) (by omega)
theorem trySl (s : List Sp) (now : Int) (js : List Jb) (l : List Prm) (id : Int) (v u x : Value) (w : World) (hv : SpansIs s w v) (hu : JobsIs js w u) (hx : prmL.Is l w x) (hs : s.length ≤ 100) (hj : js.length ≤ 20) (hl : l.length ≤ 20) : Calls Try.prog 7 #[v, .int .i64 now, u, x, .int .i64 id] w (TrySays s now js l id w) := tryG s now js l id v u x w hv hu hx (by omega) (by omega)
theorem passSl (s : List Sp) (now : Int) (js : List Jb) (l : List Prm) (v u x : Value) (w : World) (hv : SpansIs s w v) (hu : JobsIs js w u) (hx : prmL.Is l w x) (hs : s.length ≤ 100) (hj : js.length ≤ 20) (hl : l.length ≤ 20) : Calls Try.prog 14 #[v, .int .i64 now, u, x] w (PassSays s now js l w) := (passN s now js l v u x w hv hu hx (by omega) (by omega)).mono fun _ _ h => h.says
end Go.Proofs.Ytlfmkipcgcilaaa.SlaWalk
namespace Go.Proofs.Ytlfmkipcgcilaaa.SlaWalk
open Go.RowKit Go.Proofs.Ytlfmkipcgcilaaa.SpanPlain Go.Proofs.Ytlfmkipcgcilaaa.StepPlain Go.Proofs.Ytlfmkipcgcilaaa.GapPlain Go.Proofs.Ytlfmkipcgcilaaa.JobPlain Go.Proofs.Ytlfmkipcgcilaaa.OrdPlain Go.Proofs.Ytlfmkipcgcilaaa.ApiPlain Go.Proofs.Ytlfmkipcgcilaaa.ShaPlain Go.Proofs.Ytlfmkipcgcilaaa.SlaPlain Go.Proofs.Ytlfmkipcgcilaaa.Mem Go.Proofs.Ytlfmkipcgcilaaa.SpanMem Go.Proofs.Ytlfmkipcgcilaaa.StepMem Go.Proofs.Ytlfmkipcgcilaaa.JobMem Go.Proofs.Ytlfmkipcgcilaaa.OrdMem Go.Proofs.Ytlfmkipcgcilaaa.ApiMem Go.Proofs.Ytlfmkipcgcilaaa.SpanRef Go.Proofs.Ytlfmkipcgcilaaa.StepRef Go.Proofs.Ytlfmkipcgcilaaa.GapRef Go.Proofs.Ytlfmkipcgcilaaa.ShaRef Go.Proofs.Ytlfmkipcgcilaaa.SlaRef
theorem ex_spans (w : World) : SpansIs exS (w.alloc (.cells #[.int .i64 0, .int .i64 3, .int .i64 4, .int .i64 8] 50)) (.slice (some ⟨w.heap.size, 0, none⟩) 2 2) := .inr ⟨_, _, rfl, Raw.alloc w _ _, Nat.le_refl _⟩
theorem ex_jobs (w : World) {n : Nat} (e : w.heap.size = n) : JobsIs exJs (w.alloc (.cells #[.int .i64 1, .string ⟨#[]⟩, .int .i64 7, .int .i64 9, .int .i64 0, .int .i64 0, .int .i64 0, .int .i64 0, .int .i64 0, .int .i64 2, .string ⟨#[]⟩, .int .i64 2, .int .i64 6, .int .i64 0, .int .i64 0, .int .i64 0, .int .i64 0, .int .i64 0] 52)) (.slice (some ⟨n, 0, none⟩) 2 2) := by
  subst e
  exact .inr ⟨_, _, rfl, Raw.alloc w _ _, Nat.le_refl _⟩
theorem ex_prms (w : World) {n : Nat} (e : w.heap.size = n) : prmL.Is exP (w.alloc (.cells #[.int .i64 1, .int .i64 4, .int .i64 5, .int .i64 2, .int .i64 13, .int .i64 0] 48)) (.slice (some ⟨n, 0, none⟩) 2 2) := by
  subst e
  exact .inr ⟨_, _, rfl, Raw.alloc w _ _, Nat.le_refl _⟩
theorem ex_prmsQ (w : World) {n : Nat} (e : w.heap.size = n) : prmL.Is exQ (w.alloc (.cells #[.int .i64 1, .int .i64 4, .int .i64 1, .int .i64 2, .int .i64 13, .int .i64 0] 48)) (.slice (some ⟨n, 0, none⟩) 2 2) := by
  subst e
  exact .inr ⟨_, _, rfl, Raw.alloc w _ _, Nat.le_refl _⟩
theorem eq_ex (w : World) : (binOp .eql 48 (.agg #[.int .i64 1, .int .i64 6, .int .i64 3]) (.agg #[.int .i64 1, .int .i64 6, .int .i64 3])).run Try.prog w = .ok (.bool true) w := by
  have h1 : Try.prog.underlying 48 = some (.struct (Try.prog.fieldsOf 48)) := by kernel_rfl
  simp [go_sem]
theorem ex_tryF : tryF exS 0 exJs exQ 2 = none := by
  unfold tryF
  rw [ex_try]
  split <;> rfl
set_option maxRecDepth 100000 in
set_option maxHeartbeats 1200000 in
theorem awake_any (w : World) : Calls Try.prog 6 #[] w (TrueIs w) := by
  have E1 := eq_ex
  have s1 : (w.alloc (.cells #[.int .i64 0, .int .i64 3, .int .i64 4, .int .i64 8] 50)).heap.size = w.heap.size + 1 := by simp
  have s2 : ((w.alloc (.cells #[.int .i64 0, .int .i64 3, .int .i64 4, .int .i64 8] 50)).alloc (.cells #[.int .i64 1, .string ⟨#[]⟩, .int .i64 7, .int .i64 9, .int .i64 0, .int .i64 0, .int .i64 0, .int .i64 0, .int .i64 0, .int .i64 2, .string ⟨#[]⟩, .int .i64 2, .int .i64 6, .int .i64 0, .int .i64 0, .int .i64 0, .int .i64 0, .int .i64 0] 52)).heap.size = w.heap.size + 1 + 1 := by simp
  have HB1 := box_s w (.cells #[.int .i64 0, .int .i64 3, .int .i64 4, .int .i64 8] 50)
  have HB2 := HB1.alloc (by simp) (.cells #[.int .i64 1, .string ⟨#[]⟩, .int .i64 7, .int .i64 9, .int .i64 0, .int .i64 0, .int .i64 0, .int .i64 0, .int .i64 0, .int .i64 2, .string ⟨#[]⟩, .int .i64 2, .int .i64 6, .int .i64 0, .int .i64 0, .int .i64 0, .int .i64 0, .int .i64 0] 52)
  have HB3 := Lib.hid (HB2.alloc HB2.size (.cells #[.int .i64 1, .int .i64 4, .int .i64 5, .int .i64 2, .int .i64 13, .int .i64 0] 48))
  have HS := Lib.hid (((ex_spans w).below (box_s _ (.cells #[.int .i64 1, .string ⟨#[]⟩, .int .i64 7, .int .i64 9, .int .i64 0, .int .i64 0, .int .i64 0, .int .i64 0, .int .i64 0, .int .i64 2, .string ⟨#[]⟩, .int .i64 2, .int .i64 6, .int .i64 0, .int .i64 0, .int .i64 0, .int .i64 0, .int .i64 0] 52))).below (box_s _ (.cells #[.int .i64 1, .int .i64 4, .int .i64 5, .int .i64 2, .int .i64 13, .int .i64 0] 48)))
  have HJ := Lib.hid ((ex_jobs (w.alloc (.cells #[.int .i64 0, .int .i64 3, .int .i64 4, .int .i64 8] 50)) s1).below (box_s _ (.cells #[.int .i64 1, .int .i64 4, .int .i64 5, .int .i64 2, .int .i64 13, .int .i64 0] 48)))
  have HP := Lib.hid (ex_prms ((w.alloc (.cells #[.int .i64 0, .int .i64 3, .int .i64 4, .int .i64 8] 50)).alloc (.cells #[.int .i64 1, .string ⟨#[]⟩, .int .i64 7, .int .i64 9, .int .i64 0, .int .i64 0, .int .i64 0, .int .i64 0, .int .i64 0, .int .i64 2, .string ⟨#[]⟩, .int .i64 2, .int .i64 6, .int .i64 0, .int .i64 0, .int .i64 0, .int .i64 0, .int .i64 0] 52)) s2)
  clear s1 s2 HB1 HB2
  have CP := Lib.hid (passSl exS 0 exJs exP _ _ _ _ HS.out HJ.out HP.out (by decide) (by decide) (by decide))
  go_enter Try.func6, Try.ntmps6
  go_wp2_with fail
  generalize ((w.alloc (.cells #[.int .i64 0, .int .i64 3, .int .i64 4, .int .i64 8] 50)).alloc (.cells #[.int .i64 1, .string ⟨#[]⟩, .int .i64 7, .int .i64 9, .int .i64 0, .int .i64 0, .int .i64 0, .int .i64 0, .int .i64 0, .int .i64 2, .string ⟨#[]⟩, .int .i64 2, .int .i64 6, .int .i64 0, .int .i64 0, .int .i64 0, .int .i64 0, .int .i64 0] 52)).alloc (.cells #[.int .i64 1, .int .i64 4, .int .i64 5, .int .i64 2, .int .i64 13, .int .i64 0] 48) = W3 at *
  refine CP.out.mono ?_
  rintro e w4 ⟨a, b, c, st, P, t, rfl, ha, hb, hc, hcase, hb4⟩
  rw [ex_code]
  have HPA : Hid (passP 0 exJs exS exP [] exP = (st, P, t)) := by
    rcases hcase with ⟨_, h⟩ | ⟨h, _⟩
    · exact h
    · exact absurd ex_code h
  have h1 : st = [2] := by rw [← ex_starts, HPA.out]
  have h2 : P = [⟨1, 6, 3⟩] := by rw [← ex_left, HPA.out]
  subst h1 h2
  have HB4 := Lib.hid (thenS HB3.out hb4)
  have HS4 := Lib.hid (HS.out.below hb4)
  have HJ4 := Lib.hid (HJ.out.below hb4)
  obtain ⟨A1, c1, rfl, hn1, hc1⟩ := ha
  obtain ⟨a1, rfl, hl1, hcell1⟩ := hc1.at (show 0 < [(2 : Int)].length by decide)
  obtain ⟨A2, c2, rfl, hn2, hc2⟩ := prms_open hb
  obtain ⟨a2, rfl, hp9, hp0, hp1, hp2⟩ := hc2 0 (by decide)
  obtain ⟨A3, c3, rfl, _⟩ := hc.open_
  have hcell : w4.cell? a1 = some (.int .i64 2) := hcell1
  have p0 : w4.cell? a2 = some (.int .i64 1) := hp0
  have p1 : w4.cell? ⟨a2.block, a2.off + 1, none⟩ = some (.int .i64 6) := hp1
  have p2 : w4.cell? ⟨a2.block, a2.off + 2, none⟩ = some (.int .i64 3) := hp2
  have hp9 : a2.block < w4.heap.size := hp9
  rw [show ([(2 : Int)]).length = 1 from rfl, show ([⟨1, 6, 3⟩] : List Prm).length = 1 from rfl] at *
  have HBX := Lib.hid ((Box2.new w4 (.slice (some a1) 1 c1) (.slice (some a2) 1 c2) 39).alloc (.cells #[.int .i64 1, .int .i64 4, .int .i64 1, .int .i64 2, .int .i64 13, .int .i64 0] 48))
  have HB6 := Lib.hid ((box_s w4 (.cells #[.slice (some a1) 1 c1, .slice (some a2) 1 c2] 39)).alloc (by simp) (.cells #[.int .i64 1, .int .i64 4, .int .i64 1, .int .i64 2, .int .i64 13, .int .i64 0] 48))
  have s4 : (w4.alloc (.cells #[.slice (some a1) 1 c1, .slice (some a2) 1 c2] 39)).heap.size = w4.heap.size + 1 := by simp
  have HQ := Lib.hid (ex_prmsQ (w4.alloc (.cells #[.slice (some a1) 1 c1, .slice (some a2) 1 c2] 39)) s4)
  have CT := Lib.hid (trySl exS 0 exJs exQ 2 _ _ _ _ (HS4.out.below HB6.out) (HJ4.out.below HB6.out) HQ.out (by decide) (by decide) (by decide))
  clear hcase HPA hb4 CP hc hb hc1 hc2 hcell1 hp0 hp1 hp2 hn1 hn2 HS HJ HP HB3 s4
  go_wp2_with fail
  generalize (w4.alloc (.cells #[.slice (some a1) 1 c1, .slice (some a2) 1 c2] 39)).alloc (.cells #[.int .i64 1, .int .i64 4, .int .i64 1, .int .i64 2, .int .i64 13, .int .i64 0] 48) = W6 at *
  refine CT.out.mono ?_
  rintro e w7 ⟨v7, r7, b7, rfl, hr7, hc7, hb7⟩
  obtain ⟨rfl, rfl⟩ : r7 = [] ∧ b7 = false := by
    rcases hc7 with ⟨h, _⟩ | ⟨_, h⟩
    · rw [ex_tryF] at h; cases h
    · exact h
  obtain ⟨A7, c7, rfl, _, _⟩ := prms_open hr7
  have HB7 := Lib.hid (thenS (thenS HB4.out HB6.out) hb7)
  have hbb := HB6.out.trans (hb7.mono HB6.out.size)
  obtain ⟨x, x0, x1, _, _⟩ := HBX.out.below hb7
  have z1 := (hbb.cell (p := a1) hl1).trans hcell
  have z2 := (hbb.cell (p := a2) hp9).trans p0
  have z3 := (hbb.cell (p := ⟨a2.block, a2.off + 1, none⟩) hp9).trans p1
  have z4 := (hbb.cell (p := ⟨a2.block, a2.off + 2, none⟩) hp9).trans p2
  clear hb7 hc7 hr7 CT HB4 HB6 HQ HBX hbb hcell p0 p1 p2 HS4 HJ4
  go_wp2_with fail
  go_ret
  exact ⟨rfl, HB7.out⟩
end Go.Proofs.Ytlfmkipcgcilaaa.SlaWalk
namespace Go.Proofs.Ytlfmkipcgcilaaa.SlaWalk
open Go.RowKit Go.Proofs.Ytlfmkipcgcilaaa.SpanPlain Go.Proofs.Ytlfmkipcgcilaaa.StepPlain Go.Proofs.Ytlfmkipcgcilaaa.GapPlain Go.Proofs.Ytlfmkipcgcilaaa.JobPlain Go.Proofs.Ytlfmkipcgcilaaa.OrdPlain Go.Proofs.Ytlfmkipcgcilaaa.ApiPlain Go.Proofs.Ytlfmkipcgcilaaa.ShaPlain Go.Proofs.Ytlfmkipcgcilaaa.SlaPlain Go.Proofs.Ytlfmkipcgcilaaa.Mem Go.Proofs.Ytlfmkipcgcilaaa.SpanMem Go.Proofs.Ytlfmkipcgcilaaa.StepMem Go.Proofs.Ytlfmkipcgcilaaa.JobMem Go.Proofs.Ytlfmkipcgcilaaa.OrdMem Go.Proofs.Ytlfmkipcgcilaaa.ApiMem Go.Proofs.Ytlfmkipcgcilaaa.SpanRef Go.Proofs.Ytlfmkipcgcilaaa.StepRef Go.Proofs.Ytlfmkipcgcilaaa.GapRef Go.Proofs.Ytlfmkipcgcilaaa.ShaRef Go.Proofs.Ytlfmkipcgcilaaa.SlaRef
theorem sizes (a b c : Nat) : (decide ((100 : Int) < (a : Int)) = true) ∨ (decide ((100 : Int) < (a : Int)) = false ∧ decide ((20 : Int) < (b : Int)) = true) ∨ (decide ((100 : Int) < (a : Int)) = false ∧ decide ((20 : Int) < (b : Int)) = false ∧ decide ((20 : Int) < (c : Int)) = true) ∨
    (decide ((100 : Int) < (a : Int)) = false ∧ decide ((20 : Int) < (b : Int)) = false ∧ decide ((20 : Int) < (c : Int)) = false ∧ a ≤ 100 ∧ b ≤ 20 ∧ c ≤ 20) := by
  by_cases h1 : (100 : Int) < (a : Int)
  · exact .inl (decide_eq_true h1)
  · by_cases h2 : (20 : Int) < (b : Int)
    · exact .inr (.inl ⟨decide_eq_false h1, decide_eq_true h2⟩)
    · by_cases h3 : (20 : Int) < (c : Int)
      · exact .inr (.inr (.inl ⟨decide_eq_false h1, decide_eq_false h2, decide_eq_true h3⟩))
      · exact .inr (.inr (.inr ⟨decide_eq_false h1, decide_eq_false h2, decide_eq_false h3, by omega, by omega, by omega⟩))
theorem can_ways (s : List Sp) (now : Int) (js : List Jb) (l : List Prm) (id : Int) : (mayP now js l = false ∧ canTry s now js l id = false) ∨ (mayP now js l = true ∧ (c16 s now js.length != 0) = true ∧ canTry s now js l id = false) ∨
    (mayP now js l = true ∧ (c16 s now js.length != 0) = false ∧ decide (findP l id < 0) = true ∧ canTry s now js l id = false) ∨ (mayP now js l = true ∧ (c16 s now js.length != 0) = false ∧ decide (findP l id < 0) = false ∧ canTry s now js l id = true) := by
  unfold canTry
  cases mayP now js l with
  | false => exact .inl ⟨rfl, rfl⟩
  | true =>
    right
    by_cases h1 : c16 s now js.length = 0
    · right
      rw [h1]
      by_cases h2 : findP l id < 0
      · exact .inl ⟨rfl, rfl, decide_eq_true h2, by simp; omega⟩
      · exact .inr ⟨rfl, rfl, decide_eq_false h2, by simp; omega⟩
    · exact .inl ⟨rfl, by simpa using h1, by simp [h1]⟩
theorem tryF_len {s : List Sp} {now : Int} {js : List Jb} {l r : List Prm} {id : Int} (h : tryF s now js l id = some r) : r.length ≤ l.length := by
  unfold tryF at h
  split at h
  · have h1 := (tryP_shift h).2.len
    have h2 := List.length_filter_le (fun p : Prm => decide (p.id ≠ id)) l
    omega
  · cases h
theorem c16_zero {s : List Sp} {now : Int} {n : Nat} (h : c16 s now n = 0) : chkB s = true ∧ head s ≤ now ∧ now ≤ 1125899906842624 ∧ n ≤ 100 := by
  unfold c16 at h
  split at h
  · rename_i h1
    split at h
    · omega
    · exact ⟨h1.1, h1.2.1, h1.2.2, by omega⟩
  · omega
theorem may_known {now : Int} {js : List Jb} {l : List Prm} (h : mayP now js l = true) : Known js l := fun p hp => by
  obtain ⟨i, hi, rfl⟩ := List.mem_iff_getElem.1 hp
  rw [← nthP_at hi]
  exact (mayP_at h hi).1
theorem may_mild {s : List Sp} {now : Int} {js : List Jb} {l : List Prm} (h : mayP now js l = true) (hc : c16 s now js.length = 0) : Mild l := fun p hp => by
  obtain ⟨i, hi, rfl⟩ := List.mem_iff_getElem.1 hp
  rw [← nthP_at hi]
  obtain ⟨_, h2, h3, h4, h5, _⟩ := mayP_at h hi
  obtain ⟨g1, g2, _, _⟩ := c16_zero hc
  have := ((chk_iff s).1 g1).lo
  exact ⟨by omega, h4, by omega⟩
theorem may_found {now : Int} {js : List Jb} {l : List Prm} {id : Int} (h : mayP now js l = true) (hf : 0 ≤ findP l id) : 0 ≤ findL js id := by
  rcases findP_cases l id with ⟨h1, _⟩ | ⟨k, hk, _, h2⟩
  · omega
  · rw [← h2]; exact (mayP_at h hk).1
set_option maxRecDepth 100000 in
set_option maxHeartbeats 1200000 in
theorem tries_any (s : List Sp) (js : List Jb) (l : List Prm) (now id : Int) (v u q : Value) (w : World) (hv : SpansIs s w v) (hu : JobsIs js w u) (hq : prmL.Is l w q) :
    Calls Try.prog 3 #[v, .agg #[u, q], .agg #[.int .i64 now, .int .i64 id]] w (TrueIs w) := by
  have HV := Lib.hid hv
  have HU := Lib.hid hu
  have HQ := Lib.hid hq
  obtain ⟨A, c, rfl, _⟩ := hv.open_
  obtain ⟨B, d, rfl, _, _⟩ := hu.open_
  obtain ⟨D, f, rfl, _, _⟩ := prms_open hq
  clear hv hu hq
  have HAW := Lib.hid (fun w => awake_any w)
  have HX0 := Lib.hid ((Box2.new w (.slice B js.length d) (.slice D l.length f) 26).alloc (.cells #[.int .i64 now, .int .i64 id] 27))
  have HY := Box2.new (w.alloc (.cells #[.slice B js.length d, .slice D l.length f] 26)) (.int .i64 now) (.int .i64 id) 27
  rw [show (w.alloc (.cells #[.slice B js.length d, .slice D l.length f] 26)).heap.size = w.heap.size + 1 by simp] at HY
  have HY0 := Lib.hid HY
  have HB0 := Lib.hid ((box_s w (.cells #[.slice B js.length d, .slice D l.length f] 26)).alloc (by simp) (.cells #[.int .i64 now, .int .i64 id] 27))
  clear HY
  rcases sizes s.length js.length l.length with g1 | ⟨g1, g2⟩ | ⟨g1, g2, g3⟩ | ⟨g1, g2, g3, hs, hj, hl⟩
  iterate 3
    · go_enter Try.func3, Try.ntmps3
      go_upto_region 1 with fail
      generalize (w.alloc (.cells #[.slice B js.length d, .slice D l.length f] 26)).alloc (.cells #[.int .i64 now, .int .i64 id] 27) = w0 at *
      obtain ⟨x, x0, x1, _, _⟩ := HX0.out
      go_wp2_with fail
      refine (HAW.out _).mono ?_
      rintro e w1 ⟨rfl, hb1⟩
      have HB1 := Lib.hid (thenS HB0.out hb1)
      clear hb1
      go_wp2_with fail
      go_ret
      exact ⟨rfl, HB1.out⟩
  · have CT : Hid (∀ W, Below w.heap.size w W → Calls Try.prog 7 #[.slice A s.length c, .int .i64 now, .slice B js.length d, .slice D l.length f, .int .i64 id] W (TrySays s now js l id W)) := fun W hW => trySl s now js l id _ _ _ W (HV.out.below hW) (HU.out.below hW) (HQ.out.below hW) hs hj hl
    have CM : Hid (∀ W, Below w.heap.size w W → Calls Try.prog 8 #[.int .i64 now, .slice B js.length d, .slice D l.length f] W (BoolL (mayP now js l) W)) := fun W hW => may19 now js l _ _ W (HU.out.below hW) (by omega) (HQ.out.below hW) (by omega)
    have CC : Hid (∀ W, Below w.heap.size w W → Calls Try.prog 9 #[.int .i64 now, .slice B js.length d, .slice D l.length f] W (BoolL (mayP now js l) W)) := fun W hW => checkSl now js l _ _ W (HU.out.below hW) (HQ.out.below hW) hj hl
    have C6 : Hid (∀ W, Below w.heap.size w W → Calls Try.prog 10 #[.slice A s.length c, .int .i64 now, .slice B js.length d] W (IntN (c16 s now js.length) W)) := fun W hW => check16 s now js _ _ W (HV.out.below hW) (by omega) (HU.out.below hW)
    have CF : Hid (∀ W, Below w.heap.size w W → Calls Try.prog 11 #[.slice D l.length f, .int .i64 id] W (SlaRef.IntQ (findP l id) W)) := fun W hW => find19 l id _ W (HQ.out.below hW) (by omega)
    have CR : Hid (canTry s now js l id = true → ∀ W, Below w.heap.size w W → Calls Try.prog 12 #[.slice A s.length c, .int .i64 now, .slice B js.length d, .slice D l.length f, .int .i64 id] W (TryTells s now js l id W)) := fun h W hW => by
      unfold canTry at h
      simp only [Bool.and_eq_true, decide_eq_true_eq] at h
      obtain ⟨h1, h2, h3⟩ := h
      exact try19 s now js l id _ _ _ W (HV.out.below hW) (HU.out.below hW) (HQ.out.below hW) (by omega) (by omega) (may_found h1 h3) (may_known h1) (may_mild h1 h2)
    have hways := can_ways s now js l id
    have HTF : Hid (canTry s now js l id = true → tryF s now js l id = tryP s now js l id) := fun h => by unfold tryF; rw [if_pos h]
    have HTN : Hid (canTry s now js l id = false → tryF s now js l id = none) := fun h => by unfold tryF; rw [if_neg (by rw [h]; decide)]
    generalize canTry s now js l id = K at *
    generalize mayP now js l = M at *
    generalize c16 s now js.length = C at *
    generalize findP l id = F at *
    have dM : (M != M) = false := by cases M <;> rfl
    go_enter Try.func3, Try.ntmps3
    go_upto_region 1 with fail
    generalize (w.alloc (.cells #[.slice B js.length d, .slice D l.length f] 26)).alloc (.cells #[.int .i64 now, .int .i64 id] 27) = w0 at *
    obtain ⟨x, x0, x1, _, _⟩ := HX0.out
    obtain ⟨y, y0, y1, _, _⟩ := HY0.out
    go_wp2_with fail
    refine (CT.out _ HB0.out).mono ?_
    rintro e w1 ⟨v1, r1, b1, rfl, hr1, hc1, hb1⟩
    have HB1 := Lib.hid (thenS HB0.out hb1)
    have HX1 := Lib.hid (HX0.out.below hb1)
    have HY1 := Lib.hid (HY0.out.below hb1)
    have HR1 := Lib.hid hr1
    have HC1 := Lib.hid hc1
    obtain ⟨A1, c1, rfl, _, _⟩ := prms_open hr1
    have HRL : Hid (r1.length ≤ 20) := by
      rcases hc1 with ⟨h, _⟩ | ⟨_, h, _⟩
      · exact Nat.le_trans (tryF_len h) hl
      · subst h; exact Nat.zero_le _
    clear hb1 x x0 x1 y y0 y1 HX0 HY0 HB0 hr1 hc1 CT
    obtain ⟨x, x0, x1, _, _⟩ := HX1.out
    obtain ⟨y, y0, y1, _, _⟩ := HY1.out
    go_wp2_with fail
    refine (CM.out _ HB1.out).mono ?_
    rintro e w2 ⟨rfl, hb2⟩
    have HB2 := Lib.hid (thenS HB1.out hb2)
    have HX2 := Lib.hid (HX1.out.below hb2)
    have HY2 := Lib.hid (HY1.out.below hb2)
    have HR2 := Lib.hid (HR1.out.below hb2)
    clear hb2 x x0 x1 y y0 y1 HX1 HY1 HB1 CM HR1
    obtain ⟨x, x0, x1, _, _⟩ := HX2.out
    obtain ⟨y, y0, y1, _, _⟩ := HY2.out
    go_wp2_with fail
    refine (CC.out _ HB2.out).mono ?_
    rintro e w3 ⟨rfl, hb3⟩
    have HB3 := Lib.hid (thenS HB2.out hb3)
    have HX3 := Lib.hid (HX2.out.below hb3)
    have HY3 := Lib.hid (HY2.out.below hb3)
    have HR3 := Lib.hid (HR2.out.below hb3)
    clear hb3 x x0 x1 y y0 y1 HX2 HY2 HB2 CC HR2
    obtain ⟨x, x0, x1, _, _⟩ := HX3.out
    obtain ⟨y, y0, y1, _, _⟩ := HY3.out
    rcases hways with ⟨rfl, rfl⟩ | ⟨rfl, g4, rfl⟩ | ⟨rfl, g4, g5, rfl⟩ | ⟨rfl, g4, g5, rfl⟩
    · have HE := Lib.hid (HTN.out rfl)
      obtain ⟨rfl, rfl⟩ : r1 = [] ∧ b1 = false := by
        rcases HC1.out with ⟨h, _⟩ | ⟨_, h⟩
        · rw [HE.out] at h; cases h
        · exact h
      clear HC1 HTN HTF CR HE
      go_wp2_with fail
      refine (HAW.out _).mono ?_
      rintro e w4 ⟨rfl, hb4⟩
      have HB4 := Lib.hid (thenS HB3.out hb4)
      clear hb4
      go_wp2_with fail
      go_ret
      exact ⟨rfl, HB4.out⟩
    · have HE := Lib.hid (HTN.out rfl)
      obtain ⟨rfl, rfl⟩ : r1 = [] ∧ b1 = false := by
        rcases HC1.out with ⟨h, _⟩ | ⟨_, h⟩
        · rw [HE.out] at h; cases h
        · exact h
      clear HC1 HTN HTF CR HE
      go_wp2_with fail
      refine (C6.out _ HB3.out).mono ?_
      rintro e w4 ⟨rfl, n4, rfl⟩
      have HB4 := Lib.hid (below_drewN HB3.out n4)
      go_wp2_with fail
      refine (HAW.out _).mono ?_
      rintro e w5 ⟨rfl, hb5⟩
      have HB5 := Lib.hid (thenS HB4.out hb5)
      clear hb5
      go_wp2_with fail
      go_ret
      exact ⟨rfl, HB5.out⟩
    · have HE := Lib.hid (HTN.out rfl)
      obtain ⟨rfl, rfl⟩ : r1 = [] ∧ b1 = false := by
        rcases HC1.out with ⟨h, _⟩ | ⟨_, h⟩
        · rw [HE.out] at h; cases h
        · exact h
      clear HC1 HTN HTF CR HE
      go_wp2_with fail
      refine (C6.out _ HB3.out).mono ?_
      rintro e w4 ⟨rfl, n4, rfl⟩
      have HB4 := Lib.hid (below_drewN HB3.out n4)
      go_wp2_with fail
      refine (CF.out _ HB4.out).mono ?_
      rintro e w5 ⟨rfl, rfl⟩
      go_wp2_with fail
      refine (HAW.out _).mono ?_
      rintro e w5 ⟨rfl, hb5⟩
      have HB5 := Lib.hid (thenS HB4.out hb5)
      clear hb5
      go_wp2_with fail
      go_ret
      exact ⟨rfl, HB5.out⟩
    · have HE := Lib.hid (HTF.out rfl)
      have CR2 := Lib.hid (CR.out rfl)
      clear CR HTF HTN
      go_wp2_with fail
      refine (C6.out _ HB3.out).mono ?_
      rintro e w4 ⟨rfl, n4, rfl⟩
      have HB4 := Lib.hid (below_drewN HB3.out n4)
      go_wp2_with fail
      refine (CF.out _ HB4.out).mono ?_
      rintro e w5 ⟨rfl, rfl⟩
      go_wp2_with fail
      refine (CR2.out _ HB4.out).mono ?_
      rintro e w5 ⟨v5, b5, rfl, hc5, hb5, _⟩
      have HB5 := Lib.hid (thenS HB4.out hb5)
      have HR5 := Lib.hid ((HR3.out.below (below_drewN (Below.refl w3.heap.size w3) n4)).below hb5)
      obtain ⟨rfl, HS⟩ : b1 = b5 ∧ Hid (Calls Try.prog 13 #[.slice A1 r1.length c1, v5] w5 (BoolN true w5)) := by
        have h20 : r1.length ≤ 100000 := by have := HRL.out; omega
        rcases HC1.out with ⟨h1, h2⟩ | ⟨h1, h2, h3⟩ <;> rcases hc5 with ⟨r5, h4, h5, h6⟩ | ⟨h4, h5, h6⟩
        · rw [HE.out, h4] at h1
          injection h1 with h1
          subst h1
          exact ⟨h2.trans h5.symm, same19 _ _ _ w5 HR5.out h6 h20⟩
        · rw [HE.out, h4] at h1; cases h1
        · rw [HE.out, h4] at h1; cases h1
        · subst h2
          exact ⟨h3.trans h5.symm, same19 [] _ _ w5 HR5.out (.inl ⟨h6, rfl⟩) (Nat.zero_le _)⟩
      have dB : (b1 == b1) = true := by cases b1 <;> rfl
      clear hc5 hb5 HC1 CR2 HE HR3
      go_wp2_with fail
      refine HS.out.mono ?_
      rintro e w6 ⟨rfl, n6, rfl⟩
      have HB6 := Lib.hid (below_drewN HB5.out n6)
      go_wp2_with fail
      refine (HAW.out _).mono ?_
      rintro e w7 ⟨rfl, hb7⟩
      have HB7 := Lib.hid (thenS HB6.out hb7)
      clear hb7
      go_wp2_with fail
      go_ret
      exact ⟨rfl, HB7.out⟩
end Go.Proofs.Ytlfmkipcgcilaaa.SlaWalk
namespace Go.Proofs.Ytlfmkipcgcilaaa.SlaWalk
open Go.RowKit Go.Proofs.Ytlfmkipcgcilaaa.SpanPlain Go.Proofs.Ytlfmkipcgcilaaa.StepPlain Go.Proofs.Ytlfmkipcgcilaaa.GapPlain Go.Proofs.Ytlfmkipcgcilaaa.JobPlain Go.Proofs.Ytlfmkipcgcilaaa.OrdPlain Go.Proofs.Ytlfmkipcgcilaaa.ApiPlain Go.Proofs.Ytlfmkipcgcilaaa.ShaPlain Go.Proofs.Ytlfmkipcgcilaaa.SlaPlain Go.Proofs.Ytlfmkipcgcilaaa.Mem Go.Proofs.Ytlfmkipcgcilaaa.SpanMem Go.Proofs.Ytlfmkipcgcilaaa.StepMem Go.Proofs.Ytlfmkipcgcilaaa.JobMem Go.Proofs.Ytlfmkipcgcilaaa.OrdMem Go.Proofs.Ytlfmkipcgcilaaa.ApiMem Go.Proofs.Ytlfmkipcgcilaaa.SpanRef Go.Proofs.Ytlfmkipcgcilaaa.StepRef Go.Proofs.Ytlfmkipcgcilaaa.GapRef Go.Proofs.Ytlfmkipcgcilaaa.ShaRef Go.Proofs.Ytlfmkipcgcilaaa.SlaRef
theorem code_ways (s : List Sp) (now : Int) (js : List Jb) (l : List Prm) : ((c16 s now js.length == 0) = false ∧ codeP s now js l = c16 s now js.length ∧ (c16 s now js.length != 0) = true) ∨
    ((c16 s now js.length == 0) = true ∧ c16 s now js.length = 0 ∧ mayP now js l = false ∧ codeP s now js l = 1) ∨ ((c16 s now js.length == 0) = true ∧ c16 s now js.length = 0 ∧ mayP now js l = true ∧ codeP s now js l = 0) := by
  unfold codeP
  by_cases h : c16 s now js.length = 0
  · right
    rw [h]
    cases mayP now js l <;> simp
  · exact .inl ⟨by simpa using h, by rw [if_pos h], by simpa using h⟩
set_option maxRecDepth 100000 in
set_option maxHeartbeats 1200000 in
theorem pass_any (s : List Sp) (js : List Jb) (l : List Prm) (now : Int) (v u q : Value) (w : World) (hv : SpansIs s w v) (hu : JobsIs js w u) (hq : prmL.Is l w q) :
    Calls Try.prog 4 #[v, .int .i64 now, .agg #[u, q]] w (TrueIs w) := by
  have HV := Lib.hid hv
  have HU := Lib.hid hu
  have HQ := Lib.hid hq
  obtain ⟨A, c, rfl, _⟩ := hv.open_
  obtain ⟨B, d, rfl, _, _⟩ := hu.open_
  obtain ⟨D, f, rfl, _, _⟩ := prms_open hq
  clear hv hu hq
  have HAW := Lib.hid (fun w => awake_any w)
  have HX0 := Lib.hid (Box2.new w (.slice B js.length d) (.slice D l.length f) 26)
  have HB0 := Lib.hid (box_s w (.cells #[.slice B js.length d, .slice D l.length f] 26))
  rcases sizes s.length js.length l.length with g1 | ⟨g1, g2⟩ | ⟨g1, g2, g3⟩ | ⟨g1, g2, g3, hs, hj, hl⟩
  iterate 3
    · go_enter Try.func4, Try.ntmps4
      go_upto_region 1 with fail
      generalize w.alloc (.cells #[.slice B js.length d, .slice D l.length f] 26) = w0 at *
      obtain ⟨x, x0, x1, _, _⟩ := HX0.out
      go_wp2_with fail
      refine (HAW.out _).mono ?_
      rintro e w1 ⟨rfl, hb1⟩
      have HB1 := Lib.hid (thenS HB0.out hb1)
      clear hb1
      go_wp2_with fail
      go_ret
      exact ⟨rfl, HB1.out⟩
  · have CP : Hid (∀ W, Below w.heap.size w W → Calls Try.prog 14 #[.slice A s.length c, .int .i64 now, .slice B js.length d, .slice D l.length f] W (PassSays s now js l W)) := fun W hW => passSl s now js l _ _ _ W (HV.out.below hW) (HU.out.below hW) (HQ.out.below hW) hs hj hl
    have CM : Hid (∀ W, Below w.heap.size w W → Calls Try.prog 8 #[.int .i64 now, .slice B js.length d, .slice D l.length f] W (BoolL (mayP now js l) W)) := fun W hW => may19 now js l _ _ W (HU.out.below hW) (by omega) (HQ.out.below hW) (by omega)
    have C6 : Hid (∀ W, Below w.heap.size w W → Calls Try.prog 10 #[.slice A s.length c, .int .i64 now, .slice B js.length d] W (IntN (c16 s now js.length) W)) := fun W hW => check16 s now js _ _ W (HV.out.below hW) (by omega) (HU.out.below hW)
    have CR : Hid (c16 s now js.length = 0 → mayP now js l = true → ∀ W, Below w.heap.size w W → Calls Try.prog 16 #[.slice A s.length c, .int .i64 now, .slice B js.length d, .slice D l.length f] W (PassTells s now js l W)) := fun h1 h2 W hW =>
      pass19 s now js l _ _ _ W (HV.out.below hW) (HU.out.below hW) (HQ.out.below hW) (by omega) (by omega) (may_known h2) (may_mild h2 h1) (may_nodup h2)
    have hways := code_ways s now js l
    go_enter Try.func4, Try.ntmps4
    go_upto_region 1 with fail
    generalize w.alloc (.cells #[.slice B js.length d, .slice D l.length f] 26) = w0 at *
    obtain ⟨x, x0, x1, _, _⟩ := HX0.out
    go_wp2_with fail
    refine (CP.out _ HB0.out).mono ?_
    rintro e w1 ⟨a1, b1, c1, st, P, t, rfl, ha1, hb1, ht1, hcase, hw1⟩
    have HB1 := Lib.hid (thenS HB0.out hw1)
    have HX1 := Lib.hid (HX0.out.below hw1)
    have HA1 := Lib.hid ha1
    have HP1 := Lib.hid hb1
    have HT1 := Lib.hid ht1
    have HC1 := Lib.hid hcase
    obtain ⟨A1, k1, rfl, _, _⟩ := ha1
    obtain ⟨A2, k2, rfl, _, _⟩ := prms_open hb1
    obtain ⟨A3, k3, rfl, _⟩ := ht1.open_
    have HY1 := Lib.hid (Box2.new w1 (.slice A1 st.length k1) (.slice A2 P.length k2) 39)
    have HB2 := Lib.hid (thenS HB1.out (box_s w1 (.cells #[.slice A1 st.length k1, .slice A2 P.length k2] 39)))
    have HZ2 := Lib.hid (box_s w1 (.cells #[.slice A1 st.length k1, .slice A2 P.length k2] 39))
    have HX2 := Lib.hid (HX1.out.alloc (.cells #[.slice A1 st.length k1, .slice A2 P.length k2] 39))
    clear hcase hw1 hb1 ht1 CP x x0 x1 HX0 HB0 HX1 HB1
    go_upto_region 4 with fail
    generalize w1.alloc (.cells #[.slice A1 st.length k1, .slice A2 P.length k2] 39) = w2 at *
    obtain ⟨x, x0, x1, _, _⟩ := HX2.out
    go_wp2_with fail
    refine (C6.out _ HB2.out).mono ?_
    rintro e w3 ⟨rfl, n3, rfl⟩
    have HB3 := Lib.hid (below_drewN HB2.out n3)
    have HX3 := Lib.hid (HX2.out.drewN n3)
    have HY3 := Lib.hid (HY1.out.drewN n3)
    have HZ3 := Lib.hid (below_drewN HZ2.out n3)
    clear x x0 x1 HX2 HY1 HB2 HZ2 C6
    generalize w2.drewN n3 = W3 at *
    obtain ⟨x, x0, x1, _, _⟩ := HX3.out
    obtain ⟨y, y0, y1, _, _⟩ := HY3.out
    rcases hways with ⟨g4, g5, g6⟩ | ⟨g4, g5, g6, g7⟩ | ⟨g4, g5, g6, g7⟩
    · obtain ⟨rfl, rfl, rfl⟩ : st = [] ∧ P = [] ∧ t = [] := by
        rcases HC1.out with ⟨h, _⟩ | ⟨_, h⟩
        · rw [g5] at h; rw [h] at g6; cases g6
        · exact h
      have CS := Lib.hid (same16 [] [] _ _ (.slice none 0 0) (.slice none 0 0) W3 (HA1.out.below HZ3.out) (HP1.out.below HZ3.out) (IntsAt.nil W3) (.inl ⟨rfl, rfl⟩) (Nat.zero_le _) (Nat.zero_le _))
      rw [g5]
      have g8 : (c16 s now js.length == c16 s now js.length) = true := by simp
      generalize c16 s now js.length = C at *
      clear HC1 CR CM
      go_wp2_with fail
      refine CS.out.mono ?_
      rintro e w4 ⟨rfl, hb4⟩
      have HB4 := Lib.hid (thenS HB3.out hb4)
      clear hb4
      go_wp2_with fail
      refine (HAW.out _).mono ?_
      rintro e w5 ⟨rfl, hb5⟩
      have HB5 := Lib.hid (thenS HB4.out hb5)
      clear hb5
      go_wp2_with fail
      go_ret
      exact ⟨rfl, HB5.out⟩
    · obtain ⟨rfl, rfl, rfl⟩ : st = [] ∧ P = [] ∧ t = [] := by
        rcases HC1.out with ⟨h, _⟩ | ⟨_, h⟩
        · rw [g7] at h; cases h
        · exact h
      rw [g7]
      rw [g6] at CM
      clear HC1 CR
      generalize c16 s now js.length = C at *
      go_wp2_with fail
      refine (CM.out _ HB3.out).mono ?_
      rintro e w4 ⟨rfl, hb4⟩
      have HB4 := Lib.hid (thenS HB3.out hb4)
      have CS := Lib.hid (same16 [] [] _ _ (.slice none 0 0) (.slice none 0 0) w4 ((HA1.out.below HZ3.out).below hb4) ((HP1.out.below HZ3.out).below hb4) (IntsAt.nil w4) (.inl ⟨rfl, rfl⟩) (Nat.zero_le _) (Nat.zero_le _))
      have HY4 := Lib.hid (HY3.out.below hb4)
      clear hb4 y y0 y1 HY3
      obtain ⟨y, y0, y1, _, _⟩ := HY4.out
      go_wp2_with fail
      refine CS.out.mono ?_
      rintro e w5 ⟨rfl, hb5⟩
      have HB5 := Lib.hid (thenS HB4.out hb5)
      clear hb5
      go_wp2_with fail
      refine (HAW.out _).mono ?_
      rintro e w6 ⟨rfl, hb6⟩
      have HB6 := Lib.hid (thenS HB5.out hb6)
      clear hb6
      go_wp2_with fail
      go_ret
      exact ⟨rfl, HB6.out⟩
    · have HPA : Hid (passP now js s l [] l = (st, P, t)) := by
        rcases HC1.out with ⟨_, h⟩ | ⟨h, _⟩
        · exact h
        · exact absurd g7 h
      have CR2 := Lib.hid (CR.out g5 g6)
      rw [g7]
      rw [g6] at CM
      clear HC1 CR
      generalize c16 s now js.length = C at *
      subst g5
      go_wp2_with fail
      refine (CM.out _ HB3.out).mono ?_
      rintro e w4 ⟨rfl, hb4⟩
      have HB4 := Lib.hid (thenS HB3.out hb4)
      have HX4 := Lib.hid (HX3.out.below hb4)
      have HY4 := Lib.hid (HY3.out.below hb4)
      have HZ4 := Lib.hid (thenS HZ3.out hb4)
      clear hb4 x x0 x1 y y0 y1 HX3 HY3 HB3 HZ3 CM
      obtain ⟨x, x0, x1, _, _⟩ := HX4.out
      go_wp2_with fail
      refine (CR2.out _ HB4.out).mono ?_
      rintro e w5 ⟨a5, b5, c5, st5, P5, t5, rfl, hpa, ha5, hb5, ht5, hl5, htl5, hw5⟩
      obtain ⟨rfl, rfl, rfl⟩ : st5 = st ∧ P5 = P ∧ t5 = t := by
        rw [HPA.out] at hpa
        injection hpa with h1 h2
        injection h2 with h2 h3
        exact ⟨h1.symm, h2.symm, h3.symm⟩
      have HZ5 := Lib.hid (thenS HZ4.out hw5)
      have HB5 := Lib.hid (thenS HB4.out hw5)
      have HY5 := Lib.hid (HY4.out.below hw5)
      have HA5 := Lib.hid ha5
      have HP5 := Lib.hid hb5
      have HT5 := Lib.hid ht5
      obtain ⟨A5, k5, rfl, _, _⟩ := ha5
      obtain ⟨A6, k6, rfl, _, _⟩ := prms_open hb5
      obtain ⟨A7, k7, rfl, _⟩ := ht5.open_
      have HZB := Lib.hid (box_s w5 (.cells #[.slice A5 st5.length k5, .slice A6 P5.length k6] 39))
      have HY6 := Lib.hid (HY5.out.below HZB.out)
      have HW6 := Lib.hid (Box2.new w5 (.slice A5 st5.length k5) (.slice A6 P5.length k6) 39)
      have HL := Lib.hid hl5
      have HTL := Lib.hid htl5
      clear hw5 hb5 ht5 hpa hl5 htl5 CR2 x x0 x1 HX4 HY4 HB4 HZ4 HY5
      go_upto_region 10 with fail
      generalize w5.alloc (.cells #[.slice A5 st5.length k5, .slice A6 P5.length k6] 39) = w6 at *
      obtain ⟨x, x0, x1, _, _⟩ := HY6.out
      obtain ⟨y, y0, y1, _, _⟩ := HW6.out
      have CS := Lib.hid (same16 st5 P5 _ _ _ _ w6 ((HA1.out.below HZ5.out).below HZB.out) ((HP1.out.below HZ5.out).below HZB.out) (HA5.out.below HZB.out) (HP5.out.below HZB.out) (by have := HL.out; omega) (by have := HL.out; omega))
      go_wp2_with fail
      refine CS.out.mono ?_
      rintro e w7 ⟨rfl, hb7⟩
      have C4 := Lib.hid (same4 t5 t5 _ _ w7 (((HT1.out.below HZ5.out).below HZB.out).below hb7) ((HT5.out.below HZB.out).below hb7) (by have := HTL.out; omega) (by have := HTL.out; omega))
      rw [decide_eq_true rfl] at C4
      have HB7 := Lib.hid (thenS (thenS HB5.out HZB.out) hb7)
      clear hb7 CS
      go_wp2_with fail
      refine C4.out.mono ?_
      rintro e w8 ⟨rfl, n8, rfl⟩
      have HB8 := Lib.hid (below_drewN HB7.out n8)
      go_wp2_with fail
      refine (HAW.out _).mono ?_
      rintro e w9 ⟨rfl, hb9⟩
      have HB9 := Lib.hid (thenS HB8.out hb9)
      clear hb9
      go_wp2_with fail
      go_ret
      exact ⟨rfl, HB9.out⟩
end Go.Proofs.Ytlfmkipcgcilaaa.SlaWalk
namespace Go.Proofs.Ytlfmkipcgcilaaa.SlaWalk
open Go.RowKit Go.Proofs.Ytlfmkipcgcilaaa.SpanPlain Go.Proofs.Ytlfmkipcgcilaaa.StepPlain Go.Proofs.Ytlfmkipcgcilaaa.GapPlain Go.Proofs.Ytlfmkipcgcilaaa.JobPlain Go.Proofs.Ytlfmkipcgcilaaa.OrdPlain Go.Proofs.Ytlfmkipcgcilaaa.ApiPlain Go.Proofs.Ytlfmkipcgcilaaa.ShaPlain Go.Proofs.Ytlfmkipcgcilaaa.SlaPlain Go.Proofs.Ytlfmkipcgcilaaa.Mem Go.Proofs.Ytlfmkipcgcilaaa.SpanMem Go.Proofs.Ytlfmkipcgcilaaa.StepMem Go.Proofs.Ytlfmkipcgcilaaa.JobMem Go.Proofs.Ytlfmkipcgcilaaa.OrdMem Go.Proofs.Ytlfmkipcgcilaaa.ApiMem Go.Proofs.Ytlfmkipcgcilaaa.SpanRef Go.Proofs.Ytlfmkipcgcilaaa.StepRef Go.Proofs.Ytlfmkipcgcilaaa.GapRef Go.Proofs.Ytlfmkipcgcilaaa.ShaRef Go.Proofs.Ytlfmkipcgcilaaa.SlaRef
theorem inv_of {s t : List Sp} {now : Int} {js : List Jb} {l P : List Prm} {st : List Int} (hm : mayP now js l = true) (h : passP now js s l [] l = (st, P, t)) : PassInv l P st := by
  have hn := may_nodup hm
  have hs : ∀ p ∈ l, 0 ≤ p.slack := fun p hp => by
    obtain ⟨i, hi, rfl⟩ := List.mem_iff_getElem.1 hp
    rw [← nthP_at hi]
    exact (mayP_at hm hi).2.2.2.1
  have := pass_inv (now := now) (js := js) hn (s := s) (PassInv.start hs) (fun p hp => ⟨hp, fun h => by cases h⟩) hn
  rw [h] at this
  exact this
theorem count_take {st : List Int} {m : Nat} (hm : m < st.length) (id : Int) : (st.take (m + 1)).count id = (st.take m).count id + if (st.getD m 0 == id) = true then 1 else 0 := by
  have hg : st.getD m 0 = st[m] := by simp [List.getD, hm]
  rw [List.take_succ_eq_append_getElem hm, List.count_append, hg]
  congr 1
  rw [List.count_singleton]
theorem count_le (st : List Int) (m : Nat) (id : Int) : (st.take m).count id ≤ m := Nat.le_trans List.count_le_length (by rw [List.length_take]; omega)
/-- What the statement's own loop asks of one promise, as it tests it. -/
theorem gives_ways {x P : List Prm} {st : List Int} (h : PassInv x P st) (hn : (x.map (·.id)).Nodup) {p : Prm} (hp : p ∈ x) (hm1 : -9223372036854775808 ≤ p.at_ ∧ p.at_ ≤ 4503599627370496) (hm2 : 0 ≤ p.slack ∧ p.at_ + p.slack ≤ 4503599627370496 ∧ 0 ≤ p.at_) :
    (findP P p.id = -1 ∧ st.count p.id = 1) ∨ ∃ k : Nat, k < P.length ∧ findP P p.id = k ∧ st.count p.id = 0 ∧ IntKind.i64.wrap ((nthP P k).at_ - p.at_) = (nthP P k).at_ - p.at_ ∧ decide ((nthP P k).at_ - p.at_ < 0) = false ∧
      IntKind.i64.wrap (p.slack - (nthP P k).slack) = p.slack - (nthP P k).slack ∧ (p.slack - (nthP P k).slack != (nthP P k).at_ - p.at_) = false ∧ decide ((nthP P k).slack < 0) = false := by
  rcases gives_at h hn hp with h1 | ⟨k, h1, h2, h3, h4, h5, h6⟩
  · exact .inl h1
  · refine .inr ⟨k, h1, h2, h3, ?_, decide_eq_false (by omega), ?_, by simp; omega, decide_eq_false (by omega)⟩
    · rw [IntKind.wrap_i64]; omega
    · rw [IntKind.wrap_i64]; omega
set_option maxRecDepth 100000 in
set_option maxHeartbeats 1200000 in
theorem gives_any (s : List Sp) (js : List Jb) (l : List Prm) (now : Int) (v u q : Value) (w : World) (hv : SpansIs s w v) (hu : JobsIs js w u) (hq : prmL.Is l w q) :
    Calls Try.prog 5 #[v, .int .i64 now, .agg #[u, q]] w (TrueIs w) := by
  have HV := Lib.hid hv
  have HU := Lib.hid hu
  have HQ := Lib.hid hq
  obtain ⟨A, c, rfl, _⟩ := hv.open_
  obtain ⟨B, d, rfl, _, _⟩ := hu.open_
  obtain ⟨D, f, rfl, _, hD⟩ := prms_open hq
  have HD := Lib.hid hD
  clear hv hu hq hD
  have HAW := Lib.hid (fun w => awake_any w)
  have HX0 := Lib.hid (Box2.new w (.slice B js.length d) (.slice D l.length f) 26)
  have HB0 := Lib.hid (box_s w (.cells #[.slice B js.length d, .slice D l.length f] 26))
  rcases sizes s.length js.length l.length with g1 | ⟨g1, g2⟩ | ⟨g1, g2, g3⟩ | ⟨g1, g2, g3, hs, hj, hl⟩
  iterate 3
    · go_enter Try.func5, Try.ntmps5
      go_upto_region 1 with fail
      generalize w.alloc (.cells #[.slice B js.length d, .slice D l.length f] 26) = w0 at *
      obtain ⟨x, x0, x1, _, _⟩ := HX0.out
      go_wp2_with fail
      refine (HAW.out _).mono ?_
      rintro e w1 ⟨rfl, hb1⟩
      have HB1 := Lib.hid (thenS HB0.out hb1)
      clear hb1
      go_wp2_with fail
      go_ret
      exact ⟨rfl, HB1.out⟩
  · have CP : Hid (∀ W, Below w.heap.size w W → Calls Try.prog 14 #[.slice A s.length c, .int .i64 now, .slice B js.length d, .slice D l.length f] W (PassSays s now js l W)) := fun W hW => passSl s now js l _ _ _ W (HV.out.below hW) (HU.out.below hW) (HQ.out.below hW) hs hj hl
    have CM : Hid (∀ W, Below w.heap.size w W → Calls Try.prog 8 #[.int .i64 now, .slice B js.length d, .slice D l.length f] W (BoolL (mayP now js l) W)) := fun W hW => may19 now js l _ _ W (HU.out.below hW) (by omega) (HQ.out.below hW) (by omega)
    have C6 : Hid (∀ W, Below w.heap.size w W → Calls Try.prog 10 #[.slice A s.length c, .int .i64 now, .slice B js.length d] W (IntN (c16 s now js.length) W)) := fun W hW => check16 s now js _ _ W (HV.out.below hW) (by omega) (HU.out.below hW)
    cases hm : mayP now js l with
    | false =>
      rw [hm] at CM
      go_enter Try.func5, Try.ntmps5
      go_upto_region 1 with fail
      generalize w.alloc (.cells #[.slice B js.length d, .slice D l.length f] 26) = w0 at *
      obtain ⟨x, x0, x1, _, _⟩ := HX0.out
      go_wp2_with fail
      refine (CM.out _ HB0.out).mono ?_
      rintro e w1 ⟨rfl, hb1⟩
      have HB1 := Lib.hid (thenS HB0.out hb1)
      clear hb1
      go_wp2_with fail
      refine (HAW.out _).mono ?_
      rintro e w2 ⟨rfl, hb2⟩
      have HB2 := Lib.hid (thenS HB1.out hb2)
      clear hb2
      go_wp2_with fail
      go_ret
      exact ⟨rfl, HB2.out⟩
    | true =>
      rw [hm] at CM
      have HM := Lib.hid hm
      by_cases hc : c16 s now js.length = 0
      · have hcode : Hid (codeP s now js l = 0) := by show _ = _; unfold codeP; rw [hc, hm]; rfl
        have HC := Lib.hid hc
        have HML := Lib.hid (may_mild hm hc)
        rw [hc] at C6
        clear hc hm
        go_enter Try.func5, Try.ntmps5
        go_upto_region 1 with fail
        generalize w.alloc (.cells #[.slice B js.length d, .slice D l.length f] 26) = w0 at *
        obtain ⟨x, x0, x1, _, _⟩ := HX0.out
        go_wp2_with fail
        refine (CM.out _ HB0.out).mono ?_
        rintro e w1 ⟨rfl, hb1⟩
        have HB1 := Lib.hid (thenS HB0.out hb1)
        have HX1 := Lib.hid (HX0.out.below hb1)
        clear hb1 x x0 x1 HX0 HB0 CM
        obtain ⟨x, x0, x1, _, _⟩ := HX1.out
        go_wp2_with fail
        refine (C6.out _ HB1.out).mono ?_
        rintro e w2 ⟨rfl, n2, rfl⟩
        have HB2 := Lib.hid (below_drewN HB1.out n2)
        have HX2 := Lib.hid (HX1.out.drewN n2)
        clear x x0 x1 HX1 HB1 C6
        generalize w1.drewN n2 = W2 at *
        obtain ⟨x, x0, x1, _, _⟩ := HX2.out
        go_wp2_with fail
        refine (CP.out _ HB2.out).mono ?_
        rintro e w3 ⟨a1, b1, c1, st, P, t, rfl, ha1, hb1, ht1, hcase, hw1⟩
        rw [hcode.out]
        have HPA : Hid (passP now js s l [] l = (st, P, t)) := by
          rcases hcase with ⟨_, h⟩ | ⟨h, _⟩
          · exact h
          · exact absurd hcode.out h
        have HINV := Lib.hid (inv_of HM.out HPA.out)
        have HLEN := Lib.hid HINV.out.len
        have HB3 := Lib.hid (thenS HB2.out hw1)
        have HX3 := Lib.hid (HX2.out.below hw1)
        have HP1 := Lib.hid hb1
        obtain ⟨A1, k1, rfl, _, hcl⟩ := ha1
        have HCL := Lib.hid hcl
        obtain ⟨A2, k2, rfl, _, hpl⟩ := prms_open hb1
        have HPL := Lib.hid hpl
        obtain ⟨A3, k3, rfl, _⟩ := ht1.open_
        have HY3 := Lib.hid (Box2.new w3 (.slice A1 st.length k1) (.slice A2 P.length k2) 39)
        have HZ3 := Lib.hid (box_s w3 (.cells #[.slice A1 st.length k1, .slice A2 P.length k2] 39))
        have HX4 := Lib.hid (HX3.out.below HZ3.out)
        have HB4 := Lib.hid (thenS HB3.out HZ3.out)
        have hsum : IntKind.i64.wrap ((st.length : Int) + (P.length : Int)) = (l.length : Int) := by rw [IntKind.wrap_i64]; have := HLEN.out; omega
        have hne : ((l.length : Int) != (l.length : Int)) = false := by simp
        have hst20 : st.length ≤ 20 := by have := HLEN.out; omega
        have hP20 : P.length ≤ 20 := by have := HLEN.out; omega
        clear hcase hw1 hb1 ht1 hcl hpl CP x x0 x1 HX2 HB2 HX3 HB3
        go_upto_region 4 with fail
        generalize w3.alloc (.cells #[.slice A1 st.length k1, .slice A2 P.length k2] 39) = W4 at *
        obtain ⟨x, x0, x1, _, _⟩ := HX4.out
        obtain ⟨y, y0, y1, _, _⟩ := HY3.out
        go_wp2_with fail
        clear hsum hne
        go_loopw [10] (fun i wr => ∃ k : Nat, i = .int .i64 k ∧ k ≤ l.length ∧ Hid (Below W4.heap.size W4 wr)) (fun i _ => l.length - (intOf i).toNat)
        case atStart => exact ⟨0, rfl, Nat.zero_le _, Below.refl _ _⟩
        case round =>
          obtain ⟨k, rfl, hk, HL⟩ := hrel
          clear x x0 x1 y y0 y1
          have HBW := Lib.hid (thenS HB4.out HL.out)
          have HXW := Lib.hid (HX4.out.below HL.out)
          have HYW := Lib.hid (HY3.out.below HL.out)
          obtain ⟨x, x0, x1, _, _⟩ := HXW.out
          obtain ⟨y, y0, y1, _, _⟩ := HYW.out
          by_cases hlt : k < l.length
          · obtain ⟨ad, rfl, hat⟩ := HD.out k hlt
            rw [← nthP_at hlt] at hat
            have HAT := Lib.hid (hat.below HBW.out)
            have hlt2 : (k : Int) < (l.length : Int) := by omega
            have i0 : (0 : Int) ≤ (k : Int) := Int.natCast_nonneg _
            have hmem : nthP l k ∈ l := by rw [nthP_at hlt]; exact List.getElem_mem hlt
            obtain ⟨m1, m2, m3⟩ := HML.out _ hmem
            have HWY := Lib.hid (gives_ways HINV.out (may_nodup HM.out) hmem (by omega) (by omega))
            have HB35 := Lib.hid (thenS HZ3.out HL.out)
            have CF := Lib.hid (fun (z : Lull wr) => find19 P (nthP l k).id _ z.u (HP1.out.below (thenS HB35.out z.h)) (by omega))
            have X1 : ∀ z : Lull wr, _ := fun z => (HXW.out.below z.h).c1
            have Y1 : ∀ z : Lull wr, _ := fun z => (HYW.out.below z.h).c1
            have P0 : ∀ z : Lull wr, _ := fun z => (HAT.out.below z.h).c0
            clear hat hmem m1 m2 m3
            generalize nthP l k = p at *
            generalize findP P p.id = F at *
            go_upto_region 9 with fail
            refine wp_region_calm (by kernel_rfl) (by kernel_rfl) ?_
            repeat (first | go_big_quiet_step ((go_at_call 11; exact calm_same (CF.out _))) | quiet_step ((go_at_call 11; exact calm_same (CF.out _))))
            refine wpQuiet_nil ?_
            intro w5 hw5
            have hb5 := lull_below hw5
            have HB5 := Lib.hid hb5
            have HX5 := Lib.hid (HXW.out.below hb5)
            have HY5 := Lib.hid (HYW.out.below hb5)
            clear hw5 hb5 X1 Y1 P0 CF x x0 x1 y y0 y1
            obtain ⟨wo, hwo⟩ : ∃ wo : World, wo = wr := ⟨_, rfl⟩
            subst hwo
            obtain ⟨x, x0, x1, _, _⟩ := HX5.out
            obtain ⟨y, y0, y1, _, _⟩ := HY5.out
            go_wp2_with fail
            go_loopw [12, 13] (fun c i wi => ∃ m : Nat, i = .int .i64 m ∧ m ≤ st.length ∧ c = .int .i64 ((st.take m).count p.id : Nat) ∧ Hid (Below w5.heap.size w5 wi)) (fun _ i _ => st.length - (intOf i).toNat)
            case atStart => exact ⟨0, rfl, Nat.zero_le _, by simp, Below.refl _ _⟩
            case round =>
              obtain ⟨m, rfl, hm, rfl, HI⟩ := hrel
              clear x x0 x1 y y0 y1
              have HX6 := Lib.hid (HX5.out.below HI.out)
              have HY6 := Lib.hid (HY5.out.below HI.out)
              have HB6 := Lib.hid (thenS HB5.out HI.out)
              obtain ⟨x, x0, x1, _, _⟩ := HX6.out
              obtain ⟨y, y0, y1, _, _⟩ := HY6.out
              obtain ⟨a, a0, a1, a2⟩ := HAT.out.below HB6.out
              by_cases hlm : m < st.length
              · obtain ⟨ai, rfl, _, hci⟩ := (HCL.out.below (thenS HB35.out HB6.out)).at hlm
                have hci2 : wr.cell? (ai.add m) = some (.int .i64 (st.getD m 0)) := hci
                have hlm2 : (m : Int) < (st.length : Int) := by omega
                have j0 : (0 : Int) ≤ (m : Int) := Int.natCast_nonneg _
                have hcl2 := count_le st m p.id
                have HCT := Lib.hid (count_take hlm p.id)
                clear hci
                generalize st.getD m 0 = y9 at *
                go_upto_region 14 with fail
                go_quiet (fail)
                have HQ := Lib.hid (below_drewN HI.out nq)
                cases he : (y9 == p.id) with
                | true =>
                  have HCT2 : Hid ((st.take (m + 1)).count p.id = (st.take m).count p.id + 1) := by show _ = _; rw [HCT.out, he]; rfl
                  generalize (st.take m).count p.id = N at *
                  go_wp2_with fail
                  exact ⟨⟨m + 1, by go_num, by omega, by rw [HCT2.out]; go_num, HQ.out⟩, by simp [intOf] <;> omega⟩
                | false =>
                  have HCT2 : Hid ((st.take (m + 1)).count p.id = (st.take m).count p.id) := by show _ = _; rw [HCT.out, he]; rfl
                  go_wp2_with fail
                  exact ⟨⟨m + 1, by go_num, by omega, by rw [HCT2.out], HQ.out⟩, by simp [intOf] <;> omega⟩
              · obtain rfl : m = st.length := by omega
                rw [List.take_length]
                have HBE := Lib.hid (thenS HL.out HB6.out)
                rcases HWY.out with ⟨rfl, e2⟩ | ⟨kk, hkk, rfl, e2, v1, v2, v3, v4, v5⟩
                · rw [e2]
                  go_wp2_with fail
                  exact ⟨⟨k + 1, by go_num, by omega, HBE.out⟩, by simp [intOf] <;> omega⟩
                · rw [e2]
                  obtain ⟨ap, rfl, hpp⟩ := HPL.out kk hkk
                  rw [← nthP_at hkk] at hpp
                  obtain ⟨b, b0, b1, b2⟩ := hpp.below (thenS HB35.out HB6.out)
                  have kk1 : (kk : Int) < (P.length : Int) := by omega
                  have kk0 : (0 : Int) ≤ (kk : Int) := Int.natCast_nonneg _
                  have kk2 : decide ((kk : Int) < 0) = false := decide_eq_false (by omega)
                  clear hpp
                  generalize nthP P kk = q at *
                  go_upto_region 19 with fail
                  go_quiet (fail)
                  go_upto_region 20 with fail
                  go_quiet (fail)
                  have HBF := Lib.hid (below_drewN HBE.out nq)
                  go_wp2_with fail
                  exact ⟨⟨k + 1, by go_num, by omega, by first | exact HBF.out | exact below_drewN HBE.out _⟩, by simp [intOf] <;> omega⟩
          · obtain rfl : k = l.length := by omega
            go_wp2_with fail
            refine (HAW.out _).mono ?_
            rintro e w5 ⟨rfl, hb5⟩
            have HB5 := Lib.hid (thenS HBW.out hb5)
            clear hb5
            go_wp2_with fail
            go_ret
            exact ⟨rfl, HB5.out⟩
      · have g5 : (c16 s now js.length != 0) = true := by simpa using hc
        generalize c16 s now js.length = C at *
        clear hm hc
        go_enter Try.func5, Try.ntmps5
        go_upto_region 1 with fail
        generalize w.alloc (.cells #[.slice B js.length d, .slice D l.length f] 26) = w0 at *
        obtain ⟨x, x0, x1, _, _⟩ := HX0.out
        go_wp2_with fail
        refine (CM.out _ HB0.out).mono ?_
        rintro e w1 ⟨rfl, hb1⟩
        have HB1 := Lib.hid (thenS HB0.out hb1)
        have HX1 := Lib.hid (HX0.out.below hb1)
        clear hb1 x x0 x1
        obtain ⟨x, x0, x1, _, _⟩ := HX1.out
        go_wp2_with fail
        refine (C6.out _ HB1.out).mono ?_
        rintro e w2 ⟨rfl, n2, rfl⟩
        have HB2 := Lib.hid (below_drewN HB1.out n2)
        go_wp2_with fail
        refine (HAW.out _).mono ?_
        rintro e w3 ⟨rfl, hb3⟩
        have HB3 := Lib.hid (thenS HB2.out hb3)
        clear hb3
        go_wp2_with fail
        go_ret
        exact ⟨rfl, HB3.out⟩
end Go.Proofs.Ytlfmkipcgcilaaa.SlaWalk
namespace Go.Proofs.Ytlfmkipcgcilaaa.Read
open Go.RowKit Go.Proofs.Ytlfmkipcgcilaaa.Mem
open Go.ChangeShapes Go.WideShapes Go.Deep
theorem cells_int1 : Try.prog.cellsOf 3 = 1 := by kernel_rfl
set_option maxRecDepth 100000 in
theorem int_val {H : Type} {enc : TypeId × Value → H} {W : World} {base : Nat} {v : Value} {d : DataW H} {p : List MemPlace} (hv : Value.okWide Try.prog W .any base 3 v)
    (_h : DataW.Trod enc Try.prog W 0 (fun _ => true) true 3 v d p) : ∃ n, v = .int .i64 n := okWide_int Try.underlying3 hv
end Go.Proofs.Ytlfmkipcgcilaaa.Read
namespace Go.Proofs.Ytlfmkipcgcilaaa.Read
open Go.RowKit Go.Proofs.Ytlfmkipcgcilaaa.SpanPlain Go.Proofs.Ytlfmkipcgcilaaa.StepPlain Go.Proofs.Ytlfmkipcgcilaaa.Mem Go.Proofs.Ytlfmkipcgcilaaa.SpanMem Go.Proofs.Ytlfmkipcgcilaaa.StepMem
open Go.ChangeShapes Go.WideShapes Go.Deep
set_option maxRecDepth 100000 in
theorem cells_step : Try.prog.cellsOf 50 = 2 := by kernel_rfl
set_option maxRecDepth 100000 in
theorem step_read {H : Type} {enc : TypeId × Value → H} {W : World} {sp : Nat → Bool} {base n : Nat} {cs : List Value} {y : DataW H × List MemPlace} (h : DataW.trod enc Try.prog W base sp true n 50 cs = some y) : ∃ s : Sp, cs = spCells s := by
  obtain ⟨y0, y1, n', _, hl, h0, h1⟩ := trod_struct2 Try.underlying50 h
  rw [cells_step] at hl
  match cs, hl with
  | [c0, c1], _ =>
    dsimp only at h0 h1
    rw [cells_int1] at h0 h1
    obtain ⟨x0, f0, _, _⟩ := DataW.trod_int Try.underlying3 h0
    obtain ⟨x1, f1, _, _⟩ := DataW.trod_int Try.underlying3 h1
    simp at f0 f1
    subst f0 f1
    exact ⟨(x0, x1), rfl⟩
set_option maxRecDepth 100000 in
theorem steps_read {H : Type} {enc : TypeId × Value → H} {W : World} {base : Nat} {v : Value} {d : DataW H} {p : List MemPlace} (hv : Value.okWide Try.prog W .any base 22 v)
    (h : DataW.Trod enc Try.prog W 0 (fun _ => true) true 22 v d p) : ∃ l, SpansIs l W v := by
  obtain ⟨A, len, cap, rfl⟩ := okWide_slice Try.underlying22 hv
  obtain ⟨fuel, hf⟩ := h
  rcases open_slice Try.underlying22 hf with ⟨h0, _⟩ | ⟨a, ln, cp, m, n, D, Pl, hcs, _, hl, hm, hmm, _, hi⟩
  · refine ⟨[], .inl ⟨?_, rfl⟩⟩
    simpa [Value.cells] using h0
  · simp [Value.cells] at hcs
    obtain ⟨rfl, rfl, rfl⟩ := hcs
    obtain ⟨l, hl', hp⟩ := list_of (P := fun i (s : Sp) => a.block < W.heap.size ∧ W.cell? (a.add (i * 2)) = some (.int .i64 s.1) ∧ W.cell? (a.add (i * 2 + 1)) = some (.int .i64 s.2)) len (fun i hi' => by
      obtain ⟨cs', hc, ht⟩ := hi i (by rw [hmm]; simp; omega)
      rw [cells_step] at hc
      obtain ⟨s, rfl⟩ := step_read ht
      obtain ⟨_, _, hat⟩ := World.cells?_some hc
      have h0 := hat 0 (by omega)
      have h1 := hat 1 (by omega)
      rw [Mem.add_add] at h0 h1
      have e0 : W.cell? (a.add (i * 2)) = some (.int .i64 s.1) := h0
      have e1 : W.cell? (a.add (i * 2 + 1)) = some (.int .i64 s.2) := h1
      have lt := World.block_lt_of_cell? _ _ e0
      rw [add_block] at lt
      exact ⟨s, lt, e0, e1⟩)
    subst hl'
    exact ⟨l, .inr ⟨a, cap, rfl, svals_raw hp, by omega⟩⟩
end Go.Proofs.Ytlfmkipcgcilaaa.Read
namespace Go.Proofs.Ytlfmkipcgcilaaa.Read
open Go.RowKit Go.Proofs.Ytlfmkipcgcilaaa.SpanPlain Go.Proofs.Ytlfmkipcgcilaaa.StepPlain Go.Proofs.Ytlfmkipcgcilaaa.Mem Go.Proofs.Ytlfmkipcgcilaaa.SpanMem Go.Proofs.Ytlfmkipcgcilaaa.StepMem
open Go.ChangeShapes Go.WideShapes Go.Deep
theorem cells_arr2 : Try.prog.cellsOf 27 = 2 := by kernel_rfl
set_option maxRecDepth 100000 in
theorem arr2_val {H : Type} {enc : TypeId × Value → H} {W : World} {base : Nat} {v : Value} {d : DataW H} {p : List MemPlace} (hv : Value.okWide Try.prog W .any base 27 v)
    (h : DataW.Trod enc Try.prog W 0 (fun _ => true) true 27 v d p) : ∃ a b, v = .agg #[.int .i64 a, .int .i64 b] := by
  obtain ⟨cs, rfl, hsz, _⟩ : ∃ cs, v = .agg cs ∧ cs.size = Try.prog.cellsOf 27 ∧ Row.okWide Try.prog W .any base 27 cs := by
    simpa [Value.okWide, Try.underlying27] using hv
  rw [cells_arr2] at hsz
  obtain ⟨l⟩ := cs
  match l, hsz with
  | [c0, c1], _ =>
    obtain ⟨fuel, hf⟩ := h
    obtain ⟨xs, m, _, _, _, hl, hel⟩ := DataW.trod_array Try.underlying27 hf
    have e0 := hel 0 (by omega)
    have e1 := hel 1 (by omega)
    match xs, hl with
    | [y0, y1], _ =>
      rw [cells_int1] at e0 e1
      obtain ⟨x0, f0, _, _⟩ := DataW.trod_int Try.underlying3 e0
      obtain ⟨x1, f1, _, _⟩ := DataW.trod_int Try.underlying3 e1
      simp [Value.cells] at f0 f1
      subst f0 f1
      exact ⟨x0, x1, rfl⟩
end Go.Proofs.Ytlfmkipcgcilaaa.Read
namespace Go.Proofs.Ytlfmkipcgcilaaa.Read
open Go.RowKit Go.Proofs.Ytlfmkipcgcilaaa.Mem
open Go.ChangeShapes Go.WideShapes Go.Deep Go.ChangeMaps
set_option maxRecDepth 100000 in
theorem cells_i : Try.prog.cellsOf 3 = 1 := by kernel_rfl
set_option maxRecDepth 100000 in
theorem wf_lim {x : Int} (h : (Lit.int .i64 x).wf = true) : -9223372036854775808 ≤ x ∧ x ≤ 9223372036854775807 := by
  simp only [Lit.wf, Bool.and_eq_true, decide_eq_true_eq] at h
  exact h
set_option maxRecDepth 100000 in
/-- A slice that lies in a struct, by its one cell. -/
theorem lay_read_cell {α : Type} (L : Lay α) {P : α → Prop} {H : Type} {enc : TypeId × Value → H} {W : World} {T E : TypeId} {c0 : Value} {fuel : Nat} {y : DataW H × List MemPlace} (hT : Try.prog.underlying T = some (.slice E)) (hk : Try.prog.cellsOf E = L.k)
    (el : ∀ {sp : Nat → Bool} {base n : Nat} {cs : List Value} {y : DataW H × List MemPlace}, DataW.trod enc Try.prog W base sp true n E cs = some y → ∃ x : α, cs = L.cs x ∧ P x)
    (hf : DataW.trod enc Try.prog W 0 (fun _ => true) true fuel T [c0] = some y) : ∃ l, L.Is l W c0 ∧ ∀ x ∈ l, P x := by
  rcases open_slice hT hf with ⟨h0, _⟩ | ⟨a, len, cap, m, n, D, Pl, hcs, _, hl, hm, hmm, _, hi⟩
  · simp at h0
    subst h0
    exact ⟨[], .inl ⟨rfl, rfl⟩, fun x hx => by cases hx⟩
  · simp at hcs
    subst hcs
    obtain ⟨l, hl', hp⟩ := list_by (P := fun i (x : α) => (a.block < W.heap.size ∧ ∀ f u, (L.cs x)[f]? = some u → W.cell? (a.add (i * L.k + f)) = some u) ∧ P x) len (fun i hi' => by
      obtain ⟨cs', hc, ht⟩ := hi i (by rw [hmm]; simp; omega)
      rw [hk] at hc
      obtain ⟨j, rfl, hj⟩ := el ht
      obtain ⟨_, _, hat⟩ := World.cells?_some hc
      have hc : ∀ f u, (L.cs j)[f]? = some u → W.cell? (a.add (i * L.k + f)) = some u := fun f u hu => by
        have hf : f < L.k := by
          have := (List.getElem?_eq_some_iff.1 hu).1
          rwa [L.len] at this
        have h0 := hat f hf
        rw [Mem.add_add] at h0
        rw [h0]
        exact hu
      have h0 : (L.cs j)[0]? = some ((L.cs j)[0]'(by rw [L.len]; exact L.pos)) := List.getElem?_eq_getElem _
      have lt := World.block_lt_of_cell? _ _ (hc 0 _ h0)
      rw [add_block] at lt
      exact ⟨j, ⟨lt, hc⟩, hj⟩)
    subst hl'
    exact ⟨l, .inr ⟨a, cap, rfl, Lay.raw_of (fun i x hx => (hp i x hx).1), by omega⟩, fun x hx => by
      obtain ⟨i, hi, rfl⟩ := List.mem_iff_getElem.1 hx
      exact (hp i l[i] (by simp [hi])).2⟩
end Go.Proofs.Ytlfmkipcgcilaaa.Read
namespace Go.Proofs.Ytlfmkipcgcilaaa.Read
open Go.RowKit Go.Proofs.Ytlfmkipcgcilaaa.JobPlain Go.Proofs.Ytlfmkipcgcilaaa.Mem Go.Proofs.Ytlfmkipcgcilaaa.JobMem
open Go.ChangeShapes Go.WideShapes Go.Deep Go.ChangeMaps
set_option maxRecDepth 100000 in
theorem wf_bounds {x : Int} (h : (Lit.int .i64 x).wf = true) : -9223372036854775808 ≤ x ∧ x ≤ 9223372036854775807 := by
  simp only [Lit.wf, Bool.and_eq_true, decide_eq_true_eq] at h
  exact h
set_option maxRecDepth 100000 in
theorem trod_struct9 {H : Type} {enc : TypeId × Value → H} {P : Program} {w : World} {base : Nat} {spare : Nat → Bool} {held : Bool} {t : TypeId} {f0 f1 f2 f3 f4 f5 f6 f7 f8 : Field} {fuel : Nat} {cs : List Value} {x : DataW H × List MemPlace} (ht : P.underlying t = some (.struct #[f0, f1, f2, f3, f4, f5, f6, f7, f8])) (h : DataW.trod enc P w base spare held fuel t cs = some x) :
    ∃ y0 y1 y2 y3 y4 y5 y6 y7 y8 n, cs.length = P.cellsOf t ∧ DataW.trod enc P w base spare held n f0.type ((cs.drop f0.offset).take (P.cellsOf f0.type)) = some y0 ∧ DataW.trod enc P w base spare held n f1.type ((cs.drop f1.offset).take (P.cellsOf f1.type)) = some y1 ∧ DataW.trod enc P w base spare held n f2.type ((cs.drop f2.offset).take (P.cellsOf f2.type)) = some y2 ∧ DataW.trod enc P w base spare held n f3.type ((cs.drop f3.offset).take (P.cellsOf f3.type)) = some y3 ∧ DataW.trod enc P w base spare held n f4.type ((cs.drop f4.offset).take (P.cellsOf f4.type)) = some y4 ∧ DataW.trod enc P w base spare held n f5.type ((cs.drop f5.offset).take (P.cellsOf f5.type)) = some y5 ∧ DataW.trod enc P w base spare held n f6.type ((cs.drop f6.offset).take (P.cellsOf f6.type)) = some y6 ∧ DataW.trod enc P w base spare held n f7.type ((cs.drop f7.offset).take (P.cellsOf f7.type)) = some y7 ∧ DataW.trod enc P w base spare held n f8.type ((cs.drop f8.offset).take (P.cellsOf f8.type)) = some y8 := by
  obtain ⟨xs, n, _, rfl, hl, hlen, hf⟩ := DataW.trod_struct ht h
  match xs, hlen with
  | [y0, y1, y2, y3, y4, y5, y6, y7, y8], _ => exact ⟨y0, y1, y2, y3, y4, y5, y6, y7, y8, n, hl, by simpa using hf 0 f0 rfl, by simpa using hf 1 f1 rfl, by simpa using hf 2 f2 rfl, by simpa using hf 3 f3 rfl, by simpa using hf 4 f4 rfl, by simpa using hf 5 f5 rfl, by simpa using hf 6 f6 rfl, by simpa using hf 7 f7 rfl, by simpa using hf 8 f8 rfl⟩
set_option maxRecDepth 100000 in
theorem cells_str1 : Try.prog.cellsOf 9 = 1 := by kernel_rfl
set_option maxRecDepth 100000 in
theorem cells_job : Try.prog.cellsOf 52 = 9 := by kernel_rfl
set_option maxRecDepth 100000 in
theorem job_read {H : Type} {enc : TypeId × Value → H} {W : World} {sp : Nat → Bool} {base n : Nat} {cs : List Value} {y : DataW H × List MemPlace} (h : DataW.trod enc Try.prog W base sp true n 52 cs = some y) : ∃ j : Jb, cs = (jobA j).toList ∧ Fit j := by
  obtain ⟨y0, y1, y2, y3, y4, y5, y6, y7, y8, m, hl, h0, h1, h2, h3, h4, h5, h6, h7, h8⟩ := trod_struct9 Try.underlying52 h
  rw [cells_job] at hl
  match cs, hl with
  | [c0, c1, c2, c3, c4, c5, c6, c7, c8], _ =>
    dsimp only at h0 h1 h2 h3 h4 h5 h6 h7 h8
    rw [cells_int1] at h0 h2 h3 h4 h5 h6 h7 h8
    rw [cells_str1] at h1
    obtain ⟨x0, f0, _, _⟩ := DataW.trod_int Try.underlying3 h0
    obtain ⟨x1, f1, _, w1⟩ := DataW.trod_string Try.underlying9 h1
    obtain ⟨x2, f2, _, _⟩ := DataW.trod_int Try.underlying3 h2
    obtain ⟨x3, f3, _, _⟩ := DataW.trod_int Try.underlying3 h3
    obtain ⟨x4, f4, _, _⟩ := DataW.trod_int Try.underlying3 h4
    obtain ⟨x5, f5, _, _⟩ := DataW.trod_int Try.underlying3 h5
    obtain ⟨x6, f6, _, _⟩ := DataW.trod_int Try.underlying3 h6
    obtain ⟨x7, f7, _, _⟩ := DataW.trod_int Try.underlying3 h7
    obtain ⟨x8, f8, _, w8⟩ := DataW.trod_int Try.underlying3 h8
    simp at f0 f1 f2 f3 f4 f5 f6 f7 f8
    subst f0 f1 f2 f3 f4 f5 f6 f7 f8
    have hw := wf_bounds w8
    exact ⟨⟨x0, x1, x2, x3, x4, x5, x6, x7, x8⟩, rfl, hw.1, hw.2, w1⟩
end Go.Proofs.Ytlfmkipcgcilaaa.Read
namespace Go.Proofs.Ytlfmkipcgcilaaa.Read
open Go.RowKit Go.Proofs.Ytlfmkipcgcilaaa.JobPlain Go.Proofs.Ytlfmkipcgcilaaa.OrdPlain Go.Proofs.Ytlfmkipcgcilaaa.Mem Go.Proofs.Ytlfmkipcgcilaaa.JobMem Go.Proofs.Ytlfmkipcgcilaaa.OrdMem
open Go.ChangeShapes Go.WideShapes Go.Deep
end Go.Proofs.Ytlfmkipcgcilaaa.Read
namespace Go.Proofs.Ytlfmkipcgcilaaa.Read
open Go.RowKit Go.Proofs.Ytlfmkipcgcilaaa.Mem Go.Proofs.Ytlfmkipcgcilaaa.JobPlain Go.Proofs.Ytlfmkipcgcilaaa.JobMem Go.Proofs.Ytlfmkipcgcilaaa.OrdMem
open Go.ChangeShapes Go.WideShapes Go.Deep Go.ChangeMaps
/-- Jobs, as rows of nine cells. -/
def jobL : Lay Jb := ⟨9, jobC, fun _ => rfl, jobC_cell, by decide⟩
set_option maxRecDepth 100000 in
theorem jobs_cell {H : Type} {enc : TypeId × Value → H} {W : World} {c0 : Value} {fuel : Nat} {y : DataW H × List MemPlace} (hf : DataW.trod enc Try.prog W 0 (fun _ => true) true fuel 23 [c0] = some y) : ∃ l, JobsIs l W c0 ∧ ∀ j ∈ l, Fit j := by
  obtain ⟨l, h1, h2⟩ := lay_read_cell jobL (P := Fit) Try.underlying23 cells_job (fun h => by
    obtain ⟨j, h1, h2⟩ := job_read h
    exact ⟨j, h1, h2⟩) hf
  exact ⟨l, h1, h2⟩
end Go.Proofs.Ytlfmkipcgcilaaa.Read
namespace Go.Proofs.Ytlfmkipcgcilaaa.Read
open Go.RowKit Go.Proofs.Ytlfmkipcgcilaaa.ApiPlain Go.Proofs.Ytlfmkipcgcilaaa.Mem Go.Proofs.Ytlfmkipcgcilaaa.ApiMem
open Go.ChangeShapes Go.WideShapes Go.Deep Go.ChangeMaps
theorem trod_s2 {H : Type} {enc : TypeId × Value → H} {P : Program} {w : World} {base : Nat} {spare : Nat → Bool} {held : Bool} {t : TypeId} {f0 f1 : Field} {fuel : Nat} {cs : List Value} {x : DataW H × List MemPlace} (ht : P.underlying t = some (.struct #[f0, f1])) (h : DataW.trod enc P w base spare held fuel t cs = some x) :
    ∃ y0 y1 n, cs.length = P.cellsOf t ∧ DataW.trod enc P w base spare held n f0.type ((cs.drop f0.offset).take (P.cellsOf f0.type)) = some y0 ∧ DataW.trod enc P w base spare held n f1.type ((cs.drop f1.offset).take (P.cellsOf f1.type)) = some y1 := by
  obtain ⟨xs, n, _, rfl, hl, hlen, hf⟩ := DataW.trod_struct ht h
  match xs, hlen with
  | [y0, y1], _ => exact ⟨y0, y1, n, hl, by simpa using hf 0 f0 rfl, by simpa using hf 1 f1 rfl⟩
theorem trod_s3 {H : Type} {enc : TypeId × Value → H} {P : Program} {w : World} {base : Nat} {spare : Nat → Bool} {held : Bool} {t : TypeId} {f0 f1 f2 : Field} {fuel : Nat} {cs : List Value} {x : DataW H × List MemPlace} (ht : P.underlying t = some (.struct #[f0, f1, f2])) (h : DataW.trod enc P w base spare held fuel t cs = some x) :
    ∃ y0 y1 y2 n, cs.length = P.cellsOf t ∧ DataW.trod enc P w base spare held n f0.type ((cs.drop f0.offset).take (P.cellsOf f0.type)) = some y0 ∧ DataW.trod enc P w base spare held n f1.type ((cs.drop f1.offset).take (P.cellsOf f1.type)) = some y1 ∧ DataW.trod enc P w base spare held n f2.type ((cs.drop f2.offset).take (P.cellsOf f2.type)) = some y2 := by
  obtain ⟨xs, n, _, rfl, hl, hlen, hf⟩ := DataW.trod_struct ht h
  match xs, hlen with
  | [y0, y1, y2], _ => exact ⟨y0, y1, y2, n, hl, by simpa using hf 0 f0 rfl, by simpa using hf 1 f1 rfl, by simpa using hf 2 f2 rfl⟩
theorem cells_prm : Try.prog.cellsOf 48 = 3 := by kernel_rfl
set_option maxRecDepth 100000 in
theorem prm_read {H : Type} {enc : TypeId × Value → H} {W : World} {sp : Nat → Bool} {base n : Nat} {cs : List Value} {y : DataW H × List MemPlace} (h : DataW.trod enc Try.prog W base sp true n 48 cs = some y) : ∃ x : Prm, cs = prmC x ∧ PrmFit x := by
  obtain ⟨y0, y1, y2, m, hl, h0, h1, h2⟩ := trod_s3 Try.underlying48 h
  rw [cells_prm] at hl
  match cs, hl with
  | [c0, c1, c2], _ =>
    dsimp only at h0 h1 h2
    rw [cells_i] at h0
    rw [cells_i] at h1
    rw [cells_i] at h2
    obtain ⟨x0, f0, _, w0⟩ := DataW.trod_int Try.underlying3 h0
    obtain ⟨x1, f1, _, w1⟩ := DataW.trod_int Try.underlying3 h1
    obtain ⟨x2, f2, _, w2⟩ := DataW.trod_int Try.underlying3 h2
    simp at f0 f1 f2
    subst f0 f1 f2
    exact ⟨⟨x0, x1, x2⟩, rfl, wf_lim w0, wf_lim w1, wf_lim w2⟩
end Go.Proofs.Ytlfmkipcgcilaaa.Read
