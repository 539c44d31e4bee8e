/-
  What the theorem uses of the texts below it.
-/
import Derived.Below
import Derived.Laws.OwnMore
import Derived.Deep.Draws
import Derived.Deep.OwnRows
import Derived.Lib.Hide
import Derived.OwnWalk
import Derived.Deep.QuietTactic
import Derived.BigQuiet
import Derived.Lib.SliceRun
import Derived.Test.YtophhiejggnaeaaRows
import Derived.WalkKit
import Derived.WalkSpells
import Derived.WalkLawsBesides
import Derived.Laws.StructEq
import Derived.LoopTactic
import Derived.Deep.CutBlock
import Derived.Deep.DeepCutAuto
import Derived.Deep.RegionHeld3
import Derived.ArgAppend
import Derived.Deep.RegionLaw
import Derived.Lib.AppendIntMem
import Derived.StillTailTactics
import Derived.Maps.RangeWalk
import Derived.Shelf.Small.Bits
import Derived.Shelf.Small.Wraps
import Derived.Shelf.Strconv.Itoa0
import Derived.Test.YtophhiejggnaeaaProg
import Derived.Shelf.SlSortCmp.NoneTotal
import Derived.Shelf.SlicesG.Cmp
import Derived.Lib.OwnBridge
import Derived.BigRegion
import Derived.Laws.RangeAny
import Derived.WalkSmall
import Derived.Shelf.Abstract
import Derived.Test.YtophhiejggnaeaaPa9
namespace Go.Proofs.Ytophhiejggnaeaa.PasWalk
open Go.RowKit Go.Proofs.Ytophhiejggnaeaa.SpanPlain Go.Proofs.Ytophhiejggnaeaa.StepPlain Go.Proofs.Ytophhiejggnaeaa.GapPlain Go.Proofs.Ytophhiejggnaeaa.JobPlain Go.Proofs.Ytophhiejggnaeaa.OrdPlain Go.Proofs.Ytophhiejggnaeaa.ApiPlain Go.Proofs.Ytophhiejggnaeaa.ShaPlain Go.Proofs.Ytophhiejggnaeaa.SlaPlain Go.Proofs.Ytophhiejggnaeaa.TogPlain Go.Proofs.Ytophhiejggnaeaa.PasPlain Go.Proofs.Ytophhiejggnaeaa.QuePlain Go.Proofs.Ytophhiejggnaeaa.MulPlain Go.Proofs.Ytophhiejggnaeaa.Mem Go.Proofs.Ytophhiejggnaeaa.SpanMem Go.Proofs.Ytophhiejggnaeaa.StepMem Go.Proofs.Ytophhiejggnaeaa.JobMem Go.Proofs.Ytophhiejggnaeaa.OrdMem Go.Proofs.Ytophhiejggnaeaa.ApiMem Go.Proofs.Ytophhiejggnaeaa.SpanRef Go.Proofs.Ytophhiejggnaeaa.StepRef Go.Proofs.Ytophhiejggnaeaa.GapRef Go.Proofs.Ytophhiejggnaeaa.ShaRef Go.Proofs.Ytophhiejggnaeaa.SlaRef Go.Proofs.Ytophhiejggnaeaa.IdSet
open Go.Proofs.Ytophhiejggnaeaa.StepWalk (NewAt)
open Go.Proofs.Ytophhiejggnaeaa.ShaWalk (LaySaysN ShSays)
open Go.Proofs.Ytophhiejggnaeaa.MulWalk (boolL)
open Go.Proofs.Ytophhiejggnaeaa.MulRef (c21 c21_first c21_second c21_third c21_ok c21_zero)
open Go.Proofs.Ytophhiejggnaeaa.QueWalk (ListsIs splitS)
open Go.Proofs.Ytophhiejggnaeaa.QueRef (Short)
open Go.Proofs.Ytophhiejggnaeaa.OrdTake (unlikeTo unlike_nodup)
structure ToOk (cl : List Cl) (ov : List Bool) (now : Int) (s : List Sp) (js : List Jb) (c : Nat) (x : Pas) : Prop where
  len : x.s.length + 3 * (pickJ cl c js).length ≤ s.length + 3 * js.length
  len2 : x.s.length + 3 * (waitJ (idsP x) js).length ≤ s.length + 3 * js.length
  few : x.R.length + x.Q.length ≤ js.length
  chk : Chk x.s ∧ head x.s = head s
  ids : ∀ i ∈ x.st, I64 i
  pids : ∀ i ∈ pidsOf x.P, I64 i
theorem to_facts {cl : List Cl} {ov : List Bool} {now : Int} {s : List Sp} {js : List Jb} (hn : 0 ≤ now) (hc : Chk s) (hi : IdsFit js) (hd : (js.map (·.id)).Nodup) {c : Nat} (hcl : c ≤ cl.length) : ToOk cl ov now s js c (mulTo cl ov now s js c).1 := by
  have h1 := to_ok (cls := cl) (over := ov) (js := js) hn hc c
  have h2 := to_count (cls := cl) (over := ov) (now := now) (s := s) (js := js) c
  have h3 := h1.short
  have h4 := h1.len
  have h5 := to_wait (cls := cl) (over := ov) (now := now) (s := s) hd c
  have h6 := (to_mem (cls := cl) (over := ov) (now := now) (s := s) (js := js) c).1
  have h7 : (pickJ cl c js).length ≤ (mulTo cl ov now s js c).2.2.length := by
    have g := to_other (cls := cl) (over := ov) (now := now) (s := s) (js := js) c hcl c (Nat.le_refl _)
    rw [pick_eq, ← g]
    exact List.length_filter_le _ _
  have hm : ∀ q, q ∈ (mulTo cl ov now s js c).1.Q ++ (mulTo cl ov now s js c).1.R.map (fun j => (now, j)) → I64 q.2.id := fun q hq => hi _ (h6 q (h1.perm.mem_iff.2 hq))
  refine ⟨by omega, by rw [← h5]; omega, by omega, h1.chk, fun i h => ?_, fun i h => ?_⟩
  · obtain ⟨j, hj, rfl⟩ := List.mem_map.1 h
    exact hm (now, j) (List.mem_append.2 (.inr (List.mem_map.2 ⟨j, hj, rfl⟩)))
  · obtain ⟨p, hp, rfl⟩ := List.mem_map.1 h
    obtain ⟨q, hq, rfl⟩ := List.mem_map.1 hp
    exact hm q (List.mem_append.2 (.inl hq))
theorem ids_eq (x : Pas) : x.st ++ pidsOf x.P = idsP x := by
  unfold idsP Pas.st pidsOf Pas.P
  rw [List.map_map]
  rfl
theorem MulAt.to {x z : Pas} {w : World} {sv av bv : Value} {wr : World} (h : MulAt x w sv av bv wr) (e : z.s = x.s ∧ z.R = x.R ∧ z.Q = x.Q) : MulAt z w sv av bv wr := by
  cases x
  cases z
  obtain ⟨rfl, rfl, rfl⟩ := e
  exact ⟨h.st, h.rows, h.prms, h.apart, h.offA, h.offB, h.away, h.box, h.bel⟩
/-- A row told by a call stays where an append to an elder row ends, and the plan's box is written. -/
theorem new_kept {row : Value} {W1 W w4 : World} {N f : Nat} {z : Value} (hrow : ∀ b, row.ownBlock = some b → b < W1.heap.size) (hg : W.grownBy w4 row.ownBlock) (hN : N < W1.heap.size) {a : Addr} (ha : W1.heap.size ≤ a.block) (hl : a.block < W.heap.size) : (w4.setCell ⟨N, f, none⟩ z).heap[a.block]? = W.heap[a.block]? :=
  (Below.heap_setCell _ ⟨N, f, none⟩ _ a.block (by show a.block ≠ N; omega)).trans (hg.block a.block hl fun q => by have := hrow _ q.symm; omega)
theorem is_lt2 {α : Type} {L : Lay α} {l : List α} {W : World} {v : Value} (h : L.Is l W v) : ∀ a m c, v = .slice (some a) m c → 0 < l.length → a.block < W.heap.size := fun a m c e hp => by
  rcases h with ⟨h, _⟩ | ⟨a2, c2, e2, hr, _⟩
  · rw [h] at e; cases e
  · rw [e] at e2
    injection e2 with e2
    injection e2 with e2
    subst e2
    have h1 : 0 < (L.vals l).length := by
      rw [Lay.vals_len]
      exact Nat.mul_pos hp L.pos
    exact (hr 0 _ (List.getElem?_eq_getElem h1)).1
/-- The end: what is told, stored into the result's box that lies below. -/
theorem MulAt.done {x : Pas} {w0 w : World} {R : Nat} {sv av bv : Value} {wr W : World} (h : MulAt x w sv av bv wr) (hr : Box2 wr R (.slice none 0 0) (.slice none 0 0)) (hR : R < w.heap.size) (hR0 : w0.heap.size ≤ R) (hb0 : Below w0.heap.size w0 w) (hn : NewAt w.heap.size sv) (hW : W = (wr.setCell ⟨R, 0, none⟩ av).setCell ⟨R, 1, none⟩ bv) :
    Box2 W R av bv ∧ PlanSaysN 0 x w0 (.returned (.tuple #[.agg #[av, bv], sv, .int .i64 0])) W := by
  subst hW
  have hk : ∀ b', b' ≠ R → ((wr.setCell ⟨R, 0, none⟩ av).setCell ⟨R, 1, none⟩ bv).heap[b']? = wr.heap[b']? := fun b' h2 =>
    (Below.heap_setCell _ ⟨R, 1, none⟩ _ b' h2).trans (Below.heap_setCell _ ⟨R, 0, none⟩ _ b' h2)
  have hsz : wr.heap.size ≤ ((wr.setCell ⟨R, 0, none⟩ av).setCell ⟨R, 1, none⟩ bv).heap.size := by simp [World.setCell]
  have ho := (h.rows.set_apart (p := ⟨R, 0, none⟩) (fun q => by have := (h.rows.block_lt q).1; simp at this; omega) av).set_apart (p := ⟨R, 1, none⟩) (fun q => by have := (h.rows.block_lt q).1; simp at this; omega) bv
  have ho2 := (h.prms.set_apart (p := ⟨R, 0, none⟩) (fun q => by have := (h.prms.block_lt q).1; simp at this; omega) av).set_apart (p := ⟨R, 1, none⟩) (fun q => by have := (h.prms.block_lt q).1; simp at this; omega) bv
  have hz := hb0.size
  refine ⟨(hr.set0 _).set1 _, av, bv, sv, x.st, x.P, x.s, rfl, IntsAt.own ho rfl, Lay.Is.own ho2 rfl, spans_kept h.st hsz (fun a m c e hp => hk _ (by have := hn a m c e; omega)), .inl ⟨rfl, rfl, rfl, rfl⟩, ((hb0.trans (h.bel.mono hz)).setCell (p := ⟨R, 0, none⟩) hR0 _).setCell (p := ⟨R, 1, none⟩) hR0 _, (NewAt.own h.rows (Nat.le_refl _)).mono (by omega), (NewAt.own h.prms (Nat.le_refl _)).mono (by omega), hn.mono hz, ho.src⟩
set_option maxRecDepth 100000 in
set_option maxHeartbeats 1600000 in
theorem pass_m (s : List Sp) (now : Int) (js : List Jb) (cl : List Cl) (ov : List Bool) (v u q o : Value) (w : World) (hv : SpansIs s w v) (hu : JobsIs js w u) (hq : clL.Is cl w q) (ho : boolL.Is ov w o) (hi : IdsFit js) (hs : s.length + 3 * js.length ≤ 1000) (hc : Short cl) (hcl : cl.length ≤ 1000) :
    Calls Try.prog 8 #[v, .int .i64 now, u, .agg #[q, o]] w (PlanSaysN (c21 s now js cl) (mulP cl ov s now js) w) := by
  have CE := Lib.hid (fun W (hW : Below w.heap.size w W) => class_m s now js cl v u q W (hv.below hW) (hu.below hW) (hq.below hW) hi (by omega) hc hcl)
  have HV := Lib.hid hv
  have HU := Lib.hid hu
  have HO := Lib.hid ho
  obtain ⟨B, d, rfl, _, hB⟩ := hu.open_
  obtain ⟨A, c, rfl, _⟩ := hv.open_
  obtain ⟨A4, c4, rfl, _, _⟩ := cls_open hq
  obtain ⟨A5, c5, rfl, _, _⟩ := ho.open_
  have HY0 := Lib.hid (Box2.new w (.slice A4 cl.length c4) (.slice A5 ov.length c5) 27)
  have HYB := Lib.hid (box_s w (.cells #[.slice A4 cl.length c4, .slice A5 ov.length c5] 27))
  have HW1 : Hid ((w.alloc (.cells #[.slice A4 cl.length c4, .slice A5 ov.length c5] 27)).heap.size = w.heap.size + 1) := by show _ = _; simp
  clear hv hu hB hq ho
  by_cases h0 : c21 s now js cl = 0
  · obtain ⟨g0, g1, g2⟩ := c21_zero h0
    obtain ⟨hc1, hc2, ⟨hn0, hn2⟩, hc4⟩ := c16_le g0
    have HTO := Lib.hid (fun (k : Nat) (hk : k ≤ cl.length) => to_facts (ov := ov) hn0 ((chk_iff s).1 hc1) hi (unlike_nodup g2) hk)
    have HWAY := Lib.hid (mul_way (cls := cl) (over := ov) (now := now) (s := s) (unlike_nodup g2))
    have HCL : Hid (cl.length ≤ 20) := Lib.hid (checkC_zero g1).1
    have HHD := Lib.hid hc2
    have HN0 := Lib.hid hn0
    have HJL := Lib.hid hc4
    rw [h0] at CE ⊢
    clear h0 g0 g1 g2 hc1 hc2 hc4 hi hc
    go_enter Try.func8, Try.ntmps8
    go_upto_region 1 with fail
    generalize w.alloc (.cells #[.slice A4 cl.length c4, .slice A5 ov.length c5] 27) = W1 at *
    have HR0 := Lib.hid (Box2.new W1 (.slice none 0 0) (.slice none 0 0) 37)
    have HRB := Lib.hid (box_s W1 (.cells #[.slice none 0 0, .slice none 0 0] 37))
    have HY2 := Lib.hid (HY0.out.below HRB.out)
    have HB2 := Lib.hid (thenS HYB.out HRB.out)
    generalize W1.alloc (.cells #[.slice none 0 0, .slice none 0 0] 37) = W2 at *
    rw [HW1.out] at HR0
    clear HRB HYB HY0 HW1
    obtain ⟨u9, u0, u1, _, _⟩ := HY2.out
    go_wp2_with fail
    refine (CE.out W2 HB2.out).mono ?_
    rintro e w1 ⟨vl, L, rfl, hl, hway, hb1⟩
    obtain ⟨_, rfl⟩ : (0 : Int) = 0 ∧ L = splitC cl js := hway.resolve_right fun q => q.1 rfl
    have HY3 := Lib.hid (HY2.out.below hb1)
    have HR3 := Lib.hid (HR0.out.below hb1)
    have HB3 := Lib.hid (thenS HB2.out hb1)
    obtain ⟨A6, c6, hvl, _, hat⟩ := hl.open_
    rw [split_len] at hvl
    subst hvl
    have HAT : Hid (∀ k, k < cl.length → ∃ a u, A6 = some a ∧ a.block < w1.heap.size ∧ w1.cell? (a.add k) = some u ∧ JobsIs (pickJ cl k js) w1 u) := Lib.hid fun k hk => hat k _ (split_at cl js hk)
    clear hl hway hb1 hat u9 u0 u1 HY2 HR0 HB2 CE
    go_upto_region 5 with fail
    have HM0 := Lib.hid (MulAt.begin (HV.out.below HB3.out))
    generalize w1.alloc (.cells #[.slice none 0 0, .slice none 0 0] 37) = W4 at *
    go_wp2_with fail
    go_loopw [14, 37] (fun sv i wr => ∃ (k : Nat) (av bv : Value), i = .int .i64 k ∧ k ≤ cl.length ∧ Hid (MulAt (mulTo cl ov now s js k).1 w1 sv av bv wr)) (fun _ i _ => cl.length - (intOf i).toNat)
    case atStart => exact ⟨0, _, _, rfl, Nat.zero_le _, HM0.out⟩
    case round =>
      obtain ⟨k, av, bv, rfl, hk, HM⟩ := hrel
      have HF := Lib.hid (HTO.out k hk)
      by_cases hlt : k < cl.length
      · obtain ⟨ad, uk, rfl, had, hcell, hjs⟩ := HAT.out k hlt
        have hcl2 := HCL.out
        have hlt2 : (k : Int) < (cl.length : Int) := by omega
        have i0 : (0 : Int) ≤ (k : Int) := Int.natCast_nonneg _
        obtain ⟨hto, _⟩ := to_next (cls := cl) (over := ov) (now := now) (s := s) (js := js) hlt
        obtain ⟨hbes, _⟩ := up_new (now := now) (pr := mayPr ov k) (mulTo cl ov now s js k).1 (pickJ cl k js)
        rw [← hto] at hbes
        have HBES := Lib.hid hbes
        have hupl := up_len (now := now) (pr := mayPr ov k) (pickJ cl k js) (Pas.new (mulTo cl ov now s js k).1.s)
        have hyl : (upL now (mayPr ov k) (Pas.new (mulTo cl ov now s js k).1.s) (pickJ cl k js)).1.st.length ≤ 1000 ∧ (upL now (mayPr ov k) (Pas.new (mulTo cl ov now s js k).1.s) (pickJ cl k js)).1.P.length ≤ 1000 := by
          rw [st_len, P_len]
          have := HF.out.len
          simp only [Pas.new, List.length_nil] at hupl ⊢
          omega
        have hxl : (mulTo cl ov now s js k).1.st.length ≤ 1000 ∧ (mulTo cl ov now s js k).1.P.length ≤ 1000 := by
          have := HF.out.few
          have := HJL.out
          rw [st_len, P_len]
          omega
        have hlen := HF.out.len
        obtain ⟨mz, hmz⟩ : ∃ mz, mz = mulTo cl ov now s js (k + 1) := ⟨_, rfl⟩
        rw [← hmz] at HBES
        have HMZ := Lib.hid hmz
        clear hmz
        generalize mulTo cl ov now s js k = mx at *
        obtain ⟨x, hh, rest⟩ := mx
        dsimp only at HM HF hbes HBES hyl hxl hlen hto
        have C1 := Lib.hid (isOver_m ov k (.slice A5 ov.length c5) wr ((HO.out.below HB3.out).below HM.out.bel) (by omega))
        have hcell2 := (HM.out.bel.cell (p := ad.add k) (by rw [add_block]; exact had)).trans hcell
        obtain ⟨A7, c7, huk, _⟩ := hjs.open_
        have HJ := Lib.hid (hjs.below HM.out.bel)
        have HYW := Lib.hid (HY3.out.below HM.out.bel)
        have hob : (!ov.getD k false) = mayPr ov k := rfl
        generalize ov.getD k false = ob at C1 hob
        rw [← hob] at HBES hyl
        obtain ⟨A2, c2, hsv, _⟩ := HM.out.st.open_
        obtain ⟨A3, c3, hav⟩ := HM.out.rows.shape
        obtain ⟨A8, c8, hbv⟩ := HM.out.prms.shape
        subst hsv
        subst hav
        subst hbv
        subst huk
        clear hto hbes hcell hjs hupl hob HM0 HF
        obtain ⟨z9, z0, z1, _, _⟩ := HYW.out
        go_wp2_with fail
        refine C1.out.mono ?_
        rintro e w2 ⟨rfl, hb2⟩
        have HM2 := Lib.hid (HM.out.below hb2)
        have CUP := Lib.hid (up_m x.s now (pickJ cl k js) (!ob) _ _ w2 HM2.out.st (HJ.out.below hb2) HN0.out (by omega))
        clear hb2 C1 HM HJ HYW z9 z0 z1 hcell2
        go_wp2_with fail
        refine CUP.out.mono ?_
        rintro e w3 ⟨a3, b3, g3, rfl, ha3, hsrc3, hp3, hs3, hb3, na3, nb3, ng3⟩
        obtain ⟨y, hy⟩ : ∃ y, y = (upL now (!ob) (Pas.new x.s) (pickJ cl k js)).1 := ⟨_, rfl⟩
        rw [← hy] at ha3 hsrc3 hp3 hs3 HBES hyl
        clear hy CUP
        obtain ⟨A9, c9, ha3e, _, _⟩ := id ha3
        obtain ⟨A10, c10, hp3e, _, _⟩ := prms_open hp3
        obtain ⟨A11, c11, hs3e, _⟩ := hs3.open_
        subst ha3e
        subst hp3e
        subst hs3e
        have HM3 := Lib.hid ((HM2.out.steps hb3 hs3 ng3).alloc (.cells #[.slice A9 y.st.length c9, .slice A10 y.P.length c10] 37))
        have hlt1 := HM2.out.box.lt
        have HBX := Lib.hid (Box2.new w3 (.slice A9 y.st.length c9) (.slice A10 y.P.length c10) 37)
        have HSR := Lib.hid (hsrc3.below (box_s w3 (.cells #[.slice A9 y.st.length c9, .slice A10 y.P.length c10] 37)))
        have HP3 := Lib.hid (hp3.below (box_s w3 (.cells #[.slice A9 y.st.length c9, .slice A10 y.P.length c10] 37)))
        have HNB : Hid (∀ row : Value, (∀ b, row.ownBlock = some b → b < w2.heap.size) → ∀ (W w4 : World) (f : Nat) (z : Value), W.grownBy w4 row.ownBlock → prmL.Is y.P W (.slice A10 y.P.length c10) → prmL.Is y.P (w4.setCell ⟨w1.heap.size, f, none⟩ z) (.slice A10 y.P.length c10)) := fun row hrow W w4 f z hg hp =>
          is_kept hp (by simp [World.setCell]; exact hg.size) fun a m c e hpos => new_kept hrow hg hlt1 (nb3 a m c e) (is_lt2 hp a m c e hpos)
        have HA3 : Hid (∀ b, (Value.slice A3 x.st.length c3).ownBlock = some b → b < w2.heap.size) := fun b e => (HM2.out.rows.block_lt e).2
        obtain ⟨M5, hM5⟩ : ∃ M, M = w3.heap.size := ⟨_, rfl⟩
        have HM5 : Hid (w2.heap.size ≤ M5 ∧ w1.heap.size < w2.heap.size) := ⟨by rw [hM5]; exact hb3.size, hlt1⟩
        clear ha3 hsrc3 hp3 hs3 hb3 na3 nb3 ng3 HM2 hlt1
        go_upto_region 10 with fail
        rw [← hM5] at HBX ⊢
        clear hM5
        generalize w3.alloc (.cells #[.slice A9 y.st.length c9, .slice A10 y.P.length c10] 37) = w5 at *
        have HO3 : Hid (OwnN 3 1 (w1.heap.size + 1) w5 (.slice A3 x.st.length c3) x.st.length (ivals x.st)) := HM3.out.rows
        obtain ⟨q9, q0, q1, qf0, qf1⟩ := HM3.out.box
        obtain ⟨g9, g0, g1, _, _⟩ := HBX.out
        go_wp2_with (at_builtin; refine push_seps ints_t rfl (.tmp 55) (.tmp 57) rfl (w1.heap.size + 1) _ _ _ rfl HO3.out _ y.st.length (ivals y.st) rfl ?a0 HSR.out ?a1 ?a2 ?_)
        case a0 => simp [ivals]
        case a1 => exact ivals_cell _
        case a2 => omega
        intro v7 w7 ho7 hb7 hg7 hs7
        obtain ⟨A12, c12, hv7⟩ := ho7.shape
        subst hv7
        have HM7 := Lib.hid (HM3.out.starts (Y := y.R) (O := []) (ho7.cast (show x.st.length + y.st.length = x.st.length + y.R.length by rw [st_len y]) rfl) hb7 hg7 hs7)
        have HP7 := Lib.hid (HNB.out _ HA3.out w5 w7 0 (.slice A12 (x.st.length + y.st.length) c12) hg7 HP3.out)
        have HBX7 : Hid (Box2 (w7.setCell ⟨w1.heap.size, 0, none⟩ (.slice A12 (x.st.length + y.st.length) c12)) M5 (.slice A9 y.st.length c9) (.slice A10 y.P.length c10)) :=
          (HBX.out.grown hg7 (fun e => by have := HA3.out _ e; have := HM5.out.1; omega)).set_other (p := ⟨w1.heap.size, 0, none⟩) (by show w1.heap.size ≠ M5; have := HM5.out; omega) _
        obtain ⟨e9, e0, e1, ef0, ef1⟩ := HM3.out.box.grown hg7 (fun e => by have := (HM3.out.rows.block_lt e).1; omega)
        clear ho7 hb7 hg7 hs7 HM3 HBX HO3 HSR HP3 HNB HA3 q9 q0 q1 qf0 qf1 g9 g0 g1
        go_upto_region 11 with fail
        clear e9 e0 e1 ef0 ef1
        generalize w7.setCell ⟨w1.heap.size, 0, none⟩ (.slice A12 (x.st.length + y.st.length) c12) = w8 at *
        have HO8 : Hid (OwnN 41 3 (w1.heap.size + 1) w8 (.slice A8 x.P.length c8) x.P.length (prmL.vals x.P)) := HM7.out.prms
        have HSP := Lib.hid HP7.out.src
        obtain ⟨q9, q0, q1, qf0, qf1⟩ := HM7.out.box
        obtain ⟨g9, g0, g1, _, _⟩ := HBX7.out
        go_wp2_with (at_builtin; refine push_seps prm_t rfl (.tmp 61) (.tmp 63) rfl (w1.heap.size + 1) _ _ _ rfl HO8.out _ y.P.length (prmL.vals y.P) rfl ?b0 HSP.out ?b1 ?b2 ?_)
        case b0 => exact prmL.vals_len y.P
        case b1 => exact prmL.cell y.P
        case b2 => omega
        intro v9 w9 ho9 hb9 hg9 hs9
        obtain ⟨A13, c13, hv9⟩ := ho9.shape
        subst hv9
        have HM9 := Lib.hid (HM7.out.proms (Y := y.Q) (O := []) (ho9.cast (show x.P.length + y.P.length = x.P.length + y.Q.length by rw [P_len y]) rfl) hb9 hg9 hs9)
        have HM10 := Lib.hid (HM9.out.to (z := mz.1) ⟨HBES.out.s, HBES.out.R, HBES.out.Q⟩)
        rw [HMZ.out] at HM10
        obtain ⟨e9, e0, e1, ef0, ef1⟩ := HM7.out.box.grown hg9 (fun e => by have := (HM7.out.prms.block_lt e).1; omega)
        clear ho9 hb9 hg9 hs9 HM7 HM9 HO8 HSP HP7 HBX7 q9 q0 q1 qf0 qf1 g9 g0 g1
        go_wp2_with fail
        exact ⟨⟨k + 1, _, _, by go_num, by omega, HM10.out⟩, by simp [intOf] <;> omega⟩
      · obtain rfl : k = cl.length := by omega
        have HEQ := Lib.hid (easy_noQ (now := now) (waitJ (idsP (mulTo cl ov now s js cl.length).1) js) (Pas.new (mulTo cl ov now s js cl.length).1.s))
        have HWY := Lib.hid HWAY.out
        clear HM0 HWAY
        generalize mulTo cl ov now s js cl.length = mx at *
        obtain ⟨x, hh, rest⟩ := mx
        dsimp only at HM HF HWY HEQ
        have hxl : x.st.length ≤ 1000 ∧ x.P.length ≤ 1000 := by
          have := HF.out.few
          have := HJL.out
          rw [st_len, P_len]
          omega
        have CW := Lib.hid (wait_m js x.st x.P (.slice B js.length d) av bv wr (HU.out.below (HB3.out.trans (HM.out.bel.mono HB3.out.size))) (IntsAt.own HM.out.rows rfl) (Lay.Is.own HM.out.prms rfl) HF.out.ids HF.out.pids (by have := HJL.out; omega) hxl.1 hxl.2)
        rw [ids_eq] at CW
        have hml : (waitJ (idsP x) js).length ≤ 100 := Nat.le_trans (wait_le _ _) HJL.out
        have hcx : c16 x.s now (waitJ (idsP x) js).length = 0 := by
          obtain ⟨g1, g2⟩ := HF.out.chk
          unfold c16
          rw [if_pos ⟨(chk_iff _).2 g1, by rw [g2]; exact HHD.out, hn2⟩, if_neg (by omega)]
        have HCX := Lib.hid hcx
        have HLN := Lib.hid HF.out.len2
        obtain ⟨A2, c2, hsv, _⟩ := HM.out.st.open_
        obtain ⟨A3, c3, hav⟩ := HM.out.rows.shape
        obtain ⟨A4', c4', hbv⟩ := HM.out.prms.shape
        subst hsv
        subst hav
        subst hbv
        obtain ⟨q9, q0, q1, _, _⟩ := HM.out.box
        clear hcx HF HTO
        go_wp2_with fail
        refine CW.out.mono ?_
        rintro e w2 ⟨v2, rfl, hj2, hb2⟩
        have HM2 := Lib.hid (HM.out.below hb2)
        have CP := Lib.hid (pass_e x.s now (waitJ (idsP x) js) false _ _ w2 HM2.out.st hj2 (by have := HLN.out; omega))
        rw [HCX.out] at CP
        obtain ⟨A7, c7, hv2, _⟩ := hj2.open_
        subst hv2
        have hyl : (easyP x.s now (waitJ (idsP x) js) false).R.length ≤ 100 := by
          have h2 : ∀ (l : List Jb) (z : Pas), (l.foldl (easyOne now false) z).R.length ≤ z.R.length + l.length := by
            intro l
            induction l with
            | nil => intro z; simp
            | cons q l ih =>
              intro z
              have h3 := ih (easyOne now false z q)
              have h4 : (easyOne now false z q).R.length ≤ z.R.length + 1 := by
                unfold easyOne startP promP
                split
                · simp
                · split
                  · simp
                  · omega
              simp only [List.foldl_cons, List.length_cons]
              omega
          have h5 := h2 (waitJ (idsP x) js) (Pas.new x.s)
          simp only [Pas.new, List.length_nil] at h5
          show ((waitJ (idsP x) js).foldl (easyOne now false) (Pas.new x.s)).R.length ≤ 100
          unfold Pas.new
          omega
        have HNQ : Hid ((easyP x.s now (waitJ (idsP x) js) false).Q = []) := HEQ
        clear hj2 hb2 CW HM HCX HLN HEQ q9 q0 q1
        generalize easyP x.s now (waitJ (idsP x) js) false = yp at *
        go_wp2_with fail
        refine CP.out.mono ?_
        rintro e w5 ⟨a5, b5, g5, st5, P5, t5, rfl, h1, h2, h3, h4, hb5, n1, n2, n3, hsr⟩
        obtain ⟨_, rfl, rfl, rfl⟩ : (0 : Int) = 0 ∧ st5 = yp.st ∧ P5 = yp.P ∧ t5 = yp.s := h4.resolve_right (fun q => q.1 rfl)
        obtain ⟨A6, c6, hav5, _, _⟩ := id h1
        obtain ⟨A7, c7, hbv5, _, _⟩ := prms_open h2
        obtain ⟨A8, c8, hgv5, _⟩ := h3.open_
        subst hav5
        subst hbv5
        subst hgv5
        have HSR := Lib.hid (hsr.below (box_s w5 (.cells #[.slice A6 yp.st.length c6, .slice A7 yp.P.length c7] 37)))
        have HM5 := Lib.hid ((HM2.out.steps hb5 h3 (.inr n3)).alloc (.cells #[.slice A6 yp.st.length c6, .slice A7 yp.P.length c7] 37))
        have HN3 : Hid (NewAt w1.heap.size (.slice A8 yp.s.length c8)) := n3.mono HM2.out.bel.size
        have HBX := Lib.hid (Box2.new w5 (.slice A6 yp.st.length c6) (.slice A7 yp.P.length c7) 37)
        have HO5 : Hid (OwnN 3 1 (w1.heap.size + 1) (w5.alloc (.cells #[.slice A6 yp.st.length c6, .slice A7 yp.P.length c7] 37)) (.slice A3 x.st.length c3) x.st.length (ivals x.st)) := HM5.out.rows
        have hyl2 : yp.st.length ≤ 100 := by rw [st_len]; exact hyl
        clear h1 h2 h3 h4 hb5 n1 n2 n3 hsr CP HM2
        go_upto_region 15 with fail
        generalize w5.heap.size = M5 at *
        generalize w5.alloc (.cells #[.slice A6 yp.st.length c6, .slice A7 yp.P.length c7] 37) = w6 at *
        obtain ⟨q9, q0, q1, qf0, qf1⟩ := HM5.out.box
        obtain ⟨g9, g0, g1, _, _⟩ := HBX.out
        go_wp2_with (at_builtin; refine push_seps ints_t rfl (.tmp 79) (.tmp 81) rfl (w1.heap.size + 1) _ _ _ rfl HO5.out _ yp.st.length (ivals yp.st) rfl ?a0 HSR.out ?a1 ?a2 ?_)
        case a0 => simp [ivals]
        case a1 => exact ivals_cell _
        case a2 => omega
        intro v7 w7 ho7 hb7 hg7 hs7
        obtain ⟨A9, c9, hv7⟩ := ho7.shape
        subst hv7
        have HM7 := Lib.hid (HM5.out.starts (Y := yp.R) (O := []) (ho7.cast (show x.st.length + yp.st.length = x.st.length + yp.R.length by rw [st_len yp]) rfl) hb7 hg7 hs7)
        obtain ⟨e9, e0, e1, ef0, ef1⟩ := HM5.out.box.grown hg7 (fun e => by have := (HM5.out.rows.block_lt e).1; omega)
        have HR7 := Lib.hid (HR3.out.below HM7.out.bel)
        have HM8 := Lib.hid (HM7.out.to (z := mulP cl ov s now js) ⟨HWY.out.s, HWY.out.R, by rw [HWY.out.Q, HNQ.out, List.append_nil]⟩)
        have HD := Lib.hid (HM8.out.done HR7.out (by have := HR3.out.lt; exact this) (Nat.le_succ _) HB3.out HN3.out rfl)
        clear ho7 hb7 hg7 hs7 HM5 HBX HO5 HSR q9 q0 q1 qf0 qf1 g9 g0 g1 HM8
        go_upto_region 16 with fail
        clear e9 e0 e1 ef0 ef1
        obtain ⟨f9, f0, f1, ff0, ff1⟩ := HM7.out.box
        obtain ⟨r9, rr0, rr1, rf0, rf1⟩ := HR7.out
        clear HM7 HR7
        generalize w7.setCell ⟨w1.heap.size, 0, none⟩ (.slice A9 (x.st.length + yp.st.length) c9) = w8 at *
        go_wp2_with fail
        obtain ⟨r, r0, r1, _, _⟩ := HD.out.1
        generalize (w8.setCell ⟨w.heap.size + 1, 0, none⟩ (.slice A9 (x.st.length + yp.st.length) c9)).setCell ⟨w.heap.size + 1, 1, none⟩ (.slice A4' x.P.length c4') = w9 at *
        exact bodyPost_ret (v := .tuple #[.agg #[.slice A9 (x.st.length + yp.st.length) c9, .slice A4' x.P.length c4'], .slice A8 yp.s.length c8, .int .i64 0]) (by simp [results, Try.results8, go_sem, r0, r1]) rfl HD.out.2
  · have hne : (c21 s now js cl != 0) = true := by simpa using h0
    have HNE := Lib.hid h0
    generalize c21 s now js cl = C at *
    clear h0
    go_enter Try.func8, Try.ntmps8
    go_upto_region 1 with fail
    generalize w.alloc (.cells #[.slice A4 cl.length c4, .slice A5 ov.length c5] 27) = W1 at *
    have HR0 := Lib.hid (Box2.new W1 (.slice none 0 0) (.slice none 0 0) 37)
    have HRB := Lib.hid (box_s W1 (.cells #[.slice none 0 0, .slice none 0 0] 37))
    have HY2 := Lib.hid (HY0.out.below HRB.out)
    have HB2 := Lib.hid (thenS HYB.out HRB.out)
    generalize W1.alloc (.cells #[.slice none 0 0, .slice none 0 0] 37) = W2 at *
    rw [HW1.out] at HR0
    clear HRB HYB HY0 HW1
    obtain ⟨u9, u0, u1, _, _⟩ := HY2.out
    go_wp2_with fail
    refine (CE.out W2 HB2.out).mono ?_
    rintro e w1 ⟨vl, L, rfl, hl, hway, hb1⟩
    obtain ⟨A6, c6, hvl, _, _⟩ := hl.open_
    subst hvl
    obtain ⟨r, r0, r1, rf0, rf1⟩ := HR0.out.below hb1
    have HRX := Lib.hid (((HR0.out.below hb1).set0 (.slice none 0 0)).set1 (.slice none 0 0))
    have HB8 := Lib.hid (((thenS HB2.out hb1).setCell (p := ⟨w.heap.size + 1, 0, none⟩) (Nat.le_succ _) (.slice none 0 0)).setCell (p := ⟨w.heap.size + 1, 1, none⟩) (Nat.le_succ _) (.slice none 0 0))
    clear hl hway hb1 u9 u0 u1 HY2 HR0 HB2 CE
    go_wp2_with fail
    clear r r0 r1 rf0 rf1
    obtain ⟨r, r0, r1, _, _⟩ := HRX.out
    generalize (w1.setCell ⟨w.heap.size + 1, 0, none⟩ (.slice none 0 0)).setCell ⟨w.heap.size + 1, 1, none⟩ (.slice none 0 0) = w8 at *
    exact bodyPost_ret (v := .tuple #[.agg #[.slice none 0 0, .slice none 0 0], .slice none 0 0, .int .i64 C]) (by simp [results, Try.results8, go_sem, r0, r1]) rfl (says_no HNE.out HB8.out)
end Go.Proofs.Ytophhiejggnaeaa.PasWalk
namespace Go.Proofs.Ytophhiejggnaeaa.PasWalk
open Go.RowKit Go.Proofs.Ytophhiejggnaeaa.SpanPlain Go.Proofs.Ytophhiejggnaeaa.StepPlain Go.Proofs.Ytophhiejggnaeaa.GapPlain Go.Proofs.Ytophhiejggnaeaa.JobPlain Go.Proofs.Ytophhiejggnaeaa.OrdPlain Go.Proofs.Ytophhiejggnaeaa.ApiPlain Go.Proofs.Ytophhiejggnaeaa.ShaPlain Go.Proofs.Ytophhiejggnaeaa.SlaPlain Go.Proofs.Ytophhiejggnaeaa.TogPlain Go.Proofs.Ytophhiejggnaeaa.PasPlain Go.Proofs.Ytophhiejggnaeaa.QuePlain Go.Proofs.Ytophhiejggnaeaa.MulPlain Go.Proofs.Ytophhiejggnaeaa.Mem Go.Proofs.Ytophhiejggnaeaa.SpanMem Go.Proofs.Ytophhiejggnaeaa.StepMem Go.Proofs.Ytophhiejggnaeaa.JobMem Go.Proofs.Ytophhiejggnaeaa.OrdMem Go.Proofs.Ytophhiejggnaeaa.ApiMem Go.Proofs.Ytophhiejggnaeaa.SpanRef Go.Proofs.Ytophhiejggnaeaa.StepRef Go.Proofs.Ytophhiejggnaeaa.GapRef Go.Proofs.Ytophhiejggnaeaa.ShaRef Go.Proofs.Ytophhiejggnaeaa.SlaRef Go.Proofs.Ytophhiejggnaeaa.IdSet
open Go.Proofs.Ytophhiejggnaeaa.StepWalk (NewAt)
open Go.Proofs.Ytophhiejggnaeaa.MulWalk (HeadsSays)
open Go.Proofs.Ytophhiejggnaeaa.MulRef (c21 c21_zero)
open Go.Proofs.Ytophhiejggnaeaa.QueWalk (ListsIs splitS)
open Go.Proofs.Ytophhiejggnaeaa.QueRef (Short)
open Go.Proofs.Ytophhiejggnaeaa.OrdTake (unlikeTo unlike_nodup)
theorem getD_snoc (l : List Int) (x : Int) (i : Nat) : (l ++ [x]).getD i 0 = if i = l.length then x else l.getD i 0 := by
  simp only [List.getD, List.getElem?_append]
  by_cases h : i < l.length
  · rw [if_pos h, if_neg (by omega)]
  · rw [if_neg h]
    by_cases e : i = l.length
    · subst e; simp
    · rw [if_neg e]
      have h1 : l[i]? = none := List.getElem?_eq_none (by omega)
      have h2 : ([x] : List Int)[i - l.length]? = none := List.getElem?_eq_none (by simp; omega)
      rw [h1, h2]
/-- Heads' own memory: the steps, and a row of Ids. -/
structure HdAt (r : List Sp) (l : List Int) (n : Nat) (w : World) (sv : Value) (wr : World) : Prop where
  st : SpansIs r wr sv
  row : wr.rowIs w.heap.size 3 n (icell l)
  away : ∀ a m c, sv = .slice (some a) m c → 0 < r.length → a.block ≠ w.heap.size
  bel : Below w.heap.size w wr
section
variable {r : List Sp} {l l' : List Int} {n : Nat} {w : World} {sv : Value} {wr w' : World}
theorem row_keep {b : Nat} {t : TypeId} {f : Nat → Value} (h : wr.rowIs b t n f) (hb : Below wr.heap.size wr w') : w'.rowIs b t n f := h.of_block (hb.block _ h.lt)
theorem HdAt.below (h : HdAt r l n w sv wr) (hb : Below wr.heap.size wr w') : HdAt r l n w sv w' := ⟨h.st.below hb, row_keep h.row hb, h.away, thenS h.bel hb⟩
theorem HdAt.steps {r' : List Sp} {v : Value} (h : HdAt r l n w sv wr) (hb : Below wr.heap.size wr w') (hs : SpansIs r' w' v) (hn : v = sv ∨ NewAt wr.heap.size v) : HdAt r' l n w v w' := by
  have hlt := h.row.lt
  rcases hn with rfl | hn
  · obtain ⟨A1, c1, e1, _⟩ := hs.open_
    obtain ⟨A2, c2, e2, _⟩ := h.st.open_
    rw [e1] at e2
    injection e2 with _ e3 _
    exact ⟨hs, row_keep h.row hb, (fun a m c e hp => h.away a m c e (by rw [← e3]; exact hp)), thenS h.bel hb⟩
  · exact ⟨hs, row_keep h.row hb, (fun a m c e _ => by have := hn a m c e; omega), thenS h.bel hb⟩
theorem HdAt.to (h : HdAt r l n w sv wr) (e : ∀ i, i < n → icell l i = icell l' i) : HdAt r l' n w sv wr := ⟨h.st, h.row.congr e, h.away, h.bel⟩
theorem HdAt.set {k : Nat} {x : Int} (h : HdAt r l n w sv wr) (hl : l.length = k) : HdAt r (l ++ [x]) n w sv (wr.setCell ⟨w.heap.size, k, none⟩ (.int .i64 x)) := by
  refine ⟨spans_kept h.st (by simp [World.setCell]) fun a m c e hp => Below.heap_setCell _ ⟨w.heap.size, k, none⟩ _ a.block (h.away a m c e hp), (h.row.set k _).congr fun i _ => ?_, h.away, h.bel.setCell (p := ⟨w.heap.size, k, none⟩) (Nat.le_refl _) _⟩
  unfold icell
  rw [getD_snoc, hl]
  split <;> rfl
end
theorem icell_zero {l : List Int} (i : Nat) : icell l i = icell (l ++ [0]) i := by
  unfold icell
  rw [getD_snoc]
  split
  · rename_i h
    subst h
    simp [List.getD]
  · rfl
theorem int_make (n : Nat) (hn : n ≤ 1000) (W : World) : (Instr.makeSlice 34 (.int .i64 n) (.int .i64 n)).run Try.prog W = .ok (.slice (some ⟨W.heap.size, 0, none⟩) n n) (W.alloc (.cells (madeCells #[.int .i64 0] n) 3)) :=
  run_make_row' (P := Try.prog) 34 3 (.int .i64 0) 8 Try.underlying34 (by kernel_rfl) rfl .i64 .i64 n (by omega) (by omega) W
/-- How the heads go on behind a class. -/
theorem heads_next {Q : List (Int × Jb)} {l : List Int} (h : Q.length ≤ 1) (i : Nat) : icell (l ++ pidsOf (Q.map prmQ)) i = icell (l ++ [headI Q]) i := by
  match Q, h with
  | [], _ => rw [show l ++ pidsOf ([].map prmQ) = l by simp [pidsOf]]; exact icell_zero i
  | [q], _ => rfl
theorem ints_of_row {w : World} {g n : Nat} {l : List Int} (h : w.rowIs g 3 n (icell l)) (hl : l.length = n) : IntsAt l w (.slice (some ⟨g, 0, none⟩) n n) := by
  subst hl
  exact ⟨_, _, rfl, Nat.le_refl _, Cells.of_row h⟩
set_option maxRecDepth 100000 in
set_option maxHeartbeats 1600000 in
theorem heads_m (s : List Sp) (now : Int) (js : List Jb) (cl : List Cl) (v u q : Value) (w : World) (hv : SpansIs s w v) (hu : JobsIs js w u) (hq : clL.Is cl w q) (hi : IdsFit js) (hs : s.length + 3 * js.length ≤ 1000) (hc : Short cl) (hcl : cl.length ≤ 1000) :
    Calls Try.prog 19 #[v, .int .i64 now, u, q] w (HeadsSays (c21 s now js cl) (headsP cl s now js) w) := by
  have CE := Lib.hid (class_m s now js cl v u q w hv hu hq hi (by omega) hc hcl)
  have HV := Lib.hid hv
  obtain ⟨B, d, rfl, _, hB⟩ := hu.open_
  obtain ⟨A, c, rfl, _⟩ := hv.open_
  obtain ⟨A4, c4, rfl, _, _⟩ := cls_open hq
  have HVL := Lib.hid (spans_lt hv)
  clear hv hu hB hq
  by_cases h0 : c21 s now js cl = 0
  · obtain ⟨g0, g1, g2⟩ := c21_zero h0
    obtain ⟨hc1, hc2, ⟨hn0, hn2⟩, hc4⟩ := c16_le g0
    have HTO := Lib.hid (fun (k : Nat) (hk : k ≤ cl.length) => to_facts (ov := []) hn0 ((chk_iff s).1 hc1) hi (unlike_nodup g2) hk)
    have HCL : Hid (cl.length ≤ 20) := Lib.hid (checkC_zero g1).1
    have HN0 := Lib.hid hn0
    have HJL := Lib.hid hc4
    have hmk := fun W => int_make cl.length hcl W
    rw [h0] at CE ⊢
    clear h0 g0 g1 g2 hc1 hc2 hc4 hi hc
    go_enter Try.func19, Try.ntmps19
    go_wp2_with fail
    refine CE.out.mono ?_
    rintro e w1 ⟨vl, L, rfl, hl, hway, hb1⟩
    obtain ⟨_, rfl⟩ : (0 : Int) = 0 ∧ L = splitC cl js := hway.resolve_right fun q => q.1 rfl
    obtain ⟨A6, c6, hvl, _, hat⟩ := hl.open_
    rw [split_len] at hvl
    subst hvl
    have HAT : Hid (∀ k, k < cl.length → ∃ a u, A6 = some a ∧ a.block < w1.heap.size ∧ w1.cell? (a.add k) = some u ∧ JobsIs (pickJ cl k js) w1 u) := Lib.hid fun k hk => hat k _ (split_at cl js hk)
    have HB1 := Lib.hid hb1
    have HM0 : Hid (HdAt s (mulTo cl [] now s js 0).2.1 cl.length w1 (.slice A s.length c) (w1.alloc (.cells (madeCells #[.int .i64 0] cl.length) 3))) :=
      ⟨(HV.out.below hb1).below (box_s w1 _), (World.rowIs_made w1 (.int .i64 0) cl.length 3).congr (fun i _ => by show _ = icell [] i; simp [icell]), (fun a m c e hp => by have := HVL.out a m c e hp; have := hb1.size; omega), box_s w1 _⟩
    clear hl hway hb1 hat CE HV HVL
    go_upto_region 5 with fail
    generalize w1.alloc (.cells (madeCells #[.int .i64 0] cl.length) 3) = W4 at *
    clear hmk
    go_wp2_with fail
    go_loopw [13, 37] (fun sv i wr => ∃ (k : Nat), i = .int .i64 k ∧ k ≤ cl.length ∧ Hid (HdAt (mulTo cl [] now s js k).1.s (mulTo cl [] now s js k).2.1 cl.length w1 sv wr)) (fun _ i _ => cl.length - (intOf i).toNat)
    case atStart => exact ⟨0, rfl, Nat.zero_le _, HM0.out⟩
    case round =>
      obtain ⟨k, rfl, hk, HM⟩ := hrel
      have HF := Lib.hid (HTO.out k hk)
      by_cases hlt : k < cl.length
      · obtain ⟨ad, uk, rfl, had, hcell, hjs⟩ := HAT.out k hlt
        have hcl2 := HCL.out
        have hlt2 : (k : Int) < (cl.length : Int) := by omega
        have i0 : (0 : Int) ≤ (k : Int) := Int.natCast_nonneg _
        obtain ⟨hto, hth⟩ := to_next (cls := cl) (over := []) (now := now) (s := s) (js := js) hlt
        obtain ⟨hbes, hbh⟩ := up_new (now := now) (pr := mayPr [] k) (mulTo cl [] now s js k).1 (pickJ cl k js)
        have hll := heads_len cl [] now s js k
        rw [← hto] at hbes
        rw [← hbh] at hth
        have hpr : mayPr [] k = true := by simp [mayPr]
        rw [hpr] at hbes hth
        obtain ⟨hhd, hq1⟩ := up_head (now := now) (pickJ cl k js) (Pas.new (mulTo cl [] now s js k).1.s) rfl
        rw [hhd] at hth
        have HS := Lib.hid hbes.s
        have HTH := Lib.hid hth
        have hlen := HF.out.len
        obtain ⟨mz, hmz⟩ : ∃ mz, mz = mulTo cl [] now s js (k + 1) := ⟨_, rfl⟩
        rw [← hmz] at HS HTH
        have HMZ := Lib.hid hmz
        clear hmz hto hth hbes hbh hpr hhd
        generalize mulTo cl [] now s js k = mx at *
        obtain ⟨x, hh, rest⟩ := mx
        dsimp only at HM HF HS HTH hlen hll hq1
        have hcell2 := (HM.out.bel.cell (p := ad.add k) (by rw [add_block]; exact had)).trans hcell
        obtain ⟨A7, c7, huk, _⟩ := hjs.open_
        have HJ := Lib.hid (hjs.below HM.out.bel)
        obtain ⟨A2, c2, hsv, _⟩ := HM.out.st.open_
        subst hsv
        subst huk
        have CUP := Lib.hid (up_m x.s now (pickJ cl k js) true _ _ wr HM.out.st HJ.out HN0.out (by omega))
        clear hcell hjs HM0 HF HJ
        go_wp2_with fail
        refine CUP.out.mono ?_
        rintro e w3 ⟨a3, b3, g3, rfl, ha3, _, hp3, hs3, hb3, na3, nb3, ng3⟩
        obtain ⟨y, hy⟩ : ∃ y, y = (upL now true (Pas.new x.s) (pickJ cl k js)).1 := ⟨_, rfl⟩
        rw [← hy] at ha3 hp3 hs3 HS HTH hq1
        clear hy CUP
        obtain ⟨A9, c9, ha3e, _, _⟩ := id ha3
        obtain ⟨A10, c10, hp3e, _, _⟩ := prms_open hp3
        obtain ⟨A11, c11, hs3e, _⟩ := hs3.open_
        subst ha3e
        subst hp3e
        subst hs3e
        have hlt1 := HM.out.row.lt
        have HM3 := Lib.hid ((HM.out.steps hb3 hs3 ng3).below (box_s w3 (.cells #[.slice A9 y.st.length c9, .slice A10 y.P.length c10] 37)))
        have HBX := Lib.hid (Box2.new w3 (.slice A9 y.st.length c9) (.slice A10 y.P.length c10) 37)
        have HP3 := Lib.hid (hp3.below (box_s w3 (.cells #[.slice A9 y.st.length c9, .slice A10 y.P.length c10] 37)))
        have HNB : Hid (NewAt (w1.heap.size + 1) (.slice A10 y.P.length c10)) := nb3.mono (by omega)
        have hp1 : y.P.length ≤ 1 := by rw [P_len]; exact hq1
        have HQ1 := Lib.hid hq1
        clear ha3 hp3 hs3 hb3 na3 nb3 ng3 HM hlt1 hcell2 hq1
        go_upto_region 10 with fail
        generalize w3.heap.size = M5 at *
        generalize w3.alloc (.cells #[.slice A9 y.st.length c9, .slice A10 y.P.length c10] 37) = w5 at *
        obtain ⟨g9, g0, g1, _, _⟩ := HBX.out
        go_upto_region 11 with fail
        clear g9 g0 g1 HBX
        have HL0 : Hid (HdAt y.s (hh ++ pidsOf (y.P.take 0)) cl.length w1 (.slice A11 y.s.length c11) w5 ∧ prmL.Is y.P w5 (.slice A10 y.P.length c10)) := ⟨by rw [show hh ++ pidsOf (y.P.take 0) = hh by simp [pidsOf]]; exact HM3.out, HP3.out⟩
        clear HM3 HP3
        go_loopw [52] (fun i wr => ∃ (k2 : Nat), i = .int .i64 k2 ∧ k2 ≤ y.P.length ∧ Hid (HdAt y.s (hh ++ pidsOf (y.P.take k2)) cl.length w1 (.slice A11 y.s.length c11) wr ∧ prmL.Is y.P wr (.slice A10 y.P.length c10))) (fun i _ => y.P.length - (intOf i).toNat)
        case atStart => exact ⟨0, rfl, Nat.zero_le _, HL0.out⟩
        case round =>
          obtain ⟨k2, rfl, hk2, HL⟩ := hrel
          by_cases hlt3 : k2 < y.P.length
          · have HK0 : Hid (k2 = 0) := by show _ = _; omega
            have hk3 : k2 ≤ 1000 := by omega
            have hlt4 : (k2 : Int) < (y.P.length : Int) := by omega
            have i1 : (0 : Int) ≤ (k2 : Int) := Int.natCast_nonneg _
            obtain ⟨A12, c12, hbe, _, hpa⟩ := prms_open HL.out.2
            injection hbe with hA12 _ hc12
            subst hA12 hc12
            obtain ⟨bd, hbd, hpr⟩ := hpa k2 hlt3
            subst hbd
            have hc0 := hpr.c0
            have hc1 := hpr.c1
            have hc2 := hpr.c2
            have HTK : Hid (hh ++ pidsOf (y.P.take (k2 + 1)) = hh ++ [y.P[k2].id] ∧ hh ++ pidsOf (y.P.take k2) = hh) := by
              refine ⟨?_, ?_⟩
              · rw [take_snoc hlt3]
                unfold pidsOf
                rw [List.map_append, show y.P.take k2 = [] by rw [HK0.out]; rfl]
                rfl
              · rw [show y.P.take k2 = [] by rw [HK0.out]; rfl]
                simp [pidsOf]
            generalize y.P[k2] = p at *
            have HH := HL.out.1
            rw [HTK.out.2] at HH
            have HL1 := Lib.hid (HH.below (box_s wr (.cells #[.int .i64 p.id, .int .i64 p.at_, .int .i64 p.slack] 41)))
            have HP1 := Lib.hid (HL.out.2.below (box_s wr (.cells #[.int .i64 p.id, .int .i64 p.at_, .int .i64 p.slack] 41)))
            have HPB := Lib.hid (PrmBox.of (Boxed.new wr #[.int .i64 p.id, .int .i64 p.at_, .int .i64 p.slack] 41))
            clear hpa hpr HL HH HL0
            go_upto_region 13 with fail
            clear hc0 hc1 hc2
            generalize wr.alloc (.cells #[.int .i64 p.id, .int .i64 p.at_, .int .i64 p.slack] 41) = W6 at *
            obtain ⟨z9, z0, _, _, _, _, _⟩ := HPB.out
            have hr0 := HL1.out.row.lt
            have hr1 := HL1.out.row.cell hlt
            have hr2 := HL1.out.row.frozen k
            have HP7 : Hid (prmL.Is y.P (W6.setCell ⟨w1.heap.size, k, none⟩ (.int .i64 p.id)) (.slice (some bd) y.P.length c10)) :=
              is_kept HP1.out (by simp [World.setCell]) fun a m c e _ => Below.heap_setCell _ ⟨w1.heap.size, k, none⟩ _ a.block (by have := HNB.out a m c e; show a.block ≠ w1.heap.size; omega)
            have HL7 := Lib.hid (HL1.out.set (x := p.id) hll)
            rw [← HTK.out.1] at HL7
            clear HPB HL1 HP1 HTK
            go_wp2_with fail
            exact ⟨⟨k2 + 1, by go_num, by omega, HL7.out, HP7.out⟩, by simp [intOf] <;> omega⟩
          · obtain rfl : k2 = y.P.length := by omega
            have HH := HL.out.1
            rw [List.take_length] at HH
            have HE : Hid (HdAt (mulTo cl [] now s js (k + 1)).1.s (mulTo cl [] now s js (k + 1)).2.1 cl.length w1 (.slice A11 y.s.length c11) wr) := by
              rw [← HMZ.out, HS.out]
              exact Lib.hid (HH.to (l' := mz.2.1) (fun i _ => by rw [HTH.out]; exact heads_next HQ1.out i))
            clear HL HL0 HH
            go_wp2_with fail
            exact ⟨⟨k + 1, by go_num, by omega, HE.out⟩, by simp [intOf] <;> omega⟩
      · obtain rfl : k = cl.length := by omega
        have HI := Lib.hid (ints_of_row HM.out.row (heads_len cl [] now s js cl.length))
        have HB := Lib.hid (HB1.out.trans (HM.out.bel.mono HB1.out.size))
        have hg := HM.out.row.lt
        clear HM HM0 HF
        go_wp2_with fail
        go_ret2
        exact ⟨_, _, rfl, HI.out, .inl ⟨rfl, rfl⟩, HB.out⟩
  · have hne : (c21 s now js cl != 0) = true := by simpa using h0
    have HNE := Lib.hid h0
    generalize c21 s now js cl = C at *
    clear h0
    go_enter Try.func19, Try.ntmps19
    go_wp2_with fail
    refine CE.out.mono ?_
    rintro e w1 ⟨vl, L, rfl, hl, hway, hb1⟩
    obtain ⟨A6, c6, hvl, _, _⟩ := hl.open_
    subst hvl
    have HB1 := Lib.hid hb1
    clear hl hway hb1 CE
    go_wp2_with fail
    go_ret2
    exact ⟨_, [], rfl, IntsAt.nil _, .inr ⟨HNE.out, rfl⟩, HB1.out⟩
end Go.Proofs.Ytophhiejggnaeaa.PasWalk
namespace Go.Proofs.Ytophhiejggnaeaa.MulWalk
open Go.RowKit Go.Proofs.Ytophhiejggnaeaa.SpanPlain Go.Proofs.Ytophhiejggnaeaa.StepPlain Go.Proofs.Ytophhiejggnaeaa.JobPlain Go.Proofs.Ytophhiejggnaeaa.OrdPlain Go.Proofs.Ytophhiejggnaeaa.ApiPlain Go.Proofs.Ytophhiejggnaeaa.QuePlain Go.Proofs.Ytophhiejggnaeaa.TogPlain Go.Proofs.Ytophhiejggnaeaa.PasPlain Go.Proofs.Ytophhiejggnaeaa.MulPlain Go.Proofs.Ytophhiejggnaeaa.Mem Go.Proofs.Ytophhiejggnaeaa.SpanMem Go.Proofs.Ytophhiejggnaeaa.StepMem Go.Proofs.Ytophhiejggnaeaa.JobMem Go.Proofs.Ytophhiejggnaeaa.OrdMem Go.Proofs.Ytophhiejggnaeaa.ApiMem Go.Proofs.Ytophhiejggnaeaa.SlaRef Go.Proofs.Ytophhiejggnaeaa.QueRef Go.Proofs.Ytophhiejggnaeaa.MulRef
theorem passM (s : List Sp) (now : Int) (js : List Jb) (cl : List Cl) (ov : List Bool) (v u q o : Value) (w : World) (hv : SpansIs s w v) (hu : JobsIs js w u) (hq : clL.Is cl w q) (ho : boolL.Is ov w o) (hs : s.length ≤ 100) (hj : js.length ≤ 20) (hc : Short cl) (hcl : cl.length ≤ 1000) (hid : PasWalk.IdsFit js) :
    Calls Try.prog 8 #[v, .int .i64 now, u, .agg #[q, o]] w (PlanSays (c21 s now js cl) (mulP cl ov s now js) w) :=
  (PasWalk.pass_m s now js cl ov v u q o w hv hu hq ho hid (by omega) hc hcl).mono fun _ _ h => h.says
theorem headsM (s : List Sp) (now : Int) (js : List Jb) (cl : List Cl) (v u q : Value) (w : World) (hv : SpansIs s w v) (hu : JobsIs js w u) (hq : clL.Is cl w q) (hs : s.length ≤ 100) (hj : js.length ≤ 20) (hc : Short cl) (hcl : cl.length ≤ 1000) (hid : PasWalk.IdsFit js) :
    Calls Try.prog 19 #[v, .int .i64 now, u, q] w (HeadsSays (c21 s now js cl) (headsP cl s now js) w) :=
  PasWalk.heads_m s now js cl v u q w hv hu hq hid (by omega) hc hcl
theorem passE (s : List Sp) (now : Int) (js : List Jb) (head : Bool) (v u : Value) (w : World) (hv : SpansIs s w v) (hu : JobsIs js w u) (hs : s.length ≤ 100) (hj : js.length ≤ 20) : Calls Try.prog 14 #[v, .int .i64 now, u, .bool head] w (PlanSays (c16 s now js.length) (easyP s now js head) w) :=
  (PasWalk.pass_e s now js head v u w hv hu (by omega)).mono fun _ _ h => h.says
end Go.Proofs.Ytophhiejggnaeaa.MulWalk
namespace Go.Proofs.Ytophhiejggnaeaa.MulWalk
open Go.RowKit Go.Proofs.Ytophhiejggnaeaa.SpanPlain Go.Proofs.Ytophhiejggnaeaa.StepPlain Go.Proofs.Ytophhiejggnaeaa.JobPlain Go.Proofs.Ytophhiejggnaeaa.OrdPlain Go.Proofs.Ytophhiejggnaeaa.ApiPlain Go.Proofs.Ytophhiejggnaeaa.QuePlain Go.Proofs.Ytophhiejggnaeaa.TogPlain Go.Proofs.Ytophhiejggnaeaa.PasPlain Go.Proofs.Ytophhiejggnaeaa.MulPlain Go.Proofs.Ytophhiejggnaeaa.Mem Go.Proofs.Ytophhiejggnaeaa.SpanMem Go.Proofs.Ytophhiejggnaeaa.StepMem Go.Proofs.Ytophhiejggnaeaa.JobMem Go.Proofs.Ytophhiejggnaeaa.OrdMem Go.Proofs.Ytophhiejggnaeaa.ApiMem Go.Proofs.Ytophhiejggnaeaa.StepRef Go.Proofs.Ytophhiejggnaeaa.ShaRef Go.Proofs.Ytophhiejggnaeaa.SlaRef Go.Proofs.Ytophhiejggnaeaa.QueRef Go.Proofs.Ytophhiejggnaeaa.OrdTake Go.Proofs.Ytophhiejggnaeaa.MulRef Go.Proofs.Ytophhiejggnaeaa.QueLight
def BoolQ (b : Bool) (w : World) (e : Ending) (w' : World) : Prop := e = .returned (.bool b) ∧ w = w'
set_option maxRecDepth 100000 in
set_option maxHeartbeats 1600000 in
theorem light21 (l : List Cl) (v : Value) (w : World) (hv : clL.Is l w v) : Calls Try.prog 5 #[v] w (BoolQ (lightB l) w) := by
  obtain ⟨A, c, rfl, hn, hA⟩ := cls_open hv
  have HA := Lib.hid hA
  clear hA hv
  go_enter Try.func5, Try.ntmps5
  go_wp2_with fail
  go_loop [3] (fun i => ∃ k : Nat, i = .int .i64 k ∧ k ≤ 31 ∧ k ≤ l.length ∧ Hid (LightTo l k)) (fun i => l.length - (intOf i).toNat)
  case atStart => exact ⟨0, rfl, by decide, Nat.zero_le _, fun i hi => absurd hi (Nat.not_lt_zero _)⟩
  case round =>
    obtain ⟨k, rfl, h31, hk, HL⟩ := hrel
    by_cases hlt : k < l.length
    · have d1 : decide ((k : Int) < (l.length : Int)) = true := decide_eq_true (by omega)
      by_cases h30 : k ≤ 30
      · have d2 : decide ((k : Int) ≤ 30) = true := decide_eq_true (by omega)
        obtain ⟨ad, rfl, ⟨p, p0, _, _, _, _⟩⟩ := cls_nth HA.out (Below.refl _ _) hlt
        have HNO := Lib.hid (fun h => light_no hlt h)
        have HNX : Hid ((nthC l k).name.size ≤ 100 → LightTo l (k + 1)) := fun h i hi hl => by
          rcases Nat.lt_or_ge i k with h1 | h1
          · exact HL.out i h1 hl
          · obtain rfl : i = k := by omega
            exact h
        have i0 : (0 : Int) ≤ (k : Int) := Int.natCast_nonneg _
        have i1 : (k : Int) < (l.length : Int) := by omega
        generalize nthC l k = x at *
        by_cases hx : x.name.size ≤ 100
        · have d3 : decide ((100 : Int) < (x.name.size : Int)) = false := decide_eq_false (by omega)
          have HX := Lib.hid (HNX.out hx)
          go_wp2_with fail
          exact ⟨⟨k + 1, by go_num, by omega, by omega, HX.out⟩, by simp [intOf] <;> omega⟩
        · have d3 : decide ((100 : Int) < (x.name.size : Int)) = true := decide_eq_true (by omega)
          have HX := Lib.hid (HNO.out hx)
          go_wp2_with fail
          go_ret
          exact ⟨by rw [HX.out]; rfl, rfl⟩
      · have d2 : decide ((k : Int) ≤ 30) = false := decide_eq_false (by omega)
        have d3 : decide ((l.length : Int) ≤ 30) = false := decide_eq_false (by omega)
        have HX := Lib.hid (light_long (l := l) (by omega))
        go_wp2_with fail
        go_ret
        exact ⟨by rw [HX.out]; rfl, rfl⟩
    · have d1 : decide ((k : Int) < (l.length : Int)) = false := decide_eq_false (by omega)
      by_cases h30 : l.length ≤ 30
      · have d3 : decide ((l.length : Int) ≤ 30) = true := decide_eq_true (by omega)
        have HX := Lib.hid (light_yes h30 (Nat.le_of_not_lt hlt) HL.out)
        go_wp2_with fail
        go_ret
        exact ⟨by rw [HX.out]; rfl, rfl⟩
      · have d3 : decide ((l.length : Int) ≤ 30) = false := decide_eq_false (by omega)
        have HX := Lib.hid (light_long h30)
        go_wp2_with fail
        go_ret
        exact ⟨by rw [HX.out]; rfl, rfl⟩
theorem ex_spans (w : World) : SpansIs exS (w.alloc (.cells #[.int .i64 0, .int .i64 1, .int .i64 9, .int .i64 8] 59)) (.slice (some ⟨w.heap.size, 0, none⟩) 2 2) := .inr ⟨_, _, rfl, Raw.alloc w _ _, Nat.le_refl _⟩
theorem ex_cls (w : World) {n : Nat} (e : w.heap.size = n) : clL.Is exCl (w.alloc (.cells #[.string ⟨#[97]⟩, .int .i64 1, .int .i64 4, .int .i64 1, .int .i64 99, .string ⟨#[98]⟩, .int .i64 5, .int .i64 8, .int .i64 1, .int .i64 99] 51)) (.slice (some ⟨n, 0, none⟩) 2 2) := by
  subst e
  exact .inr ⟨_, _, rfl, Raw.alloc w _ _, Nat.le_refl _⟩
theorem ex_jobs (w : World) {n : Nat} (e : w.heap.size = n) : JobsIs exJs (w.alloc (.cells #[.int .i64 1, .string ⟨#[]⟩, .int .i64 6, .int .i64 2, .int .i64 0, .int .i64 0, .int .i64 0, .int .i64 0, .int .i64 0, .int .i64 2, .string ⟨#[]⟩, .int .i64 3, .int .i64 5, .int .i64 0, .int .i64 0, .int .i64 0, .int .i64 0, .int .i64 0, .int .i64 3, .string ⟨#[]⟩, .int .i64 1, .int .i64 5, .int .i64 0, .int .i64 0, .int .i64 0, .int .i64 0, .int .i64 0] 45)) (.slice (some ⟨n, 0, none⟩) 3 3) := by
  subst e
  exact .inr ⟨_, _, rfl, Raw.alloc w _ _, Nat.le_refl _⟩
theorem ex_ids : PasWalk.IdsFit exJs := fun j hj => by
  simp [exJs] at hj
  rcases hj with rfl | rfl | rfl <;> exact ⟨by decide, by decide⟩
set_option maxRecDepth 100000 in
set_option maxHeartbeats 1200000 in
theorem awake_any (w : World) : Calls Try.prog 7 #[] w (TrueIs w) := by
  have s1 : (w.alloc (.cells #[.int .i64 0, .int .i64 1, .int .i64 9, .int .i64 8] 59)).heap.size = w.heap.size + 1 := by simp
  have s2 : ((w.alloc (.cells #[.int .i64 0, .int .i64 1, .int .i64 9, .int .i64 8] 59)).alloc (.cells #[.string ⟨#[97]⟩, .int .i64 1, .int .i64 4, .int .i64 1, .int .i64 99, .string ⟨#[98]⟩, .int .i64 5, .int .i64 8, .int .i64 1, .int .i64 99] 51)).heap.size = w.heap.size + 1 + 1 := by simp
  have HB1 := box_s w (.cells #[.int .i64 0, .int .i64 1, .int .i64 9, .int .i64 8] 59)
  have HB2 := HB1.alloc (by simp) (.cells #[.string ⟨#[97]⟩, .int .i64 1, .int .i64 4, .int .i64 1, .int .i64 99, .string ⟨#[98]⟩, .int .i64 5, .int .i64 8, .int .i64 1, .int .i64 99] 51)
  have HB3 := Lib.hid (HB2.alloc HB2.size (.cells #[.int .i64 1, .string ⟨#[]⟩, .int .i64 6, .int .i64 2, .int .i64 0, .int .i64 0, .int .i64 0, .int .i64 0, .int .i64 0, .int .i64 2, .string ⟨#[]⟩, .int .i64 3, .int .i64 5, .int .i64 0, .int .i64 0, .int .i64 0, .int .i64 0, .int .i64 0, .int .i64 3, .string ⟨#[]⟩, .int .i64 1, .int .i64 5, .int .i64 0, .int .i64 0, .int .i64 0, .int .i64 0, .int .i64 0] 45))
  have HS := Lib.hid (((ex_spans w).below (box_s _ (.cells #[.string ⟨#[97]⟩, .int .i64 1, .int .i64 4, .int .i64 1, .int .i64 99, .string ⟨#[98]⟩, .int .i64 5, .int .i64 8, .int .i64 1, .int .i64 99] 51))).below (box_s _ (.cells #[.int .i64 1, .string ⟨#[]⟩, .int .i64 6, .int .i64 2, .int .i64 0, .int .i64 0, .int .i64 0, .int .i64 0, .int .i64 0, .int .i64 2, .string ⟨#[]⟩, .int .i64 3, .int .i64 5, .int .i64 0, .int .i64 0, .int .i64 0, .int .i64 0, .int .i64 0, .int .i64 3, .string ⟨#[]⟩, .int .i64 1, .int .i64 5, .int .i64 0, .int .i64 0, .int .i64 0, .int .i64 0, .int .i64 0] 45)))
  have HC := Lib.hid ((ex_cls (w.alloc (.cells #[.int .i64 0, .int .i64 1, .int .i64 9, .int .i64 8] 59)) s1).below (box_s _ (.cells #[.int .i64 1, .string ⟨#[]⟩, .int .i64 6, .int .i64 2, .int .i64 0, .int .i64 0, .int .i64 0, .int .i64 0, .int .i64 0, .int .i64 2, .string ⟨#[]⟩, .int .i64 3, .int .i64 5, .int .i64 0, .int .i64 0, .int .i64 0, .int .i64 0, .int .i64 0, .int .i64 3, .string ⟨#[]⟩, .int .i64 1, .int .i64 5, .int .i64 0, .int .i64 0, .int .i64 0, .int .i64 0, .int .i64 0] 45)))
  have HJ := Lib.hid (ex_jobs ((w.alloc (.cells #[.int .i64 0, .int .i64 1, .int .i64 9, .int .i64 8] 59)).alloc (.cells #[.string ⟨#[97]⟩, .int .i64 1, .int .i64 4, .int .i64 1, .int .i64 99, .string ⟨#[98]⟩, .int .i64 5, .int .i64 8, .int .i64 1, .int .i64 99] 51)) s2)
  clear s1 s2 HB1 HB2
  have CP := Lib.hid (passM exS 0 exJs exCl [] _ _ _ (.slice none 0 0) _ HS.out HJ.out HC.out (.inl ⟨rfl, rfl⟩) (by decide) (by decide) ex_short (by decide) ex_ids)
  rw [ex_c21] at CP
  go_enter Try.func7, Try.ntmps7
  go_wp2_with fail
  generalize (((w.alloc (.cells #[.int .i64 0, .int .i64 1, .int .i64 9, .int .i64 8] 59)).alloc (.cells #[.string ⟨#[97]⟩, .int .i64 1, .int .i64 4, .int .i64 1, .int .i64 99, .string ⟨#[98]⟩, .int .i64 5, .int .i64 8, .int .i64 1, .int .i64 99] 51)).alloc (.cells #[.int .i64 1, .string ⟨#[]⟩, .int .i64 6, .int .i64 2, .int .i64 0, .int .i64 0, .int .i64 0, .int .i64 0, .int .i64 0, .int .i64 2, .string ⟨#[]⟩, .int .i64 3, .int .i64 5, .int .i64 0, .int .i64 0, .int .i64 0, .int .i64 0, .int .i64 0, .int .i64 3, .string ⟨#[]⟩, .int .i64 1, .int .i64 5, .int .i64 0, .int .i64 0, .int .i64 0, .int .i64 0, .int .i64 0] 45)) = W3 at *
  refine CP.out.mono ?_
  rintro e w4 ⟨a, b, c, st, P, t, rfl, ha, hb, hc, hcase, hb4⟩
  obtain ⟨rfl, rfl, _⟩ : st = [3] ∧ P = [⟨2, 9, 0⟩, ⟨1, 14, 0⟩] ∧ True := by
    rcases hcase with ⟨_, h1, h2, _⟩ | ⟨h, _⟩
    · exact ⟨h1.trans ex_st, h2.trans ex_P, trivial⟩
    · exact absurd rfl h
  have HB4 := Lib.hid (thenS HB3.out hb4)
  have HS4 := Lib.hid (HS.out.below hb4)
  have HJ4 := Lib.hid (HJ.out.below hb4)
  have HC4 := Lib.hid (HC.out.below hb4)
  obtain ⟨A1, c1, rfl, hn1, hc1⟩ := ha
  obtain ⟨a1, rfl, hl1, hcell1⟩ := hc1.at (show 0 < [(3 : Int)].length by decide)
  obtain ⟨A2, c2, rfl, hn2, hc2⟩ := prms_open hb
  obtain ⟨a2, rfl, hp9, hp0, hp1, hp2⟩ := hc2 0 (by decide)
  obtain ⟨A3, c3, rfl, _⟩ := hc.open_
  have hcell : w4.cell? a1 = some (.int .i64 3) := hcell1
  have p0 : w4.cell? a2 = some (.int .i64 2) := hp0
  have hp9 : a2.block < w4.heap.size := hp9
  rw [show ([(3 : Int)]).length = 1 from rfl, show ([⟨2, 9, 0⟩, ⟨1, 14, 0⟩] : List Prm).length = 2 from rfl] at *
  have HBX := Lib.hid (Box2.new w4 (.slice (some a1) 1 c1) (.slice (some a2) 2 c2) 37)
  have HB5 := Lib.hid (box_s w4 (.cells #[.slice (some a1) 1 c1, .slice (some a2) 2 c2] 37))
  have CH := Lib.hid (headsM exS 0 exJs exCl _ _ _ _ (HS4.out.below HB5.out) (HJ4.out.below HB5.out) (HC4.out.below HB5.out) (by decide) (by decide) ex_short (by decide) ex_ids)
  rw [ex_c21] at CH
  clear hcase hb4 CP hc hb hc1 hc2 hcell1 hp0 hp1 hp2 hn1 hn2 HS HJ HC HB3
  go_wp2_with fail
  generalize w4.alloc (.cells #[.slice (some a1) 1 c1, .slice (some a2) 2 c2] 37) = W5 at *
  refine CH.out.mono ?_
  rintro e w6 ⟨a6, h6, rfl, hi6, hc6, hb6⟩
  obtain rfl : h6 = [2, 1] := by
    rcases hc6 with ⟨_, h⟩ | ⟨h, _⟩
    · exact h.trans ex_heads
    · exact absurd rfl h
  obtain ⟨A6, c6, rfl, hn6, hcl6⟩ := hi6
  obtain ⟨a6, rfl, hl6, hcell6⟩ := hcl6.at (show 1 < [(2 : Int), 1].length by decide)
  have q1 : w6.cell? ⟨a6.block, a6.off + 1, none⟩ = some (.int .i64 1) := hcell6
  have HB6 := Lib.hid (thenS (thenS HB4.out HB5.out) hb6)
  have hbb := HB5.out.trans (hb6.mono HB5.out.size)
  obtain ⟨x, x0, x1, _, _⟩ := HBX.out.below hb6
  have z1 := (hbb.cell (p := a1) hl1).trans hcell
  have z2 := (hbb.cell (p := a2) hp9).trans p0
  rw [show ([(2 : Int), 1]).length = 2 from rfl] at *
  clear hb6 hc6 hcl6 hcell6 CH HB4 HB5 HBX hbb hcell p0 HS4 HJ4 HC4 hn6
  go_wp2_with fail
  go_ret
  exact ⟨rfl, HB6.out⟩
end Go.Proofs.Ytophhiejggnaeaa.MulWalk
