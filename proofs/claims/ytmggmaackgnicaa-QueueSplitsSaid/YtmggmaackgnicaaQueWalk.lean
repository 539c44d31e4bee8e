/-
  The walks of layer 9's code: Split.
-/
import Derived.Test.YtmggmaackgnicaaQueWalkB
import Derived.Test.YtmggmaackgnicaaSep
import Derived.Deep.RegionLaw
namespace Go.Proofs.Ytmggmaackgnicaa.QueWalk
open Go.RowKit Go.Proofs.Ytmggmaackgnicaa.JobPlain Go.Proofs.Ytmggmaackgnicaa.ApiPlain Go.Proofs.Ytmggmaackgnicaa.QuePlain Go.Proofs.Ytmggmaackgnicaa.Mem Go.Proofs.Ytmggmaackgnicaa.JobMem Go.Proofs.Ytmggmaackgnicaa.ApiMem Go.Proofs.Ytmggmaackgnicaa.OrdMem Go.Proofs.Ytmggmaackgnicaa.QueRef
theorem lists_t : ElemT Try.prog 36 35 1 24 := ElemT.mk_ (.slice none 0 0) Try.underlying36 (by kernel_rfl) rfl (by decide) (by decide)
theorem lists_info : (Try.prog.info? 35).map (fun i => (i.zero, i.size, i.bytes)) = some (some (.slice none 0 0), 1, 24) := by kernel_rfl
theorem made_nils (n : Nat) : (madeCells #[Value.slice none 0 0] n).toList = (List.range n).map fun _ => Value.slice none 0 0 := by
  unfold madeCells
  apply List.ext_getElem
  · simp
  · intro i h1 h2
    simp [Nat.mod_one]
theorem map_upd (V : Nat → Value) (n i : Nat) (x : Value) : ((List.range n).map V).set i x = (List.range n).map (upd V i x) := by
  apply List.ext_getElem
  · simp
  · intro q h1 h2
    simp only [List.getElem_set, List.getElem_map, List.getElem_range, upd]
    by_cases h : i = q
    · simp [h]
    · simp [h, Ne.symm h]
/-- The jobs of the first k that are in the class at a place; at the place behind all: in none. -/
def partJ (l : List Cl) (js : List Jb) (k i : Nat) : List Jb := pickJ l (if i = l.length then -1 else (i : Int)) (js.take k)
theorem part_zero (l : List Cl) (js : List Jb) (i : Nat) : partJ l js 0 i = [] := by simp [partJ, pickJ]
theorem part_next {l : List Cl} {js : List Jb} {k i : Nat} (hk : k < js.length) (h : ofC l js[k].width js[k].est = if i = l.length then -1 else (i : Int)) (q : Nat) : partJ l js (k + 1) q = partJ l js k q ++ if q = i then [js[k]] else [] := by
  unfold partJ
  rw [pick_take l _ js hk, h]
  congr 1
  by_cases hq : q = i
  · subst hq; simp
  · rw [if_neg (fun h => ?_), if_neg hq]
    split at h <;> split at h <;> omega
def SplitLoop (l : List Cl) (js : List Jb) (w : World) (g k : Nat) (V : Nat → Value) (wr : World) : Prop :=
  OwnN 35 1 w.heap.size wr (.slice (some ⟨g, 0, none⟩) l.length l.length) l.length ((List.range l.length).map V) ∧
  Fam 40 9 w.heap.size wr (l.length + 1) V (fun i => (partJ l js k i).length) (fun i => jvals (partJ l js k i)) ∧
  (∀ i, i < l.length + 1 → (V i).ownBlock ≠ some g) ∧ Below w.heap.size w wr
theorem split_fam {l : List Cl} {js : List Jb} {k i base : Nat} {W w' : World} {V : Nat → Value} {v' : Value} (hk : k < js.length) (hi : i < l.length + 1) (h : ofC l js[k].width js[k].est = if i = l.length then -1 else (i : Int))
    (F : Fam 40 9 base W (l.length + 1) V (fun i => (partJ l js k i).length) (fun i => jvals (partJ l js k i)))
    (ho : OwnN 40 9 base w' v' ((partJ l js k i).length + 1) (jvals (partJ l js k i) ++ jobC js[k])) (hg : W.grownBy w' (V i).ownBlock) (hs : NextTo W (V i) v') :
    Fam 40 9 base w' (l.length + 1) (upd V i v') (fun i => (partJ l js (k + 1) i).length) (fun i => jvals (partJ l js (k + 1) i)) := by
  refine (F.push hi ho hg hs).to (fun q _ => ?_) (fun q _ => ?_)
  · rw [part_next hk h q]
    by_cases hq : q = i
    · subst hq; simp [upd]
    · simp [upd, hq]
  · show _ = jvals (partJ l js (k + 1) q)
    rw [part_next hk h q]
    by_cases hq : q = i
    · subst hq; rw [upd_at, if_pos rfl, jvals_append]; simp [jvals]
    · rw [upd_off _ _ hq, if_neg hq, List.append_nil]
theorem own_jobs {base n : Nat} {w : World} {v : Value} {l : List Jb} {e : TypeId} (h : OwnN e 9 base w v n (jvals l)) (hn : n = l.length) : JobsIs l w v := by
  subst hn
  rcases h.form with ⟨h1, h2, _⟩ | ⟨g, c, hv, _, _, hn, _, hr, _⟩
  · exact .inl ⟨h1, List.eq_nil_of_length_eq_zero h2⟩
  · exact .inr ⟨_, c, hv, hr, hn⟩
theorem split_done {l : List Cl} {js : List Jb} {w wr : World} {g : Nat} {V : Nat → Value} (h : SplitLoop l js w g js.length V wr) : ListsIs (splitC l js) wr (.slice (some ⟨g, 0, none⟩) l.length l.length) ∧ JobsIs (pickJ l (-1) js) wr (V l.length) := by
  obtain ⟨ho, hf, _, _⟩ := h
  constructor
  · refine .inr ⟨⟨g, 0, none⟩, l.length, (List.range l.length).map V, by rw [split_len], by rw [split_len]; exact Nat.le_refl _, ?_, by rw [split_len]; simp, fun i x u h1 h2 => ?_⟩
    · rcases ho.form with ⟨h, _⟩ | ⟨g2, c2, h, _, _, _, _, h5, _⟩
      · cases h
      · injection h with h
        injection h with h
        injection h with h
        subst h
        exact h5
    · have hi : i < l.length := by
        have := (List.getElem?_eq_some_iff.1 h1).1
        rwa [split_len] at this
      rw [split_at l js hi] at h1
      injection h1 with h1
      have h3 : u = V i := by
        have := (List.getElem?_eq_some_iff.1 h2).2
        simpa using this.symm
      subst h3
      have hx : partJ l js js.length i = x := by rw [← h1, partJ, if_neg (by omega), List.take_length]
      rw [← hx]
      exact own_jobs (hf.own i (by omega)) rfl
  · have hx : partJ l js js.length l.length = pickJ l (-1) js := by rw [partJ, if_pos rfl, List.take_length]
    rw [← hx]
    exact own_jobs (hf.own l.length (by omega)) rfl
theorem split_cell {l : List Cl} {base g i : Nat} {W : World} {V : Nat → Value} (h : OwnN 35 1 base W (.slice (some ⟨g, 0, none⟩) l.length l.length) l.length ((List.range l.length).map V)) (hi : i < l.length) : g < W.heap.size ∧ W.cell? ⟨g, i, none⟩ = some (V i) ∧ W.frozen? ⟨g, i, none⟩ = false := by
  rcases h.form with ⟨h, _⟩ | ⟨g2, c2, h, _, h2, _, _, h5, h6, _⟩
  · cases h
  · injection h with h
    injection h with h
    injection h with h
    subst h
    refine ⟨h2, ?_, h6 i⟩
    have := (h5 i (V i) (by simp [hi])).2
    rwa [show (⟨g, 0, none⟩ : Addr).add i = ⟨g, i, none⟩ from by rw [Addr.add_lit, Nat.zero_add]] at this
theorem grown_cell {W w' : World} {row : Option Nat} (hg : W.grownBy w' row) {b o : Nat} {x : Value} (hb : b < W.heap.size) (hne : some b ≠ row) (h : W.cell? ⟨b, o, none⟩ = some x) : w'.cell? ⟨b, o, none⟩ = some x := (World.cell?_of_block (a := ⟨b, o, none⟩) (hg.block b hb hne)).trans h
theorem grown_frozen {W w' : World} {row : Option Nat} (hg : W.grownBy w' row) {b o : Nat} (hb : b < W.heap.size) (hne : some b ≠ row) (h : W.frozen? ⟨b, o, none⟩ = false) : w'.frozen? ⟨b, o, none⟩ = false := (World.frozen?_of_block (a := ⟨b, o, none⟩) (hg.block b hb hne)).trans h
theorem split_len2 (l : List Cl) (js : List Jb) (k i : Nat) : (partJ l js k i).length ≤ js.length := by
  unfold partJ pickJ
  refine Nat.le_trans (List.length_filter_le _ _) ?_
  rw [List.length_take]; omega
theorem of_ways2 (l : List Cl) (wd e : Int) : (ofC l wd e = -1 ∧ ofC l wd e = -1) ∨ ∃ i : Nat, i < l.length ∧ ofC l wd e = i ∧ ofC l wd e = if i = l.length then -1 else (i : Int) := by
  rcases ofC_cases l wd e with h | ⟨i, hi, h, _⟩
  · exact .inl ⟨h, h⟩
  · exact .inr ⟨i, hi, h, by rw [if_neg (by omega)]; exact h⟩
set_option maxRecDepth 100000 in
set_option maxHeartbeats 1200000 in
theorem splitS (l : List Cl) (js : List Jb) (v u : Value) (w : World) (hv : clL.Is l w v) (hu : JobsIs js w u) (hs : Short l) (hl : l.length ≤ 1000) (hj : js.length ≤ 200) : Calls Try.prog 15 #[v, u] w (SplitSays l js w) := by
  have CC := Lib.hid (checkS l v w hv hs hl)
  have CP : Hid (∀ W wd e, Below w.heap.size w W → Calls Try.prog 17 #[v, .int .i64 wd, .int .i64 e] W (IntC (ofC l wd e) W)) := fun W wd e hW => place_q l wd e v W (hv.below hW) hs (by omega)
  obtain ⟨A, c, rfl, _⟩ := cls_open hv
  obtain ⟨B, d, rfl, hnd, hB⟩ := hu.open_
  have HB := Lib.hid hB
  clear hv hu hs hB
  by_cases hz : checkC l = 0
  · have h1 : (checkC l != 0) = false := by rw [hz]; rfl
    have HZ := Lib.hid hz
    rw [hz] at CC
    obtain ⟨i0, hi0, hz0, hz1, hz2⟩ := info_parts lists_info
    clear hz h1
    go_enter Try.func15, Try.ntmps15
    go_wp2_with fail
    refine CC.out.mono ?_
    rintro e1 w1 ⟨rfl, hb1⟩
    have HB1 := Lib.hid hb1
    clear hb1 CC
    go_wp2_with (at_make; refine wpList_make_full _ rfl _ _ 36 rfl w.heap.size 35 i0 (.slice none 0 0) 1 lists_t.und hi0 hz0 hz1 .i64 .i64 _ _ l.length rfl rfl rfl rfl ?hb2 ?hb3 ?hb4 ?_)
    case hb2 => rw [hz2]; omega
    case hb3 => unfold maxLen; omega
    case hb4 => exact HB1.out.size
    intro w2 ho2 hg2
    rw [made_nils] at ho2
    have HL2 : Hid (SplitLoop l js w w1.heap.size 0 (fun _ => .slice none 0 0) w2) := by
      have hsz := Nat.le_trans HB1.out.size hg2.size
      refine ⟨⟨ho2, hsz⟩, (Fam.nils 40 9 (l.length + 1) hsz).to (fun i _ => by rw [part_zero]; rfl) (fun i _ => by rw [part_zero]; rfl), fun i _ => by simp [Value.ownBlock], below_thenQ HB1.out ⟨hg2.os, hg2.tape, hg2.output, hg2.size, fun i hi => hg2.block i hi (by simp)⟩⟩
    clear ho2 hg2
    generalize w1.heap.size = g at *
    go_wp2_with fail
    go_loopw [23, 9] (fun i r wr => ∃ (k : Nat) (V : Nat → Value), i = .int .i64 k ∧ r = V l.length ∧ k ≤ js.length ∧ Hid (SplitLoop l js w g k V wr)) (fun i _ _ => js.length - (intOf i).toNat)
    case atStart => exact ⟨0, _, rfl, rfl, Nat.zero_le _, HL2.out⟩
    case round =>
      obtain ⟨k, V, rfl, rfl, hk, HL⟩ := hrel
      by_cases hlt : k < js.length
      · obtain ⟨hso, hsf, hsg, hsb⟩ := HL.out
        obtain ⟨ad, rfl, hat⟩ := HB.out k hlt
        obtain ⟨y, y0, y1, y2, y3, y4, y5, y6, y7, y8⟩ := hat.below hsb
        have hlt2 : (k : Int) < (js.length : Int) := by omega
        have i0' : (0 : Int) ≤ (k : Int) := Int.natCast_nonneg _
        have hways := of_ways2 l js[k].width js[k].est
        obtain ⟨j, hj2⟩ : ∃ j, j = js[k] := ⟨_, rfl⟩
        rw [← hj2] at y0 y1 y2 y3 y4 y5 y6 y7 y8 hways
        have HJE := Lib.hid hj2
        have HX := Lib.hid (JobBox.new wr j 40)
        have HB0 := Lib.hid (box_below wr (.cells #[.int .i64 j.id, .string j.user, .int .i64 j.width, .int .i64 j.est, .int .i64 j.prio, .int .i64 j.sub, .int .i64 j.state, .int .i64 j.start, .int .i64 j.fin] 40))
        have HSO := Lib.hid hso
        have HSF := Lib.hid hsf
        have HSG := Lib.hid hsg
        have HBL := Lib.hid hsb
        clear hat hso hsf hsg hsb HL hj2
        go_upto_region 9 with fail
        generalize wr.alloc (.cells #[.int .i64 j.id, .string j.user, .int .i64 j.width, .int .i64 j.est, .int .i64 j.prio, .int .i64 j.sub, .int .i64 j.state, .int .i64 j.start, .int .i64 j.fin] 40) = W0 at *
        clear y y0 y1 y2 y3 y4 y5 y6 y7 y8
        have CJ := Lib.hid (CP.out W0 j.width j.est (below_thenQ HBL.out HB0.out))
        obtain ⟨x, x0, x1, x2, x3, x4, x5, x6, x7, x8, _, _, _, _, _, _, _, _, _⟩ := HX.out
        rcases hways with ⟨h1, h2⟩ | ⟨i, hi, h1, h2⟩
        · rw [h1] at CJ
          have H2 := Lib.hid h2
          clear h1 h2
          go_wp2_with fail
          refine CJ.out.mono ?_
          rintro e1 w3 ⟨rfl, hb3⟩
          have HB3 := Lib.hid (below_thenQ HB0.out hb3)
          obtain ⟨z, z0, z1, z2, z3, z4, z5, z6, z7, z8, _, _, _, _, _, _, _, _, _⟩ := HX.out.below hb3
          clear hb3 CJ x x0 x1 x2 x3 x4 x5 x6 x7 x8
          have HF3 := Lib.hid ((HSF.out.below HB3.out).alloc (.cells #[.int .i64 j.id, .string j.user, .int .i64 j.width, .int .i64 j.est, .int .i64 j.prio, .int .i64 j.sub, .int .i64 j.state, .int .i64 j.start, .int .i64 j.fin] 40))
          have HL3 := Lib.hid (split_len2 l js k l.length)
          go_wp2_with (at_builtin; refine push_sep jobs_t rfl (.tmp 45) (.tmp 47) rfl w.heap.size _ _ _ rfl (HF3.out.own l.length (by omega)) ⟨w3.heap.size, 0, none⟩ 1 1 (jobC j) rfl rfl ?ha1 (jobC_cell j) ?ha2 ?_)
          case ha1 => exact Raw.alloc w3 _ _
          case ha2 => have := HL3.out; omega
          intro A4 c4 w4 ho4 hb4 hg4 hs4
          have HN : Hid (SplitLoop l js w g (k + 1) (upd V l.length (.slice A4 ((partJ l js k l.length).length + 1) c4)) w4) := by
            have hj2 := HJE.out
            subst hj2
            have hlt3 : g < (w3.alloc (.cells #[.int .i64 js[k].id, .string js[k].user, .int .i64 js[k].width, .int .i64 js[k].est, .int .i64 js[k].prio, .int .i64 js[k].sub, .int .i64 js[k].state, .int .i64 js[k].start, .int .i64 js[k].fin] 40)).heap.size := ((HSO.out.below HB3.out).alloc _ |>.block_lt rfl).2
            have hgb : ∀ q, q < l.length + 1 → (V q).ownBlock ≠ some g := HSG.out
            refine ⟨?_, split_fam hlt (by omega) (by rw [if_pos rfl]; exact H2.out) HF3.out ho4 hg4 hs4, HF3.out.free (by omega) hgb hlt3 hs4, ?_⟩
            · have hw := ((HSO.out.below HB3.out).alloc (.cells #[.int .i64 js[k].id, .string js[k].user, .int .i64 js[k].width, .int .i64 js[k].est, .int .i64 js[k].prio, .int .i64 js[k].sub, .int .i64 js[k].state, .int .i64 js[k].start, .int .i64 js[k].fin] 40)).kept hg4 (.inr fun h => hgb l.length (by omega) h.symm)
              refine hw.cast rfl (List.map_congr_left fun q hq => ?_)
              rw [upd_off]
              have := List.mem_range.1 hq
              omega
            · exact ((below_thenQ HBL.out HB3.out).alloc (below_thenQ HBL.out HB3.out).size _).trans hb4
          clear ho4 hb4 hg4 hs4 HF3 HSO HSF HSG z z0 z1 z2 z3 z4 z5 z6 z7 z8
          go_wp2_with fail
          exact ⟨⟨k + 1, upd V l.length (.slice A4 ((partJ l js k l.length).length + 1) c4), by go_num, (upd_at V l.length _).symm, by omega, HN.out⟩, by simp [intOf] <;> omega⟩
        · rw [h1] at CJ
          have H2 := Lib.hid h2
          have i1 : (0 : Int) ≤ (i : Int) := Int.natCast_nonneg _
          have i2 : (i : Int) < (l.length : Int) := by omega
          clear h1 h2
          go_upto_region 11 with fail
          refine CJ.out.mono ?_
          rintro e1 w3 ⟨rfl, hb3⟩
          have HB3 := Lib.hid (below_thenQ HB0.out hb3)
          obtain ⟨z, z0, z1, z2, z3, z4, z5, z6, z7, z8, _, _, _, _, _, _, _, _, _⟩ := HX.out.below hb3
          clear hb3 CJ x x0 x1 x2 x3 x4 x5 x6 x7 x8
          have HF3 := Lib.hid ((HSF.out.below HB3.out).alloc (.cells #[.int .i64 j.id, .string j.user, .int .i64 j.width, .int .i64 j.est, .int .i64 j.prio, .int .i64 j.sub, .int .i64 j.state, .int .i64 j.start, .int .i64 j.fin] 40))
          have HO3 := Lib.hid ((HSO.out.below HB3.out).alloc (.cells #[.int .i64 j.id, .string j.user, .int .i64 j.width, .int .i64 j.est, .int .i64 j.prio, .int .i64 j.sub, .int .i64 j.state, .int .i64 j.start, .int .i64 j.fin] 40))
          have HL3 := Lib.hid (split_len2 l js k i)
          obtain ⟨hgl, hgc, hgf⟩ := split_cell (HSO.out.below HB3.out) hi
          have HGL := Lib.hid hgl
          have hgf2 : ((w3.alloc (.cells #[.int .i64 j.id, .string j.user, .int .i64 j.width, .int .i64 j.est, .int .i64 j.prio, .int .i64 j.sub, .int .i64 j.state, .int .i64 j.start, .int .i64 j.fin] 40)).drew).frozen? ⟨g, i, none⟩ = false := ((box_below w3 (.cells #[.int .i64 j.id, .string j.user, .int .i64 j.width, .int .i64 j.est, .int .i64 j.prio, .int .i64 j.sub, .int .i64 j.state, .int .i64 j.start, .int .i64 j.fin] 40)).frozen (p := ⟨g, i, none⟩) hgl).trans hgf
          have hgc2 : ((w3.alloc (.cells #[.int .i64 j.id, .string j.user, .int .i64 j.width, .int .i64 j.est, .int .i64 j.prio, .int .i64 j.sub, .int .i64 j.state, .int .i64 j.start, .int .i64 j.fin] 40)).drew).cell? ⟨g, i, none⟩ = some (V i) := ((box_below w3 (.cells #[.int .i64 j.id, .string j.user, .int .i64 j.width, .int .i64 j.est, .int .i64 j.prio, .int .i64 j.sub, .int .i64 j.state, .int .i64 j.start, .int .i64 j.fin] 40)).cell (p := ⟨g, i, none⟩) hgl).trans hgc
          have HNG : Hid (some g ≠ (V i).ownBlock) := fun h => HSG.out i (by omega) h.symm
          have HNW : Hid (some wr.heap.size ≠ (V i).ownBlock) := fun h => Nat.lt_irrefl _ ((HSF.out.own i (by omega)).block_lt h.symm).2
          have HLW : Hid (wr.heap.size < (w3.alloc (.cells #[.int .i64 j.id, .string j.user, .int .i64 j.width, .int .i64 j.est, .int .i64 j.prio, .int .i64 j.sub, .int .i64 j.state, .int .i64 j.start, .int .i64 j.fin] 40)).drew.heap.size) := Nat.lt_of_lt_of_le z (Nat.le_trans (Nat.le_succ _) (by simp [World.drew]))
          have HLG : Hid (g < (w3.alloc (.cells #[.int .i64 j.id, .string j.user, .int .i64 j.width, .int .i64 j.est, .int .i64 j.prio, .int .i64 j.sub, .int .i64 j.state, .int .i64 j.start, .int .i64 j.fin] 40)).drew.heap.size) := Nat.lt_of_lt_of_le hgl (Nat.le_trans (Nat.le_succ _) (by simp [World.drew]))
          go_upto_region 11 with fail
          go_region_law (refine step_sep jobs_t (by rfl) (.tmp 40) (.tmp 42) (by rfl) w.heap.size _ _ _ (by rfl) (HF3.out.own i (by omega)) ⟨w3.heap.size, 0, none⟩ 1 1 (jobC j) (by rfl) (by rfl) (Raw.alloc w3 _ _) (jobC_cell j) (by have := HL3.out; omega) ?_; intro A4 c4 w4 ho4 hb4 hg4 hs4; have hc4 := grown_cell hg4 HLG.out HNG.out hgc2; have hf4 := grown_frozen hg4 HLG.out HNG.out hgf2)
          all_goals
            have HN : Hid (SplitLoop l js w g (k + 1) (upd V i (.slice A4 ((partJ l js k i).length + 1) c4)) (w4.setCell ⟨g, i, none⟩ (.slice A4 ((partJ l js k i).length + 1) c4))) := by
              have hj2 := HJE.out
              subst hj2
              have hgb : ∀ q, q < l.length + 1 → (V q).ownBlock ≠ some g := HSG.out
              have hfr := (HF3.out.drewN 1).free (by omega : i < l.length + 1) hgb HLG.out hs4
              refine ⟨?_, (split_fam hlt (by omega) H2.out (HF3.out.drewN 1) ho4 hg4 hs4).set hfr _, hfr, ?_⟩
              · have hw := ((HO3.out.drewN 1).kept hg4 (.inr fun h => hgb i (by omega) h.symm)).set i (.slice A4 ((partJ l js k i).length + 1) c4)
                rw [map_upd] at hw
                exact hw
              · exact (((below_thenQ HBL.out HB3.out).alloc (below_thenQ HBL.out HB3.out).size _).drew.trans hb4).setCell (p := ⟨g, i, none⟩) (HSO.out.block_lt rfl).1 _
            clear ho4 hb4 hg4 hs4 hc4 hf4 hgc2 hgf2 hgl hgc hgf HNG HNW HLW HLG HF3 HO3 HSO HSF HSG z z0 z1 z2 z3 z4 z5 z6 z7 z8
            go_wp2_with fail
            exact ⟨⟨k + 1, upd V i _, by go_num, (upd_off V _ (by omega)).symm, by omega, HN.out⟩, by simp [intOf] <;> omega⟩
      · obtain rfl : k = js.length := by omega
        obtain ⟨hd1, hd2⟩ := split_done HL.out
        have HB5 := Lib.hid HL.out.2.2.2
        have HD1 := Lib.hid hd1
        have HD2 := Lib.hid hd2
        clear HL hd1 hd2
        go_wp2_with fail
        go_ret3
        exact ⟨_, _, _, _, by rw [HZ.out]; rfl, HD1.out, HD2.out, .inl ⟨HZ.out, rfl, rfl⟩, HB5.out⟩
  · have h1 : (checkC l != 0) = true := by simpa using hz
    have HZ := Lib.hid hz
    have HE : Hid (checkC l = checkC l) := rfl
    clear hz CP
    obtain ⟨x, hx⟩ : ∃ x, x = checkC l := ⟨_, rfl⟩
    have HXE := Lib.hid hx
    rw [← hx] at h1 CC
    clear hx HE
    go_enter Try.func15, Try.ntmps15
    go_wp2_with fail
    refine CC.out.mono ?_
    rintro e1 w1 ⟨rfl, hb1⟩
    go_wp2_with fail
    go_ret3
    exact ⟨_, _, [], [], by rw [HXE.out]; rfl, .inl ⟨rfl, rfl⟩, .inl ⟨rfl, rfl⟩, .inr ⟨HZ.out, rfl, rfl⟩, hb1⟩
end Go.Proofs.Ytmggmaackgnicaa.QueWalk
