/-
  The walks of layer 11's code: Of. The walks of layer 11's code: In, by the order of layer 8; All, by Id, by the library's sort. The walks of layer 11's code, together.
-/
import Derived.Test.YtjegkddpaampmaaTabWalkD
import Derived.WideKeyEntry
import Derived.Test.YtjegkddpaampmaaShelfG
import Derived.Test.YtjegkddpaampmaaTabWalkA
import Derived.Test.YtjegkddpaampmaaOrdWalkC
namespace Go.Proofs.Ytjegkddpaampmaa.TabWalk
open Go.RowKit Go.Proofs.Ytjegkddpaampmaa.JobPlain Go.Proofs.Ytjegkddpaampmaa.OrdPlain Go.Proofs.Ytjegkddpaampmaa.TabPlain Go.Proofs.Ytjegkddpaampmaa.Mem Go.Proofs.Ytjegkddpaampmaa.JobMem Go.Proofs.Ytjegkddpaampmaa.OrdMem Go.Proofs.Ytjegkddpaampmaa.OrdRef Go.Proofs.Ytjegkddpaampmaa.TabRef
open Go.ChangeMaps (setBlock)
/-- A new key: its entry is made first, then its element is stored. -/
theorem entry_new {w : World} {b n : Nat} {D : MapD} (h : MapAt w b n D) (hr : n < maxLen) {id : Int} (hn : Maps.has D (ik id) = false) (hid : 1 ≤ id ∧ id ≤ 1073741824) :
    ∃ (st : Nat) (w1 : World), (Instr.mapEntry 42 (.map (some b)) (.int .i64 id)).run Try.prog w = .ok (.tuple #[jobV noJb, .int .i64 st]) w1 ∧ w.grownBy w1 (some b) ∧
      ∀ j : Jb, j.id = id → ∃ w2, (Instr.entryStore 42 (.map (some b)) (.int .i64 st) (jobV j)).run Try.prog w1 = .ok () w2 ∧ MapAt w2 b (n + 1) (D.put (ik j.id) (.held (jobV j))) ∧ w.grownBy w2 (some b) := by
  have h0 := h
  obtain ⟨es, clock, hb, F, hs, rfl⟩ := h
  have hkey := Maps.keyOf_int_mk (P := Try.prog) (k := 3) Try.underlying3 (wf_id hid)
  rcases intLaw.find w hkey es.toList F.keys with ⟨h1, h2⟩ | ⟨k, e0, h1, h2, h3⟩
  · have s1 := F.stamped.1
    have s2 := F.stamped.2.1
    have hgrow : ∀ o, w.grownBy (setBlock w b o) (some b) := fun o => ⟨rfl, rfl, rfl, by simp [setBlock], fun i _ hi => ChangeMaps.heap_setBlock_other hb _ (fun e => hi (by rw [e]))⟩
    refine ⟨clock, setBlock w b (.map (es.push ⟨.int .i64 id, jobV noJb, clock⟩) (clock + 1)), ?_, hgrow _, fun j hj => ?_⟩
    · simp [Instr.mapEntry, run_underlying mapType, MapKept.run_getObj_map hb, intLaw.check w false hkey, h1, jobZero, MapKept.run_setObj_map _ hb, Result.andThen, setBlock, goInt]
      exact ⟨rfl, rfl⟩
    · subst hj
      obtain ⟨w', q1, q2, q3⟩ := store_any h0 hr hid
      have e1 : (Instr.mapUpdate 42 (.map (some b)) (.int .i64 j.id) (jobV j)).run Try.prog w = .ok () (setBlock w b (.map (es.push ⟨.int .i64 j.id, jobV j, clock⟩) (clock + 1))) := by
        simp [Instr.mapUpdate, run_underlying mapType, MapKept.run_getObj_map hb, intLaw.check w false hkey, h1, MapKept.run_setObj_map _ hb, Result.andThen, setBlock]
      have e2 := q1.symm.trans e1
      injection e2 with _ e2
      subst e2
      refine ⟨_, ?_, q2, q3⟩
      have hb1 : (setBlock w b (.map (es.push ⟨.int .i64 j.id, jobV noJb, clock⟩) (clock + 1))).heap[b]? = some (.map (es.push ⟨.int .i64 j.id, jobV noJb, clock⟩) (clock + 1)) := ChangeMaps.heap_setBlock_same hb _
      have hidx : (es.push ⟨.int .i64 j.id, jobV noJb, clock⟩).findIdx? (fun e => ((e.born : Nat) : Int) == ((clock : Nat) : Int)) = some es.size := by
        rw [WideElems.findIdx_arr]
        exact WideElems.findIdx_born (l := (es.push ⟨.int .i64 j.id, jobV noJb, clock⟩).toList) (j := es.size) (e0 := ⟨.int .i64 j.id, jobV noJb, clock⟩) (by
          rw [Array.toList_push, List.map_append]
          refine List.nodup_append.2 ⟨s2, by simp, fun a ha c hc e => ?_⟩
          simp at hc
          obtain ⟨x, hx, rfl⟩ := List.mem_map.1 ha
          have := s1 x hx
          omega) (by simp)
      have hmod : (es.push ⟨.int .i64 j.id, jobV noJb, clock⟩).modify es.size (fun e => { e with val := jobV j }) = es.push ⟨.int .i64 j.id, jobV j, clock⟩ := by
        apply Array.ext'
        rw [Array.toList_modify, Array.toList_push, Array.toList_push, ← Array.length_toList, WideElems.modify_last]
      have hst : ∀ W : World, W.heap[b]? = some (.map (es.push ⟨.int .i64 j.id, jobV noJb, clock⟩) (clock + 1)) → (Instr.entryStore 42 (.map (some b)) (.int .i64 clock) (jobV j)).run Try.prog W = .ok () (setBlock W b (.map (es.push ⟨.int .i64 j.id, jobV j, clock⟩) (clock + 1))) := fun W hW => by
        simp [Instr.entryStore, MapKept.run_getObj_map hW, asInt, asIntOf, hidx, hmod, MapKept.run_setObj_map _ hW, Result.andThen, setBlock]
      rw [hst _ hb1]
      simp [setBlock]
  · exfalso
    rcases Maps.fit_look false intLaw mapType (jobZero w) hb F hkey with ⟨_, h5, _⟩ | ⟨_, y2, _, _, _, _, h5, _⟩
    · exact h5 e0 (List.mem_of_getElem? h2) h3
    · rw [Maps.has_true_of_atKey h5] at hn
      cases hn
/-- The Id of the job ahead of place k. -/
def lastI (l : List Jb) (k : Nat) : Int := if k = 0 then 0 else (l.getD (k - 1) noJb).id
theorem last_of {l : List Jb} {k : Nat} (hk : k < l.length) : lastI l (k + 1) = l[k].id := by
  unfold lastI
  rw [if_neg (Nat.succ_ne_zero k)]
  simp [List.getD, hk]
theorem good_next {l : List Jb} {k : Nat} (h : Good (l.take k)) (hk : k < l.length) (hm : mayJ l[k] = true) (hi : lastI l k < l[k].id) : Good (l.take (k + 1)) ∧ ∀ x ∈ l.take k, x.id ≠ l[k].id := by
  have hlt : ∀ x ∈ l.take k, x.id < l[k].id := fun x hx => by
    obtain ⟨i, hi2, rfl⟩ := List.mem_iff_getElem.1 hx
    rw [List.length_take] at hi2
    cases k with
    | zero => omega
    | succ k =>
      rw [last_of (by omega)] at hi
      by_cases he : i = k
      · subst he; rw [List.getElem_take]; exact hi
      · have h1 := List.pairwise_iff_getElem.1 h.rise i k (by rw [List.length_take]; omega) (by rw [List.length_take]; omega) (by omega)
        rw [List.getElem_take, List.getElem_take] at h1
        rw [List.getElem_take]
        omega
  refine ⟨⟨fun x hx => ?_, ?_⟩, fun x hx => by have := hlt x hx; omega⟩
  · rw [List.take_succ_eq_append_getElem hk] at hx
    rcases List.mem_append.1 hx with hx | hx
    · exact h.may x hx
    · simp at hx; subst hx; exact hm
  · rw [List.take_succ_eq_append_getElem hk]
    refine List.pairwise_append.2 ⟨h.rise, List.pairwise_singleton _ _, fun x hx y hy => ?_⟩
    simp at hy
    subst hy
    exact hlt x hx
theorem err_may {l : List Jb} {k : Nat} (hk : k < l.length) (hm : mayJ l[k] = false) : ofErr l = 1 := by
  unfold ofErr
  rw [if_neg]
  intro h
  rw [Bool.and_eq_true, List.all_eq_true] at h
  have := h.1 _ (List.getElem_mem hk)
  rw [hm] at this
  cases this
theorem err_rise {l : List Jb} {k : Nat} (hk : k < l.length) (hm : mayJ l[k] = true) (hi : l[k].id ≤ lastI l k) : ofErr l = 1 := by
  unfold ofErr
  rw [if_neg]
  intro h
  rw [Bool.and_eq_true, decide_eq_true_eq] at h
  cases k with
  | zero =>
    have := may_id hm
    have : lastI l 0 = 0 := rfl
    omega
  | succ k =>
    rw [last_of (by omega)] at hi
    have := List.pairwise_iff_getElem.1 h.2 k (k + 1) (by omega) hk (by omega)
    omega
theorem err_good {l : List Jb} (h : Good l) : ofErr l = if 100 < liveN l then 4 else 0 := by
  unfold ofErr
  rw [if_pos (by rw [Bool.and_eq_true, List.all_eq_true]; exact ⟨h.may, decide_eq_true h.rise⟩)]
/-- How its loop stands. -/
structure OfAt (l : List Jb) (O : List Nat) (g b : Nat) (w wr : World) (k : Nat) : Prop where
  row : ∃ D, TabRow O (l.take k) wr g b D
  below : Below w.heap.size w wr
set_option maxRecDepth 100000 in
set_option maxHeartbeats 1600000 in
theorem ofS (l : List Jb) (v : Value) (w : World) (hv : JobsIs l w v) (hf : JobsFit l) (hl : l.length ≤ 200) : Calls Try.prog 21 #[v] w (OfSays Tab l w) := by
  obtain ⟨A, c, rfl, hn, hA⟩ := hv.open_
  have HA := Lib.hid hA
  have C1 := Lib.hid (newS w)
  clear hA hv
  go_enter Try.func21, Try.ntmps21
  go_wp2_with fail
  refine C1.out.mono ?_
  rintro e w1 ⟨v1, O, rfl, ⟨g, b, D0, rfl, ht⟩, hO, hb1⟩
  have HO := Lib.hid hO
  have H0 : Hid (OfAt l O g b w w1 0) := ⟨⟨D0, ht.row⟩, hb1⟩
  have hbO := hO b ht.bm
  clear C1 ht hO hb1
  go_wp2_with fail
  go_loopw [5, 11] (fun u i wr => ∃ k : Nat, u = .int .i64 (lastI l k) ∧ i = .int .i64 k ∧ k ≤ l.length ∧ Hid (OfAt l O g b w wr k)) (fun _ i _ => l.length - (intOf i).toNat)
  case atStart => exact ⟨0, rfl, rfl, Nat.zero_le _, H0.out⟩
  case round =>
    obtain ⟨k, rfl, rfl, hk, HL⟩ := hrel
    obtain ⟨D, hrow⟩ := HL.out.row
    have HB := Lib.hid HL.out.below
    have HR := Lib.hid hrow
    clear HL hrow H0
    by_cases hlt : k < l.length
    · obtain ⟨ad, rfl, hat⟩ := HA.out k hlt
      obtain ⟨p, p0, p1, p2, p3, p4, p5, p6, p7, p8⟩ := hat.below HB.out
      have HEM := Lib.hid (fun h => err_may hlt h)
      have HER := Lib.hid (fun h1 h2 => err_rise hlt h1 h2)
      have HGN := Lib.hid (fun h1 h2 => good_next HR.out.ok hlt h1 h2)
      have HLN := Lib.hid (last_of hlt)
      have HTK : Hid (l.take (k + 1) = l.take k ++ [l[k]]) := List.take_succ_eq_append_getElem hlt
      have hlen : (l.take k).length = k := by rw [List.length_take]; omega
      have HLEN := Lib.hid hlen
      have i0 : (0 : Int) ≤ (k : Int) := Int.natCast_nonneg _
      have i1 : (k : Int) < (l.length : Int) := by omega
      have HF := Lib.hid (hf _ (List.getElem_mem hlt))
      clear hat hlen
      generalize lastI l k = u at *
      generalize l[k] = j at *
      have hbox := below_box wr (.cells #[.int .i64 j.id, .string j.user, .int .i64 j.width, .int .i64 j.est, .int .i64 j.prio, .int .i64 j.sub, .int .i64 j.state, .int .i64 j.start, .int .i64 j.fin] 28)
      have HX := Lib.hid (JobBox.new wr j 28)
      have HB2 := Lib.hid (HB.out.alloc HB.out.size (.cells #[.int .i64 j.id, .string j.user, .int .i64 j.width, .int .i64 j.est, .int .i64 j.prio, .int .i64 j.sub, .int .i64 j.state, .int .i64 j.start, .int .i64 j.fin] 28))
      have HR2 := Lib.hid (HR.out.below hbox)
      have CK := Lib.hid (fun W => JobWalk.check_any j W HF.out)
      have HLT := Lib.hid HR.out.lt
      have hbl : b < wr.heap.size := HR.out.lt b HR.out.bm
      unfold jobV jobA at CK
      go_upto_region 6 with fail
      clear p p0 p1 p2 p3 p4 p5 p6 p7 p8 HB HR hbox
      generalize hn0 : wr.heap.size = n0 at *
      generalize wr.alloc (.cells #[.int .i64 j.id, .string j.user, .int .i64 j.width, .int .i64 j.est, .int .i64 j.prio, .int .i64 j.sub, .int .i64 j.state, .int .i64 j.start, .int .i64 j.fin] 28) = w2 at *
      obtain ⟨y, y0, y1, y2, y3, y4, y5, y6, y7, y8, _, _, _, _, _, _, _, _, _⟩ := HX.out
      cases h1 : mayJ j
      · have HE := Lib.hid (HEM.out h1)
        rw [JobWalk.check_no h1] at CK
        go_wp2_with fail
        refine (CK.out _).mono ?_
        rintro e w3 ⟨rfl, hb3⟩
        have HB3 := Lib.hid (HB2.out.trans (hb3.mono HB2.out.size))
        clear hb3
        go_wp2_with fail
        go_ret2
        exact ⟨.pointer none, [], by rw [HE.out]; rfl, .inr ⟨by rw [HE.out]; decide, rfl⟩, by simp, HB3.out⟩
      · rw [JobWalk.check_yes h1] at CK
        have hd : j.id ≤ u ∨ ¬ j.id ≤ u := by omega
        rcases hd with h2 | h2
        · have HE := Lib.hid (HER.out h1 h2)
          have hd : decide (j.id ≤ u) = true := decide_eq_true h2
          clear h2
          go_wp2_with (go_at_call 24; refine (CK.out _).mono ?_; rintro e w3 ⟨rfl, hb3⟩; have HX3 := Lib.hid (HX.out.below hb3); have HB3 := Lib.hid (HB2.out.trans (hb3.mono HB2.out.size)); clear hb3 y y0 y1 y2 y3 y4 y5 y6 y7 y8; obtain ⟨y, y0, y1, y2, y3, y4, y5, y6, y7, y8, _, _, _, _, _, _, _, _, _⟩ := HX3.out)
          go_ret2
          exact ⟨.pointer none, [], by rw [HE.out]; rfl, .inr ⟨by rw [HE.out]; decide, rfl⟩, by simp, HB3.out⟩
        · have hd : decide (j.id ≤ u) = false := decide_eq_false h2
          obtain ⟨hg1, hg2⟩ := HGN.out h1 (by omega)
          have HG1 := Lib.hid hg1
          have HG2 := Lib.hid hg2
          clear h2 hg1 hg2
          go_upto_region 8 with (go_at_call 24; refine (CK.out _).mono ?_; rintro e w3 ⟨rfl, hb3⟩; have HX3 := Lib.hid (HX.out.below hb3); have HB3 := Lib.hid (HB2.out.trans (hb3.mono HB2.out.size)); have HR3 := Lib.hid (HR2.out.below hb3); clear hb3 y y0 y1 y2 y3 y4 y5 y6 y7 y8; obtain ⟨y, y0, y1, y2, y3, y4, y5, y6, y7, y8, _, _, _, _, _, _, _, _, _⟩ := HX3.out)
          have c0 := HR3.out.box.c 0 _ rfl
          obtain ⟨st, w4, qE, hgE, hS⟩ := entry_new (w := w3.drew) HR3.out.map.drew (by rw [HLEN.out]; unfold maxLen; omega) (HR3.out.is.no j.id HG2.out) (may_id h1)
          obtain ⟨w5, qS, hm5, hg5⟩ := hS j rfl
          have hgE3 : w3.grownBy w4 (some b) := ⟨hgE.os, hgE.tape, hgE.output, hgE.size, hgE.block⟩
          have hg53 : w3.grownBy w5 (some b) := ⟨hg5.os, hg5.tape, hg5.output, hg5.size, hg5.block⟩
          have HX4 : Hid (JobBox w4 n0 j) := HX3.out.of_block (Nat.lt_of_lt_of_le HX3.out.lt hgE3.size) (hgE3.block n0 HX3.out.lt (fun e => by injection e with e; omega))
          have z0 : w5.cell? ⟨n0, 0, none⟩ = some (.int .i64 j.id) := (HX3.out.of_block (w' := w5) (Nat.lt_of_lt_of_le HX3.out.lt hg53.size) (hg53.block n0 HX3.out.lt (fun e => by injection e with e; omega))).c0
          have HR5 : Hid (TabRow O (l.take (k + 1)) w5 g b (D.put (ik j.id) (.held (jobV j)))) := HR3.out.stored j HG1.out (fun x => by
            rw [HTK.out, List.mem_append, List.mem_singleton]
            constructor
            · rintro (h | h)
              · exact .inr ⟨h, HG2.out x h⟩
              · exact .inl h
            · rintro (h | ⟨h, _⟩)
              · exact .inr h
              · exact .inl h) (by rw [HR3.out.is.no j.id HG2.out, HTK.out, List.length_append]; rfl) hm5 hg53
          have HB5 : Hid (Below w.heap.size w w5) := HB3.out.grown hg53 HB3.out.size (fun i hi => by cases hi; exact hbO)
          clear hgE hS hm5 hg5 hgE3 hg53
          unfold jobV jobA at qE qS
          unfold noJb at qE
          dsimp only at qE
          obtain ⟨x, x0, x1, x2, x3, x4, x5, x6, x7, x8, _, _, _, _, _, _, _, _, _⟩ := HX4.out
          go_region
          all_goals
            go_wp2_with fail
            exact ⟨⟨k + 1, by rw [HLN.out], by go_num, by omega, ⟨_, HR5.out⟩, HB5.out⟩, by simp [intOf] <;> omega⟩
    · have he : l.take k = l := List.take_of_length_le (by omega)
      have CL := Lib.hid (live_at (l := l) (he ▸ HR.out) hl)
      have HR1 : Hid (TabRow O l wr g b D) := he ▸ HR.out
      have HE := Lib.hid (err_good HR1.out.ok)
      clear he
      cases h4 : decide (100 < liveN l)
      · go_wp2_with fail
        refine CL.out.mono ?_
        rintro e w6 ⟨rfl, hb6⟩
        have HB6 := Lib.hid (HB.out.trans (hb6.mono HB.out.size))
        have HR6 := Lib.hid (HR1.out.below hb6)
        clear hb6
        go_wp2_with fail
        go_ret2
        have h5 : ¬ 100 < liveN l := by simpa using h4
        have h6 : ofErr l = 0 := by rw [HE.out, if_neg h5]
        exact ⟨.pointer (some ⟨g, 0, none⟩), O, by rw [h6]; rfl, .inl ⟨h6, ⟨_, rfl⟩, ⟨g, b, D, rfl, HR6.out, by omega⟩⟩, HO.out, HB6.out⟩
      · go_wp2_with fail
        refine CL.out.mono ?_
        rintro e w6 ⟨rfl, hb6⟩
        have HB6 := Lib.hid (HB.out.trans (hb6.mono HB.out.size))
        clear hb6
        go_wp2_with fail
        go_ret2
        have h6 : ofErr l = 4 := by rw [HE.out, if_pos (by simpa using h4)]
        exact ⟨.pointer none, [], by rw [h6]; rfl, .inr ⟨by rw [h6]; decide, rfl⟩, by simp, HB6.out⟩
end Go.Proofs.Ytjegkddpaampmaa.TabWalk
namespace Go.Proofs.Ytjegkddpaampmaa.TabWalk
open Go.Shelf Go.RowKit Go.Lib Go.Sort Go.Proofs.Ytjegkddpaampmaa.JobPlain Go.Proofs.Ytjegkddpaampmaa.OrdPlain Go.Proofs.Ytjegkddpaampmaa.TabPlain Go.Proofs.Ytjegkddpaampmaa.Mem Go.Proofs.Ytjegkddpaampmaa.JobMem Go.Proofs.Ytjegkddpaampmaa.OrdMem Go.Proofs.Ytjegkddpaampmaa.OrdRef Go.Proofs.Ytjegkddpaampmaa.TabRef
def cmpId (x y : Jb) : Int := OrdWalk.cmpZ x.id y.id
theorem ltId (x y : Jb) : ltOf cmpId x y = decide (x.id < y.id) := by
  unfold ltOf cmpId
  rcases OrdWalk.cmpZ_cases x.id y.id with ⟨h, e⟩ | ⟨h, h2, e⟩ | ⟨h, e⟩
  · rw [e, decide_eq_true h]; rfl
  · rw [e, decide_eq_false h2]; rfl
  · rw [e]; simp [h]
theorem swoId : SWO (ltOf cmpId) where
  irrefl x := by rw [ltId]; simp
  trans x y z h1 h2 := by rw [ltId] at *; simp at *; omega
  ntrans x y z h1 h2 := by rw [ltId] at *; simp at *; omega
set_option maxRecDepth 100000 in
set_option maxHeartbeats 1000000 in
theorem byId (x y : Jb) (W : World) : Calls Try.prog 34 #[jobV x, jobV y] W fun e w' => e = .returned (.int .i64 (cmpId x y)) ∧ ∃ q os', w' = grow (W.drewN q) os' := by
  have hcon := fun W' => OrdWalk.compare_any x.id y.id W'
  unfold cmpId
  generalize OrdWalk.cmpZ x.id y.id = r at hcon ⊢
  have HC := Lib.hid hcon
  have HH := Lib.hid (two_boxes W x y 28)
  have HW : Hid ((W.alloc (.cells #[.int .i64 x.id, .string x.user, .int .i64 x.width, .int .i64 x.est, .int .i64 x.prio, .int .i64 x.sub, .int .i64 x.state, .int .i64 x.start, .int .i64 x.fin] 28)).alloc (.cells #[.int .i64 y.id, .string y.user, .int .i64 y.width, .int .i64 y.est, .int .i64 y.prio, .int .i64 y.sub, .int .i64 y.state, .int .i64 y.start, .int .i64 y.fin] 28) = grow (W.drewN 0) (#[] ++ #[(.cells #[.int .i64 x.id, .string x.user, .int .i64 x.width, .int .i64 x.est, .int .i64 x.prio, .int .i64 x.sub, .int .i64 x.state, .int .i64 x.start, .int .i64 x.fin] 28)] ++ #[(.cells #[.int .i64 y.id, .string y.user, .int .i64 y.width, .int .i64 y.est, .int .i64 y.prio, .int .i64 y.sub, .int .i64 y.state, .int .i64 y.start, .int .i64 y.fin] 28)])) := Lib.hid (by rw [alloc_eq_grow, alloc_eq_grow, grow_grow]; rfl)
  clear hcon
  unfold jobV jobA
  go_enter Try.func34, Try.ntmps34
  go_upto_region 1 with fail
  generalize (W.alloc (.cells #[.int .i64 x.id, .string x.user, .int .i64 x.width, .int .i64 x.est, .int .i64 x.prio, .int .i64 x.sub, .int .i64 x.state, .int .i64 x.start, .int .i64 x.fin] 28)).alloc (.cells #[.int .i64 y.id, .string y.user, .int .i64 y.width, .int .i64 y.est, .int .i64 y.prio, .int .i64 y.sub, .int .i64 y.state, .int .i64 y.start, .int .i64 y.fin] 28) = W2 at *
  obtain ⟨hx, hz, hb⟩ := HH.out
  obtain ⟨a, a0, _, _, _, _, _, _, _, _, _, _, _, _, _, _, _, _, _⟩ := hx
  obtain ⟨b, b0, _, _, _, _, _, _, _, _, _, _, _, _, _, _, _, _, _⟩ := hz
  clear hb HH
  go_wp2_with (go_at_call 35; refine (HC.out _).mono ?_; rintro e w' ⟨rfl, rfl⟩)
  go_ret
  exact ⟨rfl, 0, _, HW.out⟩
def SortedIds (l : List Jb) (B g : Nat) (w : World) (e : Ending) (w' : World) : Prop := e = .returned (.tuple #[]) ∧ ∃ r : List Jb, r.Perm l ∧ (r.Pairwise fun a b => a.id ≤ b.id) ∧ Raw w' ⟨g, 0, none⟩ (jvals r) ∧ Below B w w'
set_option maxHeartbeats 1000000 in
theorem sorts_id (l : List Jb) (B g c : Nat) (w : World) (hB : B ≤ g) (hg : g < w.heap.size) (hr : Raw w ⟨g, 0, none⟩ (jvals l)) (hf : ∀ i, w.frozen? ⟨g, i, none⟩ = false) (hl : l.length ≤ 9000) :
    Calls Try.prog 33 #[.slice (some ⟨g, 0, none⟩) l.length c, .func (.func 34) #[] #[]] w (SortedIds l B g w) := by
  have eg : ∀ args w, (callFunc 34 args).run Try.prog w = .ok (.enter 34 args) w := enters_of Try.func34 (by kernel_rfl) rfl
  have hH := OrdWalk.holds_jvals hr hf
  have hcon := AnyQ.slices_SortFunc Try.sortJ 9 Try.isAgg28 Try.sizeOf28 jobC (fun _ => rfl) (fun x v hv => jobC_cell x v hv) cmpId swoId 34 #[] g 0 c l.toArray w eg (fun _ _ _ _ x y => byId x y _) hH hg (by show l.length < _; omega)
  change Calls Try.prog 33 #[.slice (some ⟨g, 0, none⟩) l.length c, .func (.func 34) #[] #[]] w _ at hcon
  refine hcon.mono ?_
  rintro e w' ⟨rfl, d, m, os, ⟨hs, _, hp⟩, hso, rfl⟩
  have hs' : d.size = l.length := by simpa using hs
  have hp' : d.toList.Perm l := by
    have e1 : d.extract 0 l.toArray.size = d := by rw [← hs]; simp
    have e2 : l.toArray.extract 0 l.toArray.size = l.toArray := by simp
    rw [e1, e2] at hp
    exact hp
  have hsw : SWK jobC 9 w g 0 d (grow (putRowK jobC 9 (Sort.ahead w m) g 0 d) os) := ⟨m, os, rfl⟩
  have hh := hsw.holds hg hH (by simp [hs'])
  have ed : d = d.toList.toArray := by simp
  rw [ed] at hh
  refine ⟨rfl, d.toList, hp', ?_, OrdWalk.jvals_holds hh (hsw.lt hg), OrdWalk.below_sort hsw hB hg⟩
  refine List.pairwise_iff_getElem.2 fun i j hi hj hij => ?_
  have h7 := hso i j (Nat.zero_le _) hij (by simpa [hs'] using hj)
  have hi' : i < d.size := by simpa using hi
  have hj' : j < d.size := by simpa using hj
  rw [ltId, decide_eq_false_iff_not, getElem!_pos d j hj', getElem!_pos d i hi'] at h7
  simp only [Array.getElem_toList]
  omega
theorem sort_ids_none (w : World) : Calls Try.prog 33 #[.slice none 0 0, .func (.func 34) #[] #[]] w fun e w' => e = .returned (.tuple #[]) ∧ w' = w := by
  have hcon := AnyF.slices_SortFunc_none Try.sortJ none 0 (.func (.func 34) #[] #[]) w
  change Calls Try.prog 33 _ _ _ at hcon
  refine hcon.mono ?_
  rintro e w' ⟨rfl, h⟩
  exact ⟨rfl, by first | exact h | exact h.symm⟩
/-- What a table tells as a list. -/
theorem list_of {O : List Nat} {l r : List Jb} {v u : Value} {w w' : World} (h : Tab O l w v) (hb : Below w.heap.size w w') (hu : JobsIs r w' u) (hf : ∀ a n c, u = .slice (some a) n c → w.heap.size ≤ a.block) : ActsList Tab O l v w r (.returned u) w' :=
  ⟨O, u, rfl, hu, fun a n c e => ⟨hf a n c e, fun hm => by have := h.lt _ hm; have := hf a n c e; omega⟩, h.keep hb.size (fun i hi => hb.block i (h.lt i hi)), Owns.refl _ _, Spare.of_below hb⟩
set_option maxRecDepth 100000 in
set_option maxHeartbeats 1000000 in
theorem allS {O : List Nat} {l : List Jb} {v : Value} {w : World} (h : Tab O l w v) (hl : l.length ≤ 200) : Calls Try.prog 16 #[v] w (ActsList Tab O l v w l) := by
  have H0 := Lib.hid h
  obtain ⟨g, b, D, rfl, ht⟩ := h
  have C1 := Lib.hid (thoseS ht.row (by omega) 32 #[] (fun _ => true) enters_all (tells_all l w))
  have HR := Lib.hid ht.ok.rise
  clear ht
  go_enter Try.func16, Try.ntmps16
  go_wp2_with fail
  refine C1.out.mono ?_
  rintro e w1 ⟨v1, m, rfl, ho, hp, hb⟩
  rw [List.filter_eq_self.2 (fun _ _ => rfl)] at hp
  have HP := Lib.hid hp
  have HB := Lib.hid hb
  have hml := hp.length_eq
  rcases ho.form with ⟨rfl, hn, hx⟩ | ⟨gg, c, rfl, h1, h2, h3, h4, h5, h6, h7⟩
  · have hm0 : m = [] := List.eq_nil_of_length_eq_zero hn
    subst hm0
    have hl0 : l = [] := List.eq_nil_of_length_eq_zero (by rw [← hml]; rfl)
    have HL0 := Lib.hid hl0
    have CS := Lib.hid (sort_ids_none w1)
    clear C1 ho hp hb hml hn hx hl0
    go_wp2_with fail
    refine CS.out.mono ?_
    rintro e w2 ⟨rfl, rfl⟩
    go_wp2_with fail
    go_ret
    exact list_of H0.out HB.out (.inl ⟨rfl, HL0.out⟩) (fun a n c e => by cases e)
  · have CS := Lib.hid (sorts_id m w.heap.size gg c w1 h1 h2 h5 h6 (by omega))
    have HH := Lib.hid (And.intro h1 h3)
    have HML := Lib.hid hml
    clear C1 ho hp hb hml h1 h2 h3 h4 h5 h6 h7
    go_wp2_with fail
    refine CS.out.mono ?_
    rintro e w2 ⟨rfl, r, hr1, hr2, hr3, hb2⟩
    have hre : r = l := rise_same (hr1.trans HP.out) HR.out hr2
    subst hre
    have HR3 := Lib.hid hr3
    have HB2 := Lib.hid (HB.out.trans hb2)
    clear hr1 hr2 hr3 hb2 CS
    go_wp2_with fail
    go_ret
    exact list_of H0.out HB2.out (.inr ⟨_, c, by rw [HML.out]; rfl, HR3.out, by have := HH.out.2; rw [HML.out] at this; exact this⟩) (fun a n c e => by injection e with e; injection e with e; subst e; exact HH.out.1)
set_option maxRecDepth 100000 in
theorem noAll {w : World} {v : Value} (h : NoTab w v) : Calls Try.prog 16 #[v] w (NilT w) := by
  have C1 := Lib.hid (fun f => noThose h f)
  have CS := Lib.hid (sort_ids_none w)
  clear h
  go_enter Try.func16, Try.ntmps16
  go_wp2_with fail
  refine (C1.out _).mono ?_
  rintro e w1 ⟨rfl, rfl⟩
  go_wp2_with fail
  refine CS.out.mono ?_
  rintro e w1 ⟨rfl, rfl⟩
  go_wp2_with fail
  go_ret
  exact ⟨none, 0, rfl, Below.refl _ _⟩
set_option maxHeartbeats 1600000 in
/-- Sort, whose answer is new memory. -/
theorem sort_new (l : List Jb) (v : Value) (w : World) (hv : JobsIs l w v) (hl : l.length ≤ 200) : Calls Try.prog 36 #[v] w (JobsNew (sortL l) w) := by
  have C1 := Lib.hid (OrdWalk.cloneS l v w hv (by omega))
  obtain ⟨A, c, rfl, _⟩ := hv.open_
  clear hv
  go_enter Try.func36, Try.ntmps36
  go_wp2_with fail
  refine C1.out.mono ?_
  rintro e w1 ⟨v1, rfl, h1, hb1⟩
  have HB1 := Lib.hid hb1
  rcases h1 with ⟨rfl, rfl⟩ | h1
  · have C2 := Lib.hid (OrdWalk.sorts_none (.func (.func 50) #[] #[]) w1)
    clear hb1 C1
    go_wp2_with fail
    refine C2.out.mono ?_
    rintro e w2 ⟨rfl, rfl⟩
    go_wp2_with fail
    go_ret
    exact ⟨_, rfl, .inl ⟨rfl, rfl⟩, (fun a n c e => by cases e), HB1.out⟩
  · obtain ⟨g, c1, rfl, g1, g2, g3, g4, g5, g6⟩ := h1.form
    have C2 := Lib.hid (OrdWalk.sorts_own l w.heap.size g c1 w1 g1 g2 g5 g6 (by omega))
    have HG := Lib.hid (And.intro g1 g3)
    clear hb1 C1 h1 g1 g2 g3 g4 g5 g6
    go_wp2_with fail
    refine C2.out.mono ?_
    rintro e w2 ⟨rfl, hr, hb⟩
    have HR := Lib.hid hr
    have HB := Lib.hid hb
    clear hr hb
    go_wp2_with fail
    go_ret
    exact ⟨_, rfl, .inr ⟨⟨g, 0, none⟩, c1, by rw [OrdPlain.sort_len]; rfl, HR.out, by rw [OrdPlain.sort_len]; exact HG.out.2⟩, (fun a n c e => by injection e with e; injection e with e; subst e; exact HG.out.1), HB1.out.trans HB.out⟩
theorem own_jobs {B : Nat} {w : World} {v : Value} {m : List Jb} (h : OwnN 28 9 B w v m.length (jvals m)) : JobsIs m w v := by
  rcases h.form with ⟨rfl, hn, hx⟩ | ⟨gg, c, rfl, h1, h2, h3, h4, h5, h6, h7⟩
  · exact .inl ⟨rfl, List.eq_nil_of_length_eq_zero hn⟩
  · exact .inr ⟨_, c, rfl, h5, h3⟩
set_option maxRecDepth 100000 in
theorem inS {O : List Nat} {l : List Jb} {v : Value} {w : World} (h : Tab O l w v) (hl : l.length ≤ 200) (s : Int) : Calls Try.prog 17 #[v, .int .i64 s] w (ActsList Tab O l v w (inT l s)) := by
  have H0 := Lib.hid h
  obtain ⟨g, b, D, rfl, ht⟩ := h
  have C0 := Lib.hid (ofC s w)
  have HBX := Lib.hid (below_box w (.cells #[.int .i64 s] 3))
  have C1 := Lib.hid (thoseS (ht.below HBX.out).row (by omega) 51 #[.pointer (some ⟨w.heap.size, 0, none⟩)] (fun j => j.state == s) enters_of1 (tells_of l s w.heap.size _ (by simp) ((Boxed.new w #[.int .i64 s] 3).c 0 _ rfl)))
  have HR := Lib.hid ht.ok.rise
  clear ht
  go_enter Try.func17, Try.ntmps17
  go_wp2_with fail
  refine C0.out.mono ?_
  rintro e w1 ⟨rfl, rfl⟩
  go_wp2_with fail
  refine C1.out.mono ?_
  rintro e w1 ⟨v1, m, rfl, ho, hp, hb⟩
  have HB1 := Lib.hid (below_then HBX.out hb)
  have hsz := HB1.out.size
  have hsame : sortL m = inT l s := sort_same_perm hp (fun a b ha hb e => id_one HR.out (List.mem_filter.1 ha).1 (List.mem_filter.1 hb).1 e)
  have C2 := Lib.hid (sort_new m v1 w1 (own_jobs ho) (by have := len_perm hp; omega))
  rw [hsame] at C2
  obtain ⟨A, c, rfl⟩ := ho.shape
  clear ho hp hb C1 C0 hsame
  go_wp2_with fail
  refine C2.out.mono ?_
  rintro e w2 ⟨v2, rfl, hj, hfr, hb2⟩
  have HJ := Lib.hid hj
  have HF := Lib.hid hfr
  have HB2 := Lib.hid (HB1.out.trans (hb2.mono HB1.out.size))
  clear hj hfr hb2 C2
  go_wp2_with fail
  go_ret
  exact list_of H0.out HB2.out HJ.out (fun a n c e => Nat.le_trans hsz (HF.out a n c e))
set_option maxRecDepth 100000 in
theorem noIn {w : World} {v : Value} (h : NoTab w v) (s : Int) : Calls Try.prog 17 #[v, .int .i64 s] w (NilT w) := by
  have C0 := Lib.hid (ofC s w)
  have HBX := Lib.hid (below_box w (.cells #[.int .i64 s] 3))
  have C1 := Lib.hid (fun f => noThose (h.below HBX.out) f)
  have C2 := Lib.hid (sort_new [] (.slice none 0 0) (w.alloc (.cells #[.int .i64 s] 3)) (.inl ⟨rfl, rfl⟩) (by decide))
  clear h
  go_enter Try.func17, Try.ntmps17
  go_wp2_with fail
  refine C0.out.mono ?_
  rintro e w1 ⟨rfl, rfl⟩
  go_wp2_with fail
  refine (C1.out _).mono ?_
  rintro e w1 ⟨rfl, rfl⟩
  go_wp2_with fail
  refine C2.out.mono ?_
  rintro e w2 ⟨v2, rfl, hj, hfr, hb2⟩
  obtain ⟨A, c, rfl, _⟩ := hj.open_
  have HB2 := Lib.hid (below_then HBX.out hb2)
  clear hj hfr hb2 C2
  go_wp2_with fail
  go_ret
  exact ⟨A, c, rfl, HB2.out⟩
end Go.Proofs.Ytjegkddpaampmaa.TabWalk
namespace Go.Proofs.Ytjegkddpaampmaa.TabWalk
theorem walked : True := trivial
end Go.Proofs.Ytjegkddpaampmaa.TabWalk
