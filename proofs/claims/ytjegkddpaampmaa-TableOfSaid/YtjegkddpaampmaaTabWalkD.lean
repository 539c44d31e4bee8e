/-
  The walks of layer 11's code: Add. The walks of layer 11's code: Turn, Edit, Get. The walks of layer 11's code: Edit, Get.
-/
import Derived.Test.YtjegkddpaampmaaTabWalkA
import Derived.Test.YtjegkddpaampmaaJobWalk
import Derived.StillTailTactics
import Derived.Deep.RegionHeld3
import Derived.RegionTactic
namespace Go.Proofs.Ytjegkddpaampmaa.TabWalk
open Go.RowKit Go.Proofs.Ytjegkddpaampmaa.JobPlain Go.Proofs.Ytjegkddpaampmaa.OrdPlain Go.Proofs.Ytjegkddpaampmaa.TabPlain Go.Proofs.Ytjegkddpaampmaa.Mem Go.Proofs.Ytjegkddpaampmaa.JobMem Go.Proofs.Ytjegkddpaampmaa.OrdMem Go.Proofs.Ytjegkddpaampmaa.OrdRef Go.Proofs.Ytjegkddpaampmaa.TabRef
/-- What is stored in the map. -/
theorem TabRow.stored {O : List Nat} {l l' : List Jb} {w w' : World} {g b : Nat} {D : MapD} (h : TabRow O l w g b D) (j : Jb) (ok : Good l') (hm : ∀ x, x ∈ l' ↔ x = j ∨ (x ∈ l ∧ x.id ≠ j.id)) (hs : l'.length = if Maps.has D (ik j.id) = true then l.length else l.length + 1)
    (hmap : MapAt w' b (l.length + 1) (D.put (ik j.id) (.held (jobV j)))) (hg : w.grownBy w' (some b)) : TabRow O l' w' g b (D.put (ik j.id) (.held (jobV j))) := by
  have M := h.is.put j hm hs
  have ht := hmap.tight
  rw [M.size] at ht
  exact ⟨ok, h.gm, h.bm, h.ne, fun i hi => Nat.lt_of_lt_of_le (h.lt i hi) hg.size, h.box.grown hg (fun e => h.ne (by injection e with e; exact e.symm)), ht, M⟩
theorem TabIs.stored {O : List Nat} {l l' : List Jb} {w w' : World} {g b : Nat} {D : MapD} (h : TabIs O l w g b D) (j : Jb) (ok : TableOk l') (hm : ∀ x, x ∈ l' ↔ x = j ∨ (x ∈ l ∧ x.id ≠ j.id)) (hs : l'.length = if Maps.has D (ik j.id) = true then l.length else l.length + 1)
    (hmap : MapAt w' b (l.length + 1) (D.put (ik j.id) (.held (jobV j)))) (hg : w.grownBy w' (some b)) : TabIs O l' w' g b (D.put (ik j.id) (.held (jobV j))) := ⟨h.row.stored j ⟨ok.may, ok.rise⟩ hm hs hmap hg, ok.live⟩
theorem TabIs.spare {O : List Nat} {l : List Jb} {w w' : World} {g b : Nat} {D : MapD} (h : TabIs O l w g b D) (hg : w.grownBy w' (some b)) : Spare O w w' :=
  ⟨hg.os, hg.tape, hg.output, hg.size, fun i hi hn => hg.block i hi (fun e => hn (by injection e with e; subst e; exact h.bm))⟩
/-- Behind a store: what an act leaves. -/
theorem acts_put {O : List Nat} {l l' : List Jb} {w w1 w2 : World} {g b : Nat} {D : MapD} {x : Value} (h : TabIs O l w1 g b D) (hb : Below w.heap.size w w1) (hg : w1.grownBy w2 (some b)) {D' : MapD} (h2 : TabIs O l' w2 g b D') : Acts Tab O l' (.pointer (some ⟨g, 0, none⟩)) w x (.returned x) w2 :=
  ⟨O, rfl, ⟨g, b, D', rfl, h2⟩, Owns.refl _ _, (Spare.of_below hb).then_ (Owns.refl _ _) (h.spare hg)⟩
theorem acts_same {O : List Nat} {l : List Jb} {w w1 : World} {g b : Nat} {D : MapD} {x : Value} (h : TabIs O l w1 g b D) (hb : Below w.heap.size w w1) : Acts Tab O l (.pointer (some ⟨g, 0, none⟩)) w x (.returned x) w1 :=
  ⟨O, rfl, ⟨g, b, D, rfl, h⟩, Owns.refl _ _, Spare.of_below hb⟩
theorem has_of {D : MapD} {l : List Jb} (M : MapJ D l) (id : Int) : Maps.has D (ik id) = decide (0 ≤ findL l id) := by
  by_cases hf : findL l id < 0
  · rw [M.no id (find_not hf), decide_eq_false (by omega)]
  · obtain ⟨k, hk, h1, h2⟩ := find_yes hf
    rw [decide_eq_true (by omega), ← h2]
    exact M.has (List.getElem_mem hk)
theorem ok_ins {l : List Jb} {j : Jb} (h : TableOk l) (hj : mayJ j = true) (hf : findL l j.id < 0) (hl : liveN l < 100) : TableOk (insOut l j) := by
  rw [insOut_is]
  refine ⟨fun x hx => ?_, insR_rise h.rise (find_not hf), ?_⟩
  · rcases List.mem_cons.1 ((insR_perm j l).mem_iff.1 hx) with rfl | hx
    · exact hj
    · exact h.may x hx
  · rw [live_ins]
    unfold liveC
    split <;> omega
theorem mem_ins {l : List Jb} {j : Jb} (hf : findL l j.id < 0) (x : Jb) : x ∈ insOut l j ↔ x = j ∨ (x ∈ l ∧ x.id ≠ j.id) := by
  rw [insOut_is, (insR_perm j l).mem_iff, List.mem_cons]
  constructor
  · rintro (h | h)
    · exact .inl h
    · exact .inr ⟨h, find_not hf x h⟩
  · rintro (h | ⟨h, _⟩)
    · exact .inl h
    · exact .inr h
theorem wait_state {j : Jb} (h : mayJ j = true) : waitB j = !decide (1 < j.state) := by
  have h1 := may_fin h
  unfold waitB
  have h2 : 0 ≤ j.state := h1.2.2.2.2.1
  by_cases h0 : j.state = 0
  · simp [h0]
  · by_cases h3 : j.state = 1
    · simp [h3]
    · have : decide (1 < j.state) = true := decide_eq_true (by omega)
      simp [h0, h3, this]
set_option maxRecDepth 100000 in
set_option maxHeartbeats 1600000 in
theorem addS {O : List Nat} {l : List Jb} {v : Value} {w : World} (h : Tab O l w v) (hl : l.length ≤ 200) (j : Jb) (hj : Fit j) : Calls Try.prog 8 #[v, jobV j] w (Acts Tab O (addR l j) v w (.int .i64 (addE l j))) := by
  obtain ⟨g, b, D, rfl, ht⟩ := h
  have HB0 := Lib.hid (below_box w (.cells #[.int .i64 j.id, .string j.user, .int .i64 j.width, .int .i64 j.est, .int .i64 j.prio, .int .i64 j.sub, .int .i64 j.state, .int .i64 j.start, .int .i64 j.fin] 28))
  have HBX := Lib.hid (JobBox.new w j 28)
  have HT := Lib.hid (ht.below HB0.out)
  have HN : Hid (w.heap.size ∉ O) := fun e => by have := ht.lt _ e; omega
  have CK := Lib.hid (fun W => JobWalk.check_any j W hj)
  have CW := Lib.hid (fun W => waits_any j W)
  have CL := Lib.hid (fun W (h : TabIs O l W g b D) => live_at h.row hl)
  have HAR : Hid (addE l j ≠ 0 → addR l j = l) := fun h => by unfold addR; rw [if_neg h]
  have hw := addE_ways l j
  clear ht hj
  unfold jobV jobA at *
  go_enter Try.func8, Try.ntmps8
  go_upto_region 1 with fail
  generalize w.alloc (.cells #[.int .i64 j.id, .string j.user, .int .i64 j.width, .int .i64 j.est, .int .i64 j.prio, .int .i64 j.sub, .int .i64 j.state, .int .i64 j.start, .int .i64 j.fin] 28) = w1 at *
  have C1 := Lib.hid (isMadeS HT.out.row)
  obtain ⟨y, y0, y1, y2, y3, y4, y5, y6, y7, y8, _, _, _, _, _, _, _, _, _⟩ := HBX.out
  go_wp2_with fail
  refine C1.out.mono ?_
  rintro e w2 ⟨rfl, rfl⟩
  clear C1
  cases h1 : mayJ j
  · have HE : Hid (addE l j = 1) := by unfold addE; exact if_pos (.inl h1)
    have HA := Lib.hid (HAR.out (by rw [HE.out]; decide))
    have hck : JobWalk.checkN j = 1 := JobWalk.check_no h1
    rw [hck] at CK
    go_wp2_with fail
    refine (CK.out _).mono ?_
    rintro e w3 ⟨rfl, hb3⟩
    have HT3 := Lib.hid (acts_same (x := .int .i64 1) (HT.out.below hb3) (HB0.out.trans (hb3.mono HB0.out.size)))
    clear hb3
    go_wp2_with fail
    go_ret
    rw [HA.out, HE.out]
    exact HT3.out
  · have hck : JobWalk.checkN j = 0 := JobWalk.check_yes h1
    rw [hck] at CK
    rw [wait_state h1] at CW
    go_wp2_with fail
    refine (CK.out _).mono ?_
    rintro e w3 ⟨rfl, hb3⟩
    have HT3 := Lib.hid (HT.out.below hb3)
    have HB3 := Lib.hid (HB0.out.trans (hb3.mono HB0.out.size))
    have HBX3 := Lib.hid (HBX.out.below hb3)
    clear hb3 y y0 y1 y2 y3 y4 y5 y6 y7 y8 HT HBX HB0
    obtain ⟨y, y0, y1, y2, y3, y4, y5, y6, y7, y8, _, _, _, _, _, _, _, _, _⟩ := HBX3.out
    cases h2 : decide (1 < j.state)
    · rw [h2] at CW
      go_wp2_with fail
      refine (CW.out _).mono ?_
      rintro e w4 ⟨rfl, hb4⟩
      have HT4 := Lib.hid (HT3.out.below hb4)
      have HB4 := Lib.hid (HB3.out.trans (hb4.mono HB3.out.size))
      have HBX4 := Lib.hid (HBX3.out.below hb4)
      clear hb4 y y0 y1 y2 y3 y4 y5 y6 y7 y8 HT3 HBX3 HB3
      obtain ⟨y, y0, y1, y2, y3, y4, y5, y6, y7, y8, _, _, _, _, _, _, _, _, _⟩ := HBX4.out
      go_upto_region 5 with fail
      have q1 := look_any HT4.out.map.drew HT4.out.is HT4.out.ids j.id true
      have q2 := look_any (HT4.out.map.alloc (.cells #[.int .i64 0, .string ⟨#[]⟩, .int .i64 0, .int .i64 0, .int .i64 0, .int .i64 0, .int .i64 0, .int .i64 0, .int .i64 0] 28)).drew HT4.out.is HT4.out.ids j.id true
      have c1 := HT4.out.box.c 0 _ rfl
      have c2 := (HT4.out.box.alloc (.cells #[.int .i64 0, .string ⟨#[]⟩, .int .i64 0, .int .i64 0, .int .i64 0, .int .i64 0, .int .i64 0, .int .i64 0, .int .i64 0] 28)).c 0 _ rfl
      have z0 := (HBX4.out.alloc (.cells #[.int .i64 0, .string ⟨#[]⟩, .int .i64 0, .int .i64 0, .int .i64 0, .int .i64 0, .int .i64 0, .int .i64 0, .int .i64 0] 28)).c0
      unfold jobV jobA at q1 q2
      clear y1 y2 y3 y4 y5 y6 y7 y8
      generalize getJ l j.id = G at *
      have HT5 := Lib.hid (HT4.out.below (below_box w4 (.cells #[.int .i64 G.id, .string G.user, .int .i64 G.width, .int .i64 G.est, .int .i64 G.prio, .int .i64 G.sub, .int .i64 G.state, .int .i64 G.start, .int .i64 G.fin] 28)))
      have HB5 := Lib.hid (HB4.out.alloc HB4.out.size (.cells #[.int .i64 G.id, .string G.user, .int .i64 G.width, .int .i64 G.est, .int .i64 G.prio, .int .i64 G.sub, .int .i64 G.state, .int .i64 G.start, .int .i64 G.fin] 28))
      have HBX5 := Lib.hid (HBX4.out.alloc (.cells #[.int .i64 G.id, .string G.user, .int .i64 G.width, .int .i64 G.est, .int .i64 G.prio, .int .i64 G.sub, .int .i64 G.state, .int .i64 G.start, .int .i64 G.fin] 28))
      have hf : findL l j.id < 0 ∨ 0 ≤ findL l j.id := by omega
      have HF := Lib.hid hf
      clear hf
      cases h3 : decide (0 ≤ findL l j.id)
      · rw [h3] at q1 q2
        go_region
        all_goals
          generalize w4.alloc (.cells #[.int .i64 G.id, .string G.user, .int .i64 G.width, .int .i64 G.est, .int .i64 G.prio, .int .i64 G.sub, .int .i64 G.state, .int .i64 G.start, .int .i64 G.fin] 28) = w5 at *
          have HT6 : Hid (TabIs O l w5.drew g b D) := HT5.out.keep (Nat.le_refl _) (fun _ _ => rfl)
          have CL5 := Lib.hid (CL.out _ HT6.out)
          clear q1 q2 c1 c2 z0 y y0 HT4 HB4 HBX4 HT5
          go_wp2_with fail
          refine CL5.out.mono ?_
          rintro e w6 ⟨rfl, hb6⟩
          have HT7 := Lib.hid (HT6.out.below hb6)
          have HB7 : Hid (Below w.heap.size w w6) := HB5.out.drew.trans (hb6.mono HB5.out.size)
          have HBX7 : Hid (JobBox w6 w.heap.size j) := JobBox.below (w := w5.drew) (HBX5.out.of_block HBX5.out.lt rfl) hb6
          clear hb6 HT6 HB5 HBX5 CL5
          obtain ⟨y, y0, y1, y2, y3, y4, y5, y6, y7, y8, _, _, _, _, _, _, _, _, _⟩ := HBX7.out
          have c1 := HT7.out.box.c 0 _ rfl
          cases h4 : decide (100 ≤ liveN l)
          · have HE : Hid (addE l j = 0) := by
              unfold addE
              rw [decide_eq_false_iff_not] at h2 h3 h4
              rw [if_neg (fun h => h.elim (fun h => by rw [h1] at h; cases h) h2), if_neg h3, if_neg h4]
              rfl
            have hfn : findL l j.id < 0 := by have := of_decide_eq_false h3; omega
            have hok := ok_ins HT7.out.ok h1 hfn (by have := of_decide_eq_false h4; omega)
            obtain ⟨w8, q8, hm8, hg8⟩ := store_any HT7.out.map.drew (by unfold maxLen; omega) (may_id h1)
            have HT8 := Lib.hid (HT7.out.stored (w' := w8) j hok (mem_ins hfn) (by rw [insOut_len, HT7.out.is.no _ (find_not hfn)]; rfl) hm8 ⟨hg8.os, hg8.tape, hg8.output, hg8.size, hg8.block⟩)
            have HA := Lib.hid (acts_put (x := .int .i64 0) HT7.out HB7.out ⟨hg8.os, hg8.tape, hg8.output, hg8.size, hg8.block⟩ HT8.out)
            unfold jobV jobA at q8
            clear hm8 hg8 hok hfn
            go_upto_region 10 with fail
            go_region
            go_wp2_with fail
            go_ret
            rw [HE.out, addR_yes HE.out]
            exact HA.out
          · have HE : Hid (addE l j = 4) := by
              unfold addE
              rw [decide_eq_false_iff_not] at h2 h3
              rw [if_neg (fun h => h.elim (fun h => by rw [h1] at h; cases h) h2), if_neg h3, if_pos (of_decide_eq_true h4)]
              rfl
            have HA := Lib.hid (HAR.out (by rw [HE.out]; decide))
            have HX := Lib.hid (acts_same (x := .int .i64 4) HT7.out HB7.out)
            go_wp2_with fail
            go_ret
            rw [HA.out, HE.out]
            exact HX.out
      · rw [h3] at q1 q2
        have HE : Hid (addE l j = 7) := by
          unfold addE
          rw [decide_eq_false_iff_not] at h2
          rw [if_neg (fun h => h.elim (fun h => by rw [h1] at h; cases h) h2), if_pos (of_decide_eq_true h3)]
          rfl
        have HA := Lib.hid (HAR.out (by rw [HE.out]; decide))
        go_region
        all_goals
          generalize w4.alloc (.cells #[.int .i64 G.id, .string G.user, .int .i64 G.width, .int .i64 G.est, .int .i64 G.prio, .int .i64 G.sub, .int .i64 G.state, .int .i64 G.start, .int .i64 G.fin] 28) = w5 at *
          have HX : Hid (Acts Tab O l (.pointer (some ⟨g, 0, none⟩)) w (.int .i64 7) (.returned (.int .i64 7)) w5.drew) := acts_same (HT5.out.keep (Nat.le_refl _) (fun _ _ => rfl)) HB5.out.drew
          clear q1 q2 c1 c2 z0 y y0 HT4 HB4 HBX4 HT5
          go_wp2_with fail
          go_ret
          rw [HA.out, HE.out]
          exact HX.out
    · rw [h2] at CW
      have HE : Hid (addE l j = 1) := by unfold addE; exact if_pos (.inr (by simpa using h2))
      have HA := Lib.hid (HAR.out (by rw [HE.out]; decide))
      go_wp2_with fail
      refine (CW.out _).mono ?_
      rintro e w4 ⟨rfl, hb4⟩
      have HT4 := Lib.hid (acts_same (x := .int .i64 1) (HT3.out.below hb4) (HB3.out.trans (hb4.mono HB3.out.size)))
      clear hb4
      go_wp2_with fail
      go_ret
      rw [HA.out, HE.out]
      exact HT4.out
end Go.Proofs.Ytjegkddpaampmaa.TabWalk
namespace Go.Proofs.Ytjegkddpaampmaa.TabWalk
open Go.RowKit Go.Proofs.Ytjegkddpaampmaa.JobPlain Go.Proofs.Ytjegkddpaampmaa.OrdPlain Go.Proofs.Ytjegkddpaampmaa.TabPlain Go.Proofs.Ytjegkddpaampmaa.Mem Go.Proofs.Ytjegkddpaampmaa.JobMem Go.Proofs.Ytjegkddpaampmaa.OrdMem Go.Proofs.Ytjegkddpaampmaa.OrdRef Go.Proofs.Ytjegkddpaampmaa.TabRef
theorem ok_set {l : List Jb} {k : Nat} (hk : k < l.length) {x : Jb} (h : TableOk l) (hx : mayJ x = true) (hid : x.id = l[k].id) (hs : 0 ≤ x.state ∧ x.state ≤ 2 → l[k].state ≤ 2) : TableOk (l.set k x) := by
  refine ⟨fun y hy => ?_, set_rise h.rise hk hid, ?_⟩
  · rcases (mem_set h.rise hk hid y).1 hy with rfl | ⟨hy, _⟩
    · exact hx
    · exact h.may y hy
  · have h1 := live_set x l k hk
    have h2 := (may_fin (h.may _ (List.getElem_mem hk))).2.2.2.2.1
    have h3 := h.live
    have h4 : liveC x ≤ liveC l[k] := by
      unfold liveC
      split
      · rename_i hx2
        rw [if_pos ⟨h2, hs hx2⟩]
        exact Int.le_refl _
      · split <;> omega
    omega
theorem TabIs.set {O : List Nat} {l : List Jb} {w w' : World} {g b : Nat} {D : MapD} (h : TabIs O l w g b D) {k : Nat} (hk : k < l.length) {x : Jb} (ok : TableOk (l.set k x)) (hid : x.id = l[k].id)
    (hmap : MapAt w' b (l.length + 1) (D.put (ik x.id) (.held (jobV x)))) (hg : w.grownBy w' (some b)) : TabIs O (l.set k x) w' g b (D.put (ik x.id) (.held (jobV x))) :=
  h.stored x ok (mem_set h.ok.rise hk hid) (by rw [List.length_set, hid, h.is.has (List.getElem_mem hk), if_pos rfl]) hmap hg
set_option maxRecDepth 100000 in
set_option maxHeartbeats 1600000 in
theorem turnS {O : List Nat} {l : List Jb} {v : Value} {w : World} (h : Tab O l w v) (hl : l.length ≤ 200) (id ev t : Int) (ht : -9223372036854775808 ≤ t ∧ t ≤ 9223372036854775807) : Calls Try.prog 10 #[v, .int .i64 id, .int .i64 ev, .int .i64 t] w (Acts Tab O (turnR l id ev t) v w (.int .i64 (turnE l id ev t))) := by
  obtain ⟨g, b, D, rfl, h0⟩ := h
  have HT := Lib.hid h0
  have C1 := Lib.hid (isMadeS h0.row)
  have q1 := look_any h0.map h0.is h0.ids id true
  have c0 := h0.box.c 0 _ rfl
  unfold jobV jobA at q1
  clear h0
  go_enter Try.func10, Try.ntmps10
  go_wp2_with fail
  refine C1.out.mono ?_
  rintro e w1 ⟨rfl, rfl⟩
  clear C1
  by_cases hf : findL l id < 0
  · have hd : decide (0 ≤ findL l id) = false := decide_eq_false (by omega)
    have HE := Lib.hid (turnE_none (ev := ev) (t := t) hf)
    rw [hd] at q1
    clear hf hd
    generalize getJ l id = G at *
    have HX := Lib.hid (acts_same (x := .int .i64 3) (HT.out.below (below_box w1 (.cells #[.int .i64 G.id, .string G.user, .int .i64 G.width, .int .i64 G.est, .int .i64 G.prio, .int .i64 G.sub, .int .i64 G.state, .int .i64 G.start, .int .i64 G.fin] 28))) (below_box w1 (.cells #[.int .i64 G.id, .string G.user, .int .i64 G.width, .int .i64 G.est, .int .i64 G.prio, .int .i64 G.sub, .int .i64 G.state, .int .i64 G.start, .int .i64 G.fin] 28)))
    go_wp2_with fail
    go_ret
    rw [turnR_no (by rw [HE.out]; decide), HE.out]
    exact HX.out
  · obtain ⟨k, hk, h1, h2⟩ := find_yes hf
    have hd : decide (0 ≤ findL l id) = true := decide_eq_true (by omega)
    rw [hd, get_yes hk h1] at q1
    have hm := HT.out.ok.may _ (List.getElem_mem hk)
    have CT := Lib.hid (fun W => JobWalk.turn_any l[k] ev t W (may_fit hm) ht)
    unfold JobRef.TurnIs at CT
    have HE := Lib.hid (turnE_at (ev := ev) (t := t) hk h1)
    have HR := Lib.hid (fun h => turnR_at (ev := ev) (t := t) hk h1 h)
    have HK : Hid (∀ x : Jb, turnL l[k] ev t = (x, 0) → TableOk (l.set k x) ∧ x.id = l[k].id ∧ x.id = id) := fun x hx => by
      obtain ⟨a1, _, _, a4, a5, _, _⟩ := turn_keeps hx
      exact ⟨ok_set hk HT.out.ok a5 a1 (fun _ => a4), a1, a1.trans h2⟩
    have HS : Hid (∀ x W W', TabIs O l W g b D → TableOk (l.set k x) → x.id = l[k].id → MapAt W' b (l.length + 1) (D.put (ik x.id) (.held (jobV x))) → W.grownBy W' (some b) → TabIs O (l.set k x) W' g b (D.put (ik x.id) (.held (jobV x)))) := fun x W W' a1 a2 a3 a4 a5 => a1.set hk a2 a3 a4 a5
    have HID := Lib.hid (may_id hm)
    rw [h2] at HID
    clear hf hd h1 h2 hm
    have HLK : Hid (∀ x : Jb, x.id = l[k].id → 1 ≤ x.id ∧ x.id ≤ 1073741824) := fun x hx => by rw [hx]; exact may_id (HT.out.ok.may _ (List.getElem_mem hk))
    generalize l[k] = j at *
    rcases hp : turnL j ev t with ⟨x, er⟩
    rw [hp] at CT HE HR
    dsimp only at CT HE HR
    have HB1 := Lib.hid (below_box w1 (.cells #[.int .i64 j.id, .string j.user, .int .i64 j.width, .int .i64 j.est, .int .i64 j.prio, .int .i64 j.sub, .int .i64 j.state, .int .i64 j.start, .int .i64 j.fin] 28))
    have HT1 := Lib.hid (HT.out.below HB1.out)
    unfold jobV jobA at CT
    go_wp2_with fail
    refine (CT.out _).mono ?_
    rintro e w2 ⟨rfl, hb2⟩
    have HB3 := Lib.hid ((HB1.out.trans (hb2.mono HB1.out.size)).alloc (HB1.out.trans (hb2.mono HB1.out.size)).size (.cells #[.int .i64 x.id, .string x.user, .int .i64 x.width, .int .i64 x.est, .int .i64 x.prio, .int .i64 x.sub, .int .i64 x.state, .int .i64 x.start, .int .i64 x.fin] 28))
    have HT3 := Lib.hid ((HT1.out.below hb2).below (below_box w2 (.cells #[.int .i64 x.id, .string x.user, .int .i64 x.width, .int .i64 x.est, .int .i64 x.prio, .int .i64 x.sub, .int .i64 x.state, .int .i64 x.start, .int .i64 x.fin] 28)))
    have HX3 := Lib.hid (JobBox.new w2 x 28)
    clear hb2 q1 c0 HB1 HT1 HT
    by_cases h0 : er = 0
    · subst h0
      obtain ⟨ok, a1, a2⟩ := HK.out x hp
      have HOK := Lib.hid ok
      have HA1 := Lib.hid a1
      have HA2 := Lib.hid a2
      clear ok a1 a2 hp
      go_upto_region 9 with fail
      generalize w2.alloc (.cells #[.int .i64 x.id, .string x.user, .int .i64 x.width, .int .i64 x.est, .int .i64 x.prio, .int .i64 x.sub, .int .i64 x.state, .int .i64 x.start, .int .i64 x.fin] 28) = w3 at *
      obtain ⟨y, y0, y1, y2, y3, y4, y5, y6, y7, y8, _, _, _, _, _, _, _, _, _⟩ := HX3.out
      have c1 := HT3.out.box.c 0 _ rfl
      obtain ⟨w8, q8, hm8, hg8⟩ := store_any (w := w3.drew) HT3.out.map.drew (by unfold maxLen; omega) (HLK.out x HA1.out)
      have HT8 := Lib.hid (HS.out x w3 w8 HT3.out HOK.out HA1.out hm8 ⟨hg8.os, hg8.tape, hg8.output, hg8.size, hg8.block⟩)
      have HA := Lib.hid (acts_put (x := .int .i64 0) HT3.out HB3.out ⟨hg8.os, hg8.tape, hg8.output, hg8.size, hg8.block⟩ HT8.out)
      rw [HA2.out] at q8
      unfold jobV jobA at q8
      clear hm8 hg8
      go_region
      go_wp2_with fail
      go_ret
      rw [HR.out HE.out, HE.out]
      exact HA.out
    · have HX := Lib.hid (acts_same (x := .int .i64 er) HT3.out HB3.out)
      have hne : decide (er = 0) = false := decide_eq_false h0
      have hne2 : (er != 0) = true := by simpa using h0
      go_wp2_with fail
      go_ret
      rw [turnR_no (by rw [HE.out]; exact h0), HE.out]
      exact HX.out
theorem noTurn {w : World} {v : Value} (h : NoTab w v) (id ev t : Int) : Calls Try.prog 10 #[v, .int .i64 id, .int .i64 ev, .int .i64 t] w (IntT 5 w) := by
  have C1 := Lib.hid (noMade h)
  clear h
  go_enter Try.func10, Try.ntmps10
  go_wp2_with fail
  refine C1.out.mono ?_
  rintro e w1 ⟨rfl, rfl⟩
  go_wp2_with fail
  go_ret
  exact ⟨rfl, Below.refl _ _⟩
theorem noEdit {w : World} {v : Value} (h : NoTab w v) (id a b c : Int) : Calls Try.prog 12 #[v, .int .i64 id, .int .i64 a, .int .i64 b, .int .i64 c] w (IntT 5 w) := by
  have C1 := Lib.hid (noMade h)
  clear h
  go_enter Try.func12, Try.ntmps12
  go_wp2_with fail
  refine C1.out.mono ?_
  rintro e w1 ⟨rfl, rfl⟩
  go_wp2_with fail
  go_ret
  exact ⟨rfl, Below.refl _ _⟩
theorem noAdd {w : World} {v : Value} (h : NoTab w v) (j : Jb) (hj : Fit j) : Calls Try.prog 8 #[v, jobV j] w (IntT 5 w) := by
  have HB := Lib.hid (below_box w (.cells #[.int .i64 j.id, .string j.user, .int .i64 j.width, .int .i64 j.est, .int .i64 j.prio, .int .i64 j.sub, .int .i64 j.state, .int .i64 j.start, .int .i64 j.fin] 28))
  have C1 := Lib.hid (noMade (h.below HB.out))
  clear h
  unfold jobV jobA
  go_enter Try.func8, Try.ntmps8
  go_wp2_with fail
  refine C1.out.mono ?_
  rintro e w1 ⟨rfl, rfl⟩
  go_wp2_with fail
  go_ret
  exact ⟨rfl, HB.out⟩
end Go.Proofs.Ytjegkddpaampmaa.TabWalk
namespace Go.Proofs.Ytjegkddpaampmaa.TabWalk
open Go.RowKit Go.Proofs.Ytjegkddpaampmaa.JobPlain Go.Proofs.Ytjegkddpaampmaa.OrdPlain Go.Proofs.Ytjegkddpaampmaa.TabPlain Go.Proofs.Ytjegkddpaampmaa.Mem Go.Proofs.Ytjegkddpaampmaa.JobMem Go.Proofs.Ytjegkddpaampmaa.OrdMem Go.Proofs.Ytjegkddpaampmaa.OrdRef Go.Proofs.Ytjegkddpaampmaa.TabRef
theorem fit_edited {j : Jb} (h : Fit j) (a b c : Int) : Fit (edited j a b c) := by
  unfold Fit edited at *
  exact h
theorem edited_id (j : Jb) (a b c : Int) : (edited j a b c).id = j.id := rfl
theorem edited_state (j : Jb) (a b c : Int) : (edited j a b c).state = j.state := rfl
set_option maxRecDepth 100000 in
set_option maxHeartbeats 1600000 in
theorem editS {O : List Nat} {l : List Jb} {v : Value} {w : World} (h : Tab O l w v) (hl : l.length ≤ 200) (id a b c : Int) : Calls Try.prog 12 #[v, .int .i64 id, .int .i64 a, .int .i64 b, .int .i64 c] w (Acts Tab O (editR l id a b c) v w (.int .i64 (editE l id a b c))) := by
  obtain ⟨g, m, D, rfl, h0⟩ := h
  have HT := Lib.hid h0
  have C1 := Lib.hid (isMadeS h0.row)
  have q1 := look_any h0.map h0.is h0.ids id true
  have c0 := h0.box.c 0 _ rfl
  unfold jobV jobA at q1
  clear h0
  go_enter Try.func12, Try.ntmps12
  go_wp2_with fail
  refine C1.out.mono ?_
  rintro e w1 ⟨rfl, rfl⟩
  clear C1
  by_cases hf : findL l id < 0
  · have hd : decide (0 ≤ findL l id) = false := decide_eq_false (by omega)
    have HE := Lib.hid (editE_none (a := a) (b := b) (c := c) hf)
    rw [hd] at q1
    clear hf hd
    generalize getJ l id = G at *
    have HX := Lib.hid (acts_same (x := .int .i64 3) (HT.out.below (below_box w1 (.cells #[.int .i64 G.id, .string G.user, .int .i64 G.width, .int .i64 G.est, .int .i64 G.prio, .int .i64 G.sub, .int .i64 G.state, .int .i64 G.start, .int .i64 G.fin] 28))) (below_box w1 (.cells #[.int .i64 G.id, .string G.user, .int .i64 G.width, .int .i64 G.est, .int .i64 G.prio, .int .i64 G.sub, .int .i64 G.state, .int .i64 G.start, .int .i64 G.fin] 28)))
    go_wp2_with fail
    go_ret
    rw [editR_no (by rw [HE.out]; decide), HE.out]
    exact HX.out
  · obtain ⟨k, hk, h1, h2⟩ := find_yes hf
    have hd : decide (0 ≤ findL l id) = true := decide_eq_true (by omega)
    rw [hd, get_yes hk h1] at q1
    have hm := HT.out.ok.may _ (List.getElem_mem hk)
    have HW := Lib.hid (edit_ways (a := a) (b := b) (c := c) hk h1)
    have HR := Lib.hid (fun h => editR_at (a := a) (b := b) (c := c) hk h1 h)
    have CW := Lib.hid (fun W => waits_any l[k] W)
    rw [wait_state hm] at CW
    have CK := Lib.hid (fun W => JobWalk.check_any (edited l[k] a b c) W (fit_edited (may_fit hm) a b c))
    have HK : Hid (mayJ (edited l[k] a b c) = true → TableOk (l.set k (edited l[k] a b c))) := fun hx => ok_set hk HT.out.ok hx (edited_id _ _ _ _) (fun h => by have := h.2; rwa [edited_state] at this)
    have HS : Hid (∀ x W W', TabIs O l W g m D → TableOk (l.set k x) → x.id = l[k].id → MapAt W' m (l.length + 1) (D.put (ik x.id) (.held (jobV x))) → W.grownBy W' (some m) → TabIs O (l.set k x) W' g m (D.put (ik x.id) (.held (jobV x)))) := fun x W W' a1 a2 a3 a4 a5 => a1.set hk a2 a3 a4 a5
    have HID := Lib.hid (may_id hm)
    have HI2 := Lib.hid h2
    clear hf hd h1 h2 hm
    generalize l[k] = j at *
    have HB1 := Lib.hid (below_box w1 (.cells #[.int .i64 j.id, .string j.user, .int .i64 j.width, .int .i64 j.est, .int .i64 j.prio, .int .i64 j.sub, .int .i64 j.state, .int .i64 j.start, .int .i64 j.fin] 28))
    have HBX := Lib.hid (JobBox.new w1 j 28)
    unfold jobV jobA at CW
    go_upto_region 6 with fail
    generalize w1.alloc (.cells #[.int .i64 j.id, .string j.user, .int .i64 j.width, .int .i64 j.est, .int .i64 j.prio, .int .i64 j.sub, .int .i64 j.state, .int .i64 j.start, .int .i64 j.fin] 28) = w2 at *
    obtain ⟨y, y0, y1, y2, y3, y4, y5, y6, y7, y8, _, _, _, _, _, _, _, _, _⟩ := HBX.out
    rcases HW.out with ⟨e1, e2⟩ | hw
    · have HE := Lib.hid e2
      rw [e1] at CW
      clear HW e1 e2 q1 c0
      go_wp2_with fail
      refine (CW.out _).mono ?_
      rintro e w3 ⟨rfl, hb3⟩
      have HB3 := Lib.hid (HB1.out.trans (hb3.mono HB1.out.size))
      have HX := Lib.hid (acts_same (x := .int .i64 5) (HT.out.below HB3.out) HB3.out)
      clear hb3
      go_wp2_with fail
      go_ret
      rw [editR_no (by rw [HE.out]; decide), HE.out]
      exact HX.out
    · have e1 : decide (1 < j.state) = false := hw.elim (fun h => h.1) (fun h => h.1)
      have HW2 : Hid ((mayJ (edited j a b c) = false ∧ editE l id a b c = 1) ∨ (mayJ (edited j a b c) = true ∧ editE l id a b c = 0)) := hw.elim (fun h => .inl h.2) (fun h => .inr h.2)
      rw [e1] at CW
      clear HW e1 hw q1 c0
      go_wp2_with fail
      refine (CW.out _).mono ?_
      rintro e w3 ⟨rfl, hb3⟩
      have HB3 := Lib.hid (HB1.out.trans (hb3.mono HB1.out.size))
      have HX3 := Lib.hid (HBX.out.below hb3)
      clear hb3 y y0 y1 y2 y3 y4 y5 y6 y7 y8 HB1 HBX
      obtain ⟨y, y0, y1, y2, y3, y4, y5, y6, y7, y8, f0, f1, f2, f3, f4, f5, f6, f7, f8⟩ := HX3.out
      have HB4 := Lib.hid (((HB3.out.setCell (Nat.le_refl _) (p := ⟨w1.heap.size, 2, none⟩) (.int .i64 a)).setCell (Nat.le_refl _) (p := ⟨w1.heap.size, 3, none⟩) (.int .i64 b)).setCell (Nat.le_refl _) (p := ⟨w1.heap.size, 4, none⟩) (.int .i64 c))
      have HX4 := Lib.hid (JobBox.edit HX3.out a b c)
      go_upto_region 9 with fail
      generalize ((w3.setCell ⟨w1.heap.size, 2, none⟩ (.int .i64 a)).setCell ⟨w1.heap.size, 3, none⟩ (.int .i64 b)).setCell ⟨w1.heap.size, 4, none⟩ (.int .i64 c) = w4 at *
      clear y y0 y1 y2 y3 y4 y5 y6 y7 y8 f0 f1 f2 f3 f4 f5 f6 f7 f8 HX3 HB3
      obtain ⟨y, y0, y1, y2, y3, y4, y5, y6, y7, y8, f0, f1, f2, f3, f4, f5, f6, f7, f8⟩ := HX4.out
      unfold edited at y0 y1 y2 y3 y4 y5 y6 y7 y8
      dsimp only at y0 y1 y2 y3 y4 y5 y6 y7 y8
      have CK2 : Hid (∀ W, Calls Try.prog 24 #[.agg #[.int .i64 j.id, .string j.user, .int .i64 a, .int .i64 b, .int .i64 c, .int .i64 j.sub, .int .i64 j.state, .int .i64 j.start, .int .i64 j.fin]] W (JobRef.IntB (JobWalk.checkN (edited j a b c)) W)) := CK.out
      clear CK
      rcases HW2.out with ⟨e1, e2⟩ | ⟨e1, e2⟩
      · have HE := Lib.hid e2
        rw [JobWalk.check_no e1] at CK2
        clear HW2 e1 e2
        go_wp2_with fail
        refine (CK2.out _).mono ?_
        rintro e w5 ⟨rfl, hb5⟩
        have HB5 := Lib.hid (HB4.out.trans (hb5.mono HB4.out.size))
        have HX := Lib.hid (acts_same (x := .int .i64 1) (HT.out.below HB5.out) HB5.out)
        clear hb5
        go_wp2_with fail
        go_ret
        rw [editR_no (by rw [HE.out]; decide), HE.out]
        exact HX.out
      · have HE := Lib.hid e2
        have HOK := Lib.hid (HK.out e1)
        rw [JobWalk.check_yes e1] at CK2
        clear HW2 e1 e2
        go_wp2_with fail
        refine (CK2.out _).mono ?_
        rintro e w5 ⟨rfl, hb5⟩
        have HB5 := Lib.hid (HB4.out.trans (hb5.mono HB4.out.size))
        have HT5 := Lib.hid (HT.out.below HB5.out)
        have HX5 := Lib.hid (HX4.out.below hb5)
        clear hb5 y y0 y1 y2 y3 y4 y5 y6 y7 y8 f0 f1 f2 f3 f4 f5 f6 f7 f8 HX4 HB4
        obtain ⟨y, y0, y1, y2, y3, y4, y5, y6, y7, y8, f0, f1, f2, f3, f4, f5, f6, f7, f8⟩ := HX5.out
        unfold edited at y0 y1 y2 y3 y4 y5 y6 y7 y8
        dsimp only at y0 y1 y2 y3 y4 y5 y6 y7 y8
        have c1 := HT5.out.box.c 0 _ rfl
        obtain ⟨w8, q8, hm8, hg8⟩ := store_any (w := w5.drew) (j := edited j a b c) HT5.out.map.drew (by unfold maxLen; omega) HID.out
        have HT8 := Lib.hid (HS.out (edited j a b c) w5 w8 HT5.out HOK.out rfl hm8 ⟨hg8.os, hg8.tape, hg8.output, hg8.size, hg8.block⟩)
        have HA := Lib.hid (acts_put (x := .int .i64 0) HT5.out HB5.out ⟨hg8.os, hg8.tape, hg8.output, hg8.size, hg8.block⟩ HT8.out)
        have e3 : (edited j a b c).id = id := HI2.out
        rw [e3] at q8
        unfold jobV jobA edited at q8
        dsimp only at q8
        clear hm8 hg8 e3
        go_upto_region 11 with fail
        go_region
        go_wp2_with fail
        go_ret
        rw [HR.out HE.out, HE.out]
        exact HA.out
set_option maxRecDepth 100000 in
set_option maxHeartbeats 1600000 in
theorem getS {O : List Nat} {l : List Jb} {v : Value} {w : World} (h : Tab O l w v) (hl : l.length ≤ 200) (id : Int) : Calls Try.prog 15 #[v, .int .i64 id] w (Acts Tab O l v w (.tuple #[jobV (getJ l id), .bool (decide (0 ≤ findL l id))])) := by
  obtain ⟨g, b, D, rfl, h0⟩ := h
  have HT := Lib.hid h0
  have HB0 := Lib.hid (below_box w (.cells #[.int .i64 noJb.id, .string noJb.user, .int .i64 noJb.width, .int .i64 noJb.est, .int .i64 noJb.prio, .int .i64 noJb.sub, .int .i64 noJb.state, .int .i64 noJb.start, .int .i64 noJb.fin] 28))
  have HX0 := Lib.hid (JobBox.new w noJb 28)
  unfold noJb at HB0 HX0
  dsimp only at HB0 HX0
  clear h0
  generalize hd : decide (0 ≤ findL l id) = d
  have HD := Lib.hid hd
  clear hd
  go_enter Try.func15, Try.ntmps15
  go_upto_region 1 with fail
  generalize w.alloc (.cells #[.int .i64 0, .string ⟨#[]⟩, .int .i64 0, .int .i64 0, .int .i64 0, .int .i64 0, .int .i64 0, .int .i64 0, .int .i64 0] 28) = w1 at *
  have HT1 := Lib.hid (HT.out.below HB0.out)
  have C1 := Lib.hid (isMadeS HT1.out.row)
  have q1 := look_any HT1.out.map HT1.out.is HT1.out.ids id true
  have c0 := HT1.out.box.c 0 _ rfl
  rw [HD.out] at q1
  unfold jobV jobA at q1
  go_wp2_with fail
  refine C1.out.mono ?_
  rintro e w2 ⟨rfl, rfl⟩
  clear C1
  have HJ := Lib.hid (rfl : getJ l id = getJ l id)
  generalize getJ l id = G at *
  go_upto_region 4 with fail
  have HB2 := Lib.hid (HB0.out.alloc HB0.out.size (.cells #[.int .i64 G.id, .string G.user, .int .i64 G.width, .int .i64 G.est, .int .i64 G.prio, .int .i64 G.sub, .int .i64 G.state, .int .i64 G.start, .int .i64 G.fin] 28))
  have HX2 := Lib.hid (HX0.out.alloc (.cells #[.int .i64 G.id, .string G.user, .int .i64 G.width, .int .i64 G.est, .int .i64 G.prio, .int .i64 G.sub, .int .i64 G.state, .int .i64 G.start, .int .i64 G.fin] 28))
  have HG2 := Lib.hid (JobBox.new w2 G 28)
  generalize w2.alloc (.cells #[.int .i64 G.id, .string G.user, .int .i64 G.width, .int .i64 G.est, .int .i64 G.prio, .int .i64 G.sub, .int .i64 G.state, .int .i64 G.start, .int .i64 G.fin] 28) = w3 at *
  clear q1 c0
  obtain ⟨y, y0, y1, y2, y3, y4, y5, y6, y7, y8, _, _, _, _, _, _, _, _, _⟩ := HG2.out
  obtain ⟨z, z0, z1, z2, z3, z4, z5, z6, z7, z8, f0, f1, f2, f3, f4, f5, f6, f7, f8⟩ := HX2.out
  go_wp2_with fail
  change bodyPost _ _ _ Exit.ret _ (storedJ w3 w.heap.size G)
  have HS := Lib.hid (HX2.out.stored G)
  have HBS := Lib.hid (below_stored HB2.out (Nat.le_refl _) G)
  clear y y0 y1 y2 y3 y4 y5 y6 y7 y8 z z0 z1 z2 z3 z4 z5 z6 z7 z8 f0 f1 f2 f3 f4 f5 f6 f7 f8 HX2 HB2 HG2
  generalize storedJ w3 w.heap.size G = w9 at *
  obtain ⟨z, z0, z1, z2, z3, z4, z5, z6, z7, z8, _, _, _, _, _, _, _, _, _⟩ := HS.out
  exact bodyPost_ret (v := .tuple #[jobV G, .bool d]) (by simp [results, Try.results15, go_sem, z0, z1, z2, z3, z4, z5, z6, z7, z8, jobV, jobA]) rfl (acts_same (HT.out.below HBS.out) HBS.out)
set_option maxRecDepth 100000 in
set_option maxHeartbeats 1600000 in
theorem noGet {w : World} {v : Value} (h : NoTab w v) (id : Int) : Calls Try.prog 15 #[v, .int .i64 id] w (ValT (.tuple #[jobV noJb, .bool false]) w) := by
  have HB0 := Lib.hid (below_box w (.cells #[.int .i64 noJb.id, .string noJb.user, .int .i64 noJb.width, .int .i64 noJb.est, .int .i64 noJb.prio, .int .i64 noJb.sub, .int .i64 noJb.state, .int .i64 noJb.start, .int .i64 noJb.fin] 28))
  have HX0 := Lib.hid (JobBox.new w noJb 28)
  unfold noJb at HB0 HX0
  dsimp only at HB0 HX0
  have C1 := Lib.hid (noMade (h.below HB0.out))
  clear h
  go_enter Try.func15, Try.ntmps15
  go_upto_region 1 with fail
  generalize w.alloc (.cells #[.int .i64 0, .string ⟨#[]⟩, .int .i64 0, .int .i64 0, .int .i64 0, .int .i64 0, .int .i64 0, .int .i64 0, .int .i64 0] 28) = w1 at *
  go_wp2_with fail
  refine C1.out.mono ?_
  rintro e w2 ⟨rfl, rfl⟩
  clear C1
  obtain ⟨z, z0, z1, z2, z3, z4, z5, z6, z7, z8, f0, f1, f2, f3, f4, f5, f6, f7, f8⟩ := HX0.out
  go_wp2_with fail
  change bodyPost _ _ _ Exit.ret _ (storedJ w2 w.heap.size noJb)
  have HS := Lib.hid (HX0.out.stored noJb)
  have HBS := Lib.hid (below_stored HB0.out (Nat.le_refl _) noJb)
  clear z z0 z1 z2 z3 z4 z5 z6 z7 z8 f0 f1 f2 f3 f4 f5 f6 f7 f8 HX0 HB0
  generalize storedJ w2 w.heap.size noJb = w9 at *
  obtain ⟨z, z0, z1, z2, z3, z4, z5, z6, z7, z8, _, _, _, _, _, _, _, _, _⟩ := HS.out
  exact bodyPost_ret (v := .tuple #[jobV noJb, .bool false]) (by simp [results, Try.results15, go_sem, z0, z1, z2, z3, z4, z5, z6, z7, z8, jobV, jobA]) rfl ⟨rfl, HBS.out⟩
end Go.Proofs.Ytjegkddpaampmaa.TabWalk
