/-
  The walks of the document's answers for layer 11: Turn, Edit.
-/
import Derived.Test.YtjegkddpaampmaaTabRefB
import Derived.Test.YtjegkddpaampmaaTabRefC
import Derived.Test.YtjegkddpaampmaaJobRefC
namespace Go.Proofs.Ytjegkddpaampmaa.TabRef
open Go.RowKit Go.Proofs.Ytjegkddpaampmaa.JobPlain Go.Proofs.Ytjegkddpaampmaa.OrdPlain Go.Proofs.Ytjegkddpaampmaa.TabPlain Go.Proofs.Ytjegkddpaampmaa.Mem Go.Proofs.Ytjegkddpaampmaa.JobMem Go.Proofs.Ytjegkddpaampmaa.OrdMem Go.Proofs.Ytjegkddpaampmaa.OrdRef
theorem find_range (l : List Jb) (id : Int) : findL l id = -1 ∨ ∃ k : Nat, k < l.length ∧ findL l id = k := by
  unfold findL findTo
  cases h : l.findIdx? (fun j => j.id == id) with
  | none => exact .inl rfl
  | some k =>
    refine .inr ⟨k, ?_, rfl⟩
    rw [List.findIdx?_eq_some_iff_getElem] at h
    exact h.1
theorem atI_nat {l : List Jb} {k : Nat} (h : k < l.length) : atI l (k : Int) = l[k] := by unfold atI; simp [List.getD, h]
theorem JobBox.boxed {w : World} {n : Nat} {j : Jb} (h : JobBox w n j) : Boxed w n (jobA j).toList := ⟨h.lt, fun i u hu => by
    match i, hu with
    | 0, hu => cases hu; exact h.c0
    | 1, hu => cases hu; exact h.c1
    | 2, hu => cases hu; exact h.c2
    | 3, hu => cases hu; exact h.c3
    | 4, hu => cases hu; exact h.c4
    | 5, hu => cases hu; exact h.c5
    | 6, hu => cases hu; exact h.c6
    | 7, hu => cases hu; exact h.c7
    | 8, hu => cases hu; exact h.c8
    | n + 9, hu => simp [jobA] at hu, fun i u hu => by
    match i, hu with
    | 0, hu => exact h.f0
    | 1, hu => exact h.f1
    | 2, hu => exact h.f2
    | 3, hu => exact h.f3
    | 4, hu => exact h.f4
    | 5, hu => exact h.f5
    | 6, hu => exact h.f6
    | 7, hu => exact h.f7
    | 8, hu => exact h.f8
    | n + 9, hu => simp [jobA] at hu⟩
theorem JobBox.edit {w : World} {n : Nat} {j : Jb} (h : JobBox w n j) (a b c : Int) : JobBox (((w.setCell ⟨n, 2, none⟩ (.int .i64 a)).setCell ⟨n, 3, none⟩ (.int .i64 b)).setCell ⟨n, 4, none⟩ (.int .i64 c)) n (edited j a b c) := by
  have h1 := (((JobBox.boxed h).set 2 (.int .i64 a)).set 3 (.int .i64 b)).set 4 (.int .i64 c)
  exact JobBox.of (j := edited j a b c) h1
def JobsFit (l : List Jb) : Prop := ∀ j ∈ l, Fit j
theorem turnE_none {l : List Jb} {id ev t : Int} (h : findL l id < 0) : turnE l id ev t = 3 := by unfold turnE; rw [if_pos h]
theorem turnE_at {l : List Jb} {id ev t : Int} {k : Nat} (hk : k < l.length) (h : findL l id = k) : turnE l id ev t = (turnL l[k] ev t).2 := by unfold turnE; rw [if_neg (by omega), h, atI_nat hk]
theorem turnR_no {l : List Jb} {id ev t : Int} (h : turnE l id ev t ≠ 0) : turnR l id ev t = l := by unfold turnR; rw [if_neg h]
theorem turnR_at {l : List Jb} {id ev t : Int} {k : Nat} (hk : k < l.length) (h : findL l id = k) (h0 : turnE l id ev t = 0) : turnR l id ev t = l.set k (turnL l[k] ev t).1 := by unfold turnR; rw [if_pos h0, h, atI_nat hk]; rfl
set_option maxRecDepth 100000 in
set_option maxHeartbeats 3200000 in
theorem turn11 (l : List Jb) (id ev t : Int) (v : Value) (w : World) (hv : JobsIs l w v) (hf : JobsFit l) (hl : l.length ≤ 10000) (ht : -9223372036854775808 ≤ t ∧ t ≤ 9223372036854775807) : Calls Try.prog 11 #[v, .int .i64 id, .int .i64 ev, .int .i64 t] w (ListSays l (turnR l id ev t) (turnE l id ev t) v w) := by
  have CF := Lib.hid (find8 l id v w hv (by omega))
  have HV := Lib.hid hv
  have CP := Lib.hid (fun k x W (hb : Below w.heap.size w W) (hk : k < l.length) => put11 l k x v W (hv.below hb) hk (by omega))
  obtain ⟨A, c, rfl, hn, hA⟩ := hv.open_
  rcases find_range l id with h | ⟨k, hk, h⟩
  · have HE := Lib.hid (turnE_none (ev := ev) (t := t) (show findL l id < 0 by omega))
    have HZ := Lib.hid (turnR_no (l := l) (id := id) (ev := ev) (t := t) (by rw [HE.out]; decide))
    rw [h] at CF
    clear h hv hf hA CP
    go_enter Try.func11, Try.ntmps11
    go_wp2_with fail
    refine CF.out.mono ?_
    rintro e w1 ⟨rfl, rfl⟩
    go_wp2_with fail
    go_ret2
    rw [HE.out, HZ.out]
    exact ⟨_, rfl, HV.out, .inl ⟨rfl, rfl⟩, Below.refl _ _⟩
  · have HE := Lib.hid (turnE_at (ev := ev) (t := t) hk h)
    have HNO := Lib.hid (fun h0 => turnR_no (l := l) (id := id) (ev := ev) (t := t) h0)
    have HYES := Lib.hid (fun h0 => turnR_at (ev := ev) (t := t) hk h h0)
    obtain ⟨ad, rfl, ⟨p, p0, p1, p2, p3, p4, p5, p6, p7, p8⟩⟩ := hA k hk
    have CT := Lib.hid (JobRef.turn7 l[k] ev t w (hf _ (List.getElem_mem hk)) ht)
    have CPk := Lib.hid (fun x W hb => CP.out k x W hb hk)
    unfold JobRef.TurnIs at CT
    have d0 : decide ((k : Int) < 0) = false := decide_eq_false (by omega)
    have i0 : (0 : Int) ≤ (k : Int) := Int.natCast_nonneg _
    have i1 : (k : Int) < (l.length : Int) := by omega
    rw [h] at CF
    generalize turnE l id ev t = E at *
    generalize turnR l id ev t = R at *
    generalize turnL l[k] ev t = T at *
    obtain ⟨x, n⟩ := T
    dsimp only at *
    generalize l[k] = z at *
    clear h hv hf hA CP
    unfold jobV jobA at *
    have HX := Lib.hid (JobBox.new w x 28)
    go_enter Try.func11, Try.ntmps11
    go_wp2_with fail
    refine CF.out.mono ?_
    rintro e w1 ⟨rfl, rfl⟩
    go_wp2_with fail
    refine CT.out.mono ?_
    rintro e w1 ⟨rfl, hb1⟩
    have HB1 := Lib.hid hb1
    have HBX := Lib.hid (hb1.alloc hb1.size (.cells #[.int .i64 x.id, .string x.user, .int .i64 x.width, .int .i64 x.est, .int .i64 x.prio, .int .i64 x.sub, .int .i64 x.state, .int .i64 x.start, .int .i64 x.fin] 28))
    have HX1 := Lib.hid (JobBox.new w1 x 28)
    clear hb1 HX CT CF
    obtain ⟨y, y0, y1, y2, y3, y4, y5, y6, y7, y8, _, _, _, _, _, _, _, _, _⟩ := HX1.out
    by_cases hz : n = 0
    · subst hz
      have e0 : ((0 : Int) != 0) = false := by decide
      have HZ := Lib.hid (HYES.out HE.out)
      go_wp2_with fail
      refine (CPk.out _ _ HBX.out).mono ?_
      rintro e w2 ⟨v2, rfl, hj2, hfr, hb2⟩
      have HJ2 := Lib.hid hj2
      have HFR := Lib.hid hfr
      have HB2 := Lib.hid (below_then HBX.out hb2)
      have hsz := HBX.out.size
      clear hj2 hfr hb2
      go_wp2_with fail
      go_ret2
      rw [HE.out, HZ.out]
      exact ⟨_, rfl, HJ2.out, .inr (fun a m q e => Nat.le_trans hsz (HFR.out a m q e)), HB2.out⟩
    · have e0 : (n != 0) = true := by simpa using hz
      have HZ := Lib.hid (HNO.out (by rw [HE.out]; exact hz))
      go_wp2_with fail
      go_ret2
      rw [HE.out, HZ.out]
      exact ⟨_, rfl, HV.out.below HBX.out, .inl ⟨rfl, rfl⟩, HBX.out⟩
theorem editE_none {l : List Jb} {id a b c : Int} (h : findL l id < 0) : editE l id a b c = 3 := by unfold editE; rw [if_pos h]
theorem edit_ways {l : List Jb} {id a b c : Int} {k : Nat} (hk : k < l.length) (h : findL l id = k) : (decide (1 < l[k].state) = true ∧ editE l id a b c = 5) ∨ (decide (1 < l[k].state) = false ∧ mayJ (edited l[k] a b c) = false ∧ editE l id a b c = 1) ∨ (decide (1 < l[k].state) = false ∧ mayJ (edited l[k] a b c) = true ∧ editE l id a b c = 0) := by
  unfold editE
  rw [if_neg (by omega), h, atI_nat hk]
  by_cases h1 : 1 < l[k].state
  · exact .inl ⟨decide_eq_true h1, if_pos h1⟩
  · rw [if_neg h1]
    cases hm : mayJ (edited l[k] a b c) with
    | false => exact .inr (.inl ⟨decide_eq_false h1, rfl, if_pos rfl⟩)
    | true => exact .inr (.inr ⟨decide_eq_false h1, rfl, if_neg (by decide)⟩)
theorem editR_no {l : List Jb} {id a b c : Int} (h : editE l id a b c ≠ 0) : editR l id a b c = l := by unfold editR; rw [if_neg h]
theorem editR_at {l : List Jb} {id a b c : Int} {k : Nat} (hk : k < l.length) (h : findL l id = k) (h0 : editE l id a b c = 0) : editR l id a b c = l.set k (edited l[k] a b c) := by unfold editR; rw [if_pos h0, h, atI_nat hk]; rfl
set_option maxRecDepth 100000 in
set_option maxHeartbeats 3200000 in
theorem edit11 (l : List Jb) (id a b c : Int) (v : Value) (w : World) (hv : JobsIs l w v) (hf : JobsFit l) (hl : l.length ≤ 10000) : Calls Try.prog 13 #[v, .int .i64 id, .int .i64 a, .int .i64 b, .int .i64 c] w (ListSays l (editR l id a b c) (editE l id a b c) v w) := by
  have CF := Lib.hid (find8 l id v w hv (by omega))
  have HV := Lib.hid hv
  have CP := Lib.hid (fun k x W (hb : Below w.heap.size w W) (hk : k < l.length) => put11 l k x v W (hv.below hb) hk (by omega))
  obtain ⟨A, q, rfl, hn, hA⟩ := hv.open_
  rcases find_range l id with h | ⟨k, hk, h⟩
  · have HE := Lib.hid (editE_none (a := a) (b := b) (c := c) (show findL l id < 0 by omega))
    have HZ := Lib.hid (editR_no (l := l) (id := id) (a := a) (b := b) (c := c) (by rw [HE.out]; decide))
    rw [h] at CF
    clear h hv hf hA CP
    go_enter Try.func13, Try.ntmps13
    go_wp2_with fail
    refine CF.out.mono ?_
    rintro e w1 ⟨rfl, rfl⟩
    go_wp2_with fail
    go_ret2
    rw [HE.out, HZ.out]
    exact ⟨_, rfl, HV.out, .inl ⟨rfl, rfl⟩, Below.refl _ _⟩
  · have hways := edit_ways (a := a) (b := b) (c := c) hk h
    have HNO := Lib.hid (fun h0 => editR_no (l := l) (id := id) (a := a) (b := b) (c := c) h0)
    have HYES := Lib.hid (fun h0 => editR_at (a := a) (b := b) (c := c) hk h h0)
    obtain ⟨ad, rfl, ⟨p, p0, p1, p2, p3, p4, p5, p6, p7, p8⟩⟩ := hA k hk
    have CM := Lib.hid (fun W => JobRef.may7 (edited l[k] a b c) W (show Fit (edited l[k] a b c) from hf l[k] (List.getElem_mem hk)))
    have CPk := Lib.hid (fun x W hb => CP.out k x W hb hk)
    have d0 : decide ((k : Int) < 0) = false := decide_eq_false (by omega)
    have i0 : (0 : Int) ≤ (k : Int) := Int.natCast_nonneg _
    have i1 : (k : Int) < (l.length : Int) := by omega
    rw [h] at CF
    generalize editE l id a b c = E at *
    generalize editR l id a b c = R at *
    generalize l[k] = z at *
    clear h hv hf hA CP
    have HX := Lib.hid (JobBox.new w z 28)
    have HBX := Lib.hid (below_box w (.cells #[.int .i64 z.id, .string z.user, .int .i64 z.width, .int .i64 z.est, .int .i64 z.prio, .int .i64 z.sub, .int .i64 z.state, .int .i64 z.start, .int .i64 z.fin] 28))
    unfold jobV jobA at CM CPk
    unfold edited at CM
    dsimp only at CM
    rcases hways with ⟨h1, hE⟩ | ⟨h1, h2, hE⟩ | ⟨h1, h2, hE⟩
    · have HE := Lib.hid hE
      have HZ := Lib.hid (HNO.out (by rw [hE]; decide))
      clear hE HNO HYES
      go_enter Try.func13, Try.ntmps13
      go_wp2_with fail
      refine CF.out.mono ?_
      rintro e w1 ⟨rfl, rfl⟩
      obtain ⟨y, y0, y1, y2, y3, y4, y5, y6, y7, y8, _, _, _, _, _, _, _, _, _⟩ := HX.out
      go_wp2_with fail
      go_ret2
      rw [HE.out, HZ.out]
      exact ⟨_, rfl, HV.out.below HBX.out, .inl ⟨rfl, rfl⟩, HBX.out⟩
    all_goals
      have HE := Lib.hid hE
      unfold edited at h2
      rw [h2] at CM
      clear hE h2
      go_enter Try.func13, Try.ntmps13
      go_wp2_with fail
      refine CF.out.mono ?_
      rintro e w1 ⟨rfl, rfl⟩
      obtain ⟨y, y0, y1, y2, y3, y4, y5, y6, y7, y8, f0, f1, f2, f3, f4, f5, f6, f7, f8⟩ := HX.out
      have HX2 : Hid (JobBox (w.alloc (.cells #[.int .i64 z.id, .string z.user, .int .i64 a, .int .i64 b, .int .i64 c, .int .i64 z.sub, .int .i64 z.state, .int .i64 z.start, .int .i64 z.fin] 28)) w.heap.size (edited z a b c)) := JobBox.new w (edited z a b c) 28
      have HB2 := Lib.hid (below_box w (.cells #[.int .i64 z.id, .string z.user, .int .i64 a, .int .i64 b, .int .i64 c, .int .i64 z.sub, .int .i64 z.state, .int .i64 z.start, .int .i64 z.fin] 28))
      go_upto_region 8 with fail
      generalize w.alloc (.cells #[.int .i64 z.id, .string z.user, .int .i64 a, .int .i64 b, .int .i64 c, .int .i64 z.sub, .int .i64 z.state, .int .i64 z.start, .int .i64 z.fin] 28) = w3 at *
      clear y y0 y1 y2 y3 y4 y5 y6 y7 y8 f0 f1 f2 f3 f4 f5 f6 f7 f8 HX HBX
      have HX3 := HX2.out
      unfold edited at HX3
      obtain ⟨y, y0, y1, y2, y3, y4, y5, y6, y7, y8, _, _, _, _, _, _, _, _, _⟩ := HX3
      dsimp only at y0 y1 y2 y3 y4 y5 y6 y7 y8
      go_wp2_with fail
      refine (CM.out _).mono ?_
      rintro e w4 ⟨rfl, hb4⟩
      have HX4 := HX2.out.below hb4
      have HB4 := Lib.hid (below_then HB2.out hb4)
      clear hb4 y y0 y1 y2 y3 y4 y5 y6 y7 y8 HX2
      unfold edited at HX4
      obtain ⟨y, y0, y1, y2, y3, y4, y5, y6, y7, y8, _, _, _, _, _, _, _, _, _⟩ := HX4
      dsimp only at y0 y1 y2 y3 y4 y5 y6 y7 y8
    · have HZ := Lib.hid (HNO.out (by rw [HE.out]; decide))
      go_wp2_with fail
      go_ret2
      rw [HE.out, HZ.out]
      exact ⟨_, rfl, HV.out.below HB4.out, .inl ⟨rfl, rfl⟩, HB4.out⟩
    · have HZ := Lib.hid (HYES.out HE.out)
      have CPz := Lib.hid (CPk.out (edited z a b c) w4 HB4.out)
      unfold edited at CPz HZ
      dsimp only at CPz
      go_wp2_with fail
      refine CPz.out.mono ?_
      rintro e w5 ⟨v2, rfl, hj2, hfr, hb2⟩
      have HJ2 := Lib.hid hj2
      have HFR := Lib.hid hfr
      have HB5 := Lib.hid (below_then HB4.out hb2)
      have hsz := HB4.out.size
      clear hj2 hfr hb2
      go_wp2_with fail
      go_ret2
      rw [HE.out, HZ.out]
      exact ⟨_, rfl, HJ2.out, .inr (fun a m q e => Nat.le_trans hsz (HFR.out a m q e)), HB5.out⟩
end Go.Proofs.Ytjegkddpaampmaa.TabRef
