/-
  The walks of the document's answers for layer 3: Ends.
-/
import Derived.Test.YtoaehmnmejlkbaaSpanRefB
import Derived.Test.YtoaehmnmejlkbaaSpanParts
import Derived.Deep.RegionHeld3
import Derived.Deep.CutBlock
import Derived.Deep.DeepCutAuto
namespace Go.Proofs.Ytoaehmnmejlkbaa.SpanRef
open Go.RowKit Go.Proofs.Ytoaehmnmejlkbaa.SpanPlain Go.Proofs.Ytoaehmnmejlkbaa.Mem Go.Proofs.Ytoaehmnmejlkbaa.SpanMem

theorem ends_take {l : List Sp} {k : Nat} (hk : k < l.length) : endsL (l.take (k + 1)) = endsStep (endsL (l.take k)) (l.getD k (0, 0)) := by
  rw [List.take_succ_eq_append_getElem hk, endsL_snoc]
  simp [List.getD, hk]
theorem ends_take_len {l : List Sp} {k : Nat} (hl : l.length ≤ 4000) : (endsL (l.take k)).length ≤ 8000 := by
  have := (ends_spec (l.take k)).2.2
  rw [List.length_take] at this
  omega

set_option maxHeartbeats 3200000 in
theorem ends_any (l : List Sp) (v : Value) (w : World) (hv : SpansIs l w v) (hl : l.length ≤ 4000) : Calls Try.prog 19 #[v] w (PutIs (endsL l) w) := by
  obtain ⟨A, c, rfl, hA⟩ := hv.open_
  have HA := Lib.hid hA
  clear hA hv
  go_enter Try.func19, Try.ntmps19
  go_wp2_with fail
  go_loopw [3, 4] (fun o i wr => ∃ (k : Nat) (v : Value), v = o ∧ i = .int .i64 k ∧ k ≤ l.length ∧ Hid (IntsIs (endsL (l.take k)) wr v) ∧ Hid (Below w.heap.size w wr)) (fun _ i _ => l.length - (intOf i).toNat)
  case atStart => exact ⟨0, _, rfl, rfl, Nat.zero_le _, OwnR.ints (OwnR.new w 3 1) rfl, (Below.refl _ _).alloc (Nat.le_refl _) _⟩
  case round =>
    obtain ⟨k, v, hv, rfl, hk, HV, HB⟩ := hrel
    subst hv
    by_cases hlt : k < l.length
    · obtain ⟨ad, rfl, had, c1, c2⟩ := (HA.out.below HB.out) k hlt
      have HE := Lib.hid (ends_take hlt)
      have HL := Lib.hid (ends_take_len (l := l) (k := k) hl)
      have C1 := Lib.hid (fun w => may_any (l.getD k (0, 0)) w)
      unfold spV at C1
      unfold spCell at c1 c2
      dsimp only at c1 c2
      generalize l.getD k (0, 0) = s at *
      generalize endsL (l.take k) = o at *
      cases hm : mayB s with
      | false =>
        rw [hm] at C1
        have HM := Lib.hid hm
        clear hm
        go_wp2_with fail
        refine (C1.out _).mono ?_
        rintro e w1 ⟨rfl, hb1⟩
        have HB1 := Lib.hid hb1
        clear hb1
        go_wp2_with fail
        exact ⟨⟨k + 1, _, rfl, by go_num, by omega, by rw [HE.out]; unfold endsStep; rw [if_neg (by rw [HM.out]; simp)]; exact HV.out.below HB1.out, below_then HB.out HB1.out⟩, by simp [intOf] <;> omega⟩
      | true =>
        rw [hm] at C1
        have HM := Lib.hid hm
        clear hm
        go_wp2_with fail
        refine (C1.out _).mono ?_
        rintro e w1 ⟨rfl, hb1⟩
        obtain ⟨had1, d1, d2⟩ := pair_below hb1 had c1 c2
        have HB1 := Lib.hid hb1
        clear hb1 c1 c2 had
        have P1 := Lib.hid (put_any o s.1 v w1 (HV.out.below HB1.out) (by have := HL.out; omega))
        have hl2 := putL_len o s.1
        go_upto_region 6 with fail
        go_region_held3 (fun w' => w'.cell? (ad.add (k * 2)) = some (.int .i64 s.1) ∧ w'.cell? ⟨(ad.add (k * 2)).block, (ad.add (k * 2)).off + 1, none⟩ = some (.int .i64 s.2) ∧ ad.block < w'.heap.size)
          (first | go_keep | (go_split_ands; exact pairs_held (by assumption) (by assumption) (by assumption) (by assumption)))
          (first
            | (go_at_call_of 22 v; (refine (put_any o s.1 v _ (IntsIs.drew (HV.out.below HB1.out)) (by have := HL.out; omega)).mono ?_; rintro e w2 ⟨v1, rfl, hi1, hb2⟩))
            | (go_at_call_of 22 v1; (refine (put_any (putL o s.1) s.2 v1 _ hi1 (by have := HL.out; omega)).mono ?_; rintro e w3 ⟨v2, rfl, hi2, hb3⟩)))
        have HB3 := Lib.hid (below_then HB.out (below_then HB1.out (below_then (below_of_drew hb2) hb3)))
        have HI := Lib.hid hi2
        clear hb2 hb3 hi1 hi2 hl2 P1
        go_wp2_with fail
        exact ⟨⟨k + 1, _, rfl, by go_num, by omega, by rw [HE.out]; unfold endsStep; rw [if_pos HM.out]; exact HI.out, HB3.out⟩, by simp [intOf] <;> omega⟩
    · go_wp2_with fail
      go_ret
      have h := HV.out
      rw [List.take_of_length_le (by omega)] at h
      exact ⟨_, rfl, h, HB.out⟩

/-- How many times a cover's spans have together. -/
theorem tot_take {l : List Sp} {k : Nat} (hk : k < l.length) : totL (l.take (k + 1)) = totL (l.take k) + (l.getD k (0, 0)).2 - (l.getD k (0, 0)).1 := by
  rw [List.take_succ_eq_append_getElem hk, totL_snoc]
  simp [List.getD, hk]
theorem cov_take {l : List Sp} (h : Cov l) (k : Nat) : Cov (l.take k) := ⟨fun s hs => h.1 s (List.mem_of_mem_take hs), h.2.sublist (List.take_sublist k l)⟩
theorem cov_at {l : List Sp} (h : Cov l) {k : Nat} (hk : k < l.length) : May (l.getD k (0, 0)) := by
  have e : l.getD k (0, 0) = l[k] := by simp [List.getD, hk]
  rw [e]; exact h.1 _ (List.getElem_mem hk)

set_option maxHeartbeats 1600000 in
theorem total_any (l : List Sp) (v : Value) (w : World) (hv : SpansIs l w v) (hm : Cov l) (hl : l.length ≤ 8000) : Calls Try.prog 18 #[v] w fun e w' => e = .returned (.int .i64 (totL l)) ∧ ∃ n, w' = w.drewN n := by
  obtain ⟨A, c, rfl, hA⟩ := hv.open_
  have HA := Lib.hid hA
  have HM := Lib.hid hm
  clear hA hv hm
  go_enter Try.func18, Try.ntmps18
  go_wp2_with fail
  go_loopw [3, 4] (fun n i wr => ∃ k : Nat, n = .int .i64 (totL (l.take k)) ∧ i = .int .i64 k ∧ k ≤ l.length ∧ Hid (∃ q, wr = w.drewN q)) (fun _ i _ => l.length - (intOf i).toNat)
  case atStart => exact ⟨0, rfl, rfl, Nat.zero_le _, ⟨0, rfl⟩⟩
  case round =>
    obtain ⟨k, rfl, rfl, hk, HW⟩ := hrel
    obtain ⟨q, rfl⟩ := HW.out
    by_cases hlt : k < l.length
    · obtain ⟨ad, rfl, had, c1, c2⟩ := HA.out k hlt
      obtain ⟨b1, b2⟩ := tot_range (cov_take HM.out k)
      obtain ⟨m1, m2, m3⟩ := cov_at HM.out hlt
      have HT := Lib.hid (tot_take hlt)
      unfold spCell at c1 c2
      dsimp only at c1 c2
      generalize l.getD k (0, 0) = s at *
      generalize totL (l.take k) = n at *
      have w1' : IntKind.i64.wrap (n + s.2) = n + s.2 := by rw [IntKind.wrap_i64]; omega
      have w2' : IntKind.i64.wrap (n + s.2 - s.1) = n + s.2 - s.1 := by rw [IntKind.wrap_i64]; omega
      have hlt2 : (k : Int) < (l.length : Int) := by omega
      clear had b1 b2 m1 m2 m3 HW
      go_wp2_with fail
      go_quiet (fail)
      go_wp2_with fail
      exact ⟨⟨k + 1, by rw [HT.out], by go_num, by omega, ⟨_, rfl⟩⟩, by simp [intOf] <;> omega⟩
    · go_wp2_with fail
      go_ret
      exact ⟨by rw [List.take_of_length_le (by omega)]; rfl, q, rfl⟩

def SameIs (b : Bool) (w : World) (e : Ending) (w' : World) : Prop := e = .returned (.bool b) ∧ ∃ n, w' = w.drewN n
theorem same_take {a b : List Sp} {k : Nat} (ha : k < a.length) (hb : k < b.length) (h : a.take k = b.take k) (he : a.getD k (0, 0) = b.getD k (0, 0)) : a.take (k + 1) = b.take (k + 1) := by
  rw [List.take_succ_eq_append_getElem ha, List.take_succ_eq_append_getElem hb, h]
  simp [List.getD, ha, hb] at he
  rw [he]
theorem same_not {a b : List Sp} {k : Nat} (ha : k < a.length) (hb : k < b.length) (he : a.getD k (0, 0) ≠ b.getD k (0, 0)) : a ≠ b := fun h => by subst h; exact he rfl

set_option maxHeartbeats 1600000 in
theorem same_any (a b : List Sp) (v u : Value) (w : World) (hv : SpansIs a w v) (hu : SpansIs b w u) (hl : a.length ≤ 4000) (hm : b.length ≤ 4000) : Calls Try.prog 14 #[v, u] w (SameIs (decide (a = b)) w) := by
  obtain ⟨A, c, rfl, hA⟩ := hv.open_
  obtain ⟨B, d, rfl, hB⟩ := hu.open_
  have HA := Lib.hid hA
  have HB := Lib.hid hB
  clear hA hB hv hu
  by_cases hlen : a.length = b.length
  · rw [← hlen] at HB ⊢
    have HL := Lib.hid hlen
    clear hlen hm
    go_enter Try.func14, Try.ntmps14
    go_wp2_with fail
    go_loopw [5] (fun i wr => ∃ k : Nat, i = .int .i64 k ∧ k ≤ a.length ∧ Hid (a.take k = b.take k) ∧ Hid (∃ q, wr = w.drewN q)) (fun i _ => a.length - (intOf i).toNat)
    case atStart => exact ⟨0, rfl, Nat.zero_le _, rfl, ⟨0, rfl⟩⟩
    case round =>
      obtain ⟨k, rfl, hk, HS, HW⟩ := hrel
      obtain ⟨q, rfl⟩ := HW.out
      by_cases hlt : k < a.length
      · obtain ⟨ad, rfl, had, c1, c2⟩ := HA.out k hlt
        obtain ⟨bd, rfl, hbd, d1, d2⟩ := HB.out k hlt
        have hlb : k < b.length := by rw [← HL.out]; exact hlt
        have HN := Lib.hid (fun h => same_take hlt hlb HS.out h)
        have HX := Lib.hid (fun h => same_not hlt hlb h)
        unfold spCell at c1 c2 d1 d2
        dsimp only at c1 c2 d1 d2
        generalize a.getD k (0, 0) = s at *
        generalize b.getD k (0, 0) = r at *
        have hlt2 : (k : Int) < (a.length : Int) := by omega
        clear had hbd HW hlb
        by_cases he : s = r
        · subst he
          have HN2 := Lib.hid (HN.out rfl)
          go_wp2_with fail
          go_quiet (fail)
          go_wp2_with fail
          exact ⟨⟨k + 1, by go_num, by omega, HN2.out, ⟨_, rfl⟩⟩, by simp [intOf] <;> omega⟩
        · have HX2 := Lib.hid (HX.out he)
          have hne : (s.1 == r.1) = false ∨ ((s.1 == r.1) = true ∧ (s.2 == r.2) = false) := by
            by_cases h1 : s.1 = r.1
            · right; exact ⟨beq_iff_eq.2 h1, beq_eq_false_iff_ne.2 fun h2 => he (Prod.ext h1 h2)⟩
            · left; exact beq_eq_false_iff_ne.2 h1
          clear he
          rcases hne with h1 | ⟨h1, h2⟩
          all_goals
            go_wp2_with fail
            go_quiet (fail)
            go_wp2_with fail
            go_ret
            exact ⟨by rw [decide_eq_false HX2.out]; rfl, _, World.drewN_drewN _ _ _⟩
      · have h := HS.out
        rw [List.take_of_length_le (by omega), List.take_of_length_le (by rw [← HL.out]; omega)] at h
        have H := Lib.hid h
        clear h
        go_wp2_with fail
        go_ret
        exact ⟨by rw [decide_eq_true H.out]; rfl, q, rfl⟩
  · have hne : ((a.length : Int) != (b.length : Int)) = true := by rw [bne_iff_ne]; omega
    have H : Hid (a ≠ b) := fun h => hlen (by rw [h])
    clear hlen
    go_enter Try.func14, Try.ntmps14
    go_wp2_with fail
    go_ret
    exact ⟨by rw [decide_eq_false H.out]; rfl, 0, rfl⟩
end Go.Proofs.Ytoaehmnmejlkbaa.SpanRef
