/-
  The walks of the document's answers for layer 3: Ends.
-/
import Derived.Test.YtalopnkdnlkdoaaSpanRefB
import Derived.Test.YtalopnkdnlkdoaaSpanPlain
import Derived.Deep.RegionHeld3
import Derived.Deep.CutBlock
import Derived.Deep.DeepCutAuto
namespace Go.Proofs.Ytalopnkdnlkdoaa.SpanRef
open Go.RowKit Go.Proofs.Ytalopnkdnlkdoaa.SpanPlain Go.Proofs.Ytalopnkdnlkdoaa.Mem Go.Proofs.Ytalopnkdnlkdoaa.SpanMem
theorem ends_take {l : List Sp} {k : Nat} (hk : k < l.length) : endsL (l.take (k + 1)) = endsStep (endsL (l.take k)) (l.getD k (0, 0)) := by
  rw [List.take_succ_eq_append_getElem hk, endsL_snoc]
  simp [List.getD, hk]
theorem ends_take_len {l : List Sp} {k : Nat} (hl : l.length ≤ 4000) : (endsL (l.take k)).length ≤ 8000 := by
  have := (ends_spec (l.take k)).2.2
  rw [List.length_take] at this
  omega
set_option maxHeartbeats 3200000 in
theorem ends_any (l : List Sp) (v : Value) (w : World) (hv : SpansIs l w v) (hl : l.length ≤ 4000) : Calls Try.prog 32 #[v] w (PutIs (endsL l) w) := by
  obtain ⟨A, c, rfl, hA⟩ := hv.open_
  have HA := Lib.hid hA
  clear hA hv
  go_enter Try.func32, Try.ntmps32
  go_wp2_with fail
  go_loopw [3, 4] (fun o i wr => ∃ (k : Nat) (v : Value), v = o ∧ i = .int .i64 k ∧ k ≤ l.length ∧ Hid (IntsIs (endsL (l.take k)) wr v) ∧ Hid (Below w.heap.size w wr)) (fun _ i _ => l.length - (intOf i).toNat)
  case atStart => exact ⟨0, _, rfl, rfl, Nat.zero_le _, OwnR.ints (OwnR.new w 3 1) rfl, (Below.refl _ _).alloc (Nat.le_refl _) _⟩
  case round =>
    obtain ⟨k, v, hv, rfl, hk, HV, HB⟩ := hrel
    subst hv
    by_cases hlt : k < l.length
    · obtain ⟨ad, rfl, had, c1, c2⟩ := (HA.out.below HB.out) k hlt
      have HE := Lib.hid (ends_take hlt)
      have HL := Lib.hid (ends_take_len (l := l) (k := k) hl)
      have C1 := Lib.hid (fun w => may_any (l.getD k (0, 0)) w)
      unfold spV at C1
      unfold spCell at c1 c2
      dsimp only at c1 c2
      generalize l.getD k (0, 0) = s at *
      generalize endsL (l.take k) = o at *
      cases hm : mayB s with
      | false =>
        rw [hm] at C1
        have HM := Lib.hid hm
        clear hm
        go_wp2_with fail
        refine (C1.out _).mono ?_
        rintro e w1 ⟨rfl, hb1⟩
        have HB1 := Lib.hid hb1
        clear hb1
        go_wp2_with fail
        exact ⟨⟨k + 1, _, rfl, by go_num, by omega, by rw [HE.out]; unfold endsStep; rw [if_neg (by rw [HM.out]; simp)]; exact HV.out.below HB1.out, below_then HB.out HB1.out⟩, by simp [intOf] <;> omega⟩
      | true =>
        rw [hm] at C1
        have HM := Lib.hid hm
        clear hm
        go_wp2_with fail
        refine (C1.out _).mono ?_
        rintro e w1 ⟨rfl, hb1⟩
        obtain ⟨had1, d1, d2⟩ := pair_below hb1 had c1 c2
        have HB1 := Lib.hid hb1
        clear hb1 c1 c2 had
        have P1 := Lib.hid (put_any o s.1 v w1 (HV.out.below HB1.out) (by have := HL.out; omega))
        have hl2 := putL_len o s.1
        go_upto_region 6 with fail
        go_region_held3 (fun w' => w'.cell? (ad.add (k * 2)) = some (.int .i64 s.1) ∧ w'.cell? ⟨(ad.add (k * 2)).block, (ad.add (k * 2)).off + 1, none⟩ = some (.int .i64 s.2) ∧ ad.block < w'.heap.size)
          (first | go_keep | (go_split_ands; exact pairs_held (by assumption) (by assumption) (by assumption) (by assumption)))
          (first
            | (go_at_call_of 39 v; (refine (put_any o s.1 v _ (IntsIs.drew (HV.out.below HB1.out)) (by have := HL.out; omega)).mono ?_; rintro e w2 ⟨v1, rfl, hi1, hb2⟩))
            | (go_at_call_of 39 v1; (refine (put_any (putL o s.1) s.2 v1 _ hi1 (by have := HL.out; omega)).mono ?_; rintro e w3 ⟨v2, rfl, hi2, hb3⟩)))
        have HB3 := Lib.hid (below_then HB.out (below_then HB1.out (below_then (below_of_drew hb2) hb3)))
        have HI := Lib.hid hi2
        clear hb2 hb3 hi1 hi2 hl2 P1
        go_wp2_with fail
        exact ⟨⟨k + 1, _, rfl, by go_num, by omega, by rw [HE.out]; unfold endsStep; rw [if_pos HM.out]; exact HI.out, HB3.out⟩, by simp [intOf] <;> omega⟩
    · go_wp2_with fail
      go_ret
      have h := HV.out
      rw [List.take_of_length_le (by omega)] at h
      exact ⟨_, rfl, h, HB.out⟩
end Go.Proofs.Ytalopnkdnlkdoaa.SpanRef
