/-
  The walk of the document's answer for layer 4: Turns.
-/
import Derived.Test.YtjkninldenoanaaStepRef0
import Derived.Test.YtjkninldenoanaaSpanRefC
namespace Go.Proofs.Ytjkninldenoanaa.StepRef
open Go.RowKit Go.Proofs.Ytjkninldenoanaa.SpanPlain Go.Proofs.Ytjkninldenoanaa.StepPlain Go.Proofs.Ytjkninldenoanaa.Mem Go.Proofs.Ytjkninldenoanaa.SpanMem Go.Proofs.Ytjkninldenoanaa.StepMem Go.Proofs.Ytjkninldenoanaa.SpanRef

theorem OwnR.one (w : World) (e : TypeId) (k : IntKind) (n : Int) : OwnR e 1 w.heap.size (w.alloc (.cells #[.int k n] e)) (.slice (some ⟨w.heap.size, 0, none⟩) 1 1) 1 [.int k n] :=
  ⟨World.ownsRow_lit w #[.int k n] 1 (Nat.le_refl _) (by decide) rfl, by simp, by simp⟩


set_option maxHeartbeats 3200000 in
theorem turns4 (t : Int) (l : List By) (v : Value) (w : World) (hv : BusyIs l w v) (hl : l.length ≤ 400) : Calls Try.prog 47 #[.int .i64 t, v] w (TurnsIs t l w) := by
  obtain ⟨A, c, rfl, hA⟩ := hv.open_
  have HA := Lib.hid hA
  have HO := Lib.hid (OwnR.new w 25 2)
  clear hA hv
  go_enter Try.func47, Try.ntmps47
  go_wp2_with fail
  go_loopw [5, 6] (fun o i wr => ∃ (k : Nat) (v : Value), v = o ∧ i = .int .i64 k ∧ k ≤ l.length ∧ Hid (TurnA l w wr v k)) (fun _ i _ => l.length - (intOf i).toNat)
  case atStart => exact ⟨0, _, rfl, rfl, Nat.zero_le _, HO.out, (Below.refl _ _).alloc (Nat.le_refl _) _⟩
  case round =>
    obtain ⟨k, o, hov, rfl, hk, HL⟩ := hrel
    subst hov
    by_cases hlt : k < l.length
    · obtain ⟨hown, hbl⟩ := HL.out
      obtain ⟨ad, rfl, had0, x1, x2, x3⟩ := HA.out k hlt
      obtain ⟨had, c1, c2, _⟩ := trip_below hbl had0 x1 x2 x3
      have HOW := Lib.hid hown
      have HBL := Lib.hid hbl
      have HT := Lib.hid (busy_take hlt)
      have HAD := Lib.hid had0
      have i0 : (0 : Int) ≤ (k : Int) := Int.natCast_nonneg _
      have i1 : (k : Int) < (l.length : Int) := by omega
      clear hown hbl HL x1 x2 x3 had0
      generalize byCell l k = b at *
      go_wp2_with fail
      go_region_held3 (fun w' => w'.cell? (ad.add (k * 3)) = some (.int .i64 b.1) ∧ w'.cell? ⟨(ad.add (k * 3)).block, (ad.add (k * 3)).off + 1, none⟩ = some (.int .i64 b.2.1))
        (first | go_keep | (go_split_ands; exact ⟨(hb6.cell (p := ad.add (k * 3)) (by rw [add_block]; exact HAD.out)).trans (by assumption), (hb6.cell (p := ⟨(ad.add (k * 3)).block, (ad.add (k * 3)).off + 1, none⟩) (by rw [add_block]; exact HAD.out)).trans (by assumption)⟩))
        (first
          | (refine step_push spans_t (by rfl) (.tmp 17) (.tmp 29) (by rfl) w.heap.size _ _ _ (by rfl) (HOW.out.alloc (.cells #[.int .i64 b.1, .int .i64 b.2.1] 25)) _ 1 1 [.int .i64 b.1, .int .i64 b.2.1] (by rfl) (by rfl) (Raw.alloc wr #[.int .i64 b.1, .int .i64 b.2.1] 25) two_cells (by simp <;> omega) ?_; intro v6 w6 ho6 hb6))
      go_wp2_with fail
      exact ⟨⟨k + 1, _, rfl, by go_num, by omega, ho6.cast rfl HT.out.symm, ((HBL.out.alloc HBL.out.size _).drew.trans hb6)⟩, by simp [intOf] <;> omega⟩
    · have he : l.take k = l := List.take_of_length_le (by omega)
      obtain ⟨hown, hbl⟩ := HL.out
      rw [he] at hown
      have hkl : k = (busySp l).length := by rw [busy_at (fun _ => trivial)]; omega
      have hsp : SpansIs (busySp l) wr o := OwnR.spans hown hkl
      have HE := Lib.hid (ends_any (busySp l) o wr hsp (by rw [busy_at (fun _ => trivial)]; omega))
      have hel : (endsL (busySp l)).length ≤ 800 := by have := (ends_spec (busySp l)).2.2; rw [busy_at (fun _ => trivial)] at this; omega
      have HB1 := Lib.hid hbl
      clear hown hbl HL he hkl hsp
      have HTT := Lib.hid (show turnsL t l = t :: (endsL (busySp l)).filter fun x => decide (t < x) from rfl)
      generalize endsL (busySp l) = es at *
      go_wp2_with fail
      refine HE.out.mono ?_
      rintro e w2 ⟨ve, rfl, hE, hb2⟩
      obtain ⟨ea, ec, rfl, hre, _, _⟩ := hE
      have HRE := Lib.hid hre
      have HB2 := Lib.hid (below_then HB1.out hb2)
      have HO2 := Lib.hid (OwnR.one w2 3 .i64 t)
      clear hre hb2 HE HO
      go_wp2_with fail
      go_loopw [8, 9] (fun o i wr => ∃ (k : Nat) (v : Value), v = o ∧ i = .int .i64 k ∧ k ≤ es.length ∧ Hid (TurnB t es w2 wr v k)) (fun _ i _ => es.length - (intOf i).toNat)
      case atStart => exact ⟨0, _, rfl, rfl, Nat.zero_le _, HO2.out, (Below.refl _ _).alloc (Nat.le_refl _) _⟩
      case round =>
        obtain ⟨k, o, hov, rfl, hk, HL⟩ := hrel
        subst hov
        by_cases hlt : k < es.length
        · obtain ⟨hown, hbl⟩ := HL.out
          have c1 := (HRE.out.below hbl).int hlt
          have HF := Lib.hid (filter_take hlt t)
          have hfl := filter_len es k t
          have HOW := Lib.hid hown
          have HBL := Lib.hid hbl
          clear hown hbl HL
          unfold TurnB
          generalize es.getD k 0 = x at *
          generalize (es.take k).filter (fun x => decide (t < x)) = fl at *
          by_cases hx : t < x
          · have HF2 := Lib.hid (HF.out.trans (by rw [if_pos hx]))
            have HOA := Lib.hid (HOW.out.alloc (.cells #[.int .i64 x] 3))
            clear HF
            go_wp2_with (at_builtin; refine push_raw ints_t rfl (.tmp 47) (.tmp 52) rfl w2.heap.size _ _ _ rfl HOA.out ⟨wr.heap.size, 0, none⟩ 1 1 [.int .i64 x] rfl ?a1 ?a2 ?a3 ?a4 ?_)
            case a1 => rfl
            case a2 => exact Raw.alloc wr #[.int .i64 x] _
            case a3 => exact one_cell
            case a4 => simp; omega
            intro v3 w3 ho3 hb3
            have HO3 := Lib.hid ho3
            have HB3 := Lib.hid ((HBL.out.alloc HBL.out.size _).trans hb3)
            clear ho3 hb3
            go_wp2_with fail
            exact ⟨⟨k + 1, _, rfl, by go_num, by omega, HO3.out.cast (by rw [HF2.out]; simp) (by rw [HF2.out]; simp [ivals]), HB3.out⟩, by simp [intOf] <;> omega⟩
          · have HF2 := Lib.hid (HF.out.trans (by rw [if_neg hx]))
            clear HF
            go_wp2_with fail
            exact ⟨⟨k + 1, _, rfl, by go_num, by omega, HOW.out.cast (by rw [HF2.out]; simp) (by rw [HF2.out]; simp), HBL.out⟩, by simp [intOf] <;> omega⟩
        · go_wp2_with fail
          go_ret
          obtain ⟨hown, hbl⟩ := HL.out
          rw [List.take_of_length_le (by omega)] at hown
          exact ⟨_, rfl, by rw [HTT.out]; exact OwnR.ints hown rfl, HB2.out.trans (hbl.mono HB2.out.size)⟩
end Go.Proofs.Ytjkninldenoanaa.StepRef
