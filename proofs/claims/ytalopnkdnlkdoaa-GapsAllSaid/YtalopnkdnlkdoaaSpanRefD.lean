/-
  The walk of the document's answer for layer 3: Less.
-/
import Derived.Test.YtalopnkdnlkdoaaSpanRefH
import Derived.Test.YtalopnkdnlkdoaaSpanRefS
namespace Go.Proofs.Ytalopnkdnlkdoaa.SpanRef
open Go.RowKit Go.Proofs.Ytalopnkdnlkdoaa.SpanPlain Go.Proofs.Ytalopnkdnlkdoaa.Mem Go.Proofs.Ytalopnkdnlkdoaa.SpanMem
/-- What Less answers. -/
def LessIs (l m : List Sp) (w : World) (e : Ending) (w' : World) : Prop := ∃ v c, e = .returned v ∧ SpansIs c w' v ∧ LessOf l m c ∧ c.length ≤ 2 * (l.length + m.length) ∧ Below w.heap.size w w'
/-- How the loop of Less stands. -/
def LessLoop (l m : List Sp) (e : List Int) (w1 wr : World) (v : Value) (k : Nat) : Prop :=
  ∃ c, OwnR 36 2 w1.heap.size wr v c.length (svals c) ∧ LessAt l m e k c ∧ c.length ≤ k ∧ Below w1.heap.size w1 wr
theorem cell_kept {w w' : World} {a : Addr} {k : Nat} {v : Value} (hb : Below w.heap.size w w') (hl : a.block < w.heap.size) (h : w.cell? (a.add k) = some v) : w'.cell? (a.add k) = some v := (hb.cell (by rw [add_block]; exact hl)).trans h
theorem cell_kept_at {w w' : World} {b i : Nat} {v : Value} (hb : Below w.heap.size w w') (hl : b < w.heap.size) (h : w.cell? ⟨b, i, none⟩ = some v) : w'.cell? ⟨b, i, none⟩ = some v := (hb.cell (p := ⟨b, i, none⟩) hl).trans h
theorem snoc_cases (c : List Sp) : c = [] ∨ ∃ d s, c = d ++ [s] := by
  by_cases h : c = []
  · exact .inl h
  · exact .inr ⟨c.dropLast, c.getLast h, (List.dropLast_concat_getLast h).symm⟩
theorem svals_last (d : List Sp) (s : Sp) (y : Int) : (svals (d ++ [s])).set (d.length * 2 + 1) (.int .i64 y) = svals (d ++ [(s.1, y)]) := by
  rw [svals_append, svals_append, List.set_append_right _ _ (by rw [svals_len]; omega), svals_len]
  have e : d.length * 2 + 1 - d.length * 2 = 1 := by omega
  rw [e]
  rfl
theorem svals_end (d : List Sp) (s : Sp) : (svals (d ++ [s]))[d.length * 2 + 1]? = some (.int .i64 s.2) := by
  have h := (svals_at (d ++ [s]) d.length (by simp)).2
  rw [h]
  simp [spCell, List.getD]
set_option maxRecDepth 100000 in
set_option maxHeartbeats 6400000 in
theorem less_any (l m : List Sp) (v u : Value) (w : World) (hv : SpansIs l w v) (hu : SpansIs m w u) (hl : l.length ≤ 2000) (hm : m.length ≤ 2000) :
    Calls Try.prog 25 #[v, u] w (LessIs l m w) := by
  have HV := Lib.hid hv
  have HU := Lib.hid hu
  clear hv hu
  have HO := Lib.hid (OwnR.new w 36 2)
  have HB := Lib.hid ((Below.refl w.heap.size w).alloc (Nat.le_refl _) (.cells #[] 36))
  go_enter Try.func25, Try.ntmps25
  go_wp2_with (at_builtin; refine push_src spans_t rfl (.tmp 9) (.tmp 10) rfl w.heap.size _ 0 [] rfl HO.out v l.length (svals l) rfl ?a1 ?a2 ?a3 ?a4 ?_)
  case a1 => exact svals_len l
  case a2 => exact (HV.out.below HB.out).src
  case a3 => exact svals_cell l
  case a4 => omega
  intro v1 w1 ho1 hb1
  have HO1 := Lib.hid ho1
  have HB1 := Lib.hid (HB.out.trans hb1)
  clear ho1 hb1
  go_wp2_with (at_builtin; refine push_src spans_t rfl (.tmp 11) (.tmp 12) rfl w.heap.size _ _ _ rfl HO1.out u m.length (svals m) rfl ?b1 ?b2 ?b3 ?b4 ?_)
  case b1 => exact svals_len m
  case b2 => exact (HU.out.below HB1.out).src
  case b3 => exact svals_cell m
  case b4 => omega
  intro v2 w2 ho2 hb2
  have HA : Hid (SpansIs (l ++ m) w2 v2) := OwnR.spans (ho2.cast (by simp) (by simp [svals])) rfl
  have HB2 := Lib.hid (HB1.out.trans hb2)
  clear ho2 hb2 HO HO1
  go_wp2_with fail
  refine (ends_any (l ++ m) v2 w2 HA.out (by simp; omega)).mono ?_
  rintro e w3 ⟨ve, rfl, hE, hb3⟩
  have HE := Lib.hid hE
  have HB3 := Lib.hid (HB2.out.trans (hb3.mono HB2.out.size))
  have HI := Lib.hid (ends_in (ends_spec (l ++ m)))
  have hlen : (endsL (l ++ m)).length ≤ 2 * (l.length + m.length) := by have := (ends_spec (l ++ m)).2.2; simpa using this
  clear hE hb3
  generalize endsL (l ++ m) = es at *
  obtain ⟨ea, ec, rfl, hre, _, _⟩ := HE.out
  have HRE := Lib.hid hre
  clear hre HE
  have HO3 := Lib.hid (OwnR.new w3 36 2)
  go_wp2_with fail
  go_loopw [6, 7] (fun o i wr => ∃ (k : Nat) (v : Value), v = o ∧ i = .int .i64 k ∧ (k = 0 ∨ k < es.length) ∧ Hid (LessLoop l m es w3 wr v k)) (fun _ i _ => es.length - (intOf i).toNat)
  case atStart => exact ⟨0, _, rfl, rfl, .inl rfl, [], HO3.out, LessAt.start HI.out, Nat.le_refl _, (Below.refl _ _).alloc (Nat.le_refl _) _⟩
  case round =>
    obtain ⟨k, o, hov, rfl, hk, HL⟩ := hrel
    subst hov
    obtain ⟨c, hown, hat, hck, hbl⟩ := HL.out
    have HOW := Lib.hid hown
    have HAT := Lib.hid hat
    have HBL := Lib.hid hbl
    clear hown hat hbl HL
    by_cases hlt : k + 1 < es.length
    · have hlt2 : (k : Int) + 1 < (es.length : Int) := by omega
      have c1 := (HRE.out.below HBL.out).int (show k < es.length by omega)
      have c2 := (HRE.out.below HBL.out).int hlt
      have HR := Lib.hid (HRE.out.below HBL.out)
      have HS := Lib.hid (fun hP => HAT.out.skip HI.out hlt hP)
      have HADD := Lib.hid (fun a1 a2 a3 => HAT.out.add HI.out hlt a1 a2 a3)
      have HGROW : Hid (∀ d f, c = d ++ [(f, es.getD k 0)] → anyB l (es.getD k 0) = true → anyB m (es.getD k 0) = false → LessAt l m es (k + 1) (d ++ [(f, es.getD (k + 1) 0)])) := fun d f e a1 a2 => LessAt.grow HI.out (e ▸ HAT.out) hlt a1 a2
      have HLAST : Hid (∀ d s, c = d ++ [s] → s.2 ≠ es.getD k 0 → ∀ r ∈ c, r.2 ≠ es.getD k 0) := fun d s e hs => by
        rcases HAT.out with ⟨h0, _⟩ | ⟨_, h⟩
        · omega
        · subst e; exact last_only h hs
      have VL := Lib.hid (has_is l v (es.getD k 0) wr ((HV.out.below HB3.out).below HBL.out) (by omega))
      have VM := Lib.hid (fun W hb => has_is m u (es.getD k 0) W ((HU.out.below HB3.out).below (below_then HBL.out hb)) (by omega))
      generalize es.getD k 0 = x at *
      generalize es.getD (k + 1) 0 = y at *
      cases hA : anyB l x with
      | false =>
        rw [hA] at VL
        have H1 := Lib.hid hA
        clear hA
        go_wp2_with fail
        refine VL.out.mono ?_
        rintro e w4 ⟨rfl, hb4⟩
        have HB4 := Lib.hid hb4
        clear hb4
        go_wp2_with fail
        exact ⟨⟨k + 1, _, rfl, by go_num, .inr hlt, c, HOW.out.below HB4.out, HS.out (.inl H1.out), by omega, below_then HBL.out HB4.out⟩, by simp [intOf] <;> omega⟩
      | true =>
        rw [hA] at VL
        have H1 := Lib.hid hA
        clear hA
        cases hM : anyB m x with
        | true =>
          rw [hM] at VM
          have H2 := Lib.hid hM
          clear hM
          go_wp2_with fail
          refine VL.out.mono ?_
          rintro e w4 ⟨rfl, hb4⟩
          have HB4 := Lib.hid hb4
          clear hb4
          have d1 := (cell_kept HB4.out (HR.out.intlt hlt) c1)
          go_wp2_with fail
          refine (VM.out _ HB4.out).mono ?_
          rintro e w5 ⟨rfl, hb5⟩
          have HB5 := Lib.hid (below_then HB4.out hb5)
          clear hb5
          go_wp2_with fail
          exact ⟨⟨k + 1, _, rfl, by go_num, .inr hlt, c, HOW.out.below HB5.out, HS.out (.inr H2.out), by omega, below_then HBL.out HB5.out⟩, by simp [intOf] <;> omega⟩
        | false =>
          rw [hM] at VM
          have H2 := Lib.hid hM
          clear hM
          have hsn := snoc_cases c
          obtain ⟨g, cap, hv, hg, _, _, _, hro, hfz⟩ := HOW.out.form
          subst hv
          have HRO := Lib.hid hro
          have HFZ := Lib.hid hfz
          clear hro hfz
          rcases hsn with rfl | ⟨d, s, rfl⟩
          · go_wp2_with fail
            refine VL.out.mono ?_
            rintro e w4 ⟨rfl, hb4⟩
            have HB4 := Lib.hid hb4
            clear hb4
            have d1 := (cell_kept HB4.out (HR.out.intlt hlt) c1)
            go_wp2_with fail
            refine (VM.out _ HB4.out).mono ?_
            rintro e w5 ⟨rfl, hb5⟩
            have HB5 := Lib.hid (below_then HB4.out hb5)
            clear hb5
            have e1 := (cell_kept HB5.out (HR.out.intlt hlt) c1)
            have e2 := (cell_kept HB5.out (HR.out.intlt hlt) c2)
            have HO5 := Lib.hid (HOW.out.below HB5.out)
            have HE3 : Hid (ea.block < w3.heap.size) := HRE.out.intlt hlt
            go_wp2_with fail
            go_quiet (fail)
            go_wp2_with fail
            have e3 : w5.cell? ⟨ea.block, ea.off + (k + 1), none⟩ = some (.int .i64 y) := e2
            have i0 : (0 : Int) ≤ (k : Int) := Int.natCast_nonneg _
            have i1 : (k : Int) < (es.length : Int) := by omega
            have i2 : (0 : Int) ≤ (k : Int) + 1 := by omega
            have i3 : IntKind.i64.wrap ((k : Int) + 1) = (k : Int) + 1 := by rw [IntKind.wrap_i64]; omega
            have i4 : ((k : Int) + 1).toNat = k + 1 := by omega
            go_region_held3 (fun w' => w'.cell? (ea.add k) = some (.int .i64 x) ∧ w'.cell? ⟨ea.block, ea.off + (k + 1), none⟩ = some (.int .i64 y))
              (first | go_keep | (go_split_ands; exact ⟨(hb6.cell (p := ea.add k) (by rw [add_block]; exact HE3.out)).trans (by assumption), (hb6.cell (p := ⟨ea.block, ea.off + (k + 1), none⟩) HE3.out).trans (by assumption)⟩))
              (first
                | (refine step_push spans_t (by rfl) (.tmp 65) (.tmp 76) (by rfl) w3.heap.size _ _ _ (by rfl) (HO5.out.alloc (.cells #[.int .i64 x, .int .i64 y] 36)) _ 1 1 [.int .i64 x, .int .i64 y] (by rfl) (by rfl) (Raw.alloc w5 #[.int .i64 x, .int .i64 y] 36) (by intro q hq; simp at hq; rcases hq with rfl | rfl <;> rfl) (by simp <;> omega) ?_; intro v6 w6 ho6 hb6))
            go_wp2_with fail
            exact ⟨⟨k + 1, _, rfl, by go_num, .inr hlt, [] ++ [(x, y)], ho6.cast (by simp) (by simp [svals, spCells]), HADD.out H1.out H2.out (fun s hs => by simp at hs), by (first | omega | (simp; omega) | simp), ((below_drewN (below_then HBL.out HB5.out) _).alloc (below_then HBL.out HB5.out).size _).trans hb6⟩, by simp [intOf] <;> omega⟩
          · have hck2 : d.length + 1 ≤ k := by simpa using hck
            go_wp2_with fail
            refine VL.out.mono ?_
            rintro e w4 ⟨rfl, hb4⟩
            have HB4 := Lib.hid hb4
            clear hb4
            have d1 := (cell_kept HB4.out (HR.out.intlt hlt) c1)
            go_wp2_with fail
            refine (VM.out _ HB4.out).mono ?_
            rintro e w5 ⟨rfl, hb5⟩
            have HB5 := Lib.hid (below_then HB4.out hb5)
            clear hb5
            have e1 := (cell_kept HB5.out (HR.out.intlt hlt) c1)
            have e2 := (cell_kept HB5.out (HR.out.intlt hlt) c2)
            have HO5 := Lib.hid (HOW.out.below HB5.out)
            have HE3 : Hid (ea.block < w3.heap.size) := HRE.out.intlt hlt
            have HO6 : Hid (OwnR 36 2 w3.heap.size w5 (.slice (some ⟨g, 0, none⟩) (d.length + 1) cap) (d.length + 1) (svals (d ++ [s]))) := by
              have h := HO5.out
              rw [List.length_append, List.length_singleton] at h
              exact h
            have ce : w5.cell? ⟨g, d.length * 2 + 1, none⟩ = some (.int .i64 s.2) := by
              obtain ⟨_, _, h, _, _, _, _, hr, _⟩ := HO5.out.form
              injection h with h
              injection h with h
              injection h with h
              subst h
              have := (hr _ _ (svals_end d s)).2
              rwa [add_flat] at this
            have cf : w5.frozen? ⟨g, d.length * 2 + 1, none⟩ = false := by
              obtain ⟨_, _, h, _, _, _, _, _, hf⟩ := HO5.out.form
              injection h with h
              injection h with h
              injection h with h
              subst h
              exact hf _
            have q0 : (0 : Int) ≤ (d.length : Int) := Int.natCast_nonneg _
            have q1 : (d.length : Int) < (d.length : Int) + 1 := by omega
            have q2 : IntKind.i64.wrap ((d.length : Int) + 1 - 1) = (d.length : Int) := by rw [IntKind.wrap_i64]; simp at hck; omega
            have hx : (s.2 == x) = true ∨ (s.2 == x) = false := by cases (s.2 == x) <;> simp
            rcases hx with hx | hx
            · have hsx : s.2 = x := by simpa using hx
              have HSX := Lib.hid hsx
              clear hsx
              have e3 : w5.cell? ⟨ea.block, ea.off + (k + 1), none⟩ = some (.int .i64 y) := e2
              have i0 : (0 : Int) ≤ (k : Int) := Int.natCast_nonneg _
              have i1 : (k : Int) < (es.length : Int) := by omega
              have i2 : (0 : Int) ≤ (k : Int) + 1 := by omega
              have i3 : IntKind.i64.wrap ((k : Int) + 1) = (k : Int) + 1 := by rw [IntKind.wrap_i64]; omega
              have i4 : ((k : Int) + 1).toNat = k + 1 := by omega
              go_wp2_with fail
              go_quiet (fail)
              go_wp2_with fail
              have hst : s = (s.1, x) := Prod.ext rfl HSX.out
              refine ⟨⟨k + 1, _, rfl, by go_num, .inr hlt, d ++ [(s.1, y)], ?_, HGROW.out d s.1 (by rw [← hst]) H1.out H2.out, by simpa using (by omega : d.length + 1 ≤ k + 1), (below_drewN (below_then HBL.out HB5.out) _).setCell hg _⟩, by simp [intOf] <;> omega⟩
              exact OwnR.cast (OwnR.set (OwnR.drewN HO6.out _) (d.length * 2 + 1) (.int .i64 y)) (by simp) (svals_last d s y)
            · have hne : s.2 ≠ x := by simpa using hx
              have HNE := Lib.hid hne
              clear hne
              go_wp2_with fail
              go_quiet (fail)
              go_wp2_with fail
              have e3 : w5.cell? ⟨ea.block, ea.off + (k + 1), none⟩ = some (.int .i64 y) := e2
              have i0 : (0 : Int) ≤ (k : Int) := Int.natCast_nonneg _
              have i1 : (k : Int) < (es.length : Int) := by omega
              have i2 : (0 : Int) ≤ (k : Int) + 1 := by omega
              have i3 : IntKind.i64.wrap ((k : Int) + 1) = (k : Int) + 1 := by rw [IntKind.wrap_i64]; omega
              have i4 : ((k : Int) + 1).toNat = k + 1 := by omega
              go_region_held3 (fun w' => w'.cell? (ea.add k) = some (.int .i64 x) ∧ w'.cell? ⟨ea.block, ea.off + (k + 1), none⟩ = some (.int .i64 y))
                (first | go_keep | (go_split_ands; exact ⟨(hb6.cell (p := ea.add k) (by rw [add_block]; exact HE3.out)).trans (by assumption), (hb6.cell (p := ⟨ea.block, ea.off + (k + 1), none⟩) HE3.out).trans (by assumption)⟩))
                (first
                  | (refine step_push spans_t (by rfl) (.tmp 65) (.tmp 76) (by rfl) w3.heap.size _ _ _ (by rfl) (HO6.out.alloc (.cells #[.int .i64 x, .int .i64 y] 36)) _ 1 1 [.int .i64 x, .int .i64 y] (by rfl) (by rfl) (Raw.alloc w5 #[.int .i64 x, .int .i64 y] 36) (by intro q hq; simp at hq; rcases hq with rfl | rfl <;> rfl) (by simp <;> omega) ?_; intro v6 w6 ho6 hb6))
              go_wp2_with fail
              exact ⟨⟨k + 1, _, rfl, by go_num, .inr hlt, (d ++ [s]) ++ [(x, y)], ho6.cast (by simp) (by simp [svals, spCells]), HADD.out H1.out H2.out (HLAST.out d s rfl HNE.out), by (first | omega | (simp; omega) | simp), ((below_drewN (below_then HBL.out HB5.out) _).alloc (below_then HBL.out HB5.out).size _).trans hb6⟩, by simp [intOf] <;> omega⟩
    · go_wp2_with fail
      go_ret
      exact ⟨_, c, rfl, OwnR.spans HOW.out rfl, HAT.out.done HI.out hlt, by omega, HB3.out.trans (HBL.out.mono HB3.out.size)⟩
end Go.Proofs.Ytalopnkdnlkdoaa.SpanRef
