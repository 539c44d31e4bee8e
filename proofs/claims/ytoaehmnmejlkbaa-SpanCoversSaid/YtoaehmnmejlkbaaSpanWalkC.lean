/-
  The walk of layer 3's code: without.
-/
import Derived.Test.YtoaehmnmejlkbaaSpanWalkA
import Derived.Test.YtoaehmnmejlkbaaBox
namespace Go.Proofs.Ytoaehmnmejlkbaa.SpanWalk
open Go.RowKit Go.Proofs.Ytoaehmnmejlkbaa.SpanPlain Go.Proofs.Ytoaehmnmejlkbaa.Mem Go.Proofs.Ytoaehmnmejlkbaa.SpanMem Go.Proofs.Ytoaehmnmejlkbaa.SpanRef

theorem OwnN.spans {base n : Nat} {w : World} {v : Value} {l : List Sp} {e : TypeId} (h : OwnN e 2 base w v n (svals l)) (hn : n = l.length) : SpansIs l w v := by
  subst hn
  rcases h.form with ⟨h1, h2, _⟩ | ⟨g, c, hv, _, _, _, _, hr, _⟩
  · exact .inl ⟨h1, List.eq_nil_of_length_eq_zero h2⟩
  · exact .inr ⟨_, c, hv, hr⟩
/-- How the loop of without stands. -/
def WithLoop (s : Sp) (g : List Sp) (w wr : World) (v : Value) (j : Nat) : Prop :=
  ∃ c f, OwnN 23 2 (w.heap.size + 1) wr v c.length (svals c) ∧ WithAt s g j f c ∧ c.length ≤ j ∧ Box2 wr w.heap.size (.int .i64 f) (.int .i64 s.2) ∧ Below w.heap.size w wr
def WithDone (s : Sp) (g : List Sp) (w wr : World) (v : Value) : Prop := ∃ j, WithLoop s g w wr v j ∧ Over s g j ∧ j ≤ g.length

theorem below_two_then {w wr w2 : World} {B : Nat} {a b : Obj} (h : Below w.heap.size w wr) (k : Below B ((wr.alloc a).alloc b) w2) (hB : w.heap.size ≤ B) : Below w.heap.size w w2 :=
  ((h.alloc h.size _).alloc (by have := h.size; simp; omega) _).trans (k.mono hB)

set_option maxHeartbeats 3200000 in
theorem withS (s : Sp) (g : List Sp) (v : Value) (w : World) (hv : SpansIs g w v) (hs : May s) (hg : Cov g) (h0 : ∀ r ∈ g, s.1 < r.2) (hl : g.length ≤ 4000) :
    Calls Try.prog 21 #[spV s, v] w (LessIs [s] g w) := by
  obtain ⟨A, cc, rfl, hA⟩ := hv.open_
  have HA := Lib.hid hA
  have HS := Lib.hid hs
  have HG := Lib.hid hg
  have HW := Lib.hid (WithAt.start h0)
  clear hA hv hs hg h0
  obtain ⟨s1, s2⟩ := s
  unfold spV
  dsimp only
  go_enter Try.func21, Try.ntmps21
  go_upto_block 0 with fail
  go_cut [5] (fun o wc => ∃ v : Value, v = o ∧ Hid (WithDone (s1, s2) g w wc v))
  case first =>
    go_wp2_with fail
    go_loopw [5, 10] (fun o i wr => ∃ (k : Nat) (v : Value), v = o ∧ i = .int .i64 k ∧ k ≤ g.length ∧ Hid (WithLoop (s1, s2) g w wr v k)) (fun _ i _ => g.length - (intOf i).toNat)
    case atStart => exact ⟨0, _, rfl, rfl, Nat.zero_le _, [], s1, OwnN.nil (by simp), HW.out, Nat.le_refl _, Box2.new _ _ _ _, (Below.refl _ _).alloc (Nat.le_refl _) _⟩
    case round =>
      obtain ⟨k, o, hov, rfl, hk, HL⟩ := hrel
      subst hov
      by_cases hlt : k < g.length
      · obtain ⟨c, f, hown, hat, hck, hbox, hbl⟩ := HL.out
        have HOW := Lib.hid hown
        have HAT := Lib.hid hat
        have HBX := Lib.hid hbox
        have HBL := Lib.hid hbl
        have hsz := hbl.size
        clear hown hat hbl
        obtain ⟨ad, rfl, had, c1, c2⟩ := (HA.out.below HBL.out) k hlt
        obtain ⟨b0, b1, b2, b3, b4⟩ := hbox
        have HOV := Lib.hid (fun h1 => HAT.out.over HG.out hlt h1)
        have HCUT := Lib.hid (fun a b => HAT.out.cut HS.out HG.out hlt a b)
        have HST := Lib.hid (fun h => Over.stop (s := (s1, s2)) HG.out hlt h)
        unfold spCell at c1 c2
        dsimp only at c1 c2 HOV HCUT HST b2
        generalize g.getD k (0, 0) = r at *
        have hcase : (decide (s2 ≤ r.1) = true ∧ Hid (Over (s1, s2) g k)) ∨ (decide (s2 ≤ r.1) = false ∧ decide (f < r.1) = true ∧ Hid (WithAt (s1, s2) g (k + 1) r.2 (c ++ [(f, r.1)]))) ∨ (decide (s2 ≤ r.1) = false ∧ decide (f < r.1) = false ∧ Hid (WithAt (s1, s2) g (k + 1) r.2 c)) := by
          by_cases h1 : s2 ≤ r.1
          · exact .inl ⟨decide_eq_true h1, HST.out (by omega)⟩
          · by_cases h2 : f < r.1
            · exact .inr (.inl ⟨decide_eq_false h1, decide_eq_true h2, HCUT.out (by omega) h2⟩)
            · exact .inr (.inr ⟨decide_eq_false h1, decide_eq_false h2, HOV.out h2⟩)
        clear HOV HCUT HST
        rcases hcase with ⟨h1, HX⟩ | ⟨h1, h2, HX⟩ | ⟨h1, h2, HX⟩
        · go_wp2_with fail
          go_meet
          exact ⟨_, rfl, k, ⟨c, f, HOW.out.alloc _, HAT.out, hck, HBX.out.alloc _, HBL.out.alloc HBL.out.size _⟩, HX.out, by omega⟩
        · go_wp2_with (at_builtin; refine push_own spans_t rfl (.tmp 24) (.tmp 30) rfl (w.heap.size + 1) _ _ _ rfl ((HOW.out.alloc (.cells #[.int .i64 r.1, .int .i64 r.2] 23)).alloc (.cells #[.int .i64 f, .int .i64 r.1] 23)) _ 1 [.int .i64 f, .int .i64 r.1] rfl rfl ?h1a two_cells ?h1b ?_)
          case h1a => exact raw_at (by simp) #[.int .i64 f, .int .i64 r.1] _
          case h1b => omega
          intro v2 w2 ho2 hb2 hg2
          have HO2 := Lib.hid (ho2.cast (m := (c ++ [(f, r.1)]).length) (ys := svals (c ++ [(f, r.1)])) (by simp) (by rw [svals_append]; rfl))
          have hbg := ((Box2.new wr (.int .i64 r.1) (.int .i64 r.2) 23).alloc (.cells #[.int .i64 f, .int .i64 r.1] 23)).grown hg2 HOW.out.old
          have hbs := ((HBX.out.alloc (.cells #[.int .i64 r.1, .int .i64 r.2] 23)).alloc (.cells #[.int .i64 f, .int .i64 r.1] 23)).under hb2 (Nat.lt_succ_self _)
          have HB2 := Lib.hid (below_two_then HBL.out hb2 (Nat.le_succ _))
          have HBS := Lib.hid hbs
          clear ho2 hb2 hg2 b0 b1 b2 b3 b4 had c1 c2
          obtain ⟨g0, g1, g2, g3, g4⟩ := hbg
          obtain ⟨b0, b1, b2, b3, b4⟩ := hbs
          go_wp2_with fail
          exact ⟨⟨k + 1, _, rfl, by go_num, by omega, c ++ [(f, r.1)], r.2, HO2.out.set_other (p := ⟨w.heap.size, 0, none⟩) (Nat.lt_succ_self _) _, HX.out, by simpa using (by omega : c.length + 1 ≤ k + 1), HBS.out.set0 _, HB2.out.setCell (p := ⟨w.heap.size, 0, none⟩) (Nat.le_refl _) _⟩, by simp [intOf] <;> omega⟩
        · go_wp2_with fail
          exact ⟨⟨k + 1, _, rfl, by go_num, by omega, c, r.2, (HOW.out.set_other (p := ⟨w.heap.size, 0, none⟩) (Nat.lt_succ_self _) _).alloc _, HX.out, by omega, (HBX.out.set0 _).alloc _, (HBL.out.setCell (p := ⟨w.heap.size, 0, none⟩) (Nat.le_refl _) _).alloc (by simp; exact hsz) _⟩, by simp [intOf] <;> omega⟩
      · go_wp2_with fail
        go_meet
        exact ⟨_, rfl, k, HL.out, Over.end_ (by omega), hk⟩
  case rest =>
    obtain ⟨v, hv, HD⟩ := hcut
    subst hv
    obtain ⟨j, ⟨c, f, hown, hat, hck, hbox, hbl⟩, hov, hj⟩ := HD.out
    have HOW := Lib.hid hown
    have HBL := Lib.hid hbl
    have hsz := hbl.size
    have HR := Lib.hid (fun h => hat.rest HS.out hov h)
    have HF := Lib.hid (fun h => hat.full h)
    obtain ⟨b0, b1, b2, b3, b4⟩ := hbox
    clear hown hat hbl hov HD
    dsimp only at b2 HR HF
    by_cases hf : f < s2
    · have HL := Lib.hid (HR.out hf)
      clear HR HF
      go_wp2_with (at_builtin; refine push_own spans_t rfl (.tmp 41) (.tmp 43) rfl (w.heap.size + 1) _ _ _ rfl (HOW.out.alloc (.cells #[.int .i64 f, .int .i64 s2] 23)) _ 1 [.int .i64 f, .int .i64 s2] rfl rfl ?h2a two_cells ?h2b ?_)
      case h2a => exact raw_at rfl #[.int .i64 f, .int .i64 s2] _
      case h2b => omega
      intro v2 w2 ho2 hb2 hg2
      have HO2 := Lib.hid (ho2.cast (m := (c ++ [(f, s2)]).length) (ys := svals (c ++ [(f, s2)])) (by simp) (by rw [svals_append]; rfl))
      have HB2 := Lib.hid ((HBL.out.alloc HBL.out.size _).trans (hb2.mono (Nat.le_succ _)))
      clear ho2 hb2 hg2
      go_wp2_with fail
      go_ret
      exact less_is (OwnN.spans HO2.out rfl) HL.out HB2.out
    · have HL := Lib.hid (HF.out hf)
      clear HR HF
      go_wp2_with fail
      go_ret
      exact less_is (OwnN.spans HOW.out rfl) HL.out HBL.out
end Go.Proofs.Ytoaehmnmejlkbaa.SpanWalk
