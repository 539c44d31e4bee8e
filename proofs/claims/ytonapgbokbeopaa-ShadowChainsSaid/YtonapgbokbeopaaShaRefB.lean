/-
  The walk of the document's answer for layer 15: Chain.
-/
import Derived.Test.YtonapgbokbeopaaShaRefA
import Derived.Test.YtonapgbokbeopaaInts
import Derived.Test.YtonapgbokbeopaaSep
namespace Go.Proofs.Ytonapgbokbeopaa.ShaRef
open Go.RowKit Go.Proofs.Ytonapgbokbeopaa.SpanPlain Go.Proofs.Ytonapgbokbeopaa.StepPlain Go.Proofs.Ytonapgbokbeopaa.GapPlain Go.Proofs.Ytonapgbokbeopaa.JobPlain Go.Proofs.Ytonapgbokbeopaa.ShaPlain Go.Proofs.Ytonapgbokbeopaa.Mem Go.Proofs.Ytonapgbokbeopaa.SpanMem Go.Proofs.Ytonapgbokbeopaa.StepMem Go.Proofs.Ytonapgbokbeopaa.JobMem Go.Proofs.Ytonapgbokbeopaa.OrdMem Go.Proofs.Ytonapgbokbeopaa.SpanRef Go.Proofs.Ytonapgbokbeopaa.StepRef Go.Proofs.Ytonapgbokbeopaa.GapRef
theorem fitStep_neg {s : List Sp} {f w n : Int} : ∀ {l : List Sp}, (∀ y ∈ l, 0 ≤ y.1) → 0 ≤ fitStep s f w n l ∨ fitStep s f w n l = -1
  | [], _ => .inr rfl
  | y :: l, h => by
    unfold fitStep
    split
    · exact .inl (h y (List.mem_cons_self ..))
    · exact fitStep_neg fun z hz => h z (List.mem_cons_of_mem _ hz)
theorem fitN_cases (s : List Sp) (now : Int) (j : Jb) : (fitN s now j = -1 ∧ FitIs s now j.width j.est 0 false) ∨ (∃ a : Nat, fitN s now j = a ∧ FitIs s now j.width j.est a true) := by
  unfold fitN
  cases hm : mayG s j.width j.est with
  | false => exact .inl ⟨rfl, .inr ⟨rfl, rfl, .inl hm⟩⟩
  | true =>
    rw [if_pos rfl]
    obtain ⟨hc, _, _, _⟩ := mayG_iff.1 hm
    have hlo := hc.lo
    have hge := hc.ge
    obtain ⟨h1, h2⟩ := fit_spec (f := now) hm
    have hn : 0 ≤ fitL s now j.width j.est ∨ fitL s now j.width j.est = -1 := by
      unfold fitL
      split
      · exact .inr rfl
      · split
        · exact .inl (by omega)
        · exact fitStep_neg fun y hy => by have := hge y hy; omega
    rcases hn with hn | hn
    · exact .inr ⟨(fitL s now j.width j.est).toNat, by omega, by rw [show (((fitL s now j.width j.est).toNat : Nat) : Int) = fitL s now j.width j.est by omega]; exact h1 hn⟩
    · exact .inl ⟨hn, h2 (by omega)⟩
theorem fit_ok {s : List Sp} {now a : Int} {j : Jb} (h : FitIs s now j.width j.est a true) : okG s a j.width j.est = true := by
  rcases h with ⟨_, hm, _, hr, _⟩ | ⟨h, _⟩
  · exact okG_iff.2 ⟨hm, hr⟩
  · cases h
/-- What is told so far, and what is left to tell. -/
def ChainTo (s : List Sp) (now : Int) (js : List Jb) (k : Nat) (l : List Int) (t : List Sp) : Prop := ∀ l' t', ChainIs t now (js.drop k) l' t' → ChainIs s now js (l ++ l') t'
theorem ChainTo.start (s : List Sp) (now : Int) (js : List Jb) : ChainTo s now js 0 [] s := fun _ _ h => h
theorem ChainTo.done {s t : List Sp} {now : Int} {js : List Jb} {l : List Int} (h : ChainTo s now js js.length l t) : ChainIs s now js l t := by
  have := h [] t (by rw [List.drop_length]; exact ⟨rfl, rfl⟩)
  rwa [List.append_nil] at this
theorem ChainTo.next {s t u : List Sp} {now a : Int} {b : Bool} {js : List Jb} {k : Nat} {l : List Int} (hk : k < js.length) (h : ChainTo s now js k l t) (hf : FitIs t now js[k].width js[k].est a b)
    (hu : (b = true ∧ AddIs t (runS a js[k]) (-js[k].width) u) ∨ (b = false ∧ u = t)) : ChainTo s now js (k + 1) (l ++ [if b = true then a else -1]) u := fun l' t' hc => by
  rw [List.append_assoc]
  refine h _ t' ?_
  rw [List.drop_eq_getElem_cons hk]
  exact ⟨a, b, l', u, rfl, hf, hu, hc⟩
theorem spans_grown {t : List Sp} {W w' : World} {v : Value} {row : Option Nat} (h : SpansIs t W v) (hg : W.grownBy w' row) (hne : ∀ a m c, v = .slice (some a) m c → 0 < t.length → row ≠ some a.block) : SpansIs t w' v := by
  rcases h with h | ⟨a, c, e, hr, hn⟩
  · exact .inl h
  · refine .inr ⟨a, c, e, ?_, hn⟩
    intro j u hu
    have hp : 0 < t.length := by
      cases t with
      | nil => simp [svals] at hu
      | cons x t => simp
    obtain ⟨h1, h2⟩ := hr j u hu
    have hb := hg.block a.block h1 (fun q => hne a _ c e hp q.symm)
    refine ⟨Nat.lt_of_lt_of_le h1 hg.size, ?_⟩
    exact (World.cell?_of_block (a := a.add j) (by rw [add_block]; exact hb)).trans h2
/-- Steps lie apart from a row of one's own. -/
def OffRow (t : List Sp) (sv ov : Value) : Prop := ∀ a m c, sv = .slice (some a) m c → 0 < t.length → ov.ownBlock ≠ some a.block
theorem spans_lt {t : List Sp} {W : World} {v : Value} (h : SpansIs t W v) : ∀ a m c, v = .slice (some a) m c → 0 < t.length → a.block < W.heap.size := fun a m c e hp => by
  rcases h with ⟨h, _⟩ | ⟨a2, c2, e2, hr, _⟩
  · rw [h] at e; cases e
  · rw [e2] at e
    injection e with e
    injection e with e
    subst e
    have hl : 0 < (svals t).length := by rw [svals_len]; omega
    exact (hr 0 _ (List.getElem?_eq_getElem hl)).1
theorem OffRow.next {t : List Sp} {W : World} {sv ov ov' : Value} (h : OffRow t sv ov) (hs : SpansIs t W sv) (hn : NextTo W ov ov') : OffRow t sv ov' := fun a m c e hp => by
  have hlt := spans_lt hs a m c e hp
  rcases hn with hn | ⟨b, hn, hb⟩
  · rw [hn]; exact h a m c e hp
  · rw [hn]; intro q; injection q with q; omega
theorem OffRow.fresh {t : List Sp} {e : TypeId} {k base n : Nat} {W : World} {sv ov : Value} {xs : List Value} (hn : ∀ a m c, sv = .slice (some a) m c → W.heap.size ≤ a.block) (ho : OwnN e k base W ov n xs) : OffRow t sv ov := fun a m c e _ q => by
  have h1 := hn a m c e
  have h2 := (ho.block_lt q).2
  omega
def ChainLoop (s : List Sp) (now : Int) (js : List Jb) (w : World) (k : Nat) (l : List Int) (t : List Sp) (sv ov : Value) (wr : World) : Prop :=
  ChainTo s now js k l t ∧ l.length = k ∧ t.length ≤ s.length + 3 * k ∧ SpansIs t wr sv ∧ OwnN 3 1 w.heap.size wr ov l.length (ivals l) ∧ OffRow t sv ov ∧ Below w.heap.size w wr
def ChainTells (s : List Sp) (now : Int) (js : List Jb) (w : World) (e : Ending) (w' : World) : Prop := ∃ u v l t, e = .returned (.tuple #[u, v]) ∧ IntsAt l w' u ∧ SpansIs t w' v ∧ t.length ≤ s.length + 3 * js.length ∧ l.length = js.length ∧ ChainIs s now js l t ∧ Below w.heap.size w w'
set_option maxRecDepth 100000 in
set_option maxHeartbeats 1200000 in
theorem chain15 (s : List Sp) (now : Int) (js : List Jb) (v u : Value) (w : World) (hv : SpansIs s w v) (hl : s.length ≤ 100) (hu : JobsIs js w u) (hm : js.length ≤ 25) : Calls Try.prog 18 #[v, .int .i64 now, u] w (ChainTells s now js w) := by
  obtain ⟨B, d, rfl, hnd, hB⟩ := hu.open_
  have HB := Lib.hid hB
  have HV := Lib.hid hv
  have HO0 := Lib.hid (OwnR.new w 3 1).toN
  obtain ⟨A, c, rfl, _⟩ := hv.open_
  clear hv hu hB
  go_enter Try.func18, Try.ntmps18
  go_wp2_with fail
  go_loopw [0, 8, 9] (fun sv ov i wr => ∃ (k : Nat) (l : List Int) (t : List Sp), i = .int .i64 k ∧ k ≤ js.length ∧ Hid (ChainLoop s now js w k l t sv ov wr)) (fun _ _ i _ => js.length - (intOf i).toNat)
  case atStart => exact ⟨0, [], s, rfl, Nat.zero_le _, ChainTo.start s now js, rfl, Nat.le_refl _, HV.out.below (box_s w _), HO0.out, fun a m c e hp q => by
    have h1 := spans_lt HV.out a m c e hp
    injection q with q
    have h2 : w.heap.size = a.block := q
    omega, box_s w _⟩
  case round =>
    obtain ⟨k, l, t, rfl, hk, HL⟩ := hrel
    obtain ⟨hto, hlen, htl, hst, hown, hoff, hbl⟩ := HL.out
    by_cases hlt : k < js.length
    · obtain ⟨ad, rfl, hat⟩ := HB.out k hlt
      obtain ⟨y, y0, y1, y2, y3, y4, y5, y6, y7, y8⟩ := hat.below hbl
      have hlt2 : (k : Int) < (js.length : Int) := by omega
      have i0 : (0 : Int) ≤ (k : Int) := Int.natCast_nonneg _
      have CO := Lib.hid (of15 t now js[k] _ wr hst (by omega))
      have hcases := fitN_cases t now js[k]
      have HN := Lib.hid (fun a b u h1 h2 => hto.next (a := a) (b := b) (u := u) hlt h1 h2)
      obtain ⟨j, hj2⟩ : ∃ j, j = js[k] := ⟨_, rfl⟩
      rw [← hj2] at y0 y1 y2 y3 y4 y5 y6 y7 y8 hcases CO HN hat
      have HAT := Lib.hid hat
      have HLEN := Lib.hid hlen
      have HTL := Lib.hid htl
      have hl25 : l.length ≤ 25 := by omega
      clear hj2 hat HL hto hlen htl
      have HST := Lib.hid hst
      have HOW := Lib.hid hown
      have HBL := Lib.hid hbl
      obtain ⟨A2, c2, hsv, _⟩ := hst.open_
      obtain ⟨A3, c3, hov⟩ := hown.shape
      subst hsv
      subst hov
      clear hst hown hbl
      unfold jobV jobA at CO
      have HOFF := Lib.hid hoff
      clear hoff
      rcases hcases with ⟨h1, h2⟩ | ⟨a, h1, h2⟩
      · rw [h1] at CO
        have HF := Lib.hid h2
        clear h1 h2
        go_wp2_with fail
        refine CO.out.mono ?_
        rintro e w1 ⟨rfl, hb1⟩
        have HB1 := Lib.hid hb1
        clear hb1 CO
        have HO1 := Lib.hid ((HOW.out.below HB1.out).alloc (.cells #[.int .i64 (-1)] 3))
        have HS1 := Lib.hid ((HST.out.below HB1.out).below (box_s w1 (.cells #[.int .i64 (-1)] 3)))
        have HBB := Lib.hid (thenS (thenS HBL.out HB1.out) (box_s w1 (.cells #[.int .i64 (-1)] 3)))
        go_wp2_with (at_builtin; refine push_sep ints_t rfl (.tmp 25) (.tmp 27) rfl w.heap.size _ _ _ rfl HO1.out ⟨w1.heap.size, 0, none⟩ 1 1 [.int .i64 (-1)] rfl rfl ?ha1 one_cell ?ha2 ?_)
        case ha1 => exact Raw.alloc w1 _ _
        case ha2 => omega
        intro A4 c4 w4 ho4 hb4 hg4 hs4
        have HN4 : Hid (ChainLoop s now js w (k + 1) (l ++ [-1]) t (.slice A2 t.length c2) (.slice A4 (l.length + 1) c4) w4) :=
          ⟨HN.out 0 false t HF.out (.inr ⟨rfl, rfl⟩), by rw [List.length_append, HLEN.out]; rfl, by have := HTL.out; omega, spans_grown HS1.out hg4 HOFF.out, ho4.cast (by simp) (by simp [ivals]), HOFF.out.next HS1.out hs4, HBB.out.trans hb4⟩
        clear ho4 hb4 hg4 hs4 HN HO1 HS1 HBB HOFF HOW HST HB1 HBL y y0 y1 y2 y3 y4 y5 y6 y7 y8
        go_wp2_with fail
        exact ⟨⟨k + 1, l ++ [-1], t, by go_num, by omega, HN4.out⟩, by simp [intOf] <;> omega⟩
      · rw [h1] at CO
        have HF := Lib.hid h2
        have a0 : decide ((0 : Int) ≤ (a : Int)) = true := decide_eq_true (by omega)
        clear h1 h2
        go_wp2_with fail
        refine CO.out.mono ?_
        rintro e w1 ⟨rfl, hb1⟩
        have HB1 := Lib.hid hb1
        clear hb1 CO
        have HO1 := Lib.hid ((HOW.out.below HB1.out).alloc (.cells #[.int .i64 a] 3))
        have HS1 := Lib.hid ((HST.out.below HB1.out).below (box_s w1 (.cells #[.int .i64 a] 3)))
        have HBB := Lib.hid (thenS (thenS HBL.out HB1.out) (box_s w1 (.cells #[.int .i64 a] 3)))
        clear y y0 y1 y2 y3 y4 y5 y6 y7 y8
        go_wp2_with (at_builtin; refine push_sep ints_t rfl (.tmp 25) (.tmp 27) rfl w.heap.size _ _ _ rfl HO1.out ⟨w1.heap.size, 0, none⟩ 1 1 [.int .i64 a] rfl rfl ?hb1 one_cell ?hb2 ?_)
        case hb1 => exact Raw.alloc w1 _ _
        case hb2 => omega
        intro A4 c4 w4 ho4 hb4 hg4 hs4
        have HB4 := Lib.hid (HBB.out.trans hb4)
        have HS4 := Lib.hid (spans_grown HS1.out hg4 HOFF.out)
        have HO4 := Lib.hid ho4
        obtain ⟨z, z0, z1, z2, z3, z4, z5, z6, z7, z8⟩ := HAT.out.below HB4.out
        have CL := Lib.hid (lay15 t a j _ w4 HS4.out (by have := HTL.out; omega) (fit_ok HF.out))
        unfold jobV jobA at CL
        clear ho4 hb4 hg4 hs4 HO1 HS1 HBB HOFF HOW HST HB1 HBL HAT
        go_wp2_with fail
        refine CL.out.mono ?_
        rintro e w5 ⟨v5, r5, rfl, hs5, hr5, hb5, hn5⟩
        have HN5 : Hid (ChainLoop s now js w (k + 1) (l ++ [(a : Int)]) r5 v5 (.slice A4 (l.length + 1) c4) w5) :=
          ⟨HN.out a true r5 HF.out (.inl ⟨rfl, hr5⟩), by rw [List.length_append, HLEN.out]; rfl, by have := HTL.out; have := add_len hr5; omega, hs5, (HO4.out.below hb5).cast (by simp) (by simp [ivals]), OffRow.fresh hn5 HO4.out, thenS HB4.out hb5⟩
        clear hs5 hr5 hb5 hn5 HN HO4 HS4 HB4 CL z z0 z1 z2 z3 z4 z5 z6 z7 z8
        go_wp2_with fail
        exact ⟨⟨k + 1, l ++ [(a : Int)], r5, by go_num, by omega, HN5.out⟩, by simp [intOf] <;> omega⟩
    · obtain rfl : k = js.length := by omega
      have HC := Lib.hid hto.done
      have HST := Lib.hid hst
      have HOW := Lib.hid (IntsAt.own hown rfl)
      have HBL := Lib.hid hbl
      clear HL hto hst hown hoff hbl
      go_wp2_with fail
      go_ret2
      exact ⟨_, _, l, t, rfl, HOW.out, HST.out, htl, hlen, HC.out, HBL.out⟩
end Go.Proofs.Ytonapgbokbeopaa.ShaRef
