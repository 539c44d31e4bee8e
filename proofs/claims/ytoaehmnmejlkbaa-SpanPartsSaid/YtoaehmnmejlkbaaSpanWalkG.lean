/-
  The walk of layer 3's code: Less.
-/
import Derived.Test.YtoaehmnmejlkbaaSpanWalkF
namespace Go.Proofs.Ytoaehmnmejlkbaa.SpanWalk
open Go.RowKit Go.Proofs.Ytoaehmnmejlkbaa.SpanPlain Go.Proofs.Ytoaehmnmejlkbaa.Mem Go.Proofs.Ytoaehmnmejlkbaa.SpanMem Go.Proofs.Ytoaehmnmejlkbaa.SpanRef

def lenOf : Value → Nat | .slice _ n _ => n | _ => 0
/-- A slice of spans whose capacity is known. -/
def SpansR (l : List Sp) (w : World) (v : Value) : Prop := SpansIs l w v ∧ Room v
theorem SpansR.below {l : List Sp} {w w' : World} {v : Value} (h : SpansR l w v) (hb : Below w.heap.size w w') : SpansR l w' v := ⟨h.1.below hb, h.2⟩
theorem SpansR.drewN {l : List Sp} {w : World} {v : Value} (h : SpansR l w v) (q : Nat) : SpansR l (w.drewN q) v := h
theorem SpansR.none_ {w : World} {v : Value} (h : SpansR [] w v) : ∃ A c, v = .slice A 0 c := by
  rcases h.1 with ⟨h1, _⟩ | ⟨a, c, h1, _⟩
  · exact ⟨none, 0, h1⟩
  · exact ⟨_, c, h1⟩
theorem SpansR.some_ {s : Sp} {l : List Sp} {w : World} {v : Value} (h : SpansR (s :: l) w v) : ∃ ad c, v = .slice (some ad) (l.length + 1) c ∧ l.length + 1 ≤ c ∧ c ≤ maxLen ∧ ad.block < w.heap.size ∧ w.cell? ad = some (.int .i64 s.1) ∧ w.cell? ⟨ad.block, ad.off + 1, none⟩ = some (.int .i64 s.2) ∧
    (c = 1 → SpansR l w (.slice (some ad) l.length 0)) ∧ (¬ c = 1 → SpansR l w (.slice (some (ad.add 2)) l.length (c - 1))) := by
  obtain ⟨ad, c, rfl, h1, h2, h3⟩ := first_cells h.1
  obtain ⟨A, n, c', he, h4, h5⟩ := h.2
  injection he with e1 e2 e3
  subst e1; subst e2; subst e3
  have hr : Raw w ad (svals (s :: l)) := by
    rcases h.1 with ⟨h6, _⟩ | ⟨a, c2, h6, h7⟩
    · cases h6
    · injection h6 with e1
      injection e1 with e1
      subst e1; exact h7
  refine ⟨ad, c, rfl, h4, h5, h1, h2, h3, fun hc => ?_, fun hc => ?_⟩
  · have hl : l = [] := List.eq_nil_of_length_eq_zero (by omega)
    subst hl
    exact ⟨.inr ⟨ad, 0, rfl, raw_nil hr⟩, ⟨_, 0, 0, rfl, Nat.le_refl _, Nat.zero_le _⟩⟩
  · exact ⟨.inr ⟨ad.add 2, c - 1, rfl, hr.drop 2⟩, ⟨_, _, c - 1, rfl, by omega, by omega⟩⟩
theorem drop_head {g : List Sp} {j : Nat} (hj : j < g.length) : g.drop j = g.getD j (0, 0) :: g.drop (j + 1) := by rw [getSp hj, List.getElem_cons_drop]

/-- How the outer loop of Less stands. -/
def LessOuter (a g : List Sp) (w2 wr : World) (v u : Value) (k : Nat) : Prop :=
  ∃ c j, OwnN 23 2 w2.heap.size wr v c.length (svals c) ∧ LessRow a g k j c ∧ j ≤ g.length ∧ SpansR (g.drop j) w2 u ∧ Below w2.heap.size w2 wr
/-- How the inner loop stands: worlds that only draw. -/
def LessInner (a g : List Sp) (w2 W wr : World) (u : Value) (k : Nat) (c : List Sp) : Prop :=
  ∃ j, LessRow a g k j c ∧ j ≤ g.length ∧ SpansR (g.drop j) w2 u ∧ ∃ q, wr = W.drewN q
theorem add_two (a : Addr) : a.add 2 = ⟨a.block, a.off + 2, none⟩ := by unfold Addr.add; simp

set_option maxHeartbeats 6400000 in
theorem lessS (l m : List Sp) (v u : Value) (w : World) (hv : SpansIs l w v) (hu : SpansIs m w u) (hl : l.length ≤ 2000) (hm : m.length ≤ 2000) : Calls Try.prog 16 #[v, u] w (LessIs l m w) := by
  have HC := Lib.hid (cover_is m u w hu hm)
  have HV := Lib.hid hv
  clear hu hv
  go_enter Try.func16, Try.ntmps16
  go_wp2_with fail
  refine HC.out.mono ?_
  rintro e w1 ⟨vg, g, rfl, hg, hog, hb1, hrg⟩
  have HC2 := Lib.hid (cover_is l v w1 (HV.out.below hb1) hl)
  have hglen := cov_len hog
  have HG := Lib.hid (show SpansR g w1 vg from ⟨hg, hrg⟩)
  have HOG := Lib.hid hog
  have HB1 := Lib.hid hb1
  clear hg hog hb1 hrg HC
  go_wp2_with fail
  refine HC2.out.mono ?_
  rintro e w2 ⟨va, a, rfl, ha, hoa, hb2, _⟩
  have halen := cov_len hoa
  obtain ⟨A, cc, rfl, hA⟩ := ha.open_
  have HA := Lib.hid hA
  have HOA := Lib.hid hoa
  have HG2 := Lib.hid (HG.out.below hb2)
  have HB2 := Lib.hid (below_then HB1.out hb2)
  clear ha hA hoa hb2 HC2 HG
  simp only [List.length_nil, Nat.add_zero] at halen hglen
  go_wp2_with fail
  go_loopw [5, 6, 14] (fun o p i wr => ∃ (k : Nat) (v u : Value), v = o ∧ u = p ∧ i = .int .i64 k ∧ k ≤ a.length ∧ Hid (LessOuter a g w2 wr v u k)) (fun _ _ i _ => a.length - (intOf i).toNat)
  case atStart => exact ⟨0, _, _, rfl, rfl, rfl, Nat.zero_le _, [], 0, OwnN.nil (Nat.le_refl _), LessRow.start a g, Nat.zero_le _, HG2.out, Below.refl _ _⟩
  case round =>
    obtain ⟨k, o, p, hov, hpv, rfl, hk, HL⟩ := hrel
    subst hov
    subst hpv
    by_cases hlt : k < a.length
    · obtain ⟨c, j, hown, hrow, hj, hsp, hbl⟩ := HL.out
      obtain ⟨ad, rfl, had, c1, c2⟩ := (HA.out.below hbl) k hlt
      have hclen := cov_len hrow.1
      rw [List.length_take] at hclen
      have HIN := Lib.hid (show LessInner a g w2 (wr.alloc (.cells #[.int .i64 (a.getD k (0, 0)).1, .int .i64 (a.getD k (0, 0)).2] 23)) (wr.alloc (.cells #[.int .i64 (a.getD k (0, 0)).1, .int .i64 (a.getD k (0, 0)).2] 23)) p k c from ⟨j, hrow, hj, hsp, 0, rfl⟩)
      have HBX := Lib.hid (Box2.new wr (.int .i64 (a.getD k (0, 0)).1) (.int .i64 (a.getD k (0, 0)).2) 23)
      have HOW := Lib.hid (hown.alloc (.cells #[.int .i64 (a.getD k (0, 0)).1, .int .i64 (a.getD k (0, 0)).2] 23))
      have HBL := Lib.hid (hbl.alloc hbl.size (.cells #[.int .i64 (a.getD k (0, 0)).1, .int .i64 (a.getD k (0, 0)).2] 23))
      have HM := Lib.hid (cov_at HOA.out.1 hlt)
      have HPASS : Hid (∀ j, j < g.length → LessRow a g k j c → (g.getD j (0, 0)).2 ≤ (a.getD k (0, 0)).1 → LessRow a g k (j + 1) c) := fun j hj h h1 => LessRow.pass HOA.out.1 h hlt hj h1
      have HNEXT : Hid (∀ j x, LessRow a g k j c → LessOf [a.getD k (0, 0)] (g.drop j) x → LessRow a g (k + 1) j (c ++ x)) := fun j x h h1 => LessRow.next HOA.out.1 h hlt h1
      have HAHEAD : Hid (∀ j, (j < g.length → ¬ (g.getD j (0, 0)).2 ≤ (a.getD k (0, 0)).1) → ∀ r ∈ g.drop j, (a.getD k (0, 0)).1 < r.2) := fun j h => LessRow.ahead HOG.out.1 h
      clear hown hrow hj hsp hbl HL
      unfold spCell at c1 c2
      dsimp only at c1 c2
      generalize a.getD k (0, 0) = s at *
      go_wp2_with fail
      obtain ⟨s1, s2⟩ := s
      dsimp only at *
      have hsz : (wr.alloc (.cells #[.int .i64 s1, .int .i64 s2] 23)).heap.size = wr.heap.size + 1 := by simp
      have HSZ := Lib.hid hsz
      clear hsz c1 c2 had
      generalize wr.alloc (.cells #[.int .i64 s1, .int .i64 s2] 23) = W at *
      go_loopw [6] (fun p wi => ∃ u : Value, u = p ∧ Hid (LessInner a g w2 W wi u k c)) (fun p _ => lenOf p)
      case atStart => exact ⟨_, rfl, HIN.out⟩
      case round =>
        obtain ⟨p2, hp2, HI⟩ := hrel
        subst hp2
        obtain ⟨j2, hrow, hj2, hsp, nd, hwq⟩ := HI.out
        subst hwq
        have HJ := Lib.hid (show SpansR (g.drop j2) w2 p2 from hsp)
        have HROW := Lib.hid hrow
        obtain ⟨x0, x1, x2, x3, x4⟩ := HBX.out
        have CW := Lib.hid (fun (h : ∀ r ∈ g.drop j2, s1 < r.2) q => withS (s1, s2) (g.drop j2) p2 (W.drewN q) (hsp.below (below_drewN HBL.out q)).1 HM.out (cov_drop HOG.out.1 j2) h (by simp; omega))
        unfold spV at CW
        dsimp only at CW
        clear hrow HI hsp HIN x3 x4
        by_cases hjl : j2 < g.length
        · have hsp := HJ.out
          rw [drop_head hjl] at hsp
          obtain ⟨ga, gc, rfl, g1, g2, g3, c3, c4, hs1, hs2⟩ := hsp.some_
          obtain ⟨d3, d4, d5⟩ := first_held HBL.out c3 c4 g3
          unfold maxLen at g2
          have HS1 := Lib.hid hs1
          have HS2 := Lib.hid hs2
          have HP := Lib.hid (HPASS.out j2 hjl HROW.out)
          clear hsp hs1 hs2 c3 c4 g3
          by_cases ho : (g.getD j2 (0, 0)).2 ≤ s1
          · have ho2 : decide ((g.getD j2 (0, 0)).2 ≤ s1) = true := decide_eq_true ho
            have HP2 := Lib.hid (HP.out ho)
            generalize g.getD j2 (0, 0) = r at *
            generalize (g.drop (j2 + 1)).length = n2 at *
            have hpos : (0 : Int) < (n2 : Int) + 1 := by omega
            clear HP HPASS HNEXT HAHEAD ho CW
            have hgc : (n2 = 0 ∧ gc = 1) ∨ ¬ gc = 1 := by omega
            rcases hgc with ⟨rfl, rfl⟩ | hgc
            · have HS3 := Lib.hid (HS1.out rfl)
              go_wp2_with fail
              go_quiet (fail)
              go_wp2_with fail
              exact ⟨⟨_, rfl, j2 + 1, HP2.out, by omega, HS3.out, _, rfl⟩, by simp [lenOf]⟩
            · have HS3 := Lib.hid (HS2.out hgc)
              go_wp2_with fail
              go_quiet (fail)
              go_wp2_with fail
              exact ⟨⟨_, rfl, j2 + 1, HP2.out, by omega, by rw [← add_two]; exact HS3.out, _, rfl⟩, by simp [lenOf]⟩
          · have ho2 : decide ((g.getD j2 (0, 0)).2 ≤ s1) = false := decide_eq_false ho
            have CW := Lib.hid (CW.out (HAHEAD.out j2 (fun _ => by omega)))
            generalize g.getD j2 (0, 0) = r at *
            generalize (g.drop (j2 + 1)).length = n2 at *
            have hpos : (0 : Int) < (n2 : Int) + 1 := by omega
            clear HP HS1 HS2
            go_wp2_with fail
            go_quiet (fail)
            go_wp2_with fail
            refine (CW.out _).mono ?_
            rintro e w3 ⟨vw, x, rfl, hx, hlx, hxl, hb3⟩
            have HX := Lib.hid hx
            have HN := Lib.hid (HNEXT.out j2 x HROW.out hlx)
            have HO3 := Lib.hid ((HOW.out.drewN (nd + nq)).below hb3)
            have HB3 := Lib.hid ((below_drewN HBL.out (nd + nq)).trans (hb3.mono HBL.out.size))
            rw [List.length_drop, List.length_singleton] at hxl
            clear hx hlx hb3 x0 x1 x2 CW HNEXT HAHEAD HPASS
            go_wp2_with (at_builtin; refine push_own spans_t rfl (.tmp 32) (.tmp 35) rfl w2.heap.size _ _ _ rfl HO3.out _ x.length (svals x) rfl ?h1a ?h1b (svals_cell x) ?h1c ?_)
            case h1a => exact svals_len x
            case h1b => exact HX.out.src
            case h1c => omega
            intro v4 w4 ho4 hb4 hg4
            have HO4 := Lib.hid (ho4.cast (m := (c ++ x).length) (ys := svals (c ++ x)) (by simp) (by rw [svals_append]))
            have HB4 := Lib.hid (HB3.out.trans hb4)
            clear ho4 hb4 hg4
            go_wp2_with fail
            exact ⟨⟨k + 1, _, _, rfl, rfl, by go_num, by omega, c ++ x, j2, HO4.out, HN.out, hj2, HJ.out, HB4.out⟩, by simp [intOf] <;> omega⟩
        · have he : g.drop j2 = [] := List.drop_of_length_le (by omega)
          have hsp := HJ.out
          have CW := Lib.hid (CW.out (HAHEAD.out j2 (fun h => absurd h hjl)))
          rw [he] at hsp
          obtain ⟨gA, gc, rfl⟩ := hsp.none_
          clear hsp he
          go_wp2_with fail
          go_quiet (fail)
          go_wp2_with fail
          refine (CW.out _).mono ?_
          rintro e w3 ⟨vw, x, rfl, hx, hlx, hxl, hb3⟩
          have HX := Lib.hid hx
          have HN := Lib.hid (HNEXT.out j2 x HROW.out hlx)
          have HO3 := Lib.hid ((HOW.out.drewN (nd + nq)).below hb3)
          have HB3 := Lib.hid ((below_drewN HBL.out (nd + nq)).trans (hb3.mono HBL.out.size))
          rw [List.length_drop, List.length_singleton] at hxl
          clear hx hlx hb3 x0 x1 x2 CW HNEXT HAHEAD HPASS
          go_wp2_with (at_builtin; refine push_own spans_t rfl (.tmp 32) (.tmp 35) rfl w2.heap.size _ _ _ rfl HO3.out _ x.length (svals x) rfl ?h2a ?h2b (svals_cell x) ?h2c ?_)
          case h2a => exact svals_len x
          case h2b => exact HX.out.src
          case h2c => omega
          intro v4 w4 ho4 hb4 hg4
          have HO4 := Lib.hid (ho4.cast (m := (c ++ x).length) (ys := svals (c ++ x)) (by simp) (by rw [svals_append]))
          have HB4 := Lib.hid (HB3.out.trans hb4)
          clear ho4 hb4 hg4
          go_wp2_with fail
          exact ⟨⟨k + 1, _, _, rfl, rfl, by go_num, by omega, c ++ x, j2, HO4.out, HN.out, hj2, HJ.out, HB4.out⟩, by simp [intOf] <;> omega⟩
    · go_wp2_with fail
      go_ret
      obtain ⟨c, j, hown, hrow, hj, hsp, hbl⟩ := HL.out
      exact less_is (OwnN.spans hown rfl) (hrow.done (by omega) HOA.out HOG.out) (HB2.out.trans (hbl.mono HB2.out.size))
end Go.Proofs.Ytoaehmnmejlkbaa.SpanWalk
