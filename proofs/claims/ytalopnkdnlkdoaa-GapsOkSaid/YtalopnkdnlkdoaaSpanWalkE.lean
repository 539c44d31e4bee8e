/-
  The walk of layer 3's code: Cover, over the contract of rising.
-/
import Derived.Test.YtalopnkdnlkdoaaSpanWalkD
import Derived.BigRegion
namespace Go.Proofs.Ytalopnkdnlkdoaa.SpanWalk
open Go.RowKit Go.Proofs.Ytalopnkdnlkdoaa.SpanPlain Go.Proofs.Ytalopnkdnlkdoaa.Mem Go.Proofs.Ytalopnkdnlkdoaa.SpanMem Go.Proofs.Ytalopnkdnlkdoaa.SpanRef
/-- A slice's length is within its capacity. -/
def Room (v : Value) : Prop := ∃ A n c, v = .slice A n c ∧ n ≤ c ∧ c ≤ maxLen
theorem own_room {e : TypeId} {k base n : Nat} {w : World} {v : Value} {xs : List Value} (h : OwnN e k base w v n xs) : Room v := by
  rcases h.form with ⟨h1, _, _⟩ | ⟨g, c, hv, _, _, h3, h4, _⟩
  · exact ⟨none, 0, 0, h1, Nat.le_refl _, Nat.zero_le _⟩
  · exact ⟨_, n, c, hv, h3, h4⟩
/-- What Cover answers. -/
def CoverIs (l : List Sp) (w : World) (e : Ending) (w' : World) : Prop := ∃ v c, e = .returned v ∧ SpansIs c w' v ∧ LessOf l [] c ∧ Below w.heap.size w w' ∧ Room v
/-- How the loop of Cover stands. -/
def CovLoop (r : List Sp) (w1 wr : World) (v : Value) (k : Nat) : Prop :=
  ∃ c, OwnN 36 2 w1.heap.size wr v c.length (svals c) ∧ CoverAt r k c ∧ c.length ≤ k ∧ Below w1.heap.size w1 wr
theorem own_shape {e : TypeId} {k base n : Nat} {w : World} {v : Value} {xs : List Value} (h : OwnN e k base w v n xs) : ∃ A c, v = .slice A n c := by
  rcases h.form with ⟨h1, h2, _⟩ | ⟨g, c, hv, _⟩
  · subst h2; exact ⟨none, 0, h1⟩
  · exact ⟨_, c, hv⟩
theorem own_there {e : TypeId} {k base n : Nat} {w : World} {v : Value} {xs : List Value} (h : OwnN e k base w v (n + 1) xs) :
    ∃ g c, v = .slice (some ⟨g, 0, none⟩) (n + 1) c ∧ base ≤ g ∧ g < w.heap.size ∧ (∀ j u, xs[j]? = some u → w.cell? ⟨g, j, none⟩ = some u) ∧ ∀ i, w.frozen? ⟨g, i, none⟩ = false := by
  rcases h.form with ⟨_, h2, _⟩ | ⟨g, c, hv, h1, h2, _, _, hr, hf, _⟩
  · omega
  · exact ⟨g, c, hv, h1, h2, fun j u hu => by have := (hr j u hu).2; rwa [add_flat] at this, hf⟩
theorem below_drawn {w1 wr w2 : World} {a b : Obj} {n : Nat} (h : Below w1.heap.size w1 wr) (k : Below w1.heap.size (((wr.alloc a).drewN n).alloc b) w2) : Below w1.heap.size w1 w2 :=
  ((below_drewN (h.alloc h.size _) n).alloc (by show _ ≤ (wr.alloc a).heap.size; have := h.size; simp; omega) _).trans k
set_option maxHeartbeats 3200000 in
theorem cover_of (l : List Sp) (v : Value) (w : World) (hl : l.length ≤ 2000) (R : Calls Try.prog 35 #[v] w (RisIs l w)) : Calls Try.prog 28 #[v] w (CoverIs l w) := by
  have HR := Lib.hid R
  clear R
  go_enter Try.func28, Try.ntmps28
  go_wp2_with fail
  refine HR.out.mono ?_
  rintro e w1 ⟨vr, r, rfl, hr, hri, ht, hlen, hb1⟩
  obtain ⟨A, cc, rfl, hA⟩ := hr.open_
  have HA := Lib.hid hA
  have HRI := Lib.hid hri
  have HT := Lib.hid ht
  have HB1 := Lib.hid hb1
  clear hr hA hri ht hb1 HR
  go_wp2_with fail
  go_loopw [3, 10] (fun o i wr => ∃ (k : Nat) (v : Value), v = o ∧ i = .int .i64 k ∧ k ≤ r.length ∧ Hid (CovLoop r w1 wr v k)) (fun _ i _ => r.length - (intOf i).toNat)
  case atStart => exact ⟨0, _, rfl, rfl, Nat.zero_le _, [], OwnN.nil (Nat.le_refl _), CoverAt.start r, Nat.le_refl _, Below.refl _ _⟩
  case round =>
    obtain ⟨k, o, hov, rfl, hk, HL⟩ := hrel
    subst hov
    by_cases hlt : k < r.length
    · obtain ⟨c, hown, hat, hck, hbl⟩ := HL.out
      obtain ⟨ad, rfl, had, c1, c2⟩ := (HA.out.below hbl) k hlt
      have HOW := Lib.hid hown
      have HAT := Lib.hid hat
      have HBL := Lib.hid hbl
      have hsn := snoc_cases c
      have HADD := Lib.hid (fun h => HAT.out.add HRI.out hlt h)
      have HGROW : Hid (∀ d q, c = d ++ [q] → ¬ q.2 < (r.getD k (0, 0)).1 → CoverAt r (k + 1) (d ++ [(q.1, max q.2 (r.getD k (0, 0)).2)])) := fun d q e h => CoverAt.grow HRI.out (e ▸ HAT.out) hlt h
      clear hown hat hbl HL
      unfold spCell at c1 c2
      dsimp only at c1 c2
      generalize r.getD k (0, 0) = s at *
      rcases hsn with rfl | ⟨d, q, rfl⟩
      · obtain ⟨B, cb, rfl⟩ := own_shape HOW.out
        have HO1 := Lib.hid (HOW.out.alloc (.cells #[.int .i64 s.1, .int .i64 s.2] 36))
        go_wp2_with fail
        go_quiet (fail)
        go_wp2_with (at_builtin; refine push_own spans_t rfl (.tmp 29) (.tmp 31) rfl w1.heap.size _ _ _ rfl ((HO1.out.drewN _).alloc (.cells #[.int .i64 s.1, .int .i64 s.2] 36)) _ 1 [.int .i64 s.1, .int .i64 s.2] rfl rfl ?h1a two_cells ?h1b ?_)
        case h1a => exact raw_at (by show (wr.alloc _).heap.size = _; simp) #[.int .i64 s.1, .int .i64 s.2] _
        case h1b => simp <;> omega
        intro v2 w2 ho2 hb2 hgr2
        have HO2 := Lib.hid ho2
        have HB2 := Lib.hid (below_drawn HBL.out hb2)
        clear ho2 hb2 hgr2
        go_wp2_with fail
        exact ⟨⟨k + 1, _, rfl, by go_num, by omega, [] ++ [s], HO2.out.cast (by simp) (by rw [svals_append]; rfl), HADD.out (fun x h => by simp at h), by simp, HB2.out⟩, by simp [intOf] <;> omega⟩
      · have hck2 : d.length + 1 ≤ k := by simpa using hck
        have HOQ : Hid (OwnN 36 2 w1.heap.size wr o (d.length + 1) (svals (d ++ [q]))) := by
          have h := HOW.out
          rw [List.length_append, List.length_singleton] at h
          exact h
        obtain ⟨g, cap, hv, hg1, hg2, hgc, hgf⟩ := own_there HOQ.out
        have ce := hgc _ _ (svals_end d q)
        have cf := hgf (d.length * 2 + 1)
        clear hgc hgf
        subst hv
        have q0 : (0 : Int) ≤ (d.length : Int) := Int.natCast_nonneg _
        have q1 : (d.length : Int) < (d.length : Int) + 1 := by omega
        have q2 : IntKind.i64.wrap ((d.length : Int) + 1 - 1) = (d.length : Int) := by rw [IntKind.wrap_i64]; omega
        by_cases hx : q.2 < s.1
        · have hx2 : decide (q.2 < s.1) = true := decide_eq_true hx
          have HA2 := Lib.hid (HADD.out (last_all HAT.out.1 hx))
          have HO1 := Lib.hid (HOQ.out.alloc (.cells #[.int .i64 s.1, .int .i64 s.2] 36))
          go_wp2_with fail
          go_quiet (fail)
          go_wp2_with (at_builtin; refine push_own spans_t rfl (.tmp 29) (.tmp 31) rfl w1.heap.size _ _ _ rfl ((HO1.out.drewN _).alloc (.cells #[.int .i64 s.1, .int .i64 s.2] 36)) _ 1 [.int .i64 s.1, .int .i64 s.2] rfl rfl ?h2a two_cells ?h2b ?_)
          case h2a => exact raw_at (by show (wr.alloc _).heap.size = _; simp) #[.int .i64 s.1, .int .i64 s.2] _
          case h2b => simp <;> omega
          intro v2 w2 ho2 hb2 hgr2
          have HO2 := Lib.hid ho2
          have HB2 := Lib.hid (below_drawn HBL.out hb2)
          clear ho2 hb2 hgr2
          go_wp2_with fail
          exact ⟨⟨k + 1, _, rfl, by go_num, by omega, (d ++ [q]) ++ [s], HO2.out.cast (by simp) (by rw [svals_append (d ++ [q])]; rfl), HA2.out, by simp <;> omega, HB2.out⟩, by simp [intOf] <;> omega⟩
        · have hx2 : decide (q.2 < s.1) = false := decide_eq_false hx
          go_wp2_with fail
          go_quiet (fail)
          go_wp2_with fail
          have HG := Lib.hid (HGROW.out d q rfl hx)
          have HB5 := Lib.hid (below_drewN (HBL.out.alloc HBL.out.size (.cells #[.int .i64 s.1, .int .i64 s.2] 36)) nq)
          have HO5 := Lib.hid ((HOQ.out.alloc (.cells #[.int .i64 s.1, .int .i64 s.2] 36)).drewN nq)
          obtain ⟨x0, x1, x2, x3, x4⟩ := (Box2.new wr (.int .i64 s.1) (.int .i64 s.2) 36).drewN nq
          have e1 : ((wr.alloc (.cells #[.int .i64 s.1, .int .i64 s.2] 36)).drewN nq).cell? ⟨g, d.length * 2 + 1, none⟩ = some (.int .i64 q.2) := ((below_alloc wr (.cells #[.int .i64 s.1, .int .i64 s.2] 36)).cell (p := ⟨g, d.length * 2 + 1, none⟩) hg2).trans ce
          have e2 : ((wr.alloc (.cells #[.int .i64 s.1, .int .i64 s.2] 36)).drewN nq).frozen? ⟨g, d.length * 2 + 1, none⟩ = false := ((below_alloc wr (.cells #[.int .i64 s.1, .int .i64 s.2] 36)).frozen (p := ⟨g, d.length * 2 + 1, none⟩) hg2).trans cf
          generalize (wr.alloc (.cells #[.int .i64 s.1, .int .i64 s.2] 36)).drewN nq = W at *
          clear x3 x4 c1 c2 ce cf x1
          go_region
          go_wp2_with fail
          exact ⟨⟨k + 1, _, rfl, by go_num, by omega, d ++ [(q.1, max q.2 s.2)], ((HO5.out.set (d.length * 2 + 1) (.int .i64 (max q.2 s.2))).drew).cast (by simp) (svals_last d q _), HG.out, by simpa using (by omega : d.length + 1 ≤ k + 1), ((HB5.out.setCell (p := ⟨g, d.length * 2 + 1, none⟩) hg1 _).drew)⟩, by simp [intOf] <;> omega⟩
    · go_wp2_with fail
      go_ret
      obtain ⟨c, hown, hat, hck, hbl⟩ := HL.out
      exact ⟨_, c, rfl, OwnN.spans hown rfl, hat.less (by omega) HT.out, HB1.out.trans (hbl.mono HB1.out.size), own_room hown⟩
end Go.Proofs.Ytalopnkdnlkdoaa.SpanWalk
