/-
  The walk of layer 4's code: neighbours that are alike, joined (CompactFunc of the library at the closure of joined).
-/
import Derived.Test.YtjkninldenoanaaStepWalkD
import Derived.Test.YtjkninldenoanaaBase
namespace Go.Proofs.Ytjkninldenoanaa.StepWalk
open Go.RowKit Go.Proofs.Ytjkninldenoanaa.SpanPlain Go.Proofs.Ytjkninldenoanaa.StepPlain Go.Proofs.Ytjkninldenoanaa.Mem Go.Proofs.Ytjkninldenoanaa.SpanMem Go.Proofs.Ytjkninldenoanaa.StepMem Go.Proofs.Ytjkninldenoanaa.SpanRef Go.Proofs.Ytjkninldenoanaa.StepRef

theorem alikeS (a b : Sp) (w : World) : Calls Try.prog 50 #[.agg #[.int .i64 a.1, .int .i64 a.2], .agg #[.int .i64 b.1, .int .i64 b.2]] w (BoolIs (a.2 == b.2) w) := by
  cases hb : (a.2 == b.2)
  all_goals
    go_enter Try.func50, Try.ntmps50
    go_wp2_with fail
    go_ret
    exact ⟨rfl, ((Below.refl _ _).alloc (Nat.le_refl _) _).alloc (by simp) _⟩

/-- What the joining answers. -/
def JoinSays (l : List Sp) (base : Nat) (w : World) (e : Ending) (w' : World) : Prop := ∃ v, e = .returned v ∧ SpansIs (joinL l) w' v ∧ Below base w w' ∧ NewAt base v
/-- How the joining stands: the row holds what is joined so far, then what it held. -/
structure JoinAt (l : List Sp) (m kk : Nat) (r : List Sp) : Prop where
  len : r.length = l.length
  kept : r.take kk = joinL (l.take m)
  at_ : kk = (joinL (l.take m)).length
  rest : ∀ j, m ≤ j + 1 → nth r j = nth l j
  low : kk + 1 ≤ m
theorem JoinAt.start {l : List Sp} {k : Nat} (h0 : 0 < k) (hk : k < l.length) (h : ∀ j, 0 < j → j < k → (nth l j).2 ≠ (nth l (j - 1)).2) (hs : (nth l k).2 = (nth l (k - 1)).2) : JoinAt l (k + 1) k l := by
  have e := (join_take_same h0 hk hs).trans (join_none (by omega) h)
  exact ⟨rfl, e.symm, by rw [e, List.length_take]; omega, fun _ _ => rfl, Nat.le_refl _⟩
theorem JoinAt.same {l r : List Sp} {m kk : Nat} (h : JoinAt l m kk r) (h0 : 0 < m) (hm : m < l.length) (hs : (nth l m).2 = (nth l (m - 1)).2) : JoinAt l (m + 1) kk r := by
  have e := join_take_same h0 hm hs
  exact ⟨h.len, by rw [e]; exact h.kept, by rw [e]; exact h.at_, fun j hj => h.rest j (by omega), by have := h.low; omega⟩
theorem take_set_snoc {r : List Sp} {kk : Nat} (h : kk < r.length) (y : Sp) : (r.set kk y).take (kk + 1) = r.take kk ++ [y] := by
  have h2 : kk < (r.set kk y).length := by rw [List.length_set]; exact h
  rw [List.take_succ_eq_append_getElem h2, List.take_set_of_le (Nat.le_refl _)]
  simp
theorem JoinAt.more {l r : List Sp} {m kk : Nat} (h : JoinAt l m kk r) (h0 : 0 < m) (hm : m < l.length) (hs : (nth l m).2 ≠ (nth l (m - 1)).2) : JoinAt l (m + 1) (kk + 1) (r.set kk (nth l m)) := by
  have e := join_take_new h0 hm hs
  have hl := h.low
  have hlen := h.len
  refine ⟨by rw [List.length_set]; exact h.len, by rw [e, take_set_snoc (by omega), h.kept], by rw [e, List.length_append, ← h.at_]; rfl, fun j hj => ?_, by omega⟩
  rw [nth_set (by omega), if_neg (by omega)]
  exact h.rest j (by omega)
theorem svals_set (l : List Sp) : ∀ (k : Nat) (y : Sp), k < l.length → ((svals l).set (k * 2) (.int .i64 y.1)).set (k * 2 + 1) (.int .i64 y.2) = svals (l.set k y) := by
  induction l with
  | nil => intro k y h; simp at h
  | cons s l ih =>
    intro k y h
    have e : svals (s :: l) = .int .i64 s.1 :: .int .i64 s.2 :: svals l := rfl
    cases k with
    | zero => rfl
    | succ k =>
      have e2 : svals (s :: l.set k y) = .int .i64 s.1 :: .int .i64 s.2 :: svals (l.set k y) := rfl
      rw [e, show (k + 1) * 2 = k * 2 + 1 + 1 by omega, List.set_cons_succ, List.set_cons_succ, List.set_cons_succ, List.set_cons_succ, ih k y (by simpa using h), List.set_cons_succ, e2]
/-- A cell of an own row of steps. -/
theorem own_cells {base n c g : Nat} {w : World} {l : List Sp} (h : OwnR 62 2 base w (.slice (some ⟨g, 0, none⟩) n c) n (svals l)) {k : Nat} (hk : k < l.length) :
    w.cell? ⟨g, k * 2, none⟩ = some (.int .i64 (nth l k).1) ∧ w.cell? ⟨g, k * 2 + 1, none⟩ = some (.int .i64 (nth l k).2) ∧ w.frozen? ⟨g, k * 2, none⟩ = false ∧ w.frozen? ⟨g, k * 2 + 1, none⟩ = false ∧ g < w.heap.size ∧ base ≤ g := by
  obtain ⟨g', c', hv, h1, h2, _, _, hr, hf⟩ := h.form
  injection hv with hv
  injection hv with hv
  injection hv with hv
  subst hv
  have e1 := (hr _ _ (svals_at l k hk).1).2
  have e2 := (hr _ _ (svals_at l k hk).2).2
  rw [add_flat] at e1 e2
  exact ⟨e1, e2, hf _, hf _, h2, h1⟩

set_option maxRecDepth 100000 in
set_option maxHeartbeats 3200000 in
theorem compactS (l : List Sp) (base g c : Nat) (w : World) (ho : OwnR 62 2 base w (.slice (some ⟨g, 0, none⟩) l.length c) l.length (svals l)) (hn : l.length ≤ c) (hl : l.length ≤ 100000) :
    Calls Try.prog 49 #[.slice (some ⟨g, 0, none⟩) l.length c, .func (.func 50) #[] #[]] w (JoinSays l base w) := by
  have HO := Lib.hid ho
  clear ho
  by_cases h2 : l.length < 2
  · have d1 : decide ((l.length : Int) < 2) = true := decide_eq_true (by omega)
    have HR : Hid (joinL l = l) := by
      have := join_none (l := l) (Nat.le_refl _) (fun j h1 h2 => by omega)
      rwa [List.take_of_length_le (Nat.le_refl _)] at this
    clear h2
    go_enter Try.func49, Try.ntmps49
    go_wp2_with fail
    go_ret
    exact ⟨_, rfl, by rw [HR.out]; exact OwnR.spans HO.out rfl, Below.refl _ _, NewAt.own HO.out.toN (Nat.le_refl _)⟩
  · have d1 : decide ((l.length : Int) < 2) = false := decide_eq_false (by omega)
    go_enter Try.func49, Try.ntmps49
    go_wp2_with fail
    go_loopw [5] (fun a wr => ∃ k : Nat, a = .int .i64 k ∧ 1 ≤ k ∧ k ≤ l.length ∧ Hid ((∀ j, 0 < j → j < k → (nth l j).2 ≠ (nth l (j - 1)).2) ∧ Below w.heap.size w wr)) (fun a _ => l.length - (intOf a).toNat)
    case atStart => exact ⟨1, rfl, Nat.le_refl _, by omega, fun j h1 h2 => by omega, Below.refl _ _⟩
    case round =>
      obtain ⟨k, rfl, hk1, hk, HL⟩ := hrel
      obtain ⟨hall, hbl⟩ := HL.out
      by_cases hlt : k < l.length
      · obtain ⟨a1, a2, a3, a4, a5, a6⟩ := own_cells (HO.out.below hbl) hlt
        obtain ⟨b1, b2, b3, b4, _, _⟩ := own_cells (HO.out.below hbl) (show k - 1 < l.length by omega)
        have P1 := calm_cell (a := ⟨g, k * 2, none⟩) a5 a1
        have P2 := calm_cell (a := ⟨g, k * 2 + 1, none⟩) a5 a2
        have P3 := calm_cell (a := ⟨g, (k - 1) * 2, none⟩) a5 b1
        have P4 := calm_cell (a := ⟨g, (k - 1) * 2 + 1, none⟩) a5 b2
        have i0 : (0 : Int) ≤ (k : Int) := Int.natCast_nonneg _
        have i1 : (k : Int) < (l.length : Int) := by omega
        have q0 : (0 : Int) ≤ ((k - 1 : Nat) : Int) := Int.natCast_nonneg _
        have q1 : ((k - 1 : Nat) : Int) < (l.length : Int) := by omega
        have q2 : IntKind.i64.wrap ((k : Int) - 1) = ((k - 1 : Nat) : Int) := by rw [IntKind.wrap_i64]; omega
        have CE := Lib.hid (fun W => alikeS (nth l k) (nth l (k - 1)) W)
        have HALL := Lib.hid hall
        have HBL := Lib.hid hbl
        by_cases heq : (nth l k).2 = (nth l (k - 1)).2
        · have he : ((nth l k).2 == (nth l (k - 1)).2) = true := beq_iff_eq.2 heq
          rw [he] at CE
          have HS := Lib.hid (JoinAt.start (by omega) hlt hall heq)
          clear heq he hall hbl HL a1 a2 a3 a4 b1 b2 b3 b4
          generalize nth l k = x at *
          generalize nth l (k - 1) = y at *
          go_wp2_with fail
          refine wp_region_calm (by kernel_rfl) (by kernel_rfl) ?_
          repeat (first | go_big_quiet_step ((go_at_call 50; exact calm_of (v := .bool true) (CE.out _))) | quiet_step ((go_at_call 50; exact calm_of (v := .bool true) (CE.out _))))
          refine wpQuiet_nil ?_
          intro w1 hw
          have hb1 := lull_below hw
          have HB1 := Lib.hid (below_then HBL.out hb1)
          clear hw hb1 P1 P2 P3 P4
          go_wp2_with fail
          have HO1 := Lib.hid (HO.out.below HB1.out)
          have HBB := Lib.hid ((HB1.out.mono (Nat.le_refl _)).mono HO.out.2.2)
          clear HALL HBL HB1 CE q0 q1 q2 i1
          go_loopw [5, 7] (fun a b wr => ∃ (kk k2 : Nat) (r : List Sp), a = .int .i64 kk ∧ b = .int .i64 k2 ∧ 1 ≤ k2 ∧ k + k2 ≤ l.length ∧ kk < l.length ∧ Hid (JoinAt l (k + k2) kk r ∧ OwnR 62 2 base wr (.slice (some ⟨g, 0, none⟩) l.length c) l.length (svals r) ∧ Below base w wr)) (fun _ b _ => (l.length - k) - (intOf b).toNat)
          case atStart => exact ⟨k, 1, l, rfl, rfl, Nat.le_refl _, by omega, hlt, HS.out, HO1.out, HBB.out⟩
          case round =>
            obtain ⟨kk, k2, r, rfl, rfl, hk21, hk2, hkk, HL⟩ := hrel
            obtain ⟨hat, hor, hbr⟩ := HL.out
            by_cases hlt2 : k2 < l.length - k
            · have hlen := hat.len
              obtain ⟨a1, a2, _, _, a5, a6⟩ := own_cells hor (k := k + k2) (by omega)
              obtain ⟨b1, b2, _, _, _, _⟩ := own_cells hor (k := k + k2 - 1) (by omega)
              rw [hat.rest (k + k2) (by omega), show (k + k2) * 2 = k * 2 + k2 * 2 by omega] at a1 a2
              rw [hat.rest (k + k2 - 1) (by omega), show (k + k2 - 1) * 2 = k * 2 + (k2 - 1) * 2 by omega] at b1 b2
              have P1 := calm_cell (a := ⟨g, k * 2 + k2 * 2, none⟩) a5 a1
              have P2 := calm_cell (a := ⟨g, k * 2 + k2 * 2 + 1, none⟩) a5 a2
              have P3 := calm_cell (a := ⟨g, k * 2 + (k2 - 1) * 2, none⟩) a5 b1
              have P4 := calm_cell (a := ⟨g, k * 2 + (k2 - 1) * 2 + 1, none⟩) a5 b2
              have j0 : (0 : Int) ≤ (k2 : Int) := Int.natCast_nonneg _
              have j1 : (k2 : Int) < ((l.length - k : Nat) : Int) := by omega
              have q0 : (0 : Int) ≤ ((k2 - 1 : Nat) : Int) := Int.natCast_nonneg _
              have q1 : ((k2 - 1 : Nat) : Int) < ((l.length - k : Nat) : Int) := by omega
              have q2 : IntKind.i64.wrap ((k2 : Int) - 1) = ((k2 - 1 : Nat) : Int) := by rw [IntKind.wrap_i64]; omega
              have CE := Lib.hid (fun W => alikeS (nth l (k + k2)) (nth l (k + k2 - 1)) W)
              have HOR := Lib.hid hor
              have HBR := Lib.hid hbr
              by_cases heq : (nth l (k + k2)).2 = (nth l (k + k2 - 1)).2
              · have he : ((nth l (k + k2)).2 == (nth l (k + k2 - 1)).2) = true := beq_iff_eq.2 heq
                rw [he] at CE
                have HN := Lib.hid (hat.same (by omega) (by omega) heq)
                clear heq he hat hor hbr HL a1 a2 b1 b2
                generalize nth l (k + k2) = x at *
                generalize nth l (k + k2 - 1) = y at *
                go_wp2_with fail
                refine wp_region_calm (by kernel_rfl) (by kernel_rfl) ?_
                repeat (first | go_big_quiet_step (((go_at_call 50; exact calm_of (v := .bool true) (CE.out _)))) | quiet_step (((go_at_call 50; exact calm_of (v := .bool true) (CE.out _)))))
                refine wpQuiet_nil ?_
                intro w1 hw
                have hb1 := lull_below hw
                have HB1 := Lib.hid hb1
                clear hw hb1 P1 P2 P3 P4
                go_wp2_with fail
                exact ⟨⟨kk, k2 + 1, r, rfl, by go_num, by omega, by omega, hkk, HN.out, HOR.out.below HB1.out, HBR.out.trans (HB1.out.mono HOR.out.2.2)⟩, by simp [intOf] <;> omega⟩
              · have he : ((nth l (k + k2)).2 == (nth l (k + k2 - 1)).2) = false := beq_eq_false_iff_ne.2 heq
                rw [he] at CE
                have HN := Lib.hid (hat.more (by omega) (by omega) heq)
                have hlow := hat.low
                have HAT := Lib.hid hat
                clear heq he hat hor hbr HL a1 a2 b1 b2
                generalize hx : nth l (k + k2) = x at *
                have HX := Lib.hid hx
                clear hx
                generalize nth l (k + k2 - 1) = y at *
                go_wp2_with fail
                refine wp_region_calm (by kernel_rfl) (by kernel_rfl) ?_
                repeat (first | go_big_quiet_step (((go_at_call 50; exact calm_of (v := .bool false) (CE.out _)))) | quiet_step (((go_at_call 50; exact calm_of (v := .bool false) (CE.out _)))))
                refine wpQuiet_nil ?_
                intro w1 hw
                have hb1 := lull_below hw
                have HB1 := Lib.hid hb1
                have a1 := P1 ⟨w1, hb1⟩
                have a2 := P2 ⟨w1, hb1⟩
                dsimp only at a1 a2
                clear hw hb1 P1 P2 P3 P4
                have HOR1 := Lib.hid (HOR.out.below HB1.out)
                have HBR1 := Lib.hid (HBR.out.trans (HB1.out.mono HOR.out.2.2))
                obtain ⟨c1, c2, c3, c4, c5, c6⟩ := own_cells HOR1.out (k := kk) (by omega)
                generalize nth r kk = z at *
                have k0 : (0 : Int) ≤ (kk : Int) := Int.natCast_nonneg _
                have k1 : (kk : Int) < (l.length : Int) := by omega
                go_wp2_with fail
                refine ⟨⟨kk + 1, k2 + 1, r.set kk x, by go_num, by go_num, by omega, by omega, by omega, HN.out, ?_, ?_⟩, by simp [intOf] <;> omega⟩
                · exact ((HOR1.out.set (kk * 2) (.int .i64 x.1)).set (kk * 2 + 1) (.int .i64 x.2)).cast rfl (svals_set r kk x (by omega))
                · exact (HBR1.out.setCell (p := ⟨g, kk * 2, none⟩) c6 _).setCell (p := ⟨g, kk * 2 + 1, none⟩) c6 _
            · have hlen := hat.len
              have hcl : ∀ ty, (Builtin.clear_ #[45] ty #[.slice (some ⟨g, kk * 2, none⟩) (l.length - kk) (c - kk)]).run Try.prog wr = .ok (.tuple #[]) (wr.setCells g (kk * 2) (List.replicate ((l.length - kk) * 2) (.int .i64 0))) :=
                fun ty => clear_two wr 45 62 ty Try.underlying45 Try.zeroValue62 g (kk * 2) _ _ (by omega) (fun j hj => by
                  obtain ⟨a1, a2, _, _, _, _⟩ := own_cells hor (k := kk + j / 2) (by omega)
                  have h3 : j % 2 = 0 ∨ j % 2 = 1 := by omega
                  rcases h3 with h3 | h3
                  · rw [show kk * 2 + j = (kk + j / 2) * 2 by omega, a1]; rfl
                  · rw [show kk * 2 + j = (kk + j / 2) * 2 + 1 by omega, a2]; rfl) (fun j hj => by
                  obtain ⟨_, _, _, _, _, _⟩ := own_cells hor (k := kk + j / 2) (by omega)
                  obtain ⟨g', c', hv, _, _, _, _, _, hf⟩ := hor.form
                  injection hv with hv
                  injection hv with hv
                  injection hv with hv
                  subst hv
                  exact hf _)
              have HR : Hid (Raw (wr.setCells g (kk * 2) (List.replicate ((l.length - kk) * 2) (.int .i64 0))) ⟨g, 0, none⟩ (svals (joinL l)) ∧ kk = (joinL l).length ∧ Below base w (wr.setCells g (kk * 2) (List.replicate ((l.length - kk) * 2) (.int .i64 0)))) := by
                have e : l.take (k + k2) = l := List.take_of_length_le (by omega)
                have hk := hat.kept
                have hl2 := hat.at_
                rw [e] at hk hl2
                refine ⟨raw_wipe ?_ (by rw [svals_len]; omega), hl2, ?_⟩
                · rw [← hk, ← svals_take]
                  obtain ⟨g', c', hv, _, _, _, _, hr, _⟩ := hor.form
                  injection hv with hv
                  injection hv with hv
                  injection hv with hv
                  subst hv
                  exact hr.take _
                · exact below_wipe (own_cells hor (k := 0) (by omega)).2.2.2.2.2 _ _ _ hbr
              have k0 : (0 : Int) ≤ (kk : Int) := Int.natCast_nonneg _
              have k1 : (kk : Int) < (l.length : Int) := by omega
              have k2' : ¬ c = kk := by omega
              have k3 : kk ≤ c := by omega
              clear hat hor hbr HL
              go_wp2_with fail
              go_ret
              exact ⟨.slice (some ⟨g, 0, none⟩) kk c, rfl, .inr ⟨⟨g, 0, none⟩, c, by rw [← HR.out.2.1], HR.out.1, by have := HR.out.2.1; omega⟩, HR.out.2.2, (NewAt.own HO.out.toN (Nat.le_refl _)).cut⟩
        · have he : ((nth l k).2 == (nth l (k - 1)).2) = false := beq_eq_false_iff_ne.2 heq
          rw [he] at CE
          have HN : Hid (∀ j, 0 < j → j < k + 1 → (nth l j).2 ≠ (nth l (j - 1)).2) := fun j h1 h2 => by
            by_cases h3 : j = k
            · subst h3; exact heq
            · exact HALL.out j h1 (by omega)
          clear heq he hall hbl HL a1 a2 a3 a4 b1 b2 b3 b4
          generalize nth l k = x at *
          generalize nth l (k - 1) = y at *
          go_wp2_with fail
          refine wp_region_calm (by kernel_rfl) (by kernel_rfl) ?_
          repeat (first | go_big_quiet_step (((go_at_call 50; exact calm_of (v := .bool false) (CE.out _)))) | quiet_step (((go_at_call 50; exact calm_of (v := .bool false) (CE.out _)))))
          refine wpQuiet_nil ?_
          intro w1 hw
          have hb1 := lull_below hw
          have HB1 := Lib.hid (below_then HBL.out hb1)
          clear hw hb1 P1 P2 P3 P4
          go_wp2_with fail
          exact ⟨⟨k + 1, by go_num, by omega, by omega, HN.out, HB1.out⟩, by simp [intOf] <;> omega⟩
      · have HR : Hid (joinL l = l) := by
          have := join_none (l := l) (Nat.le_refl _) (fun j h1 h2 => hall j h1 (by omega))
          rwa [List.take_of_length_le (Nat.le_refl _)] at this
        have HBL := Lib.hid hbl
        clear hall hbl HL
        go_wp2_with fail
        go_ret
        exact ⟨_, rfl, by rw [HR.out]; exact OwnR.spans (HO.out.below HBL.out) rfl, HBL.out.mono HO.out.2.2, NewAt.own (HO.out.below HBL.out).toN (Nat.le_refl _)⟩

theorem joinedS (l : List Sp) (base g c : Nat) (w : World) (ho : OwnR 62 2 base w (.slice (some ⟨g, 0, none⟩) l.length c) l.length (svals l)) (hn : l.length ≤ c) (hl : l.length ≤ 100000) :
    Calls Try.prog 39 #[.slice (some ⟨g, 0, none⟩) l.length c] w (JoinSays l base w) := by
  have C1 := Lib.hid (compactS l base g c w ho hn hl)
  clear ho
  go_enter Try.func39, Try.ntmps39
  go_wp2_with fail
  refine C1.out.mono ?_
  rintro e w1 ⟨v, rfl, hs, hb, hn⟩
  have HS := Lib.hid hs
  have HB := Lib.hid hb
  have HN := Lib.hid hn
  clear hs hb hn C1
  go_wp2_with fail
  go_ret
  exact ⟨v, rfl, HS.out, HB.out, HN.out⟩
end Go.Proofs.Ytjkninldenoanaa.StepWalk
