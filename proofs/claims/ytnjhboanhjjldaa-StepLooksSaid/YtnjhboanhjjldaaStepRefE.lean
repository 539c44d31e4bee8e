/-
  The walks of the document's answers for layer 4: Min, Same, Trim.
-/
import Derived.Test.YtnjhboanhjjldaaStepRefD
namespace Go.Proofs.Ytnjhboanhjjldaa.StepRef
open Go.RowKit Go.Proofs.Ytnjhboanhjjldaa.SpanPlain Go.Proofs.Ytnjhboanhjjldaa.StepPlain Go.Proofs.Ytnjhboanhjjldaa.Mem Go.Proofs.Ytnjhboanhjjldaa.SpanMem Go.Proofs.Ytnjhboanhjjldaa.StepMem Go.Proofs.Ytnjhboanhjjldaa.SpanRef

def IntB (n : Int) (w : World) (e : Ending) (w' : World) : Prop := e = .returned (.int .i64 n) ∧ Below w.heap.size w w'
theorem min_ways (x y : Sp) (n : Int) : (decide (x.1 < y.1) = false ∧ Hid (minStep x n y = n)) ∨ (decide (x.1 < y.1) = true ∧ decide (y.1 < x.2) = false ∧ Hid (minStep x n y = n)) ∨
    (decide (x.1 < y.1) = true ∧ decide (y.1 < x.2) = true ∧ decide (y.2 < n) = false ∧ Hid (minStep x n y = n)) ∨ (decide (x.1 < y.1) = true ∧ decide (y.1 < x.2) = true ∧ decide (y.2 < n) = true ∧ Hid (minStep x n y = y.2)) := by
  unfold minStep
  by_cases h1 : x.1 < y.1
  · by_cases h2 : y.1 < x.2
    · by_cases h3 : y.2 < n
      · exact .inr (.inr (.inr ⟨decide_eq_true h1, decide_eq_true h2, decide_eq_true h3, if_pos ⟨h1, h2, h3⟩⟩))
      · exact .inr (.inr (.inl ⟨decide_eq_true h1, decide_eq_true h2, decide_eq_false h3, if_neg (fun h => h3 h.2.2)⟩))
    · exact .inr (.inl ⟨decide_eq_true h1, decide_eq_false h2, if_neg (fun h => h2 h.2.1)⟩)
  · exact .inl ⟨decide_eq_false h1, if_neg (fun h => h1 h.1)⟩

set_option maxHeartbeats 3200000 in
theorem min4 (s : List Sp) (x : Sp) (v : Value) (w : World) (hv : SpansIs s w v) (hl : s.length ≤ 9000) : Calls Try.prog 17 #[v, spV x] w (IntB (minTo s x s.length) w) := by
  obtain ⟨A, c, rfl, hA⟩ := hv.open_
  obtain ⟨x1, x2⟩ := x
  have HW := Lib.hid (within4 s (.slice A s.length c) x1 (w.alloc (.cells #[.int .i64 x1, .int .i64 x2] 36)) (hv.below (below_alloc _ _)) hl)
  have HB := Lib.hid (Box2.new w (.int .i64 x1) (.int .i64 x2) 36)
  have HA := Lib.hid (hA.below (below_alloc w (.cells #[.int .i64 x1, .int .i64 x2] 36)))
  have HL := Lib.hid (below_alloc w (.cells #[.int .i64 x1, .int .i64 x2] 36))
  have hm0 : Hid (minTo s (x1, x2) 0 = val s x1) := rfl
  unfold spV
  dsimp only
  clear hA hv
  go_enter Try.func17, Try.ntmps17
  go_wp2_with fail
  refine HW.out.mono ?_
  rintro e w1 ⟨rfl, rfl⟩
  go_wp2_with fail
  generalize w.alloc (.cells #[.int .i64 x1, .int .i64 x2] 36) = W at *
  go_loopw [5, 6] (fun n i wr => ∃ k : Nat, n = .int .i64 (minTo s (x1, x2) k) ∧ i = .int .i64 k ∧ k ≤ s.length ∧ Hid (∃ q, wr = W.drewN q)) (fun _ i _ => s.length - (intOf i).toNat)
  case atStart => exact ⟨0, by rw [hm0.out], rfl, Nat.zero_le _, ⟨0, rfl⟩⟩
  case round =>
    obtain ⟨k, rfl, rfl, hk, HQ⟩ := hrel
    obtain ⟨q, rfl⟩ := HQ.out
    by_cases hlt : k < s.length
    · obtain ⟨ad, rfl, had, c1, c2⟩ := HA.out k hlt
      obtain ⟨b0, b1, b2, b3, b4⟩ := HB.out
      have hways := min_ways (x1, x2) (s.getD k (0, 0)) (minTo s (x1, x2) k)
      have HN := Lib.hid (min_next (x := (x1, x2)) hlt)
      have hlt2 : (k : Int) < (s.length : Int) := by omega
      have i0 : (0 : Int) ≤ (k : Int) := Int.natCast_nonneg _
      unfold spCell at c1 c2
      dsimp only at c1 c2 hways
      generalize s.getD k (0, 0) = y at *
      generalize minTo s (x1, x2) k = n at *
      clear had HQ b0 b3 b4 HW
      rcases hways with ⟨h1, HM⟩ | ⟨h1, h2, HM⟩ | ⟨h1, h2, h3, HM⟩ | ⟨h1, h2, h3, HM⟩
      all_goals
        go_wp2_with fail
        go_quiet (fail)
        go_wp2_with fail
        exact ⟨⟨k + 1, by rw [HN.out, HM.out], by go_num, by omega, ⟨_, rfl⟩⟩, by simp [intOf] <;> omega⟩
    · obtain rfl : k = s.length := by omega
      go_wp2_with fail
      go_ret
      exact ⟨rfl, below_drewN HL.out q⟩

theorem same_take {a b : List Sp} {k : Nat} (ha : k < a.length) (hb : k < b.length) (h : a.take k = b.take k) (he : a.getD k (0, 0) = b.getD k (0, 0)) : a.take (k + 1) = b.take (k + 1) := by
  rw [List.take_succ_eq_append_getElem ha, List.take_succ_eq_append_getElem hb, h]
  simp [List.getD, ha, hb] at he
  rw [he]
theorem same_not {a b : List Sp} {k : Nat} (he : a.getD k (0, 0) ≠ b.getD k (0, 0)) : a ≠ b := fun h => by subst h; exact he rfl

set_option maxHeartbeats 1600000 in
theorem same4 (a b : List Sp) (v u : Value) (w : World) (hv : SpansIs a w v) (hu : SpansIs b w u) (hl : a.length ≤ 4000) (hm : b.length ≤ 4000) : Calls Try.prog 9 #[v, u] w (BoolD (decide (a = b)) w) := by
  obtain ⟨A, c, rfl, hA⟩ := hv.open_
  obtain ⟨B, d, rfl, hB⟩ := hu.open_
  have HA := Lib.hid hA
  have HB := Lib.hid hB
  clear hA hB hv hu
  by_cases hlen : a.length = b.length
  · rw [← hlen] at HB ⊢
    have HL := Lib.hid hlen
    clear hlen hm
    go_enter Try.func9, Try.ntmps9
    go_wp2_with fail
    go_loopw [5] (fun i wr => ∃ k : Nat, i = .int .i64 k ∧ k ≤ a.length ∧ Hid (a.take k = b.take k) ∧ Hid (∃ q, wr = w.drewN q)) (fun i _ => a.length - (intOf i).toNat)
    case atStart => exact ⟨0, rfl, Nat.zero_le _, rfl, ⟨0, rfl⟩⟩
    case round =>
      obtain ⟨k, rfl, hk, HS, HW⟩ := hrel
      obtain ⟨q, rfl⟩ := HW.out
      by_cases hlt : k < a.length
      · obtain ⟨ad, rfl, had, c1, c2⟩ := HA.out k hlt
        obtain ⟨bd, rfl, hbd, d1, d2⟩ := HB.out k hlt
        have hlb : k < b.length := by rw [← HL.out]; exact hlt
        have HN := Lib.hid (fun h => same_take hlt hlb HS.out h)
        have HX := Lib.hid (fun h => same_not (a := a) (b := b) (k := k) h)
        unfold spCell at c1 c2 d1 d2
        dsimp only at c1 c2 d1 d2
        generalize a.getD k (0, 0) = s at *
        generalize b.getD k (0, 0) = r at *
        have hlt2 : (k : Int) < (a.length : Int) := by omega
        clear had hbd HW hlb
        by_cases he : s = r
        · subst he
          have HN2 := Lib.hid (HN.out rfl)
          go_wp2_with fail
          go_quiet (fail)
          go_wp2_with fail
          exact ⟨⟨k + 1, by go_num, by omega, HN2.out, ⟨_, rfl⟩⟩, by simp [intOf] <;> omega⟩
        · have HX2 := Lib.hid (HX.out he)
          have hne : (s.1 == r.1) = false ∨ ((s.1 == r.1) = true ∧ (s.2 == r.2) = false) := by
            by_cases h1 : s.1 = r.1
            · right; exact ⟨beq_iff_eq.2 h1, beq_eq_false_iff_ne.2 fun h2 => he (Prod.ext h1 h2)⟩
            · left; exact beq_eq_false_iff_ne.2 h1
          clear he
          rcases hne with h1 | ⟨h1, h2⟩
          all_goals
            go_wp2_with fail
            go_quiet (fail)
            go_wp2_with fail
            go_ret
            exact ⟨by rw [decide_eq_false HX2.out]; rfl, _, World.drewN_drewN _ _ _⟩
      · have h := HS.out
        rw [List.take_of_length_le (by omega), List.take_of_length_le (by rw [← HL.out]; omega)] at h
        have H := Lib.hid h
        clear h
        go_wp2_with fail
        go_ret
        exact ⟨by rw [decide_eq_true H.out]; rfl, q, rfl⟩
  · have hne : ((a.length : Int) != (b.length : Int)) = true := by rw [bne_iff_ne]; omega
    have H : Hid (a ≠ b) := fun h => hlen (by rw [h])
    clear hlen
    go_enter Try.func9, Try.ntmps9
    go_wp2_with fail
    go_ret
    exact ⟨by rw [decide_eq_false H.out]; rfl, 0, rfl⟩

/-- What Trim answers. -/
def TrimTells (r : List Sp) (w : World) (e : Ending) (w' : World) : Prop := ∃ v, e = .returned v ∧ SpansIs r w' v ∧ Below w.heap.size w w'
def TrimLoop (s : List Sp) (t n : Int) (w wr : World) (v : Value) (k : Nat) : Prop :=
  OwnN 41 2 w.heap.size wr v ((t, n) :: (s.take k).filter fun y => decide (t < y.1)).length (svals ((t, n) :: (s.take k).filter fun y => decide (t < y.1))) ∧ Below w.heap.size w wr
theorem own_one (w : World) (e : TypeId) (a b : Int) : OwnN e 2 w.heap.size (w.alloc (.cells #[.int .i64 a, .int .i64 b] e)) (.slice (some ⟨w.heap.size, 0, none⟩) 1 1) 1 [.int .i64 a, .int .i64 b] :=
  ⟨World.ownsRow_lit w #[.int .i64 a, .int .i64 b] 1 (Nat.le_refl _) (by decide) rfl, by simp⟩
theorem later_take {s : List Sp} {k : Nat} (hk : k < s.length) (t : Int) : ((s.take (k + 1)).filter fun y => decide (t < y.1)) = ((s.take k).filter fun y => decide (t < y.1)) ++ if t < (s.getD k (0, 0)).1 then [s.getD k (0, 0)] else [] := by
  rw [List.take_succ_eq_append_getElem hk, List.filter_append, getSp hk, List.filter_cons, List.filter_nil]
  by_cases h : t < s[k].1 <;> simp [h]
theorem later_len (s : List Sp) (k : Nat) (t : Int) : ((s.take k).filter fun y => decide (t < y.1)).length ≤ s.length := by
  have h1 := List.length_filter_le (fun y : Sp => decide (t < y.1)) (s.take k)
  rw [List.length_take] at h1
  omega

set_option maxHeartbeats 1600000 in
theorem trim4 (s : List Sp) (t : Int) (v : Value) (w : World) (hv : SpansIs s w v) (h0 : 0 < s.length) (hl : s.length ≤ 9000) : Calls Try.prog 18 #[v, .int .i64 t] w (TrimTells (if t ≤ head s then s else trimL s t) w) := by
  obtain ⟨A, c, rfl, hA⟩ := hv.open_
  obtain ⟨ad, rfl, had, c1, c2⟩ := pair_zero hA h0
  have HV := Lib.hid hv
  have HA := Lib.hid hA
  have i0 : (0 : Int) < (s.length : Int) := by omega
  have hh : (spCell s 0).1 = .int .i64 (head s) := rfl
  rw [hh] at c1
  clear hA hv hh c2 had
  by_cases ht : t ≤ head s
  · rw [if_pos ht]
    generalize head s = h at *
    go_enter Try.func18, Try.ntmps18
    go_wp2_with fail
    go_ret
    exact ⟨_, rfl, HV.out, Below.refl _ _⟩
  · rw [if_neg ht]
    have HW := Lib.hid (within4 s (.slice (some ad) s.length c) t w HV.out hl)
    have HTL := Lib.hid (show trimL s t = (t, val s t) :: s.filter fun y => decide (t < y.1) from rfl)
    generalize head s = h at *
    generalize val s t = n at *
    have HO := Lib.hid (own_one w 41 t n)
    go_enter Try.func18, Try.ntmps18
    go_wp2_with fail
    refine HW.out.mono ?_
    rintro e w1 ⟨rfl, rfl⟩
    go_wp2_with fail
    go_loopw [5, 6] (fun o i wr => ∃ (k : Nat) (v : Value), v = o ∧ i = .int .i64 k ∧ k ≤ s.length ∧ Hid (TrimLoop s t n w wr v k)) (fun _ i _ => s.length - (intOf i).toNat)
    case atStart => exact ⟨0, _, rfl, rfl, Nat.zero_le _, HO.out, (Below.refl _ _).alloc (Nat.le_refl _) _⟩
    case round =>
      obtain ⟨k, o, hov, rfl, hk, HL⟩ := hrel
      subst hov
      by_cases hlt : k < s.length
      · obtain ⟨hown, hbl⟩ := HL.out
        obtain ⟨ad2, e2, had, d1, d2⟩ := (HA.out.below hbl) k hlt
        injection e2 with e2
        subst e2
        have HF := Lib.hid (later_take hlt t)
        have hfl := later_len s k t
        have HOW := Lib.hid hown
        have HBL := Lib.hid hbl
        unfold spCell at d1 d2
        dsimp only at d1 d2
        clear hown hbl HL c1 had
        unfold TrimLoop
        generalize s.getD k (0, 0) = x at *
        generalize (s.take k).filter (fun y => decide (t < y.1)) = fl at *
        by_cases hx : t < x.1
        · have HF2 := Lib.hid (HF.out.trans (by rw [if_pos hx]))
          have HOA := Lib.hid (HOW.out.alloc (.cells #[.int .i64 x.1, .int .i64 x.2] 41))
          clear HF
          go_wp2_with (at_builtin; refine push_own steps_t rfl (.tmp 33) (.tmp 38) rfl w.heap.size _ _ _ rfl HOA.out _ 1 [.int .i64 x.1, .int .i64 x.2] rfl rfl ?h1a two_cells ?h1b ?_)
          case h1a => exact raw_at rfl #[.int .i64 x.1, .int .i64 x.2] _
          case h1b => simp; omega
          intro v3 w3 ho3 hb3 hg3
          have HO3 := Lib.hid ho3
          have HB3 := Lib.hid ((HBL.out.alloc HBL.out.size _).trans hb3)
          clear ho3 hb3 hg3
          go_wp2_with fail
          exact ⟨⟨k + 1, _, rfl, by go_num, by omega, HO3.out.cast (by rw [HF2.out]; simp) (by rw [HF2.out]; exact (svals_snoc ((t, n) :: fl) x).symm), HB3.out⟩, by simp [intOf] <;> omega⟩
        · have HF2 := Lib.hid (HF.out.trans (by rw [if_neg hx]))
          clear HF
          go_wp2_with fail
          exact ⟨⟨k + 1, _, rfl, by go_num, by omega, HOW.out.cast (by rw [HF2.out]; simp) (by rw [HF2.out]; simp), HBL.out⟩, by simp [intOf] <;> omega⟩
      · go_wp2_with fail
        go_ret
        obtain ⟨hown, hbl⟩ := HL.out
        rw [List.take_of_length_le (by omega)] at hown
        exact ⟨_, rfl, by rw [HTL.out]; exact spans_of_own hown rfl, hbl⟩
end Go.Proofs.Ytnjhboanhjjldaa.StepRef
