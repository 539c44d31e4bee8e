/-
  The walks of layer 5's code: what a profile is in memory (Is), what is none (Nobody); isMade, spanOf, mayBe, most.
-/
import Derived.Test.YtjkninldenoanaaProfStep
import Derived.Test.YtjkninldenoanaaStepWalkA
import Derived.Test.YtjkninldenoanaaBase
namespace Go.Proofs.Ytjkninldenoanaa.ProfWalk
open Go.RowKit Go.Proofs.Ytjkninldenoanaa.SpanPlain Go.Proofs.Ytjkninldenoanaa.StepPlain Go.Proofs.Ytjkninldenoanaa.ProfPlain Go.Proofs.Ytjkninldenoanaa.Mem Go.Proofs.Ytjkninldenoanaa.SpanMem Go.Proofs.Ytjkninldenoanaa.StepMem Go.Proofs.Ytjkninldenoanaa.SpanRef Go.Proofs.Ytjkninldenoanaa.StepRef Go.Proofs.Ytjkninldenoanaa.ProfRef

theorem box_block {w w' : World} {n : Nat} {x y : Value} (h : Box2 w n x y) (hs : n < w'.heap.size) (e : w'.heap[n]? = w.heap[n]?) : Box2 w' n x y :=
  ⟨hs, (World.cell?_of_block (a := ⟨n, 0, none⟩) e).trans h.c0, (World.cell?_of_block (a := ⟨n, 1, none⟩) e).trans h.c1, (World.frozen?_of_block (a := ⟨n, 0, none⟩) e).trans h.f0, (World.frozen?_of_block (a := ⟨n, 1, none⟩) e).trans h.f1⟩
theorem spans_lt {l : List Sp} {w : World} {a : Addr} {n c : Nat} (h : SpansIs l w (.slice (some a) n c)) (hl : 0 < l.length) : a.block < w.heap.size := by
  rcases h with ⟨h, _⟩ | ⟨b, k, e, hr, _⟩
  · cases h
  · injection e with e
    injection e with e
    subst e
    exact (hr 0 _ (svals_at l 0 hl).1).1

/-- Block g is the profile x; its other memory lies in no block of G. -/
structure Is (G : List Nat) (x : Prof) (w : World) (g : Nat) : Prop where
  mem : g ∈ G
  fair : x.Fair
  box : ∃ v, Box2 w g (.int .i64 x.p) v ∧ SpansIs (stepsL x) w v ∧ Off G v
section
variable {G : List Nat} {x : Prof} {w w' : World} {g : Nat}
theorem Is.lt (h : Is G x w g) : g < w.heap.size := by obtain ⟨v, h1, _⟩ := h.box; exact h1.lt
theorem Is.keep (h : Is G x w g) (hs : Still G w w') (e : w'.heap[g]? = w.heap[g]?) : Is G x w' g := by
  obtain ⟨v, h1, h2, h3⟩ := h.box
  exact ⟨h.mem, h.fair, v, box_block h1 (Nat.lt_of_lt_of_le h1.lt hs.size) e, spans_still h2 h3 hs, h3⟩
theorem Is.more {n : Nat} (h : Is G x w g) (hn : w.heap.size ≤ n) : Is (n :: G) x w g := by
  obtain ⟨v, h1, h2, h3⟩ := h.box
  refine ⟨List.mem_cons_of_mem _ h.mem, h.fair, v, h1, h2, fun a m c e hm => ?_⟩
  rcases List.mem_cons.1 hm with hm | hm
  · subst e
    have := spans_lt h2 (spos h.fair)
    omega
  · exact h3 a m c e hm
theorem Is.parts (h : Is G x w g) : ∃ a c, Box2 w g (.int .i64 x.p) (.slice (some a) (stepsL x).length c) ∧ SpansIs (stepsL x) w (.slice (some a) (stepsL x).length c) ∧ a.block ∉ G ∧ a.block < w.heap.size ∧ w.cell? a = some (.int .i64 x.t) ∧ (stepsL x).length ≤ c := by
  obtain ⟨v, h1, h2, h3⟩ := h.box
  have hp := spos h.fair
  have h2' := h2
  rcases h2 with ⟨_, h2⟩ | ⟨a, c, rfl, hr, hn⟩
  · rw [h2] at hp; cases hp
  · have h4 := hr 0 _ (svals_at _ 0 hp).1
    have e : a.add 0 = a := by unfold Addr.add; simp
    rw [e] at h4
    have h5 : (spCell (stepsL x) 0).1 = .int .i64 x.t := by
      have := shead h.fair
      unfold head at this
      unfold spCell
      rw [this]
    rw [h5] at h4
    exact ⟨a, c, h1, h2', h3 a _ c rfl, h4.1, h4.2, hn⟩
end
/-- A pointer that is no profile's: none, or to the zero value. -/
def Nobody (w : World) (v : Value) : Prop := v = .pointer none ∨ ∃ g p, v = ptr g ∧ Box2 w g p (.slice none 0 0)
theorem Nobody.below {w w' : World} {v : Value} (h : Nobody w v) (hb : Below w.heap.size w w') : Nobody w' v := by
  rcases h with h | ⟨g, p, h1, h2⟩
  · exact .inl h
  · exact .inr ⟨g, p, h1, h2.below hb⟩
theorem nobody_nil (w : World) : Nobody w (.pointer none) := .inl rfl
theorem nobody_zero (w : World) : Nobody (w.alloc (.cells #[.int .i64 0, .slice none 0 0] 47)) (ptr w.heap.size) := .inr ⟨_, _, rfl, Box2.new w _ _ _⟩

theorem isMadeS {G : List Nat} {x : Prof} {w : World} {g : Nat} (h : Is G x w g) : Calls Try.prog 21 #[ptr g] w (StepWalk.BoolW true w) := by
  obtain ⟨a, c, ⟨b0, b1, b2, _, _⟩, _⟩ := h.parts
  have hp := spos h.fair
  have q0 : (0 : Int) < ((stepsL x).length : Int) := by omega
  have q1 : decide ((0 : Int) < ((stepsL x).length : Int)) = true := decide_eq_true q0
  have q2 : decide (0 < (stepsL x).length) = true := decide_eq_true hp
  generalize (stepsL x).length = n at *
  clear h hp
  unfold ptr
  go_enter Try.func21, Try.ntmps21
  go_wp2_with fail
  go_ret
  exact ⟨rfl, rfl⟩
theorem noMade {w : World} {v : Value} (h : Nobody w v) : Calls Try.prog 21 #[v] w (StepWalk.BoolW false w) := by
  rcases h with rfl | ⟨g, p, rfl, b0, b1, b2, _, _⟩
  · go_enter Try.func21, Try.ntmps21
    go_wp2_with fail
    go_ret
    exact ⟨rfl, rfl⟩
  · unfold ptr
    go_enter Try.func21, Try.ntmps21
    go_wp2_with fail
    go_ret
    exact ⟨rfl, rfl⟩

/-- A span is answered, and nothing that was there is turned. -/
def SpanSays (s : Sp) (w : World) (e : Ending) (w' : World) : Prop := e = .returned (spV s) ∧ Below w.heap.size w w'
set_option maxHeartbeats 800000 in
theorem spanOfS (b : By) (w : World) : Calls Try.prog 28 #[byV b] w (SpanSays (b.1, b.2.1) w) := by
  obtain ⟨f, t, n⟩ := b
  unfold byV SpanSays spV
  dsimp only
  have hr := Box2.new (w.alloc (.cells #[.int .i64 f, .int .i64 t, .int .i64 n] 36)) (.int .i64 f) (.int .i64 t) 25
  have hsz : (w.alloc (.cells #[.int .i64 f, .int .i64 t, .int .i64 n] 36)).heap.size = w.heap.size + 1 := by simp
  rw [hsz] at hr
  have HR := Lib.hid hr
  have HB := Lib.hid (((below_alloc w (.cells #[.int .i64 f, .int .i64 t, .int .i64 n] 36)).alloc (by simp) (.cells #[.int .i64 f, .int .i64 t] 25)))
  clear hsz hr
  go_enter Try.func28, Try.ntmps28
  go_wp2_with fail
  obtain ⟨q0, q1, q2, q3, q4⟩ := HR.out
  exact bodyPost_ret (v := .agg #[.int .i64 f, .int .i64 t]) (by simp [results, Try.results28, go_sem, q0, q1, q2, q3, q4]) rfl ⟨rfl, HB.out⟩

set_option maxHeartbeats 1600000 in
theorem mayBeS (b : By) (w : World) : Calls Try.prog 26 #[byV b] w (BoolIs (byB b) w) := by
  have hs := by_ways b
  have CS := Lib.hid (fun w => spanOfS b w)
  have CM := Lib.hid (fun w => StepWalk.mayS (b.1, b.2.1) w)
  obtain ⟨f, t, n⟩ := b
  unfold byV SpanSays at *
  unfold spV at *
  dsimp only at hs CS CM ⊢
  rcases hs with ⟨hm, hh⟩ | ⟨hm, h1, hh⟩ | ⟨hm, h1, h2, hh⟩ | ⟨hm, h1, h2, hh⟩
  all_goals
    rw [hm] at CM
    rw [hh]
    clear hh hm
    have HT := Lib.hid (Trio.new w (.int .i64 f) (.int .i64 t) (.int .i64 n) 36)
    have HB := Lib.hid (below_alloc w (.cells #[.int .i64 f, .int .i64 t, .int .i64 n] 36))
    go_enter Try.func26, Try.ntmps26
    go_wp2_with fail
    refine (CS.out _).mono ?_
    rintro e w1 ⟨rfl, hb1⟩
    have HT1 := Lib.hid (HT.out.below hb1)
    have HB1 := Lib.hid (below_then HB.out hb1)
    clear hb1 HT HB
    go_wp2_with fail
    refine (CM.out _).mono ?_
    rintro e w2 ⟨rfl, hb2⟩
    obtain ⟨y0, y1, y2, y3, y4, y5, y6⟩ := HT1.out.below hb2
    have HB2 := Lib.hid (below_then HB1.out hb2)
    clear hb2 HT1 HB1
    go_wp2_with fail
    go_ret
    exact ⟨rfl, HB2.out⟩

set_option maxHeartbeats 1600000 in
theorem mostS {r : List Sp} {w : World} {v : Value} (hv : SpansIs r w v) (hc : Chk r) (hl : r.length ≤ 2000) : Calls Try.prog 30 #[v] w (IntB (mostTo r r.length) w) := by
  obtain ⟨A, c, rfl, hA⟩ := hv.open_
  have HA := Lib.hid hA
  have HC := Lib.hid (fun k => most_range hc k)
  clear hA hv hc
  go_enter Try.func30, Try.ntmps30
  go_wp2_with fail
  go_loopw [3, 8] (fun m i wr => ∃ k : Nat, m = .int .i64 (mostTo r k) ∧ i = .int .i64 k ∧ k ≤ r.length ∧ Hid (Below w.heap.size w wr)) (fun _ i _ => r.length - (intOf i).toNat)
  case atStart => exact ⟨0, rfl, rfl, Nat.zero_le _, Below.refl _ _⟩
  case round =>
    obtain ⟨k, rfl, rfl, hk, HB⟩ := hrel
    by_cases hlt : k < r.length
    · obtain ⟨ad, rfl, had, c1, c2⟩ := (HA.out.below HB.out) k hlt
      have hlt2 : (k : Int) < (r.length : Int) := by omega
      have HN := Lib.hid (most_next hlt)
      unfold spCell at c1 c2
      dsimp only at c1 c2
      have hr1 := HC.out k
      generalize r.getD k (0, 0) = s at *
      generalize mostTo r k = m at *
      obtain ⟨s1, s2⟩ := s
      dsimp only at *
      have HBX := Lib.hid (HB.out.alloc HB.out.size (.cells #[.int .i64 s1, .int .i64 s2] 62))
      have hx : (m < s2 ∧ max m s2 = s2) ∨ (s2 ≤ m ∧ max m s2 = m) := by omega
      rcases hx with ⟨hx, hm⟩ | ⟨hx, hm⟩
      all_goals
        have HM := Lib.hid hm
        clear hm
        go_wp2_with fail
        exact ⟨⟨k + 1, by rw [HN.out, HM.out], by go_num, by omega, HBX.out⟩, by simp [intOf] <;> omega⟩
    · obtain rfl : k = r.length := by omega
      go_wp2_with fail
      go_ret
      exact ⟨rfl, HB.out⟩
end Go.Proofs.Ytjkninldenoanaa.ProfWalk
