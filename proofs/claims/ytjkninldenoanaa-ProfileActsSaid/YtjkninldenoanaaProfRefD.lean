/-
  The walk of the document's answer for layer 5: Turn.
-/
import Derived.Test.YtjkninldenoanaaProfRefB
import Derived.Test.YtjkninldenoanaaSpanRefA
import Derived.Test.YtjkninldenoanaaBase
import Derived.Deep.RegionLaw
namespace Go.Proofs.Ytjkninldenoanaa.ProfRef
open Go.RowKit Go.Proofs.Ytjkninldenoanaa.SpanPlain Go.Proofs.Ytjkninldenoanaa.StepPlain Go.Proofs.Ytjkninldenoanaa.ProfPlain Go.Proofs.Ytjkninldenoanaa.Mem Go.Proofs.Ytjkninldenoanaa.SpanMem Go.Proofs.Ytjkninldenoanaa.StepMem Go.Proofs.Ytjkninldenoanaa.SpanRef Go.Proofs.Ytjkninldenoanaa.StepRef

/-- What Turn answers. -/
def TurnIs (x : Prof) (b : By) (give : Bool) (v : Value) (w : World) (e : Ending) (w' : World) : Prop :=
  ∃ y c u, e = .returned (.tuple #[profV y u, .int .i64 c]) ∧ (if give then GiveIs x b y c else TakeIs x b y c) ∧ BusyIs y.l w' u ∧ ((u = v ∧ y.l = x.l) ∨ ∃ g n k, u = .slice (some ⟨g, 0, none⟩) n k ∧ w.heap.size ≤ g) ∧ Below w.heap.size w w'
theorem turn_ways (x : Prof) (b : By) : (mayB (b.1, b.2.1) = false ∧ Hid (turnBad x b)) ∨ (mayB (b.1, b.2.1) = true ∧ decide (b.2.2 < 1) = true ∧ Hid (turnBad x b)) ∨
    (mayB (b.1, b.2.1) = true ∧ decide (b.2.2 < 1) = false ∧ decide (256 < b.2.2) = true ∧ Hid (turnBad x b)) ∨
    (mayB (b.1, b.2.1) = true ∧ decide (b.2.2 < 1) = false ∧ decide (256 < b.2.2) = false ∧ decide (b.1 < x.t) = true ∧ Hid (turnBad x b)) ∨
    (mayB (b.1, b.2.1) = true ∧ decide (b.2.2 < 1) = false ∧ decide (256 < b.2.2) = false ∧ decide (b.1 < x.t) = false ∧ Hid (¬ turnBad x b)) := by
  unfold turnBad byB
  cases mayB (b.1, b.2.1) with
  | false => exact .inl ⟨rfl, .inl (by simp)⟩
  | true =>
    by_cases h1 : b.2.2 < 1
    · exact .inr (.inl ⟨rfl, decide_eq_true h1, .inl (by simp; omega)⟩)
    by_cases h2 : 256 < b.2.2
    · exact .inr (.inr (.inl ⟨rfl, decide_eq_false h1, decide_eq_true h2, .inl (by simp; omega)⟩))
    by_cases h3 : b.1 < x.t
    · exact .inr (.inr (.inr (.inl ⟨rfl, decide_eq_false h1, decide_eq_false h2, decide_eq_true h3, .inr h3⟩)))
    · exact .inr (.inr (.inr (.inr ⟨rfl, decide_eq_false h1, decide_eq_false h2, decide_eq_false h3, fun h => by
        rcases h with h | h
        · simp at h; omega
        · exact h3 h⟩)))

theorem busys_t : ElemT Try.prog 31 36 3 24 := ElemT.mk_ (.agg #[.int .i64 0, .int .i64 0, .int .i64 0]) Try.underlying31 (by kernel_rfl) rfl (by decide) (by decide)
theorem bvals_cell (l : List By) : ∀ u ∈ bvals l, u.oneCell' = true := by
  intro u hu
  unfold bvals at hu
  obtain ⟨b, _, hb⟩ := List.mem_flatMap.1 hu
  simp [byCells] at hb
  rcases hb with rfl | rfl | rfl <;> rfl
theorem bvals_snoc (l : List By) (b : By) : bvals (l ++ [b]) = bvals l ++ [.int .i64 b.1, .int .i64 b.2.1, .int .i64 b.2.2] := by simp [bvals, byCells]
theorem three_cells {i j k : IntKind} {a b c : Int} : ∀ u ∈ [Value.int i a, Value.int j b, Value.int k c], u.oneCell' = true := by
  intro u hu
  simp at hu
  rcases hu with rfl | rfl | rfl <;> rfl
theorem busy_src {l : List By} {w : World} {v : Value} (h : BusyIs l w v) : Src w v l.length (bvals l) := by
  rcases h with ⟨rfl, rfl⟩ | ⟨a, c, e, hr⟩
  · exact .inl ⟨rfl, rfl, rfl⟩
  · exact .inr ⟨a, c, e, hr⟩
theorem free_wide {x : Prof} (h : Prof.Ok x) (t : Int) : -100000 ≤ freeL x.p x.l t ∧ freeL x.p x.l t ≤ 100000 := by
  have h1 := free_bounds h.done.wide x.p t x.l.length
  rw [List.take_length] at h1
  have := h.p1
  have := h.p2
  have := h.len
  omega
def TurnEnd (x : Prof) (N : Int) (B : Nat) (b : By) (w : World) (B7 : Option Addr) (c7 : Nat) (wc : World) : Prop :=
  Trio wc w.heap.size (.int .i64 x.p) (.int .i64 x.t) (.slice B7 (x.l.length + 1) c7) ∧ Trio wc (w.heap.size + 1 + 1) (.int .i64 0) (.int .i64 0) (.slice none 0 0) ∧
  OwnN 36 3 B wc (.slice B7 (x.l.length + 1) c7) (x.l.length + 1) ([] ++ bvals x.l ++ [.int .i64 b.1, .int .i64 b.2.1, .int .i64 N]) ∧ Below w.heap.size w wc
theorem busy_own {base n : Nat} {w : World} {v : Value} {l : List By} {e : TypeId} {xs : List Value} (h : OwnN e 3 base w v n xs) (hx : xs = bvals l) (hn : n = l.length) : BusyIs l w v := by
  subst hx
  subst hn
  rcases h.form with ⟨h1, h2, _⟩ | ⟨g, c, hv, _, _, _, _, hr, _⟩
  · exact .inl ⟨h1, List.eq_nil_of_length_eq_zero h2⟩
  · exact .inr ⟨_, c, hv, hr⟩
theorem own_fresh {base m : Nat} {k : Nat} {w w0 : World} {v : Value} {e : TypeId} {xs : List Value} (h : OwnN e k base w v (m + 1) xs) (hb : w0.heap.size ≤ base) : ∃ g n c, v = .slice (some ⟨g, 0, none⟩) n c ∧ w0.heap.size ≤ g := by
  obtain ⟨g, c, hv, h1, _⟩ := h.there
  exact ⟨g, _, c, hv, Nat.le_trans hb h1⟩
theorem raw_grown {w w' : World} {n : Nat} {g : Nat} {xs : List Value} (h : Raw w ⟨n, 0, none⟩ xs) (hg : w.grownBy w' (some g)) (hne : g ≠ n) : Raw w' ⟨n, 0, none⟩ xs := fun j u hu =>
  ⟨Nat.lt_of_lt_of_le (h j u hu).1 hg.size, by
    have h2 := (h j u hu).2
    rw [add_flat] at h2 ⊢
    exact (World.cell?_of_block (a := ⟨n, j, none⟩) (hg.block n (h j u hu).1 (fun e => hne (Option.some.inj e).symm))).trans h2⟩
theorem raw_second (w : World) (o : Obj) (c : Array Value) (T : TypeId) : Raw ((w.alloc o).alloc (.cells c T)) ⟨w.heap.size + 1, 0, none⟩ c.toList := by
  have h := Raw.alloc (w.alloc o) c T
  simpa using h
theorem own_second (w : World) (o : Obj) (e : TypeId) (k : Nat) : OwnN e k w.heap.size ((w.alloc o).alloc (.cells #[] e)) (.slice (some ⟨w.heap.size + 1, 0, none⟩) 0 0) 0 [] := by
  have h := ((OwnR.new (w.alloc o) e k).toN).rebase (base' := w.heap.size) (by simp)
  simpa using h
/-- The memory of Turn behind its beginning. -/
structure TurnMem (x : Prof) (b : By) (v : Value) (w W : World) : Prop where
  x3 : Trio W w.heap.size (.int .i64 x.p) (.int .i64 x.t) v
  b3 : Trio W (w.heap.size + 1) (.int .i64 b.1) (.int .i64 b.2.1) (.int .i64 b.2.2)
  r3 : Trio W (w.heap.size + 1 + 1) (.int .i64 0) (.int .i64 0) (.slice none 0 0)
  s2 : Box2 W (w.heap.size + 1 + 1 + 1) (.int .i64 b.1) (.int .i64 b.2.1)
  below : Below w.heap.size w W
theorem TurnMem.new (x : Prof) (b : By) (v : Value) (w : World) (S T R : TypeId) : TurnMem x b v w ((((w.alloc (.cells #[.int .i64 x.p, .int .i64 x.t, v] S)).alloc (.cells #[.int .i64 b.1, .int .i64 b.2.1, .int .i64 b.2.2] T)).alloc (.cells #[.int .i64 0, .int .i64 0, .slice none 0 0] S)).alloc (.cells #[.int .i64 b.1, .int .i64 b.2.1] R)) := by
  refine ⟨(((Trio.new _ _ _ _ _).alloc _).alloc _).alloc _, ((Trio.new_at _ _ _ _ (by simp)).alloc _).alloc _, (Trio.new_at _ _ _ _ (by simp)).alloc _, ?_, ?_⟩
  · have h := Box2.new (((w.alloc (.cells #[.int .i64 x.p, .int .i64 x.t, v] S)).alloc (.cells #[.int .i64 b.1, .int .i64 b.2.1, .int .i64 b.2.2] T)).alloc (.cells #[.int .i64 0, .int .i64 0, .slice none 0 0] S)) (.int .i64 b.1) (.int .i64 b.2.1) R
    simpa using h
  · exact (((below_alloc w _).alloc (by simp) _).alloc (by simp; omega) _).alloc (by simp; omega) _
theorem TurnMem.next {x : Prof} {b : By} {v : Value} {w W W' : World} (h : TurnMem x b v w W) (hb : Below W.heap.size W W') : TurnMem x b v w W' :=
  ⟨h.x3.below hb, h.b3.below hb, h.r3.below hb, h.s2.below hb, below_then h.below hb⟩
theorem below_set3 {w W : World} (h : Below w.heap.size w W) {n : Nat} (hn : w.heap.size ≤ n) (p q r : Value) : Below w.heap.size w (((W.setCell ⟨n, 0, none⟩ p).setCell ⟨n, 1, none⟩ q).setCell ⟨n, 2, none⟩ r) :=
  ((h.setCell hn _).setCell hn _).setCell hn _

set_option maxRecDepth 100000 in
set_option maxHeartbeats 6400000 in
theorem turn5 (x : Prof) (b : By) (give : Bool) (v : Value) (w : World) (hv : BusyIs x.l w v) (hx : Prof.Ok x) (hl : x.l.length ≤ 299) : Calls Try.prog 8 #[profV x v, byV b, .bool give] w (TurnIs x b give v w) := by
  have hways := turn_ways x b
  obtain ⟨A, c, rfl, hA⟩ := hv.open_
  have HV := Lib.hid hv
  have HX := Lib.hid hx
  have CM := Lib.hid (fun w' => may_any (b.1, b.2.1) w')
  have HM := Lib.hid (TurnMem.new x b (.slice A x.l.length c) w 33 36 25)
  unfold spV at CM
  clear hA hv hx
  unfold profV byV
  go_enter Try.func8, Try.ntmps8
  go_upto_region 2 with fail
  generalize ((((w.alloc (.cells #[.int .i64 x.p, .int .i64 x.t, .slice A x.l.length c] 33)).alloc (.cells #[.int .i64 b.1, .int .i64 b.2.1, .int .i64 b.2.2] 36)).alloc (.cells #[.int .i64 0, .int .i64 0, .slice none 0 0] 33)).alloc (.cells #[.int .i64 b.1, .int .i64 b.2.1] 25)) = W at *
  rcases hways with ⟨hm, hh⟩ | ⟨hm, d1, hh⟩ | ⟨hm, d1, d2, hh⟩ | ⟨hm, d1, d2, d3, hh⟩ | ⟨hm, d1, d2, d3, hh⟩
  · have HBAD := Lib.hid hh.out
    clear hh
    dsimp only at CM
    rw [hm] at CM
    obtain ⟨⟨y0, y1, y2, y3, y4, y5, y6⟩, ⟨z0, z1, z2, z3, z4, z5, z6⟩, ⟨r0, r1, r2, r3, r4, r5, r6⟩, ⟨s0, s1, s2, s3, s4⟩, hbl⟩ := HM.out
    go_wp2_with fail
    refine (CM.out _).mono ?_
    rintro e w1 ⟨rfl, hb1⟩
    have HM1 := Lib.hid (HM.out.next hb1)
    clear hb1 y0 y1 y2 y3 y4 y5 y6 z0 z1 z2 z3 z4 z5 z6 r0 r1 r2 r3 r4 r5 r6 s0 s1 s2 s3 s4 hbl HM
    obtain ⟨⟨y0, y1, y2, y3, y4, y5, y6⟩, ⟨z0, z1, z2, z3, z4, z5, z6⟩, ⟨r0, r1, r2, r3, r4, r5, r6⟩, ⟨s0, s1, s2, s3, s4⟩, hbl⟩ := HM1.out
    go_wp2_with fail
    have HF := Lib.hid (below_set3 hbl (n := w.heap.size + 1 + 1) (by omega) (.int .i64 x.p) (.int .i64 x.t) (.slice A x.l.length c))
    exact bodyPost_ret (v := .tuple #[.agg #[.int .i64 x.p, .int .i64 x.t, .slice A x.l.length c], .int .i64 1]) (by simp [results, Try.results8, go_sem, r1, r2, r3, r4, r5, r6]) rfl ⟨x, 1, _, rfl, (by cases give <;> exact .inl ⟨HBAD.out, rfl, rfl⟩), HV.out.below HF.out, .inl ⟨rfl, rfl⟩, HF.out⟩
  · have HBAD := Lib.hid hh.out
    clear hh
    dsimp only at CM
    rw [hm] at CM
    obtain ⟨⟨y0, y1, y2, y3, y4, y5, y6⟩, ⟨z0, z1, z2, z3, z4, z5, z6⟩, ⟨r0, r1, r2, r3, r4, r5, r6⟩, ⟨s0, s1, s2, s3, s4⟩, hbl⟩ := HM.out
    go_wp2_with fail
    refine (CM.out _).mono ?_
    rintro e w1 ⟨rfl, hb1⟩
    have HM1 := Lib.hid (HM.out.next hb1)
    clear hb1 y0 y1 y2 y3 y4 y5 y6 z0 z1 z2 z3 z4 z5 z6 r0 r1 r2 r3 r4 r5 r6 s0 s1 s2 s3 s4 hbl HM
    obtain ⟨⟨y0, y1, y2, y3, y4, y5, y6⟩, ⟨z0, z1, z2, z3, z4, z5, z6⟩, ⟨r0, r1, r2, r3, r4, r5, r6⟩, ⟨s0, s1, s2, s3, s4⟩, hbl⟩ := HM1.out
    go_wp2_with fail
    have HF := Lib.hid (below_set3 hbl (n := w.heap.size + 1 + 1) (by omega) (.int .i64 x.p) (.int .i64 x.t) (.slice A x.l.length c))
    exact bodyPost_ret (v := .tuple #[.agg #[.int .i64 x.p, .int .i64 x.t, .slice A x.l.length c], .int .i64 1]) (by simp [results, Try.results8, go_sem, r1, r2, r3, r4, r5, r6]) rfl ⟨x, 1, _, rfl, (by cases give <;> exact .inl ⟨HBAD.out, rfl, rfl⟩), HV.out.below HF.out, .inl ⟨rfl, rfl⟩, HF.out⟩
  · have HBAD := Lib.hid hh.out
    clear hh
    dsimp only at CM
    rw [hm] at CM
    obtain ⟨⟨y0, y1, y2, y3, y4, y5, y6⟩, ⟨z0, z1, z2, z3, z4, z5, z6⟩, ⟨r0, r1, r2, r3, r4, r5, r6⟩, ⟨s0, s1, s2, s3, s4⟩, hbl⟩ := HM.out
    go_wp2_with fail
    refine (CM.out _).mono ?_
    rintro e w1 ⟨rfl, hb1⟩
    have HM1 := Lib.hid (HM.out.next hb1)
    clear hb1 y0 y1 y2 y3 y4 y5 y6 z0 z1 z2 z3 z4 z5 z6 r0 r1 r2 r3 r4 r5 r6 s0 s1 s2 s3 s4 hbl HM
    obtain ⟨⟨y0, y1, y2, y3, y4, y5, y6⟩, ⟨z0, z1, z2, z3, z4, z5, z6⟩, ⟨r0, r1, r2, r3, r4, r5, r6⟩, ⟨s0, s1, s2, s3, s4⟩, hbl⟩ := HM1.out
    go_wp2_with fail
    have HF := Lib.hid (below_set3 hbl (n := w.heap.size + 1 + 1) (by omega) (.int .i64 x.p) (.int .i64 x.t) (.slice A x.l.length c))
    exact bodyPost_ret (v := .tuple #[.agg #[.int .i64 x.p, .int .i64 x.t, .slice A x.l.length c], .int .i64 1]) (by simp [results, Try.results8, go_sem, r1, r2, r3, r4, r5, r6]) rfl ⟨x, 1, _, rfl, (by cases give <;> exact .inl ⟨HBAD.out, rfl, rfl⟩), HV.out.below HF.out, .inl ⟨rfl, rfl⟩, HF.out⟩
  · have HBAD := Lib.hid hh.out
    clear hh
    dsimp only at CM
    rw [hm] at CM
    obtain ⟨⟨y0, y1, y2, y3, y4, y5, y6⟩, ⟨z0, z1, z2, z3, z4, z5, z6⟩, ⟨r0, r1, r2, r3, r4, r5, r6⟩, ⟨s0, s1, s2, s3, s4⟩, hbl⟩ := HM.out
    go_wp2_with fail
    refine (CM.out _).mono ?_
    rintro e w1 ⟨rfl, hb1⟩
    have HM1 := Lib.hid (HM.out.next hb1)
    clear hb1 y0 y1 y2 y3 y4 y5 y6 z0 z1 z2 z3 z4 z5 z6 r0 r1 r2 r3 r4 r5 r6 s0 s1 s2 s3 s4 hbl HM
    obtain ⟨⟨y0, y1, y2, y3, y4, y5, y6⟩, ⟨z0, z1, z2, z3, z4, z5, z6⟩, ⟨r0, r1, r2, r3, r4, r5, r6⟩, ⟨s0, s1, s2, s3, s4⟩, hbl⟩ := HM1.out
    go_wp2_with fail
    have HF := Lib.hid (below_set3 hbl (n := w.heap.size + 1 + 1) (by omega) (.int .i64 x.p) (.int .i64 x.t) (.slice A x.l.length c))
    exact bodyPost_ret (v := .tuple #[.agg #[.int .i64 x.p, .int .i64 x.t, .slice A x.l.length c], .int .i64 1]) (by simp [results, Try.results8, go_sem, r1, r2, r3, r4, r5, r6]) rfl ⟨x, 1, _, rfl, (by cases give <;> exact .inl ⟨HBAD.out, rfl, rfl⟩), HV.out.below HF.out, .inl ⟨rfl, rfl⟩, HF.out⟩
  · have HGOOD := Lib.hid hh.out
    clear hh
    obtain ⟨hby, htb⟩ := not_turnBad HGOOD.out
    obtain ⟨hmay, e1, e2⟩ := by_parts hby
    have hlt : (b.1, b.2.1).1 < (b.1, b.2.1).2 := ((mayB_iff _).1 hmay).2.1
    clear hby htb hmay
    dsimp only at CM
    rw [hm] at CM
    obtain ⟨⟨y0, y1, y2, y3, y4, y5, y6⟩, ⟨z0, z1, z2, z3, z4, z5, z6⟩, ⟨r0, r1, r2, r3, r4, r5, r6⟩, ⟨s0, s1, s2, s3, s4⟩, hbl⟩ := HM.out
    go_wp2_with fail
    refine (CM.out _).mono ?_
    rintro e w1 ⟨rfl, hb1⟩
    have HM1 := Lib.hid (HM.out.next hb1)
    clear hb1 y0 y1 y2 y3 y4 y5 y6 z0 z1 z2 z3 z4 z5 z6 r0 r1 r2 r3 r4 r5 r6 s0 s1 s2 s3 s4 hbl HM
    obtain ⟨⟨y0, y1, y2, y3, y4, y5, y6⟩, ⟨z0, z1, z2, z3, z4, z5, z6⟩, ⟨r0, r1, r2, r3, r4, r5, r6⟩, ⟨s0, s1, s2, s3, s4⟩, hbl⟩ := HM1.out
    cases give
    · have HN := Lib.hid (least_spec (p := x.p) HX.out.done (s := (b.1, b.2.1)) hlt)
      have CL := Lib.hid (fun (w' : World) (hb : Below w.heap.size w w') => least5 x (b.1, b.2.1) (.slice A x.l.length c) w' (HV.out.below hb) HX.out)
      have hbd : -100000 ≤ lowTo (freeL x.p x.l) (b.1, b.2.1) (within x.l (b.1, b.2.1)) (within x.l (b.1, b.2.1)).length ∧ lowTo (freeL x.p x.l) (b.1, b.2.1) (within x.l (b.1, b.2.1)) (within x.l (b.1, b.2.1)).length ≤ 100000 := by
        obtain ⟨⟨t, _, _, ht⟩, _⟩ := HN.out
        rw [← ht]
        exact free_wide HX.out t
      unfold profV spV at CL
      generalize lowTo (freeL x.p x.l) (b.1, b.2.1) (within x.l (b.1, b.2.1)) (within x.l (b.1, b.2.1)).length = n at *
      obtain ⟨hbd1, hbd2⟩ := hbd
      dsimp only at CL
      have hc : decide (n < b.2.2) = true ∨ decide (n < b.2.2) = false := by cases decide (n < b.2.2) <;> simp
      rcases hc with hc | hc
      · have CL2 := Lib.hid (fun p : Lull w1 => CL.out p.u (below_then hbl p.h))
        go_upto_region 4 with fail
        have P0 := calm_cell (a := ⟨w.heap.size, 0, none⟩) y0 y1
        have P1 := calm_cell (a := ⟨w.heap.size, 1, none⟩) y0 y2
        have P2 := calm_cell (a := ⟨w.heap.size, 2, none⟩) y0 y3
        have P3 := calm_cell (a := ⟨w.heap.size + 1, 2, none⟩) z0 z3
        have P4 := calm_cell (a := ⟨w.heap.size + 1 + 1 + 1, 0, none⟩) s0 s1
        have P5 := calm_cell (a := ⟨w.heap.size + 1 + 1 + 1, 1, none⟩) s0 s2
        refine wp_region_calm (by kernel_rfl) (by kernel_rfl) ?_
        repeat (first | go_big_quiet_step (fail) | quiet_step (fail))
        refine wpQuiet_nil ?_
        intro wn hw
        have hb1 := lull_below hw
        clear hw
        have HM2 := Lib.hid (HM1.out.next hb1)
        clear hb1 P0 P1 P2 P3 P4 P5 y0 y1 y2 y3 y4 y5 y6 z0 z1 z2 z3 z4 z5 z6 r0 r1 r2 r3 r4 r5 r6 s0 s1 s2 s3 s4 hbl HM1
        have HM1 := HM2
        clear HM2
        obtain ⟨⟨y0, y1, y2, y3, y4, y5, y6⟩, ⟨z0, z1, z2, z3, z4, z5, z6⟩, ⟨r0, r1, r2, r3, r4, r5, r6⟩, ⟨s0, s1, s2, s3, s4⟩, hbl⟩ := HM1.out
        clear CL2
        have CL2 := Lib.hid (fun p : Lull wn => CL.out p.u (below_then hbl p.h))
        go_upto_region 6 with fail
        have P0 := calm_cell (a := ⟨w.heap.size, 0, none⟩) y0 y1
        have P1 := calm_cell (a := ⟨w.heap.size, 1, none⟩) y0 y2
        have P2 := calm_cell (a := ⟨w.heap.size, 2, none⟩) y0 y3
        have P3 := calm_cell (a := ⟨w.heap.size + 1, 2, none⟩) z0 z3
        have P4 := calm_cell (a := ⟨w.heap.size + 1 + 1 + 1, 0, none⟩) s0 s1
        have P5 := calm_cell (a := ⟨w.heap.size + 1 + 1 + 1, 1, none⟩) s0 s2
        refine wp_region_calm (by kernel_rfl) (by kernel_rfl) ?_
        repeat (first | go_big_quiet_step ((go_at_call 25; exact calm_of (v := .int .i64 n) (CL2.out _))) | quiet_step ((go_at_call 25; exact calm_of (v := .int .i64 n) (CL2.out _))))
        refine wpQuiet_nil ?_
        intro wn hw
        have hb1 := lull_below hw
        clear hw
        have HM2 := Lib.hid (HM1.out.next hb1)
        clear hb1 P0 P1 P2 P3 P4 P5 y0 y1 y2 y3 y4 y5 y6 z0 z1 z2 z3 z4 z5 z6 r0 r1 r2 r3 r4 r5 r6 s0 s1 s2 s3 s4 hbl HM1
        have HM1 := HM2
        clear HM2
        obtain ⟨⟨y0, y1, y2, y3, y4, y5, y6⟩, ⟨z0, z1, z2, z3, z4, z5, z6⟩, ⟨r0, r1, r2, r3, r4, r5, r6⟩, ⟨s0, s1, s2, s3, s4⟩, hbl⟩ := HM1.out
        clear CL2 CL
        have HO : Hid (TakeIs x b x 8) := by
          obtain ⟨⟨t, t1, t2, t3⟩, _⟩ := HN.out
          exact .inr (.inl ⟨HGOOD.out, ⟨t, t1, t2, by rw [t3]; exact of_decide_eq_true hc⟩, rfl, rfl⟩)
        go_wp2_with fail
        have HF := Lib.hid (below_set3 hbl (n := w.heap.size + 1 + 1) (by omega) (.int .i64 x.p) (.int .i64 x.t) (.slice A x.l.length c))
        exact bodyPost_ret (v := .tuple #[.agg #[.int .i64 x.p, .int .i64 x.t, .slice A x.l.length c], .int .i64 8]) (by simp [results, Try.results8, go_sem, r1, r2, r3, r4, r5, r6]) rfl ⟨x, 8, _, rfl, HO.out, HV.out.below HF.out, .inl ⟨rfl, rfl⟩, HF.out⟩
      · have CL2 := Lib.hid (fun p : Lull w1 => CL.out p.u (below_then hbl p.h))
        go_upto_region 4 with fail
        have P0 := calm_cell (a := ⟨w.heap.size, 0, none⟩) y0 y1
        have P1 := calm_cell (a := ⟨w.heap.size, 1, none⟩) y0 y2
        have P2 := calm_cell (a := ⟨w.heap.size, 2, none⟩) y0 y3
        have P3 := calm_cell (a := ⟨w.heap.size + 1, 2, none⟩) z0 z3
        have P4 := calm_cell (a := ⟨w.heap.size + 1 + 1 + 1, 0, none⟩) s0 s1
        have P5 := calm_cell (a := ⟨w.heap.size + 1 + 1 + 1, 1, none⟩) s0 s2
        refine wp_region_calm (by kernel_rfl) (by kernel_rfl) ?_
        repeat (first | go_big_quiet_step (fail) | quiet_step (fail))
        refine wpQuiet_nil ?_
        intro wn hw
        have hb1 := lull_below hw
        clear hw
        have HM2 := Lib.hid (HM1.out.next hb1)
        clear hb1 P0 P1 P2 P3 P4 P5 y0 y1 y2 y3 y4 y5 y6 z0 z1 z2 z3 z4 z5 z6 r0 r1 r2 r3 r4 r5 r6 s0 s1 s2 s3 s4 hbl HM1
        have HM1 := HM2
        clear HM2
        obtain ⟨⟨y0, y1, y2, y3, y4, y5, y6⟩, ⟨z0, z1, z2, z3, z4, z5, z6⟩, ⟨r0, r1, r2, r3, r4, r5, r6⟩, ⟨s0, s1, s2, s3, s4⟩, hbl⟩ := HM1.out
        clear CL2
        have CL2 := Lib.hid (fun p : Lull wn => CL.out p.u (below_then hbl p.h))
        go_upto_region 6 with fail
        have P0 := calm_cell (a := ⟨w.heap.size, 0, none⟩) y0 y1
        have P1 := calm_cell (a := ⟨w.heap.size, 1, none⟩) y0 y2
        have P2 := calm_cell (a := ⟨w.heap.size, 2, none⟩) y0 y3
        have P3 := calm_cell (a := ⟨w.heap.size + 1, 2, none⟩) z0 z3
        have P4 := calm_cell (a := ⟨w.heap.size + 1 + 1 + 1, 0, none⟩) s0 s1
        have P5 := calm_cell (a := ⟨w.heap.size + 1 + 1 + 1, 1, none⟩) s0 s2
        refine wp_region_calm (by kernel_rfl) (by kernel_rfl) ?_
        repeat (first | go_big_quiet_step ((go_at_call 25; exact calm_of (v := .int .i64 n) (CL2.out _))) | quiet_step ((go_at_call 25; exact calm_of (v := .int .i64 n) (CL2.out _))))
        refine wpQuiet_nil ?_
        intro wn hw
        have hb1 := lull_below hw
        clear hw
        have HM2 := Lib.hid (HM1.out.next hb1)
        clear hb1 P0 P1 P2 P3 P4 P5 y0 y1 y2 y3 y4 y5 y6 z0 z1 z2 z3 z4 z5 z6 r0 r1 r2 r3 r4 r5 r6 s0 s1 s2 s3 s4 hbl HM1
        have HM1 := HM2
        clear HM2
        obtain ⟨⟨y0, y1, y2, y3, y4, y5, y6⟩, ⟨z0, z1, z2, z3, z4, z5, z6⟩, ⟨r0, r1, r2, r3, r4, r5, r6⟩, ⟨s0, s1, s2, s3, s4⟩, hbl⟩ := HM1.out
        clear CL2 CL
        have HFIN : Hid (TakeIs x b ⟨x.p, x.t, x.l ++ [(b.1, b.2.1, b.2.2)]⟩ 0) := .inr (.inr ⟨HGOOD.out, fun u h1 h2 => by have h3 := HN.out.2 u h1 h2; have h4 := of_decide_eq_false hc; omega, rfl, rfl⟩)
        go_upto_region 10 with fail
        have HX3 := Lib.hid HM1.out.x3
        have HB3 := Lib.hid HM1.out.b3
        have HZ3 := Lib.hid HM1.out.r3
        have HL3 := Lib.hid hbl
        obtain ⟨W3, hW3⟩ : ∃ W3 : World, W3 = wn := ⟨_, rfl⟩
        subst hW3
        clear HM1 y0 y1 y2 y3 y4 y5 y6 z0 z1 z2 z3 z4 z5 z6 r0 r1 r2 r3 r4 r5 r6 s0 s1 s2 s3 s4 hbl
        obtain ⟨y0, y1, y2, y3, y4, y5, y6⟩ := HX3.out
        obtain ⟨z0, z1, z2, z3, z4, z5, z6⟩ := HB3.out
        have HSRC := Lib.hid (busy_src (HV.out.below HL3.out))
        have HO := Lib.hid (OwnR.new W3 36 3).toN
        generalize hN : (b.2.2 : Int) = N at *
        have HNN := Lib.hid hN
        clear hN
        have HQ1 := Lib.hid (below_alloc W3 (.cells #[] 36)).drew
        have HQ2 := Lib.hid ((below_alloc W3 (.cells #[] 36)).alloc (by simp) (.cells #[.int .i64 b.1, .int .i64 b.2.1, .int .i64 N] 36)).drew
        have HQ3 := Lib.hid ((below_alloc W3 (.cells #[.int .i64 b.1, .int .i64 b.2.1, .int .i64 N] 36)).alloc (by simp) (.cells #[] 36)).drew
        have HO2 := Lib.hid (HO.out.alloc (.cells #[.int .i64 b.1, .int .i64 b.2.1, .int .i64 N] 36))
        have HO3 := Lib.hid (own_second W3 (.cells #[.int .i64 b.1, .int .i64 b.2.1, .int .i64 N] 36) 36 3)
        have HR2 : Hid (Raw ((W3.alloc (.cells #[] 36)).alloc (.cells #[.int .i64 b.1, .int .i64 b.2.1, .int .i64 N] 36)).drew ⟨W3.heap.size + 1, 0, none⟩ [.int .i64 b.1, .int .i64 b.2.1, .int .i64 N]) := raw_second W3 (.cells #[] 36) #[.int .i64 b.1, .int .i64 b.2.1, .int .i64 N] 36
        have HR3 : Hid (Raw ((W3.alloc (.cells #[.int .i64 b.1, .int .i64 b.2.1, .int .i64 N] 36)).alloc (.cells #[] 36)).drew ⟨W3.heap.size, 0, none⟩ [.int .i64 b.1, .int .i64 b.2.1, .int .i64 N]) := (Raw.alloc W3 #[.int .i64 b.1, .int .i64 b.2.1, .int .i64 N] 36).below (below_alloc _ (.cells #[] 36)).drew
        go_cut [70] (fun o wc => ∃ B7 c7, o = .slice B7 (x.l.length + 1) c7 ∧ TurnEnd x N W3.heap.size b w B7 c7 wc)
        case first =>
          go_region_law (
            (first
                | (refine step_own busys_t (by rfl) (.tmp 64) (.tmp 66) (by rfl) W3.heap.size (.slice (some ⟨W3.heap.size, 0, none⟩) 0 0) 0 [] (by rfl) HO.out (.slice A x.l.length c) x.l.length (bvals x.l) (by rfl) (bvals_len x.l) (HSRC.out.below HQ1.out) (bvals_cell x.l) (by omega) ?_; intro v6 w6 ho6 hb6 hg6; have hq6 := HQ1.out.trans hb6; have k1 := (hq6.cell (p := ⟨w.heap.size, 2, none⟩) y0).trans y3; have k2 := (hq6.cell (p := ⟨w.heap.size + 1, 0, none⟩) z0).trans z1; have k3 := (hq6.cell (p := ⟨w.heap.size + 1, 1, none⟩) z0).trans z2; have k4 := (hq6.cell (p := ⟨w.heap.size + 1, 2, none⟩) z0).trans z3)
                | (refine step_own busys_t (by rfl) (.tmp 64) (.tmp 66) (by rfl) W3.heap.size (.slice (some ⟨W3.heap.size, 0, none⟩) 0 0) 0 [] (by rfl) HO2.out (.slice A x.l.length c) x.l.length (bvals x.l) (by rfl) (bvals_len x.l) (HSRC.out.below HQ2.out) (bvals_cell x.l) (by omega) ?_; intro v6 w6 ho6 hb6 hg6; have hq6 := HQ2.out.trans hb6; have hr6 := raw_grown (g := W3.heap.size) HR2.out hg6 (by simp); have k1 := (hq6.cell (p := ⟨w.heap.size, 2, none⟩) y0).trans y3; have k2 := (hq6.cell (p := ⟨w.heap.size + 1, 0, none⟩) z0).trans z1; have k3 := (hq6.cell (p := ⟨w.heap.size + 1, 1, none⟩) z0).trans z2; have k4 := (hq6.cell (p := ⟨w.heap.size + 1, 2, none⟩) z0).trans z3)
                | (refine step_own busys_t (by rfl) (.tmp 64) (.tmp 66) (by rfl) W3.heap.size (.slice (some ⟨W3.heap.size + 1, 0, none⟩) 0 0) 0 [] (by rfl) HO3.out (.slice A x.l.length c) x.l.length (bvals x.l) (by rfl) (bvals_len x.l) (HSRC.out.below HQ3.out) (bvals_cell x.l) (by omega) ?_; intro v6 w6 ho6 hb6 hg6; have hq6 := HQ3.out.trans hb6; have hr6 := raw_grown (g := W3.heap.size + 1) HR3.out hg6 (by simp); have k1 := (hq6.cell (p := ⟨w.heap.size, 2, none⟩) y0).trans y3; have k2 := (hq6.cell (p := ⟨w.heap.size + 1, 0, none⟩) z0).trans z1; have k3 := (hq6.cell (p := ⟨w.heap.size + 1, 1, none⟩) z0).trans z2; have k4 := (hq6.cell (p := ⟨w.heap.size + 1, 2, none⟩) z0).trans z3)
                | (refine step_own busys_t (by rfl) (.tmp 67) (.tmp 69) (by rfl) W3.heap.size v6 (0 + x.l.length) ([] ++ bvals x.l) (by rfl) (ho6.alloc (.cells #[.int .i64 b.1, .int .i64 b.2.1, .int .i64 N] 36)) (.slice (some ⟨w6.heap.size, 0, none⟩) 1 1) 1 [.int .i64 b.1, .int .i64 b.2.1, .int .i64 N] (by rfl) (by rfl) (raw_at (w := w6) (n := w6.heap.size) (m := 1) (k := 1) rfl #[.int .i64 b.1, .int .i64 b.2.1, .int .i64 N] 36) three_cells (by omega) ?_; intro v7 w7 ho7 hb7 hg7; have hq7 := (hq6.alloc hq6.size (.cells #[.int .i64 b.1, .int .i64 b.2.1, .int .i64 N] 36)).trans hb7; have j1 := (hq7.cell (p := ⟨w.heap.size, 2, none⟩) y0).trans y3; have j2 := (hq7.frozen (p := ⟨w.heap.size, 2, none⟩) y0).trans y6; obtain ⟨B7, c7, rfl⟩ := ho7.shape)
                | (refine step_own busys_t (by rfl) (.tmp 67) (.tmp 69) (by rfl) W3.heap.size v6 (0 + x.l.length) ([] ++ bvals x.l) (by rfl) ho6 (.slice (some ⟨W3.heap.size + 1, 0, none⟩) 1 1) 1 [.int .i64 b.1, .int .i64 b.2.1, .int .i64 N] (by rfl) (by rfl) (.inr ⟨_, _, rfl, hr6⟩) three_cells (by omega) ?_; intro v7 w7 ho7 hb7 hg7; have hq7 := hq6.trans hb7; have j1 := (hq7.cell (p := ⟨w.heap.size, 2, none⟩) y0).trans y3; have j2 := (hq7.frozen (p := ⟨w.heap.size, 2, none⟩) y0).trans y6; obtain ⟨B7, c7, rfl⟩ := ho7.shape)
                | (refine step_own busys_t (by rfl) (.tmp 67) (.tmp 69) (by rfl) W3.heap.size v6 (0 + x.l.length) ([] ++ bvals x.l) (by rfl) ho6 (.slice (some ⟨W3.heap.size, 0, none⟩) 1 1) 1 [.int .i64 b.1, .int .i64 b.2.1, .int .i64 N] (by rfl) (by rfl) (.inr ⟨_, _, rfl, hr6⟩) three_cells (by omega) ?_; intro v7 w7 ho7 hb7 hg7; have hq7 := hq6.trans hb7; have j1 := (hq7.cell (p := ⟨w.heap.size, 2, none⟩) y0).trans y3; have j2 := (hq7.frozen (p := ⟨w.heap.size, 2, none⟩) y0).trans y6; obtain ⟨B7, c7, rfl⟩ := ho7.shape)))
          all_goals
            go_wp2_with fail
            go_meet
            try simp only [Nat.zero_add] at ho7
            exact ⟨B7, c7, rfl, (HX3.out.below hq7).set2 (.slice B7 (x.l.length + 1) c7), (HZ3.out.below hq7).set_other (p := ⟨w.heap.size, 2, none⟩) (by simp <;> omega) _, ho7.set_other (p := ⟨w.heap.size, 2, none⟩) y0 _, (HL3.out.trans (hq7.mono HL3.out.size)).setCell (p := ⟨w.heap.size, 2, none⟩) (Nat.le_refl _) _⟩
        case rest =>
          obtain ⟨B7, c7, rfl, hX7, hZ7, hO7, hB7⟩ := hcut
          have HO7 := Lib.hid hO7
          have HB7 := Lib.hid hB7
          have hz := HZ3.out.lt
          clear hO7 hB7 HX3 HB3 HL3 HQ1 HQ2 HQ3 HO HO2 HO3 HR2 HR3 HSRC y0 y1 y2 y3 y4 y5 y6 z0 z1 z2 z3 z4 z5 z6
          obtain ⟨y0, y1, y2, y3, y4, y5, y6⟩ := hX7
          obtain ⟨r0, r1, r2, r3, r4, r5, r6⟩ := hZ7
          go_wp2_with fail
          have hown := ((HO7.out.set_other (p := ⟨w.heap.size + 1 + 1, 0, none⟩) hz (.int .i64 x.p)).set_other (p := ⟨w.heap.size + 1 + 1, 1, none⟩) hz (.int .i64 x.t)).set_other (p := ⟨w.heap.size + 1 + 1, 2, none⟩) hz (.slice B7 (x.l.length + 1) c7)
          exact bodyPost_ret (v := .tuple #[.agg #[.int .i64 x.p, .int .i64 x.t, .slice B7 (x.l.length + 1) c7], .int .i64 0]) (by simp [results, Try.results8, go_sem, r1, r2, r3, r4, r5, r6]) rfl
            ⟨⟨x.p, x.t, x.l ++ [(b.1, b.2.1, N)]⟩, 0, _, rfl, HFIN.out, busy_own hown (by simp [bvals_snoc]) (by simp), .inr (own_fresh hown (by have := hz; omega)), below_set3 HB7.out (by omega) _ _ _⟩
    · have HN := Lib.hid (most_spec (p := x.p) HX.out.done (s := (b.1, b.2.1)) hlt)
      have CL := Lib.hid (fun (w' : World) (hb : Below w.heap.size w w') => most5 x (b.1, b.2.1) (.slice A x.l.length c) w' (HV.out.below hb) HX.out)
      have hbd : -100000 ≤ highTo (freeL x.p x.l) (b.1, b.2.1) (within x.l (b.1, b.2.1)) (within x.l (b.1, b.2.1)).length ∧ highTo (freeL x.p x.l) (b.1, b.2.1) (within x.l (b.1, b.2.1)) (within x.l (b.1, b.2.1)).length ≤ 100000 := by
        obtain ⟨⟨t, _, _, ht⟩, _⟩ := HN.out
        rw [← ht]
        exact free_wide HX.out t
      unfold profV spV at CL
      generalize highTo (freeL x.p x.l) (b.1, b.2.1) (within x.l (b.1, b.2.1)) (within x.l (b.1, b.2.1)).length = n at *
      obtain ⟨hbd1, hbd2⟩ := hbd
      dsimp only at CL
      have hsum : IntKind.i64.wrap (n + b.2.2) = n + b.2.2 := by rw [IntKind.wrap_i64]; omega
      have hneg : IntKind.i64.wrap (-b.2.2) = -b.2.2 := by rw [IntKind.wrap_i64]; omega
      have hc : decide (x.p < n + b.2.2) = true ∨ decide (x.p < n + b.2.2) = false := by cases decide (x.p < n + b.2.2) <;> simp
      rcases hc with hc | hc
      · have CL2 := Lib.hid (fun p : Lull w1 => CL.out p.u (below_then hbl p.h))
        go_upto_region 4 with fail
        have P0 := calm_cell (a := ⟨w.heap.size, 0, none⟩) y0 y1
        have P1 := calm_cell (a := ⟨w.heap.size, 1, none⟩) y0 y2
        have P2 := calm_cell (a := ⟨w.heap.size, 2, none⟩) y0 y3
        have P3 := calm_cell (a := ⟨w.heap.size + 1, 2, none⟩) z0 z3
        have P4 := calm_cell (a := ⟨w.heap.size + 1 + 1 + 1, 0, none⟩) s0 s1
        have P5 := calm_cell (a := ⟨w.heap.size + 1 + 1 + 1, 1, none⟩) s0 s2
        refine wp_region_calm (by kernel_rfl) (by kernel_rfl) ?_
        repeat (first | go_big_quiet_step ((go_at_call 24; exact calm_of (v := .int .i64 n) (CL2.out _))) | quiet_step ((go_at_call 24; exact calm_of (v := .int .i64 n) (CL2.out _))))
        refine wpQuiet_nil ?_
        intro wn hw
        have hb1 := lull_below hw
        clear hw
        have HM2 := Lib.hid (HM1.out.next hb1)
        clear hb1 P0 P1 P2 P3 P4 P5 y0 y1 y2 y3 y4 y5 y6 z0 z1 z2 z3 z4 z5 z6 r0 r1 r2 r3 r4 r5 r6 s0 s1 s2 s3 s4 hbl HM1
        have HM1 := HM2
        clear HM2
        obtain ⟨⟨y0, y1, y2, y3, y4, y5, y6⟩, ⟨z0, z1, z2, z3, z4, z5, z6⟩, ⟨r0, r1, r2, r3, r4, r5, r6⟩, ⟨s0, s1, s2, s3, s4⟩, hbl⟩ := HM1.out
        clear CL2 CL
        have HO : Hid (GiveIs x b x 11) := by
          obtain ⟨⟨t, t1, t2, t3⟩, _⟩ := HN.out
          exact .inr (.inl ⟨HGOOD.out, ⟨t, t1, t2, by rw [t3]; exact of_decide_eq_true hc⟩, rfl, rfl⟩)
        go_wp2_with fail
        have HF := Lib.hid (below_set3 hbl (n := w.heap.size + 1 + 1) (by omega) (.int .i64 x.p) (.int .i64 x.t) (.slice A x.l.length c))
        exact bodyPost_ret (v := .tuple #[.agg #[.int .i64 x.p, .int .i64 x.t, .slice A x.l.length c], .int .i64 11]) (by simp [results, Try.results8, go_sem, r1, r2, r3, r4, r5, r6]) rfl ⟨x, 11, _, rfl, HO.out, HV.out.below HF.out, .inl ⟨rfl, rfl⟩, HF.out⟩
      · have CL2 := Lib.hid (fun p : Lull w1 => CL.out p.u (below_then hbl p.h))
        go_upto_region 4 with fail
        have P0 := calm_cell (a := ⟨w.heap.size, 0, none⟩) y0 y1
        have P1 := calm_cell (a := ⟨w.heap.size, 1, none⟩) y0 y2
        have P2 := calm_cell (a := ⟨w.heap.size, 2, none⟩) y0 y3
        have P3 := calm_cell (a := ⟨w.heap.size + 1, 2, none⟩) z0 z3
        have P4 := calm_cell (a := ⟨w.heap.size + 1 + 1 + 1, 0, none⟩) s0 s1
        have P5 := calm_cell (a := ⟨w.heap.size + 1 + 1 + 1, 1, none⟩) s0 s2
        refine wp_region_calm (by kernel_rfl) (by kernel_rfl) ?_
        repeat (first | go_big_quiet_step ((go_at_call 24; exact calm_of (v := .int .i64 n) (CL2.out _))) | quiet_step ((go_at_call 24; exact calm_of (v := .int .i64 n) (CL2.out _))))
        refine wpQuiet_nil ?_
        intro wn hw
        have hb1 := lull_below hw
        clear hw
        have HM2 := Lib.hid (HM1.out.next hb1)
        clear hb1 P0 P1 P2 P3 P4 P5 y0 y1 y2 y3 y4 y5 y6 z0 z1 z2 z3 z4 z5 z6 r0 r1 r2 r3 r4 r5 r6 s0 s1 s2 s3 s4 hbl HM1
        have HM1 := HM2
        clear HM2
        obtain ⟨⟨y0, y1, y2, y3, y4, y5, y6⟩, ⟨z0, z1, z2, z3, z4, z5, z6⟩, ⟨r0, r1, r2, r3, r4, r5, r6⟩, ⟨s0, s1, s2, s3, s4⟩, hbl⟩ := HM1.out
        go_upto_region 6 with fail
        have P0 := calm_cell (a := ⟨w.heap.size, 0, none⟩) y0 y1
        have P1 := calm_cell (a := ⟨w.heap.size, 1, none⟩) y0 y2
        have P2 := calm_cell (a := ⟨w.heap.size, 2, none⟩) y0 y3
        have P3 := calm_cell (a := ⟨w.heap.size + 1, 2, none⟩) z0 z3
        have P4 := calm_cell (a := ⟨w.heap.size + 1 + 1 + 1, 0, none⟩) s0 s1
        have P5 := calm_cell (a := ⟨w.heap.size + 1 + 1 + 1, 1, none⟩) s0 s2
        refine wp_region_calm (by kernel_rfl) (by kernel_rfl) ?_
        repeat (first | go_big_quiet_step (fail) | quiet_step (fail))
        refine wpQuiet_nil ?_
        intro wn hw
        have hb1 := lull_below hw
        clear hw
        have HM2 := Lib.hid (HM1.out.next hb1)
        clear hb1 P0 P1 P2 P3 P4 P5 y0 y1 y2 y3 y4 y5 y6 z0 z1 z2 z3 z4 z5 z6 r0 r1 r2 r3 r4 r5 r6 s0 s1 s2 s3 s4 hbl HM1
        have HM1 := HM2
        clear HM2
        obtain ⟨⟨y0, y1, y2, y3, y4, y5, y6⟩, ⟨z0, z1, z2, z3, z4, z5, z6⟩, ⟨r0, r1, r2, r3, r4, r5, r6⟩, ⟨s0, s1, s2, s3, s4⟩, hbl⟩ := HM1.out
        clear CL2 CL
        have HFIN : Hid (GiveIs x b ⟨x.p, x.t, x.l ++ [(b.1, b.2.1, -b.2.2)]⟩ 0) := .inr (.inr ⟨HGOOD.out, fun u h1 h2 => by have h3 := HN.out.2 u h1 h2; have h4 := of_decide_eq_false hc; omega, rfl, rfl⟩)
        go_upto_region 10 with fail
        have HX3 := Lib.hid (HM1.out.x3.set_other (p := ⟨w.heap.size + 1, 2, none⟩) (by simp) (.int .i64 (-b.2.2)))
        have HB3 := Lib.hid (HM1.out.b3.set2 (.int .i64 (-b.2.2)))
        have HZ3 := Lib.hid (HM1.out.r3.set_other (p := ⟨w.heap.size + 1, 2, none⟩) (by simp) (.int .i64 (-b.2.2)))
        have HL3 := Lib.hid (hbl.setCell (p := ⟨w.heap.size + 1, 2, none⟩) (by simp) (.int .i64 (-b.2.2)))
        generalize hW3 : wn.setCell ⟨w.heap.size + 1, 2, none⟩ (.int .i64 (-b.2.2)) = W3 at *
        clear hW3
        clear HM1 y0 y1 y2 y3 y4 y5 y6 z0 z1 z2 z3 z4 z5 z6 r0 r1 r2 r3 r4 r5 r6 s0 s1 s2 s3 s4 hbl
        obtain ⟨y0, y1, y2, y3, y4, y5, y6⟩ := HX3.out
        obtain ⟨z0, z1, z2, z3, z4, z5, z6⟩ := HB3.out
        have HSRC := Lib.hid (busy_src (HV.out.below HL3.out))
        have HO := Lib.hid (OwnR.new W3 36 3).toN
        generalize hN : ((-b.2.2) : Int) = N at *
        have HNN := Lib.hid hN
        clear hN
        have HQ1 := Lib.hid (below_alloc W3 (.cells #[] 36)).drew
        have HQ2 := Lib.hid ((below_alloc W3 (.cells #[] 36)).alloc (by simp) (.cells #[.int .i64 b.1, .int .i64 b.2.1, .int .i64 N] 36)).drew
        have HQ3 := Lib.hid ((below_alloc W3 (.cells #[.int .i64 b.1, .int .i64 b.2.1, .int .i64 N] 36)).alloc (by simp) (.cells #[] 36)).drew
        have HO2 := Lib.hid (HO.out.alloc (.cells #[.int .i64 b.1, .int .i64 b.2.1, .int .i64 N] 36))
        have HO3 := Lib.hid (own_second W3 (.cells #[.int .i64 b.1, .int .i64 b.2.1, .int .i64 N] 36) 36 3)
        have HR2 : Hid (Raw ((W3.alloc (.cells #[] 36)).alloc (.cells #[.int .i64 b.1, .int .i64 b.2.1, .int .i64 N] 36)).drew ⟨W3.heap.size + 1, 0, none⟩ [.int .i64 b.1, .int .i64 b.2.1, .int .i64 N]) := raw_second W3 (.cells #[] 36) #[.int .i64 b.1, .int .i64 b.2.1, .int .i64 N] 36
        have HR3 : Hid (Raw ((W3.alloc (.cells #[.int .i64 b.1, .int .i64 b.2.1, .int .i64 N] 36)).alloc (.cells #[] 36)).drew ⟨W3.heap.size, 0, none⟩ [.int .i64 b.1, .int .i64 b.2.1, .int .i64 N]) := (Raw.alloc W3 #[.int .i64 b.1, .int .i64 b.2.1, .int .i64 N] 36).below (below_alloc _ (.cells #[] 36)).drew
        go_cut [70] (fun o wc => ∃ B7 c7, o = .slice B7 (x.l.length + 1) c7 ∧ TurnEnd x N W3.heap.size b w B7 c7 wc)
        case first =>
          go_region_law (
            (first
                | (refine step_own busys_t (by rfl) (.tmp 64) (.tmp 66) (by rfl) W3.heap.size (.slice (some ⟨W3.heap.size, 0, none⟩) 0 0) 0 [] (by rfl) HO.out (.slice A x.l.length c) x.l.length (bvals x.l) (by rfl) (bvals_len x.l) (HSRC.out.below HQ1.out) (bvals_cell x.l) (by omega) ?_; intro v6 w6 ho6 hb6 hg6; have hq6 := HQ1.out.trans hb6; have k1 := (hq6.cell (p := ⟨w.heap.size, 2, none⟩) y0).trans y3; have k2 := (hq6.cell (p := ⟨w.heap.size + 1, 0, none⟩) z0).trans z1; have k3 := (hq6.cell (p := ⟨w.heap.size + 1, 1, none⟩) z0).trans z2; have k4 := (hq6.cell (p := ⟨w.heap.size + 1, 2, none⟩) z0).trans z3)
                | (refine step_own busys_t (by rfl) (.tmp 64) (.tmp 66) (by rfl) W3.heap.size (.slice (some ⟨W3.heap.size, 0, none⟩) 0 0) 0 [] (by rfl) HO2.out (.slice A x.l.length c) x.l.length (bvals x.l) (by rfl) (bvals_len x.l) (HSRC.out.below HQ2.out) (bvals_cell x.l) (by omega) ?_; intro v6 w6 ho6 hb6 hg6; have hq6 := HQ2.out.trans hb6; have hr6 := raw_grown (g := W3.heap.size) HR2.out hg6 (by simp); have k1 := (hq6.cell (p := ⟨w.heap.size, 2, none⟩) y0).trans y3; have k2 := (hq6.cell (p := ⟨w.heap.size + 1, 0, none⟩) z0).trans z1; have k3 := (hq6.cell (p := ⟨w.heap.size + 1, 1, none⟩) z0).trans z2; have k4 := (hq6.cell (p := ⟨w.heap.size + 1, 2, none⟩) z0).trans z3)
                | (refine step_own busys_t (by rfl) (.tmp 64) (.tmp 66) (by rfl) W3.heap.size (.slice (some ⟨W3.heap.size + 1, 0, none⟩) 0 0) 0 [] (by rfl) HO3.out (.slice A x.l.length c) x.l.length (bvals x.l) (by rfl) (bvals_len x.l) (HSRC.out.below HQ3.out) (bvals_cell x.l) (by omega) ?_; intro v6 w6 ho6 hb6 hg6; have hq6 := HQ3.out.trans hb6; have hr6 := raw_grown (g := W3.heap.size + 1) HR3.out hg6 (by simp); have k1 := (hq6.cell (p := ⟨w.heap.size, 2, none⟩) y0).trans y3; have k2 := (hq6.cell (p := ⟨w.heap.size + 1, 0, none⟩) z0).trans z1; have k3 := (hq6.cell (p := ⟨w.heap.size + 1, 1, none⟩) z0).trans z2; have k4 := (hq6.cell (p := ⟨w.heap.size + 1, 2, none⟩) z0).trans z3)
                | (refine step_own busys_t (by rfl) (.tmp 67) (.tmp 69) (by rfl) W3.heap.size v6 (0 + x.l.length) ([] ++ bvals x.l) (by rfl) (ho6.alloc (.cells #[.int .i64 b.1, .int .i64 b.2.1, .int .i64 N] 36)) (.slice (some ⟨w6.heap.size, 0, none⟩) 1 1) 1 [.int .i64 b.1, .int .i64 b.2.1, .int .i64 N] (by rfl) (by rfl) (raw_at (w := w6) (n := w6.heap.size) (m := 1) (k := 1) rfl #[.int .i64 b.1, .int .i64 b.2.1, .int .i64 N] 36) three_cells (by omega) ?_; intro v7 w7 ho7 hb7 hg7; have hq7 := (hq6.alloc hq6.size (.cells #[.int .i64 b.1, .int .i64 b.2.1, .int .i64 N] 36)).trans hb7; have j1 := (hq7.cell (p := ⟨w.heap.size, 2, none⟩) y0).trans y3; have j2 := (hq7.frozen (p := ⟨w.heap.size, 2, none⟩) y0).trans y6; obtain ⟨B7, c7, rfl⟩ := ho7.shape)
                | (refine step_own busys_t (by rfl) (.tmp 67) (.tmp 69) (by rfl) W3.heap.size v6 (0 + x.l.length) ([] ++ bvals x.l) (by rfl) ho6 (.slice (some ⟨W3.heap.size + 1, 0, none⟩) 1 1) 1 [.int .i64 b.1, .int .i64 b.2.1, .int .i64 N] (by rfl) (by rfl) (.inr ⟨_, _, rfl, hr6⟩) three_cells (by omega) ?_; intro v7 w7 ho7 hb7 hg7; have hq7 := hq6.trans hb7; have j1 := (hq7.cell (p := ⟨w.heap.size, 2, none⟩) y0).trans y3; have j2 := (hq7.frozen (p := ⟨w.heap.size, 2, none⟩) y0).trans y6; obtain ⟨B7, c7, rfl⟩ := ho7.shape)
                | (refine step_own busys_t (by rfl) (.tmp 67) (.tmp 69) (by rfl) W3.heap.size v6 (0 + x.l.length) ([] ++ bvals x.l) (by rfl) ho6 (.slice (some ⟨W3.heap.size, 0, none⟩) 1 1) 1 [.int .i64 b.1, .int .i64 b.2.1, .int .i64 N] (by rfl) (by rfl) (.inr ⟨_, _, rfl, hr6⟩) three_cells (by omega) ?_; intro v7 w7 ho7 hb7 hg7; have hq7 := hq6.trans hb7; have j1 := (hq7.cell (p := ⟨w.heap.size, 2, none⟩) y0).trans y3; have j2 := (hq7.frozen (p := ⟨w.heap.size, 2, none⟩) y0).trans y6; obtain ⟨B7, c7, rfl⟩ := ho7.shape)))
          all_goals
            go_wp2_with fail
            go_meet
            try simp only [Nat.zero_add] at ho7
            exact ⟨B7, c7, rfl, (HX3.out.below hq7).set2 (.slice B7 (x.l.length + 1) c7), (HZ3.out.below hq7).set_other (p := ⟨w.heap.size, 2, none⟩) (by simp <;> omega) _, ho7.set_other (p := ⟨w.heap.size, 2, none⟩) y0 _, (HL3.out.trans (hq7.mono HL3.out.size)).setCell (p := ⟨w.heap.size, 2, none⟩) (Nat.le_refl _) _⟩
        case rest =>
          obtain ⟨B7, c7, rfl, hX7, hZ7, hO7, hB7⟩ := hcut
          have HO7 := Lib.hid hO7
          have HB7 := Lib.hid hB7
          have hz := HZ3.out.lt
          clear hO7 hB7 HX3 HB3 HL3 HQ1 HQ2 HQ3 HO HO2 HO3 HR2 HR3 HSRC y0 y1 y2 y3 y4 y5 y6 z0 z1 z2 z3 z4 z5 z6
          obtain ⟨y0, y1, y2, y3, y4, y5, y6⟩ := hX7
          obtain ⟨r0, r1, r2, r3, r4, r5, r6⟩ := hZ7
          go_wp2_with fail
          have hown := ((HO7.out.set_other (p := ⟨w.heap.size + 1 + 1, 0, none⟩) hz (.int .i64 x.p)).set_other (p := ⟨w.heap.size + 1 + 1, 1, none⟩) hz (.int .i64 x.t)).set_other (p := ⟨w.heap.size + 1 + 1, 2, none⟩) hz (.slice B7 (x.l.length + 1) c7)
          exact bodyPost_ret (v := .tuple #[.agg #[.int .i64 x.p, .int .i64 x.t, .slice B7 (x.l.length + 1) c7], .int .i64 0]) (by simp [results, Try.results8, go_sem, r1, r2, r3, r4, r5, r6]) rfl
            ⟨⟨x.p, x.t, x.l ++ [(b.1, b.2.1, N)]⟩, 0, _, rfl, HFIN.out, busy_own hown (by simp [bvals_snoc]) (by simp), .inr (own_fresh hown (by have := hz; omega)), below_set3 HB7.out (by omega) _ _ _⟩
end Go.Proofs.Ytjkninldenoanaa.ProfRef
