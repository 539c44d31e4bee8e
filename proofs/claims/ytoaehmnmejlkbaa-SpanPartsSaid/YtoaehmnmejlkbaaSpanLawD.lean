/-
  The walks of the statements of layer 3: SpanTells.
-/
import Derived.Test.YtoaehmnmejlkbaaSpanLawC
namespace Go.Proofs.Ytoaehmnmejlkbaa.SpanWalk
open Go.RowKit Go.Proofs.Ytoaehmnmejlkbaa.SpanPlain Go.Proofs.Ytoaehmnmejlkbaa.Mem Go.Proofs.Ytoaehmnmejlkbaa.SpanMem Go.Proofs.Ytoaehmnmejlkbaa.SpanRef

/-- A boxed span. -/
def Held (g : Nat) (x y : Int) (w : World) : Prop := g < w.heap.size ∧ w.cell? ⟨g, 0, none⟩ = some (.int .i64 x) ∧ w.cell? ⟨g, 1, none⟩ = some (.int .i64 y)
theorem Held.below {g : Nat} {x y : Int} {w w' : World} (h : Held g x y w) (hb : Below w.heap.size w w') : Held g x y w' :=
  ⟨Nat.lt_of_lt_of_le h.1 hb.size, (hb.cell (p := ⟨g, 0, none⟩) h.1).trans h.2.1, (hb.cell (p := ⟨g, 1, none⟩) h.1).trans h.2.2⟩
theorem Held.new (w : World) (x y : Int) (T : TypeId) : Held w.heap.size x y (w.alloc (.cells #[.int .i64 x, .int .i64 y] T)) := by
  have h := Raw.alloc w #[.int .i64 x, .int .i64 y] T
  exact ⟨(h 0 _ rfl).1, (h 0 _ rfl).2, (h 1 _ rfl).2⟩
theorem Held.next (w : World) (o : Obj) (x y : Int) (T : TypeId) : Held (w.heap.size + 1) x y ((w.alloc o).alloc (.cells #[.int .i64 x, .int .i64 y] T)) := by
  have h := Held.new (w.alloc o) x y T
  have e : (w.alloc o).heap.size = w.heap.size + 1 := by simp
  rwa [e] at h
theorem held_spans {w w' : World} {g : Nat} {u v : Value} (hb : Below w.heap.size w w') (hl : g < w.heap.size) (h1 : w.cell? ⟨g, 0, none⟩ = some u) (h2 : w.cell? ⟨g, 1, none⟩ = some v) :
    w'.cell? ⟨g, 0, none⟩ = some u ∧ w'.cell? ⟨g, 1, none⟩ = some v ∧ g < w'.heap.size :=
  ⟨(hb.cell (p := ⟨g, 0, none⟩) hl).trans h1, (hb.cell (p := ⟨g, 1, none⟩) hl).trans h2, Nat.lt_of_lt_of_le hl hb.size⟩
theorem len_cases (s : Sp) : (mayB s = true ∧ lenL s = s.2 - s.1 ∧ 0 ≤ s.1 ∧ s.1 < s.2 ∧ s.2 ≤ 4503599627370496) ∨ (mayB s = false ∧ lenL s = 0) := by
  unfold lenL
  cases h : mayB s with
  | false => exact .inr ⟨rfl, rfl⟩
  | true =>
    have := (mayB_iff s).1 h
    exact .inl ⟨rfl, rfl, this.1, this.2.1, this.2.2⟩

theorem tell_cases {ok ma mb d1 d2 : Bool} (h : ok = (ma && mb && d1 && d2)) : (ma = false ∧ ok = false) ∨ (ma = true ∧ mb = false ∧ ok = false) ∨ (ma = true ∧ mb = true ∧ d1 = false ∧ ok = false) ∨
    (ma = true ∧ mb = true ∧ d1 = true ∧ d2 = false ∧ ok = false) ∨ (ma = true ∧ mb = true ∧ d1 = true ∧ d2 = true ∧ ok = true) := by
  cases ma <;> cases mb <;> cases d1 <;> cases d2 <;> simp_all

set_option maxRecDepth 100000 in
set_option maxHeartbeats 6400000 in
theorem tells_any (a b : Sp) (t : Int) (w : World) : Calls Try.prog 3 #[spV a, spV b, .int .i64 t] w (TrueIs w) := by
  have C1 := Lib.hid (fun w => meetS a b w)
  have C2 := Lib.hid (fun w => may_any a w)
  have C3 := Lib.hid (fun v w h => has_is [a] v t w h (by simp))
  have C4 := Lib.hid (fun w => mayS a w)
  have C5 := Lib.hid (fun w => hasS a t w)
  have C6 := Lib.hid (fun w => lenS a w)
  have HL := Lib.hid (len_cases a)
  have HO := Lib.hid (fun w T => Raw_one a w T)
  have C7 := Lib.hid (fun s w => may_any s w)
  have C8 := Lib.hid (fun s w => hasS s t w)
  have C9 := Lib.hid (fun v w h => has_is [b] v t w h (by simp))
  have C10 := Lib.hid (fun w => may_any b w)
  have HP := Lib.hid (fun w T => Raw_one b w T)
  have hms := meet_spec a b
  obtain ⟨s1, s2, s3, s4⟩ := hms
  have MS := Lib.hid s1
  have MH := Lib.hid (s2 t)
  have MZ := Lib.hid s3
  have MM := Lib.hid s4
  clear s1 s2 s3 s4
  rw [any_one] at C3 C9
  obtain ⟨a1, a2⟩ := a
  obtain ⟨b1, b2⟩ := b
  unfold spV at C1 C2 C4 C5 C6 C7 C8 C10 ⊢
  dsimp only at C1 C2 C4 C5 C6 C7 C8 C10 HL HO HP MS ⊢
  generalize mayB (a1, a2) = ma at *
  generalize hasB (a1, a2) t = ha at *
  generalize lenL (a1, a2) = la at *
  generalize [(a1, a2)] = sa at *
  generalize mayB (b1, b2) = mb at *
  generalize hasB (b1, b2) t = hb at *
  generalize [(b1, b2)] = sb at *
  go_enter Try.func3, Try.ntmps3
  go_wp2_with fail
  refine (C1.out _).mono ?_
  rintro e w1 ⟨rfl, hb1⟩
  have HA1 := Lib.hid (((Held.new w a1 a2 23).below (below_alloc _ (.cells #[.int .i64 b1, .int .i64 b2] 23))).below hb1)
  have HB1 := Lib.hid ((Held.next w (.cells #[.int .i64 a1, .int .i64 a2] 23) b1 b2 23).below hb1)
  have HW1 := Lib.hid (Mem.below_then (below_alloc w _) (Mem.below_then (below_alloc _ _) hb1))
  clear hb1
  generalize meetL (a1, a2) (b1, b2) = m at *
  obtain ⟨⟨m1, m2⟩, ok⟩ := m
  unfold spV
  dsimp only at MS MH MZ MM ⊢
  have HM2 := Lib.hid (Held.new w1 m1 m2 23)
  have HA2 := Lib.hid (HA1.out.below (below_alloc _ (.cells #[.int .i64 m1, .int .i64 m2] 23)))
  have HB2 := Lib.hid (HB1.out.below (below_alloc _ (.cells #[.int .i64 m1, .int .i64 m2] 23)))
  have HW2 := Lib.hid (Mem.below_then HW1.out (below_alloc w1 (.cells #[.int .i64 m1, .int .i64 m2] 23)))
  obtain ⟨l1, c1, c2⟩ := HA2.out
  clear l1
  go_wp2_with fail
  refine (C2.out _).mono ?_
  rintro e w2 ⟨rfl, hb2⟩
  have HM3 := Lib.hid (HM2.out.below hb2)
  have HA3 := Lib.hid (HA2.out.below hb2)
  have HB3 := Lib.hid (HB2.out.below hb2)
  have HW3 := Lib.hid (Mem.below_then HW2.out hb2)
  clear c1 c2 hb2 HM2 HA2 HB2 HW2 C1
  obtain ⟨l1, c1, c2⟩ := HA3.out
  clear l1
  go_upto_if 19 with fail
  go_cut [9] (fun n wc => n = .int .i64 la ∧ w2 = wc)
  case first =>
    rcases HL.out with ⟨rfl, rfl, h1, h2, h3⟩ | ⟨rfl, rfl⟩
    all_goals
      go_wp2_with fail
      go_meet
      exact ⟨rfl, rfl⟩
  case rest =>
    obtain ⟨rfl, rfl⟩ := hcut
    go_wp2_with fail
    refine (C3.out _ _ (HO.out _ _)).mono ?_
    rintro e w4 ⟨rfl, hb4⟩
    have HM4 := Lib.hid ((HM3.out.below (below_alloc _ _)).below hb4)
    have HA4 := Lib.hid ((HA3.out.below (below_alloc _ _)).below hb4)
    have HB4 := Lib.hid ((HB3.out.below (below_alloc _ _)).below hb4)
    have HW4 := Lib.hid (Mem.below_then (Mem.below_then HW3.out (below_alloc _ _)) hb4)
    clear c1 c2 hb4 HM3 HA3 HB3 HW3
    go_upto_region 6 with fail
    go_cut [46] (fun h wc => h = .bool false ∧ Hid (Held w1.heap.size m1 m2 wc) ∧ Hid (Held w.heap.size a1 a2 wc) ∧ Hid (Held (w.heap.size + 1) b1 b2 wc) ∧ Hid (Below w.heap.size w wc))
    case first =>
      obtain ⟨l1, c1, c2⟩ := HA4.out
      have q1 : (la != la) = false := by simp
      clear HL
      cases ma <;> cases ha
      all_goals
        go_wp2_with fail
        go_region_held3 (fun w' => w'.cell? ⟨w.heap.size, 0, none⟩ = some (.int .i64 a1) ∧ w'.cell? ⟨w.heap.size, 1, none⟩ = some (.int .i64 a2) ∧ w.heap.size < w'.heap.size)
          (first | go_keep | (go_split_ands; exact held_spans (by assumption) (by assumption) (by assumption) (by assumption)))
          (first
            | (go_at_call 9; refine (C4.out _).mono ?_; rintro e w5 ⟨rfl, hb5⟩)
            | (go_at_call 7; refine (C2.out _).mono ?_; rintro e w6 ⟨rfl, hb6⟩)
            | (go_at_call 10; refine (C5.out _).mono ?_; rintro e w7 ⟨rfl, hb7⟩)
            | (go_at_call 11; refine (C6.out _).mono ?_; rintro e w8 ⟨rfl, hb8⟩))
        have HB8 := Lib.hid (Mem.below_then (below_of_drew hb5) (Mem.below_then hb6 (Mem.below_then hb7 hb8)))
        clear hb5 hb6 hb7 hb8
        go_split_ands
        go_wp2_with fail
        go_meet
        exact ⟨rfl, HM4.out.below HB8.out, HA4.out.below HB8.out, HB4.out.below HB8.out, Mem.below_then HW4.out HB8.out⟩
    case rest =>
      obtain ⟨rfl, HM5, HA5, HB5, HW5⟩ := hcut
      clear HM4 HA4 HB4 HW4 C3 C4 C5 C6 HO HL
      go_upto_region 8 with fail
      go_cut [61] (fun h wc => h = .bool false ∧ Hid (Held w1.heap.size m1 m2 wc) ∧ Hid (Held w.heap.size a1 a2 wc) ∧ Hid (Held (w.heap.size + 1) b1 b2 wc) ∧ Hid (Below w.heap.size w wc))
      case first =>
        obtain ⟨l1, c1, c2⟩ := HM5.out
        clear l1
        cases ok with
        | false =>
          have hz := MZ.out rfl
          obtain ⟨rfl, rfl⟩ := Prod.mk.inj hz
          clear hz
          go_wp2_with fail
          go_meet
          exact ⟨rfl, HM5.out, HA5.out, HB5.out, HW5.out⟩
        | true =>
          have hz := C7.out (m1, m2)
          rw [MM.out rfl] at hz
          have CM := Lib.hid hz
          clear hz
          go_wp2_with fail
          refine (CM.out _).mono ?_
          rintro e w6 ⟨rfl, hb6⟩
          have HX := Lib.hid hb6
          clear hb6
          go_wp2_with fail
          go_meet
          exact ⟨rfl, HM5.out.below HX.out, HA5.out.below HX.out, HB5.out.below HX.out, Mem.below_then HW5.out HX.out⟩
      case rest =>
        obtain ⟨rfl, HM6, HA6, HB6, HW6⟩ := hcut
        clear HM5 HA5 HB5 HW5
        go_upto_region 10 with fail
        go_cut [11] (fun h wc => h = .bool (ha && hb) ∧ Hid (Held w1.heap.size m1 m2 wc) ∧ Hid (Held w.heap.size a1 a2 wc) ∧ Hid (Held (w.heap.size + 1) b1 b2 wc) ∧ Hid (Below w.heap.size w wc))
        case first =>
          obtain ⟨l1, c1, c2⟩ := HB6.out
          clear l1
          cases ha with
          | false =>
            go_wp2_with fail
            go_meet
            exact ⟨rfl, HM6.out, HA6.out, HB6.out, HW6.out⟩
          | true =>
            go_wp2_with fail
            refine (C9.out _ _ (HP.out _ _)).mono ?_
            rintro e w7 ⟨rfl, hb7⟩
            have HX := Lib.hid (Mem.below_then (below_alloc _ _) hb7)
            clear hb7
            go_wp2_with fail
            go_meet
            exact ⟨by rw [Bool.true_and], HM6.out.below HX.out, HA6.out.below HX.out, HB6.out.below HX.out, Mem.below_then HW6.out HX.out⟩
        case rest =>
          obtain ⟨rfl, HM7, HA7, HB7, HW7⟩ := hcut
          have hz := C8.out (m1, m2)
          rw [MH.out] at hz
          have CM := Lib.hid hz
          obtain ⟨l1, c1, c2⟩ := HM7.out
          have q2 : ((ha && hb) != (ha && hb)) = false := by simp
          clear hz l1 HM6 HA6 HB6 HW6 MH MM MZ C7 C8 C9 HP
          generalize (ha && hb) = bo at *
          go_wp2_with fail
          refine (CM.out _).mono ?_
          rintro e w8 ⟨rfl, hb8⟩
          have HA8 := Lib.hid (HA7.out.below hb8)
          have HB8 := Lib.hid (HB7.out.below hb8)
          have HW8 := Lib.hid (Mem.below_then HW7.out hb8)
          clear hb8 c1 c2 HM7 HA7 HB7 HW7 CM
          obtain ⟨l1, c1, c2⟩ := HA8.out
          clear l1
          rcases tell_cases MS.out with ⟨rfl, rfl⟩ | h
          · clear MS
            go_wp2_with fail
            refine (C2.out _).mono ?_
            rintro e w9 ⟨rfl, hb9⟩
            have HW9 := Lib.hid (Mem.below_then HW8.out hb9)
            clear hb9
            go_wp2_with fail
            refine (awake_any _).mono ?_
            rintro e w10 ⟨rfl, hb10⟩
            have HW10 := Lib.hid (Mem.below_then HW9.out hb10)
            clear hb10
            go_wp2_with fail
            go_ret
            exact ⟨rfl, HW10.out⟩
          · clear MS
            obtain rfl : ma = true := by rcases h with h | h | h | h <;> exact h.1
            go_wp2_with fail
            refine (C2.out _).mono ?_
            rintro e w9 ⟨rfl, hb9⟩
            have HA9 := Lib.hid (HA8.out.below hb9)
            have HB9 := Lib.hid (HB8.out.below hb9)
            have HW9 := Lib.hid (Mem.below_then HW8.out hb9)
            clear hb9 c1 c2
            obtain ⟨l1, c1, c2⟩ := HB9.out
            clear l1
            go_wp2_with fail
            refine (C10.out _).mono ?_
            rintro e w10 ⟨rfl, hb10⟩
            have HW10 := Lib.hid (Mem.below_then HW9.out hb10)
            have HA10 := HA9.out.below hb10
            have HB10 := HB9.out.below hb10
            clear hb10 c1 c2
            obtain ⟨l1, c1, c2⟩ := HA10
            obtain ⟨l2, c3, c4⟩ := HB10
            clear l1 l2
            rcases h with ⟨_, rfl, rfl⟩ | ⟨_, rfl, g1, rfl⟩ | ⟨_, rfl, g1, g2, rfl⟩ | ⟨_, rfl, g1, g2, rfl⟩
            all_goals
              go_wp2_with fail
              refine (awake_any _).mono ?_
              rintro e w11 ⟨rfl, hb11⟩
              have HW11 := Lib.hid (Mem.below_then HW10.out hb11)
              clear hb11
              go_wp2_with fail
              go_ret
              exact ⟨rfl, HW11.out⟩
end Go.Proofs.Ytoaehmnmejlkbaa.SpanWalk
